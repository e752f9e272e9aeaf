/- Walk of want. Conditions: the contracts of what each Kind asks, of smaller expressions. -/
import Derived.Test.YtpcdlneompnhlaaGreatDoorTyBm
import Derived.Deep.Cut
import Derived.OrdersHeld
import Derived.Deep.RegionHeld3
namespace Go.Proofs.YtpcdlneompnhlaaGreatDoor.Ty
open Go Go.RowKit
open Go.Proofs.YtpcdlneompnhlaaGreatDoor.Lx Go.Proofs.YtpcdlneompnhlaaGreatDoor.Tr

mutual
/-- each part of an expression is of a Kind, with as many parts as it has -/
def okE : Ex → Prop
  | .mk k _ _ _ _ args _ => (1 ≤ k ∧ k ≤ 17 ∧ (args.length : Int) = exArgs k) ∧ okEL args
def okEL : List Ex → Prop
  | [] => True
  | e :: r => okE e ∧ okEL r
end
theorem okE_eq (k : Int) (nm : ByteArray) (n : Int) (a : Option Addr) (cap : Nat) (args : List Ex) (pos : Int) : okE (.mk k nm n a cap args pos) = ((1 ≤ k ∧ k ≤ 17 ∧ (args.length : Int) = exArgs k) ∧ okEL args) := by
  conv => lhs; unfold okE
theorem okEL_get : ∀ {l : List Ex} {i : Nat} {e : Ex}, okEL l → l[i]? = some e → okE e
  | x :: r, 0, e, h, he => by
    unfold okEL at h
    simp at he; subst he; exact h.1
  | x :: r, i + 1, e, h, he => by
    unfold okEL at h
    exact okEL_get h.2 (by simpa using he)
def kindE : Ex → Int
  | .mk k _ _ _ _ _ _ => k
/-- the contract of what each Kind asks -/
def ContX (n : Nat) : Prop := ∀ (c : Lc) (s : Ls) (w : World) (e : Ex), e.sz ≤ n → okE e → Ex.In w (fun b => b < c.B) e → Lk c s w → Calls Tryz.prog (exF (kindE e).toNat) #[.pointer (some ⟨c.lb, 0, none⟩), .agg ⟨e.vals⟩] w (PostK w (exK c.ds c.D s.kn e))
def ContW (n : Nat) : Prop := ∀ (c : Lc) (s : Ls) (w : World) (a : Option Addr) (cap : Nat) (l : List Ex) (t : Int), (∀ e ∈ l, e.sz ≤ n) → okEL l → RowAt w (fun b => b < c.B) a cap l.length (exCells l) → Ex.InL w (fun b => b < c.B) l → Lk c s w → Calls Tryz.prog 162 #[.pointer (some ⟨c.lb, 0, none⟩), .int .u8 t, .slice a l.length cap] w (PostW w (wantK c.ds c.D s.kn t l))
theorem ex_fn {c : Lc} {s : Ls} {k : Nat} (h1 : 1 ≤ k) (h2 : k ≤ 17) : (lkVals c s)[2 + k]? = some (fnV (exF k)) := by
  have : k = 1 ∨ k = 2 ∨ k = 3 ∨ k = 4 ∨ k = 5 ∨ k = 6 ∨ k = 7 ∨ k = 8 ∨ k = 9 ∨ k = 10 ∨ k = 11 ∨ k = 12 ∨ k = 13 ∨ k = 14 ∨ k = 15 ∨ k = 16 ∨ k = 17 := by omega
  rcases this with rfl | rfl | rfl | rfl | rfl | rfl | rfl | rfl | rfl | rfl | rfl | rfl | rfl | rfl | rfl | rfl | rfl <;> rfl
theorem ex_cells {w : World} {S : Nat → Prop} {a : Option Addr} {cap : Nat} {l : List Ex} (h : RowAt w S a cap l.length (exCells l)) (i : Nat) (k : Int) (nm : ByteArray) (n : Int) (a' : Option Addr) (cap' : Nat) (args : List Ex) (pos : Int) (he : l[i]? = some (.mk k nm n a' cap' args pos)) :
    ∃ b off, a = some ⟨b, off, none⟩ ∧ S b ∧ w.cell? ⟨b, off + i * 5, none⟩ = some (.int .u8 k) ∧ w.cell? ⟨b, off + i * 5 + 1, none⟩ = some (.string nm) ∧ w.cell? ⟨b, off + i * 5 + 2, none⟩ = some (.int .i64 n) ∧ w.cell? ⟨b, off + i * 5 + 3, none⟩ = some (.slice a' args.length cap') ∧ w.cell? ⟨b, off + i * 5 + 4, none⟩ = some (.int .i64 pos) := by
  obtain ⟨b, off, ha, hb, hc⟩ := ex_row h i _ he
  refine ⟨b, off, ha, hb, ?_, ?_, ?_, ?_, ?_⟩
  · have := hc 0 _ rfl; rwa [Nat.add_zero] at this
  · have := hc 1 _ rfl; rwa [← Nat.add_assoc] at this
  · have := hc 2 _ rfl; rwa [← Nat.add_assoc] at this
  · have := hc 3 _ rfl; rwa [← Nat.add_assoc] at this
  · have := hc 4 _ rfl; rwa [← Nat.add_assoc] at this
theorem exF_cases (k : Nat) : exF k = 123 ∨ exF k = 124 ∨ exF k = 122 ∨ exF k = 125 ∨ exF k = 121 := by
  unfold exF
  repeat' split
  all_goals simp
/-- a region's end by a fault -/
def BadR (p : Int × Int) (w6 : World) (e : Exit) (a : Act) (w : World) : Prop := e = .panic [{ v := .iface 114 (.agg #[.int .i64 p.1, .int .i64 p.2]), recovered := false }] ∧ a.defers = [] ∧ Below w6.heap.size w6 w
theorem BadR.put {p : Int × Int} {w6 : World} {d : Option Tmp} {v : Value} : ∀ c a w, BadR p w6 (.panic c) (a.put d v) w → BadR p w6 (.panic c) a w := fun _ _ _ h => ⟨h.1, by cases d <;> exact h.2.1, h.2.2⟩

set_option maxHeartbeats 4000000 in
set_option maxRecDepth 100000 in
theorem want_step (n : Nat) (hX : ContX n) : ContW n := by
  intro c s w a cap l t hsz hok hrow hin h
  generalize hr : wantK c.ds c.D s.kn t l = r
  have hll : l.length ≤ 9223372036854775807 := by have := hrow.le; have := hrow.lim; unfold maxLen at this; omega
  have hR := Lib.hid refuse_c
  replace hr := Lib.hid hr
  replace hX := Lib.hid hX
  replace h := Lib.hid h
  replace hrow := Lib.hid hrow
  replace hin := Lib.hid hin
  replace hok := Lib.hid hok
  replace hsz := Lib.hid hsz
  go_enter Tryz.func162, Tryz.ntmps162
  go_wp2_with fail
  go_loopw [10] (fun v wr => ∃ i : Nat, v = .int .i64 i ∧ i ≤ l.length ∧ Hid (Below w.heap.size w wr) ∧ Hid (wantK c.ds c.D s.kn t (l.drop i) = r)) (fun v _ => l.length - (intOf v).toNat)
  case atStart => exact ⟨0, rfl, Nat.zero_le _, Lib.hid (Below.refl _ _), hr⟩
  case round =>
    obtain ⟨i, rfl, hi, hB, hri⟩ := hrel
    clear hr
    by_cases hlt : i < l.length
    · obtain ⟨e, he⟩ : ∃ e, l[i]? = some e := ⟨_, List.getElem?_eq_getElem hlt⟩
      have hd : l.drop i = e :: l.drop (i + 1) := by
        rw [List.drop_eq_getElem_cons hlt]
        congr 1
        rw [List.getElem?_eq_getElem hlt] at he
        exact Option.some.inj he
      have hr' := hri.out
      rw [hd, wantK_cons] at hr'
      clear hri hd
      obtain ⟨k, nm, m, a', cap', args, pos⟩ := e
      have hoke := okEL_get hok.out he
      have hsze := hsz.out _ (List.mem_of_getElem? he)
      have hine := Ex.InL.get hin.out he
      have hke := hoke
      rw [okE_eq] at hke
      obtain ⟨⟨hk1, hk17, _⟩, _⟩ := hke
      have hu : U8 k := by unfold U8; omega
      obtain ⟨b, off, ha, hb, e0, e1, e2, e3, e4⟩ := ex_cells (hrow.out.below (Kps.of_below hB.out)) i k nm m a' cap' args pos he
      subst ha
      obtain ⟨kn, rfl⟩ : ∃ kn : Nat, k = (kn : Int) := ⟨k.toNat, by omega⟩
      have hi0 : (0 : Int) ≤ (i : Int) := by omega
      have hi1 : (i : Int) < (l.length : Int) := by omega
      have hq0 : (0 : Int) ≤ (kn : Int) := by omega
      have hq18 : (kn : Int) < 18 := by omega
      have hL := h.out.ext hB.out
      have hbx : Below wr.heap.size wr (wr.alloc (.cells #[.int .u8 (kn : Int), .string nm, .int .i64 m, .slice a' args.length cap', .int .i64 pos] 62)) := (Below.refl _ _).alloc (Nat.le_refl _) _
      have hLx := hL.ext hbx
      have hBx := hB.out.trans (hbx.mono hB.out.size)
      have hcall := fun (V : World) (hV : Below (wr.alloc (.cells #[.int .u8 (kn : Int), .string nm, .int .i64 m, .slice a' args.length cap', .int .i64 pos] 62)).heap.size (wr.alloc (.cells #[.int .u8 (kn : Int), .string nm, .int .i64 m, .slice a' args.length cap', .int .i64 pos] 62)) V) => hX.out c s V _ hsze hoke (Ex.In.below (Kps.of_below (hBx.trans (hV.mono hBx.size))) _ hine) (hLx.ext hV)
      have cf := fun (V : World) (hV : Below (wr.alloc (.cells #[.int .u8 (kn : Int), .string nm, .int .i64 m, .slice a' args.length cap', .int .i64 pos] 62)).heap.size (wr.alloc (.cells #[.int .u8 (kn : Int), .string nm, .int .i64 m, .slice a' args.length cap', .int .i64 pos] 62)) V) => lk_cell (hLx.ext hV).blk (ex_fn (c := c) (s := s) (k := kn) (by omega) (by omega))
      have hbn : (wr.alloc (.cells #[.int .u8 (kn : Int), .string nm, .int .i64 m, .slice a' args.length cap', .int .i64 pos] 62)).heap[wr.heap.size]? = some (.cells #[.int .u8 (kn : Int), .string nm, .int .i64 m, .slice a' args.length cap', .int .i64 pos] 62 (0, 0)) := World.alloc_heap_new wr _
      generalize exK c.ds c.D s.kn (.mk (kn : Int) nm m a' cap' args pos) = q at hcall hr'
      generalize hF : exF (kindE (.mk (kn : Int) nm m a' cap' args pos)).toNat = F at hcall
      have hFk : exF kn = F := by rw [← hF]; rfl
      have hFs := exF_cases kn
      rw [hFk] at hFs
      rw [hFk] at cf
      have hv : (⟨(Ex.mk (kn : Int) nm m a' cap' args pos).vals⟩ : Array Value) = #[.int .u8 (kn : Int), .string nm, .int .i64 m, .slice a' args.length cap', .int .i64 pos] := rfl
      rw [hv] at hcall
      replace hcall := Lib.hid hcall
      replace cf := Lib.hid cf
      replace hbn := Lib.hid hbn
      replace hBx := Lib.hid hBx
      replace hr' := Lib.hid hr'
      clear hv hF hFk hL hLx hbx hoke hsze hine he hb
      go_wp2_with fail
      obtain ⟨W, hW⟩ : ∃ W, wr.alloc (.cells #[.int .u8 (kn : Int), .string nm, .int .i64 m, .slice a' args.length cap', .int .i64 pos] 62) = W := ⟨_, rfl⟩
      rw [hW] at hcall cf hbn hBx ⊢
      clear hW e0 e1 e2 e3 e4
      have hS : (fun X : World => X.cell? ⟨c.lb, 2 + kn, none⟩ = some (fnV F) ∧ X.cell? ⟨wr.heap.size, 0, none⟩ = some (.int .u8 (kn : Int)) ∧ X.cell? ⟨wr.heap.size, 1, none⟩ = some (.string nm) ∧ X.cell? ⟨wr.heap.size, 2, none⟩ = some (.int .i64 m) ∧ X.cell? ⟨wr.heap.size, 3, none⟩ = some (.slice a' args.length cap') ∧ X.cell? ⟨wr.heap.size, 4, none⟩ = some (.int .i64 pos)) W.drew := by
        have hb2 : Below W.heap.size W W.drew := (Below.refl _ _).drew
        have := (hb2.block _ (cells_lt hbn.out)).trans hbn.out
        exact ⟨cf.out _ hb2, blk_cell this rfl, blk_cell this rfl, blk_cell this rfl, blk_cell this rfl, blk_cell this rfl⟩
      cases q with
      | ok kk =>
        refine wp_region_noPanic ?_
        refine wp_region_held_drew (S := (fun X : World => X.cell? ⟨c.lb, 2 + kn, none⟩ = some (fnV F) ∧ X.cell? ⟨wr.heap.size, 0, none⟩ = some (.int .u8 (kn : Int)) ∧ X.cell? ⟨wr.heap.size, 1, none⟩ = some (.string nm) ∧ X.cell? ⟨wr.heap.size, 2, none⟩ = some (.int .i64 m) ∧ X.cell? ⟨wr.heap.size, 3, none⟩ = some (.slice a' args.length cap') ∧ X.cell? ⟨wr.heap.size, 4, none⟩ = some (.int .i64 pos))) (by kernel_rfl) hS (fun hHeld => ?_)
        refine' wpAnyH_take (i := 0) (oi := _) (v := _) rfl (by kernel_rfl) (by kernel_rfl) (by kernel_rfl) (fun _ _ _ h => h) (Or.inl ⟨by rfl, ?hya0⟩) (by assumption) ?resta0
        case hya0 => (intro w hSw; go_simp; all_goals (with_reducible rfl))
        try simp only [Act.put, List.getElem_toArray, List.getElem_cons_zero, List.setIfInBounds_toArray, List.set_cons_zero, List.set_cons_succ]
        refine' wpAnyH_take (i := 1) (oi := _) (v := _) rfl (by kernel_rfl) (by kernel_rfl) (by kernel_rfl) (fun _ _ _ h => h) (Or.inl ⟨by rfl, ?hya1⟩) (by assumption) ?resta1
        case hya1 => (intro w hSw; go_simp; all_goals (with_reducible rfl))
        try simp only [Act.put, List.getElem_toArray, List.getElem_cons_zero, List.getElem_cons_succ, List.setIfInBounds_toArray, List.set_cons_zero, List.set_cons_succ]
        refine' wpAnyH_take (i := 2) (oi := _) (v := _) rfl (by kernel_rfl) (by kernel_rfl) (by kernel_rfl) (fun _ _ _ h => h) (Or.inl ⟨by rfl, ?hya2⟩) (by assumption) ?resta2
        case hya2 => (intro w hSw; go_simp; all_goals (with_reducible rfl))
        try simp only [Act.put, List.getElem_toArray, List.getElem_cons_zero, List.getElem_cons_succ, List.setIfInBounds_toArray, List.set_cons_zero, List.set_cons_succ]
        refine' wpAnyH_take (i := 3) (oi := _) (v := _) rfl (by kernel_rfl) (by kernel_rfl) (by kernel_rfl) (fun _ _ _ h => h) (Or.inl ⟨by rfl, ?hya3⟩) (by assumption) ?resta3
        case hya3 => (intro w hSw; go_simp; all_goals (with_reducible rfl))
        try simp only [Act.put, List.getElem_toArray, List.getElem_cons_zero, List.getElem_cons_succ, List.setIfInBounds_toArray, List.set_cons_zero, List.set_cons_succ]
        refine' wpAnyH_take (i := 4) (oi := _) (v := _) rfl (by kernel_rfl) (by kernel_rfl) (by kernel_rfl) (fun _ _ _ h => h) (Or.inl ⟨by rfl, ?hya4⟩) (by assumption) ?resta4
        case hya4 => (intro w hSw; go_simp; all_goals (with_reducible rfl))
        try simp only [Act.put, List.getElem_toArray, List.getElem_cons_zero, List.getElem_cons_succ, List.setIfInBounds_toArray, List.set_cons_zero, List.set_cons_succ]
        refine' wpAnyH_take (i := 5) (oi := _) (v := _) rfl (by kernel_rfl) (by kernel_rfl) (by kernel_rfl) (fun _ _ _ h => h) (Or.inl ⟨by rfl, ?hya5⟩) (by assumption) ?resta5
        case hya5 => (intro w hSw; go_simp; all_goals (with_reducible rfl))
        try simp only [Act.put, List.getElem_toArray, List.getElem_cons_zero, List.getElem_cons_succ, List.setIfInBounds_toArray, List.set_cons_zero, List.set_cons_succ]
        refine' wpAnyH_take (i := 6) (oi := _) (v := _) rfl (by kernel_rfl) (by kernel_rfl) (by kernel_rfl) (fun _ _ _ h => h) (Or.inl ⟨by rfl, ?hya6⟩) (by assumption) ?resta6
        case hya6 => (intro w hSw; go_simp; all_goals (with_reducible rfl))
        try simp only [Act.put, List.getElem_toArray, List.getElem_cons_zero, List.getElem_cons_succ, List.setIfInBounds_toArray, List.set_cons_zero, List.set_cons_succ]
        refine' wpAnyH_take (i := 7) (oi := _) (v := _) rfl (by kernel_rfl) (by kernel_rfl) (by kernel_rfl) (fun _ _ _ h => h) (Or.inl ⟨by rfl, ?hya7⟩) (by assumption) ?resta7
        case hya7 => (intro w hSw; go_simp; all_goals (with_reducible rfl))
        try simp only [Act.put, List.getElem_toArray, List.getElem_cons_zero, List.getElem_cons_succ, List.setIfInBounds_toArray, List.set_cons_zero, List.set_cons_succ]
        refine' wpAnyH_take (i := 8) (oi := _) (v := _) rfl (by kernel_rfl) (by kernel_rfl) (by kernel_rfl) (fun _ _ _ h => h) (Or.inl ⟨by rfl, ?hya8⟩) (by assumption) ?resta8
        case hya8 => (intro w hSw; go_simp; all_goals (with_reducible rfl))
        try simp only [Act.put, List.getElem_toArray, List.getElem_cons_zero, List.getElem_cons_succ, List.setIfInBounds_toArray, List.set_cons_zero, List.set_cons_succ]
        refine' wpAnyH_take (i := 10) (oi := _) (v := _) rfl (by kernel_rfl) (by kernel_rfl) (by kernel_rfl) (fun _ _ _ h => h) (Or.inl ⟨by rfl, ?hya10⟩) (by assumption) ?resta10
        case hya10 => (intro w hSw; go_simp; all_goals (with_reducible rfl))
        try simp only [Act.put, List.getElem_toArray, List.getElem_cons_zero, List.getElem_cons_succ, List.setIfInBounds_toArray, List.set_cons_zero, List.set_cons_succ]
        refine wpAnyH_ready (rs := [9]) (by kernel_rfl) (by simp) ?_
        refine AllReadyH.cons (o := _) rfl (fun K hK => ?_) AllReadyH.nil
        replace hK := Lib.hid hK
        have hSF : Hid (∀ V, Below W.heap.size W V → (fun X : World => X.cell? ⟨c.lb, 2 + kn, none⟩ = some (fnV F) ∧ X.cell? ⟨wr.heap.size, 0, none⟩ = some (.int .u8 (kn : Int)) ∧ X.cell? ⟨wr.heap.size, 1, none⟩ = some (.string nm) ∧ X.cell? ⟨wr.heap.size, 2, none⟩ = some (.int .i64 m) ∧ X.cell? ⟨wr.heap.size, 3, none⟩ = some (.slice a' args.length cap') ∧ X.cell? ⟨wr.heap.size, 4, none⟩ = some (.int .i64 pos)) V) := Lib.hid fun V hV => by
          have := (hV.block _ (cells_lt hbn.out)).trans hbn.out
          exact ⟨cf.out _ hV, blk_cell this rfl, blk_cell this rfl, blk_cell this rfl, blk_cell this rfl, blk_cell this rfl⟩
        have hcd := Lib.hid (hcall.out W.drew (Below.refl _ _).drew)
        rcases hFs with rfl | rfl | rfl | rfl | rfl
        · go_simp
          refine hcd.out.mono ?_
          rintro e w7 ⟨hb7, rfl⟩
          have hB7 : Below W.heap.size W w7 := (Below.refl W.heap.size W).drew.trans hb7
          have hS7 := hSF.out w7 hB7
          refine hK.out _ _ hS7 (fun hHeld => ?_)
          clear hK K
          try simp only [Act.put, List.setIfInBounds_toArray, List.set_cons_zero, List.set_cons_succ]
          refine' wpAnyH_take (i := 11) (oi := _) (v := _) rfl (by kernel_rfl) (by kernel_rfl) (by kernel_rfl) (fun _ _ _ h => h) (Or.inl ⟨by rfl, ?hyb1⟩) (by assumption) ?restb1
          case hyb1 => (intro w hSw; go_simp; all_goals (with_reducible rfl))
          try simp only [Act.put, List.getElem_toArray, List.getElem_cons_zero, List.getElem_cons_succ, List.setIfInBounds_toArray, List.set_cons_zero, List.set_cons_succ]
          refine wpAnyH_done (by kernel_rfl) ?_ _
          refine NoPanic.normal ?_
          have hBw := Lib.hid (hBx.out.trans (hB7.mono hBx.out.size))
          obtain ⟨_, f0, f1, f2, f3, f4⟩ := hS7
          clear hS hSF hHeld hcd hcall cf hbn hB7 hb7 hBx
          by_cases hkt : kk = t
          · have hr2 := hr'.out
            simp only at hr2
            rw [if_pos hkt] at hr2
            subst hkt
            replace hr2 := Lib.hid hr2
            clear hr'
            go_wp2_with fail
            go_roundw
            case rel => exact ⟨i + 1, by simp, by omega, hBw, hr2⟩
            case measure => (simp [intOf]; omega)
          · have hr2 := hr'.out
            simp only at hr2
            rw [if_neg hkt] at hr2
            replace hr2 := Lib.hid hr2
            clear hr'
            go_wp2_with fail
            refine (hR.out _ _ _).mono ?_
            rintro e w8 ⟨rfl, rfl⟩
            have hr3 := hr2.out
            subst hr3
            exact ⟨rfl, hBw.out, rfl⟩
        · go_simp
          refine hcd.out.mono ?_
          rintro e w7 ⟨hb7, rfl⟩
          have hB7 : Below W.heap.size W w7 := (Below.refl W.heap.size W).drew.trans hb7
          have hS7 := hSF.out w7 hB7
          refine hK.out _ _ hS7 (fun hHeld => ?_)
          clear hK K
          try simp only [Act.put, List.setIfInBounds_toArray, List.set_cons_zero, List.set_cons_succ]
          refine' wpAnyH_take (i := 11) (oi := _) (v := _) rfl (by kernel_rfl) (by kernel_rfl) (by kernel_rfl) (fun _ _ _ h => h) (Or.inl ⟨by rfl, ?hyb2⟩) (by assumption) ?restb2
          case hyb2 => (intro w hSw; go_simp; all_goals (with_reducible rfl))
          try simp only [Act.put, List.getElem_toArray, List.getElem_cons_zero, List.getElem_cons_succ, List.setIfInBounds_toArray, List.set_cons_zero, List.set_cons_succ]
          refine wpAnyH_done (by kernel_rfl) ?_ _
          refine NoPanic.normal ?_
          have hBw := Lib.hid (hBx.out.trans (hB7.mono hBx.out.size))
          obtain ⟨_, f0, f1, f2, f3, f4⟩ := hS7
          clear hS hSF hHeld hcd hcall cf hbn hB7 hb7 hBx
          by_cases hkt : kk = t
          · have hr2 := hr'.out
            simp only at hr2
            rw [if_pos hkt] at hr2
            subst hkt
            replace hr2 := Lib.hid hr2
            clear hr'
            go_wp2_with fail
            go_roundw
            case rel => exact ⟨i + 1, by simp, by omega, hBw, hr2⟩
            case measure => (simp [intOf]; omega)
          · have hr2 := hr'.out
            simp only at hr2
            rw [if_neg hkt] at hr2
            replace hr2 := Lib.hid hr2
            clear hr'
            go_wp2_with fail
            refine (hR.out _ _ _).mono ?_
            rintro e w8 ⟨rfl, rfl⟩
            have hr3 := hr2.out
            subst hr3
            exact ⟨rfl, hBw.out, rfl⟩
        · go_simp
          refine hcd.out.mono ?_
          rintro e w7 ⟨hb7, rfl⟩
          have hB7 : Below W.heap.size W w7 := (Below.refl W.heap.size W).drew.trans hb7
          have hS7 := hSF.out w7 hB7
          refine hK.out _ _ hS7 (fun hHeld => ?_)
          clear hK K
          try simp only [Act.put, List.setIfInBounds_toArray, List.set_cons_zero, List.set_cons_succ]
          refine' wpAnyH_take (i := 11) (oi := _) (v := _) rfl (by kernel_rfl) (by kernel_rfl) (by kernel_rfl) (fun _ _ _ h => h) (Or.inl ⟨by rfl, ?hyb3⟩) (by assumption) ?restb3
          case hyb3 => (intro w hSw; go_simp; all_goals (with_reducible rfl))
          try simp only [Act.put, List.getElem_toArray, List.getElem_cons_zero, List.getElem_cons_succ, List.setIfInBounds_toArray, List.set_cons_zero, List.set_cons_succ]
          refine wpAnyH_done (by kernel_rfl) ?_ _
          refine NoPanic.normal ?_
          have hBw := Lib.hid (hBx.out.trans (hB7.mono hBx.out.size))
          obtain ⟨_, f0, f1, f2, f3, f4⟩ := hS7
          clear hS hSF hHeld hcd hcall cf hbn hB7 hb7 hBx
          by_cases hkt : kk = t
          · have hr2 := hr'.out
            simp only at hr2
            rw [if_pos hkt] at hr2
            subst hkt
            replace hr2 := Lib.hid hr2
            clear hr'
            go_wp2_with fail
            go_roundw
            case rel => exact ⟨i + 1, by simp, by omega, hBw, hr2⟩
            case measure => (simp [intOf]; omega)
          · have hr2 := hr'.out
            simp only at hr2
            rw [if_neg hkt] at hr2
            replace hr2 := Lib.hid hr2
            clear hr'
            go_wp2_with fail
            refine (hR.out _ _ _).mono ?_
            rintro e w8 ⟨rfl, rfl⟩
            have hr3 := hr2.out
            subst hr3
            exact ⟨rfl, hBw.out, rfl⟩
        · go_simp
          refine hcd.out.mono ?_
          rintro e w7 ⟨hb7, rfl⟩
          have hB7 : Below W.heap.size W w7 := (Below.refl W.heap.size W).drew.trans hb7
          have hS7 := hSF.out w7 hB7
          refine hK.out _ _ hS7 (fun hHeld => ?_)
          clear hK K
          try simp only [Act.put, List.setIfInBounds_toArray, List.set_cons_zero, List.set_cons_succ]
          refine' wpAnyH_take (i := 11) (oi := _) (v := _) rfl (by kernel_rfl) (by kernel_rfl) (by kernel_rfl) (fun _ _ _ h => h) (Or.inl ⟨by rfl, ?hyb4⟩) (by assumption) ?restb4
          case hyb4 => (intro w hSw; go_simp; all_goals (with_reducible rfl))
          try simp only [Act.put, List.getElem_toArray, List.getElem_cons_zero, List.getElem_cons_succ, List.setIfInBounds_toArray, List.set_cons_zero, List.set_cons_succ]
          refine wpAnyH_done (by kernel_rfl) ?_ _
          refine NoPanic.normal ?_
          have hBw := Lib.hid (hBx.out.trans (hB7.mono hBx.out.size))
          obtain ⟨_, f0, f1, f2, f3, f4⟩ := hS7
          clear hS hSF hHeld hcd hcall cf hbn hB7 hb7 hBx
          by_cases hkt : kk = t
          · have hr2 := hr'.out
            simp only at hr2
            rw [if_pos hkt] at hr2
            subst hkt
            replace hr2 := Lib.hid hr2
            clear hr'
            go_wp2_with fail
            go_roundw
            case rel => exact ⟨i + 1, by simp, by omega, hBw, hr2⟩
            case measure => (simp [intOf]; omega)
          · have hr2 := hr'.out
            simp only at hr2
            rw [if_neg hkt] at hr2
            replace hr2 := Lib.hid hr2
            clear hr'
            go_wp2_with fail
            refine (hR.out _ _ _).mono ?_
            rintro e w8 ⟨rfl, rfl⟩
            have hr3 := hr2.out
            subst hr3
            exact ⟨rfl, hBw.out, rfl⟩
        · go_simp
          refine hcd.out.mono ?_
          rintro e w7 ⟨hb7, rfl⟩
          have hB7 : Below W.heap.size W w7 := (Below.refl W.heap.size W).drew.trans hb7
          have hS7 := hSF.out w7 hB7
          refine hK.out _ _ hS7 (fun hHeld => ?_)
          clear hK K
          try simp only [Act.put, List.setIfInBounds_toArray, List.set_cons_zero, List.set_cons_succ]
          refine' wpAnyH_take (i := 11) (oi := _) (v := _) rfl (by kernel_rfl) (by kernel_rfl) (by kernel_rfl) (fun _ _ _ h => h) (Or.inl ⟨by rfl, ?hyb5⟩) (by assumption) ?restb5
          case hyb5 => (intro w hSw; go_simp; all_goals (with_reducible rfl))
          try simp only [Act.put, List.getElem_toArray, List.getElem_cons_zero, List.getElem_cons_succ, List.setIfInBounds_toArray, List.set_cons_zero, List.set_cons_succ]
          refine wpAnyH_done (by kernel_rfl) ?_ _
          refine NoPanic.normal ?_
          have hBw := Lib.hid (hBx.out.trans (hB7.mono hBx.out.size))
          obtain ⟨_, f0, f1, f2, f3, f4⟩ := hS7
          clear hS hSF hHeld hcd hcall cf hbn hB7 hb7 hBx
          by_cases hkt : kk = t
          · have hr2 := hr'.out
            simp only at hr2
            rw [if_pos hkt] at hr2
            subst hkt
            replace hr2 := Lib.hid hr2
            clear hr'
            go_wp2_with fail
            go_roundw
            case rel => exact ⟨i + 1, by simp, by omega, hBw, hr2⟩
            case measure => (simp [intOf]; omega)
          · have hr2 := hr'.out
            simp only at hr2
            rw [if_neg hkt] at hr2
            replace hr2 := Lib.hid hr2
            clear hr'
            go_wp2_with fail
            refine (hR.out _ _ _).mono ?_
            rintro e w8 ⟨rfl, rfl⟩
            have hr3 := hr2.out
            subst hr3
            exact ⟨rfl, hBw.out, rfl⟩
      | error p =>
        have hr2 := hr'.out
        simp only at hr2
        subst hr2
        refine Code.wp_mono (Q := BadR p W) ?_ ?_
        · rintro e a w7 ⟨rfl, hd, hE7⟩
          exact ⟨hd, hBx.out.trans (hE7.mono hBx.out.size), rfl⟩
        refine wp_region_held_drew (S := (fun X : World => X.cell? ⟨c.lb, 2 + kn, none⟩ = some (fnV F) ∧ X.cell? ⟨wr.heap.size, 0, none⟩ = some (.int .u8 (kn : Int)) ∧ X.cell? ⟨wr.heap.size, 1, none⟩ = some (.string nm) ∧ X.cell? ⟨wr.heap.size, 2, none⟩ = some (.int .i64 m) ∧ X.cell? ⟨wr.heap.size, 3, none⟩ = some (.slice a' args.length cap') ∧ X.cell? ⟨wr.heap.size, 4, none⟩ = some (.int .i64 pos))) (by kernel_rfl) hS (fun hHeld => ?_)
        refine' wpAnyH_take (i := 0) (oi := _) (v := _) rfl (by kernel_rfl) (by kernel_rfl) (by kernel_rfl) BadR.put (Or.inl ⟨by rfl, ?hyc0⟩) (by assumption) ?restc0
        case hyc0 => (intro w hSw; go_simp; all_goals (with_reducible rfl))
        try simp only [Act.put, List.getElem_toArray, List.getElem_cons_zero, List.setIfInBounds_toArray, List.set_cons_zero, List.set_cons_succ]
        refine' wpAnyH_take (i := 1) (oi := _) (v := _) rfl (by kernel_rfl) (by kernel_rfl) (by kernel_rfl) BadR.put (Or.inl ⟨by rfl, ?hyc1⟩) (by assumption) ?restc1
        case hyc1 => (intro w hSw; go_simp; all_goals (with_reducible rfl))
        try simp only [Act.put, List.getElem_toArray, List.getElem_cons_zero, List.getElem_cons_succ, List.setIfInBounds_toArray, List.set_cons_zero, List.set_cons_succ]
        refine' wpAnyH_take (i := 2) (oi := _) (v := _) rfl (by kernel_rfl) (by kernel_rfl) (by kernel_rfl) BadR.put (Or.inl ⟨by rfl, ?hyc2⟩) (by assumption) ?restc2
        case hyc2 => (intro w hSw; go_simp; all_goals (with_reducible rfl))
        try simp only [Act.put, List.getElem_toArray, List.getElem_cons_zero, List.getElem_cons_succ, List.setIfInBounds_toArray, List.set_cons_zero, List.set_cons_succ]
        refine' wpAnyH_take (i := 3) (oi := _) (v := _) rfl (by kernel_rfl) (by kernel_rfl) (by kernel_rfl) BadR.put (Or.inl ⟨by rfl, ?hyc3⟩) (by assumption) ?restc3
        case hyc3 => (intro w hSw; go_simp; all_goals (with_reducible rfl))
        try simp only [Act.put, List.getElem_toArray, List.getElem_cons_zero, List.getElem_cons_succ, List.setIfInBounds_toArray, List.set_cons_zero, List.set_cons_succ]
        refine' wpAnyH_take (i := 4) (oi := _) (v := _) rfl (by kernel_rfl) (by kernel_rfl) (by kernel_rfl) BadR.put (Or.inl ⟨by rfl, ?hyc4⟩) (by assumption) ?restc4
        case hyc4 => (intro w hSw; go_simp; all_goals (with_reducible rfl))
        try simp only [Act.put, List.getElem_toArray, List.getElem_cons_zero, List.getElem_cons_succ, List.setIfInBounds_toArray, List.set_cons_zero, List.set_cons_succ]
        refine' wpAnyH_take (i := 5) (oi := _) (v := _) rfl (by kernel_rfl) (by kernel_rfl) (by kernel_rfl) BadR.put (Or.inl ⟨by rfl, ?hyc5⟩) (by assumption) ?restc5
        case hyc5 => (intro w hSw; go_simp; all_goals (with_reducible rfl))
        try simp only [Act.put, List.getElem_toArray, List.getElem_cons_zero, List.getElem_cons_succ, List.setIfInBounds_toArray, List.set_cons_zero, List.set_cons_succ]
        refine' wpAnyH_take (i := 6) (oi := _) (v := _) rfl (by kernel_rfl) (by kernel_rfl) (by kernel_rfl) BadR.put (Or.inl ⟨by rfl, ?hyc6⟩) (by assumption) ?restc6
        case hyc6 => (intro w hSw; go_simp; all_goals (with_reducible rfl))
        try simp only [Act.put, List.getElem_toArray, List.getElem_cons_zero, List.getElem_cons_succ, List.setIfInBounds_toArray, List.set_cons_zero, List.set_cons_succ]
        refine' wpAnyH_take (i := 7) (oi := _) (v := _) rfl (by kernel_rfl) (by kernel_rfl) (by kernel_rfl) BadR.put (Or.inl ⟨by rfl, ?hyc7⟩) (by assumption) ?restc7
        case hyc7 => (intro w hSw; go_simp; all_goals (with_reducible rfl))
        try simp only [Act.put, List.getElem_toArray, List.getElem_cons_zero, List.getElem_cons_succ, List.setIfInBounds_toArray, List.set_cons_zero, List.set_cons_succ]
        refine' wpAnyH_take (i := 8) (oi := _) (v := _) rfl (by kernel_rfl) (by kernel_rfl) (by kernel_rfl) BadR.put (Or.inl ⟨by rfl, ?hyc8⟩) (by assumption) ?restc8
        case hyc8 => (intro w hSw; go_simp; all_goals (with_reducible rfl))
        try simp only [Act.put, List.getElem_toArray, List.getElem_cons_zero, List.getElem_cons_succ, List.setIfInBounds_toArray, List.set_cons_zero, List.set_cons_succ]
        refine' wpAnyH_take (i := 10) (oi := _) (v := _) rfl (by kernel_rfl) (by kernel_rfl) (by kernel_rfl) BadR.put (Or.inl ⟨by rfl, ?hyc10⟩) (by assumption) ?restc10
        case hyc10 => (intro w hSw; go_simp; all_goals (with_reducible rfl))
        try simp only [Act.put, List.getElem_toArray, List.getElem_cons_zero, List.getElem_cons_succ, List.setIfInBounds_toArray, List.set_cons_zero, List.set_cons_succ]
        refine wpAnyH_ready (rs := [9]) (by kernel_rfl) (by simp) ?_
        refine AllReadyH.cons (o := _) rfl (fun K hK => ?_) AllReadyH.nil
        replace hK := Lib.hid hK
        have hcd := Lib.hid (hcall.out W.drew (Below.refl _ _).drew)
        rcases hFs with rfl | rfl | rfl | rfl | rfl
        all_goals (
          go_simp
          refine hcd.out.mono ?_
          rintro e w7 ⟨hb7, rfl⟩
          exact ⟨rfl, rfl, (Below.refl W.heap.size W).drew.trans hb7⟩)
    · have hil : i = l.length := by omega
      subst hil
      have hr' := hri.out
      rw [List.drop_length, wantK_nil] at hr'
      subst hr'
      have hi2 : ¬ ((l.length : Int) < (l.length : Int)) := by omega
      clear hri h hrow hin hok hsz hX
      go_wp2_with fail
      exact ⟨rfl, .tuple #[], by simp [results, Tryz.results162, go_sem], hB.out, rfl⟩
end Go.Proofs.YtpcdlneompnhlaaGreatDoor.Ty
