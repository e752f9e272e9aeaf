/- Walk of list. Conditions: the contracts of what each Kind of statements asks, of smaller ones. -/
import Derived.Test.YtpcdlneompnhlaaGreatDoorTyL
import Derived.Deep.Cut
namespace Go.Proofs.YtpcdlneompnhlaaGreatDoor.Ty
open Go Go.RowKit
open Go.Proofs.YtpcdlneompnhlaaGreatDoor.Lx Go.Proofs.YtpcdlneompnhlaaGreatDoor.Tr

theorem stF_cases (k : Nat) : stF k = 126 ∨ stF k = 127 ∨ stF k = 128 ∨ stF k = 129 ∨ stF k = 130 ∨ stF k = 131 ∨ stF k = 132 ∨ stF k = 133 := by
  unfold stF
  repeat' split
  all_goals simp
theorem st_fn {c : Lc} {s : Ls} {k : Nat} (h1 : 1 ≤ k) (h2 : k ≤ 9) : (lkVals c s)[20 + k]? = some (fnV (stF k)) := by
  have : k = 1 ∨ k = 2 ∨ k = 3 ∨ k = 4 ∨ k = 5 ∨ k = 6 ∨ k = 7 ∨ k = 8 ∨ k = 9 := by omega
  rcases this with rfl | rfl | rfl | rfl | rfl | rfl | rfl | rfl | rfl <;> rfl
theorem st_cells {w : World} {S : Nat → Prop} {a : Option Addr} {cap : Nat} {l : List St} (h : RowAt w S a cap l.length (stCells l)) (i : Nat) (k : Int) (nm to : ByteArray) (new : Bool) (ea : Option Addr) (ec : Nat) (e : List Ex) (ba : Option Addr) (bc : Nat) (body : List St) (la : Option Addr) (lc : Nat) (els : List St) (pos : Int) (he : l[i]? = some (.mk k nm to new ea ec e ba bc body la lc els pos)) :
    ∃ b off, a = some ⟨b, off, none⟩ ∧ S b ∧ w.cell? ⟨b, off + i * 8, none⟩ = some (.int .u8 k) ∧ w.cell? ⟨b, off + i * 8 + 1, none⟩ = some (.string nm) ∧ w.cell? ⟨b, off + i * 8 + 2, none⟩ = some (.string to) ∧ w.cell? ⟨b, off + i * 8 + 3, none⟩ = some (.bool new) ∧ w.cell? ⟨b, off + i * 8 + 4, none⟩ = some (.slice ea e.length ec) ∧ w.cell? ⟨b, off + i * 8 + 5, none⟩ = some (.slice ba body.length bc) ∧ w.cell? ⟨b, off + i * 8 + 6, none⟩ = some (.slice la els.length lc) ∧ w.cell? ⟨b, off + i * 8 + 7, none⟩ = some (.int .i64 pos) := by
  obtain ⟨b, off, ha, hb, hc⟩ := st_row h i _ he
  refine ⟨b, off, ha, hb, ?_, ?_, ?_, ?_, ?_, ?_, ?_, ?_⟩
  · have := hc 0 _ rfl; rwa [Nat.add_zero] at this
  · have := hc 1 _ rfl; rwa [← Nat.add_assoc] at this
  · have := hc 2 _ rfl; rwa [← Nat.add_assoc] at this
  · have := hc 3 _ rfl; rwa [← Nat.add_assoc] at this
  · have := hc 4 _ rfl; rwa [← Nat.add_assoc] at this
  · have := hc 5 _ rfl; rwa [← Nat.add_assoc] at this
  · have := hc 6 _ rfl; rwa [← Nat.add_assoc] at this
  · have := hc 7 _ rfl; rwa [← Nat.add_assoc] at this
theorem drop_cons {α : Type} {l : List α} {i : Nat} {e : α} (he : l[i]? = some e) : l.drop i = e :: l.drop (i + 1) := by
  obtain ⟨hlt, h⟩ := List.getElem?_eq_some_iff.1 he
  rw [List.drop_eq_getElem_cons hlt, h]

set_option maxHeartbeats 4000000 in
set_option maxRecDepth 100000 in
theorem list_step (n : Nat) (hX : ContS n) : ContL n := by
  intro c s w a cap l whole hsz hok hrow hin h hp
  generalize hr : listK c.ds c.D s.pos whole s.ps l = r
  have hll : l.length ≤ 9223372036854775807 := by have := hrow.le; have := hrow.lim; unfold maxLen at this; omega
  have hst0 := Lib.hid (StepS.of_ext h (Below.refl _ _))
  replace hr := Lib.hid hr
  replace hX := Lib.hid hX
  replace hrow := Lib.hid hrow
  replace hin := Lib.hid hin
  replace hok := Lib.hid hok
  replace hsz := Lib.hid hsz
  replace hp := Lib.hid hp
  clear h
  go_enter Tryz.func136, Tryz.ntmps136
  go_wp2_with fail
  go_loopw [10] (fun v wr => ∃ (i : Nat) (si : Ls), v = .int .i64 i ∧ i ≤ l.length ∧ Hid (StepS c s w si wr) ∧ Hid (listK c.ds c.D s.pos whole si.ps (l.drop i) = r)) (fun v _ => l.length - (intOf v).toNat)
  case atStart => exact ⟨0, s, rfl, Nat.zero_le _, hst0, hr⟩
  case round =>
    obtain ⟨i, si, rfl, hi, hS, hri⟩ := hrel
    clear hr hst0
    by_cases hlt : i < l.length
    · obtain ⟨x, hx⟩ : ∃ x, l[i]? = some x := ⟨_, List.getElem?_eq_getElem hlt⟩
      have hr' := hri.out
      rw [drop_cons hx, listK_cons] at hr'
      clear hri
      obtain ⟨k, nm, to, new, ea, ec, e, ba, bc, body, la, lc, els, pos⟩ := x
      have hokx := okSL_get hok.out hx
      have hszx := hsz.out _ (List.mem_of_getElem? hx)
      have hkp : ∀ {V : World}, Below c.B w V → Kps (fun b => b < c.B) w V := fun hV b o v hb hc => (World.cell?_of_block (w := w) (a := ⟨b, o, none⟩) (hV.block b hb)).trans hc
      have hinx := St.InL.get hin.out hx
      have hkx := hokx
      rw [okS_eq] at hkx
      obtain ⟨⟨hk1, hk9, _⟩, _⟩ := hkx
      obtain ⟨b, off, ha, hb, e0, e1, e2, e3, e4, e5, e6, e7⟩ := st_cells (hrow.out.below (hkp hS.out.below)) i k nm to new ea ec e ba bc body la lc els pos hx
      subst ha
      obtain ⟨kn, rfl⟩ : ∃ kn : Nat, k = (kn : Int) := ⟨k.toNat, by omega⟩
      have hi0 : (0 : Int) ≤ (i : Int) := by omega
      have hi1 : (i : Int) < (l.length : Int) := by omega
      have hq0 : (0 : Int) ≤ (kn : Int) := by omega
      have hq18 : (kn : Int) < 10 := by omega
      obtain ⟨bl, hbl⟩ : ∃ bl, (whole && (l.drop (i + 1)).isEmpty) = bl := ⟨_, rfl⟩
      have hbl2 : bl = (whole && decide (i + 1 = l.length)) := by
        rw [← hbl]
        congr 1
        rw [Bool.eq_iff_iff, List.isEmpty_iff, List.drop_eq_nil_iff, decide_eq_true_eq]
        omega
      rw [hbl] at hr'
      have hLr := hS.out.lk
      have hbx := box_lt wr (.cells #[.int .u8 (kn : Int), .string nm, .string to, .bool new, .slice ea e.length ec, .slice ba body.length bc, .slice la els.length lc, .int .i64 pos] 60)
      have hLx := hLr.ext hbx
      have hset := hLx.setLast bl
      have hSx := (hS.out.ext hbx).trans hset
      have hnew : ¬ Tch c { si with last := bl } wr.heap.size := fun ht => by
        have : ¬ Tch c si wr.heap.size := hLr.new_not
        exact this ht
      have hlbne : wr.heap.size ≠ c.lb := fun e => hnew (.inl e)
      have hbn : ((wr.alloc (.cells #[.int .u8 (kn : Int), .string nm, .string to, .bool new, .slice ea e.length ec, .slice ba body.length bc, .slice la els.length lc, .int .i64 pos] 60)).setCell ⟨c.lb, 34, none⟩ (.bool bl)).heap[wr.heap.size]? = some (.cells #[.int .u8 (kn : Int), .string nm, .string to, .bool new, .slice ea e.length ec, .slice ba body.length bc, .slice la els.length lc, .int .i64 pos] 60 (0, 0)) := by
        rw [Below.heap_setCell _ _ _ _ hlbne]
        exact World.alloc_heap_new wr _
      have c34 : (wr.alloc (.cells #[.int .u8 (kn : Int), .string nm, .string to, .bool new, .slice ea e.length ec, .slice ba body.length bc, .slice la els.length lc, .int .i64 pos] 60)).frozen? ⟨c.lb, 34, none⟩ = false := blk_free hLx.blk 34
      have c34' : (wr.alloc (.cells #[.int .u8 (kn : Int), .string nm, .string to, .bool new, .slice ea e.length ec, .slice ba body.length bc, .slice la els.length lc, .int .i64 pos] 60)).cell? ⟨c.lb, 34, none⟩ = some (.bool si.last) := blk_cell hLx.blk rfl
      obtain ⟨W, hW⟩ : ∃ W, (wr.alloc (.cells #[.int .u8 (kn : Int), .string nm, .string to, .bool new, .slice ea e.length ec, .slice ba body.length bc, .slice la els.length lc, .int .i64 pos] 60)).setCell ⟨c.lb, 34, none⟩ (.bool bl) = W := ⟨_, rfl⟩
      rw [hW] at hSx hbn hset
      have hsp : si.pos = s.pos := hS.out.pos
      have hcall : ∀ V : World, Below W.heap.size W V → Calls Tryz.prog (stF (ContS.kindS (.mk (kn : Int) nm to new ea ec e ba bc body la lc els pos)).toNat) #[.pointer (some ⟨c.lb, 0, none⟩), .agg ⟨(St.mk (kn : Int) nm to new ea ec e ba bc body la lc els pos).vals⟩] V (PostS c { si with last := bl } V (stK c.ds c.D s.pos bl si.ps (.mk (kn : Int) nm to new ea ec e ba bc body la lc els pos))) := fun V hV => by
        rw [← hsp]
        exact hX.out c { si with last := bl } V _ hszx hokx (St.In.below (hkp (hSx.below.trans (hV.mono hSx.lk.low))) _ hinx) (hSx.lk.ext hV) (by show si.pos < _; rw [hsp]; exact hp.out)
      have cf := fun (V : World) (s2 : Ls) (hV : Lk c s2 V) => lk_cell hV.blk (st_fn (c := c) (s := s2) (k := kn) (by omega) (by omega))
      generalize stK c.ds c.D s.pos bl si.ps (.mk (kn : Int) nm to new ea ec e ba bc body la lc els pos) = q at hcall hr'
      generalize hF : stF (ContS.kindS (.mk (kn : Int) nm to new ea ec e ba bc body la lc els pos)).toNat = F at hcall
      have hFk : stF kn = F := by rw [← hF]; rfl
      have hFs := stF_cases kn
      rw [hFk] at cf hFs
      have hv : (⟨(St.mk (kn : Int) nm to new ea ec e ba bc body la lc els pos).vals⟩ : Array Value) = #[.int .u8 (kn : Int), .string nm, .string to, .bool new, .slice ea e.length ec, .slice ba body.length bc, .slice la els.length lc, .int .i64 pos] := rfl
      rw [hv] at hcall
      replace hcall := Lib.hid hcall
      replace cf := Lib.hid cf
      replace hbn := Lib.hid hbn
      replace hSx := Lib.hid hSx
      replace hr' := Lib.hid hr'
      replace hnew := Lib.hid hnew
      clear hv hF hFk hLx hLr hbx hokx hszx hinx hx hb hset hkp hbl hlbne
      have hW' : Hid (∀ (b2 : Bool), b2 = bl → (wr.alloc (.cells #[.int .u8 (kn : Int), .string nm, .string to, .bool new, .slice ea e.length ec, .slice ba body.length bc, .slice la els.length lc, .int .i64 pos] 60)).setCell ⟨c.lb, 34, none⟩ (.bool b2) = W) := Lib.hid fun b2 h2 => by rw [h2]; exact hW
      clear hW
      have hSF : Hid (∀ (V : World) (s2 : Ls), Lk c s2 V → V.heap[wr.heap.size]? = some (.cells #[.int .u8 (kn : Int), .string nm, .string to, .bool new, .slice ea e.length ec, .slice ba body.length bc, .slice la els.length lc, .int .i64 pos] 60 (0, 0)) → (fun X : World => X.cell? ⟨c.lb, 20 + kn, none⟩ = some (fnV F) ∧ X.cell? ⟨wr.heap.size, 0, none⟩ = some (.int .u8 (kn : Int)) ∧ X.cell? ⟨wr.heap.size, 1, none⟩ = some (.string nm) ∧ X.cell? ⟨wr.heap.size, 2, none⟩ = some (.string to) ∧ X.cell? ⟨wr.heap.size, 3, none⟩ = some (.bool new) ∧ X.cell? ⟨wr.heap.size, 4, none⟩ = some (.slice ea e.length ec) ∧ X.cell? ⟨wr.heap.size, 5, none⟩ = some (.slice ba body.length bc) ∧ X.cell? ⟨wr.heap.size, 6, none⟩ = some (.slice la els.length lc) ∧ X.cell? ⟨wr.heap.size, 7, none⟩ = some (.int .i64 pos)) V) := Lib.hid fun V s2 hV h8 =>
        ⟨cf.out V s2 hV, blk_cell h8 rfl, blk_cell h8 rfl, blk_cell h8 rfl, blk_cell h8 rfl, blk_cell h8 rfl, blk_cell h8 rfl, blk_cell h8 rfl, blk_cell h8 rfl⟩
      have hbb : Hid (whole = false ∧ false = bl ∨ whole = true ∧ ((i : Int) == (l.length : Int) - 1) = bl) := Lib.hid (by
        rw [hbl2]
        cases whole with
        | false => exact .inl ⟨rfl, rfl⟩
        | true =>
          refine .inr ⟨rfl, ?_⟩
          rw [Bool.eq_iff_iff, beq_iff_eq, Bool.true_and, decide_eq_true_eq]
          omega)
      clear hbl2
      cases whole with
      | false =>
        have hbe : Hid (false = bl) := Lib.hid (by rcases hbb.out with ⟨h1, h2⟩ | ⟨h1, h2⟩ <;> first | exact h2 | cases h1)
        have hWe := hW'.out _ hbe.out
        clear hbb
        go_wp2_with fail
        clear hWe hW' c34 c34' e0 e1 e2 e3 e4 e5 e6 e7
        have hBd : Below W.heap.size W W.drew := (Below.refl _ _).drew
        have hS2 := hSF.out W.drew _ (hSx.out.lk.ext hBd) ((hBd.block _ (cells_lt hbn.out)).trans hbn.out)
        have hcd := Lib.hid (hcall.out W.drew hBd)
        cases q with
        | error p =>
          have hr2 := hr'.out
          simp only at hr2
          subst hr2
          refine Code.wp_mono (Q := BadB p c.B W) ?_ ?_
          · rintro e a w7 ⟨rfl, hd, hE7⟩
            exact ⟨hd, rfl, hSx.out.below.trans hE7⟩
          refine wp_region_held_drew (S := (fun X : World => X.cell? ⟨c.lb, 20 + kn, none⟩ = some (fnV F) ∧ X.cell? ⟨wr.heap.size, 0, none⟩ = some (.int .u8 (kn : Int)) ∧ X.cell? ⟨wr.heap.size, 1, none⟩ = some (.string nm) ∧ X.cell? ⟨wr.heap.size, 2, none⟩ = some (.string to) ∧ X.cell? ⟨wr.heap.size, 3, none⟩ = some (.bool new) ∧ X.cell? ⟨wr.heap.size, 4, none⟩ = some (.slice ea e.length ec) ∧ X.cell? ⟨wr.heap.size, 5, none⟩ = some (.slice ba body.length bc) ∧ X.cell? ⟨wr.heap.size, 6, none⟩ = some (.slice la els.length lc) ∧ X.cell? ⟨wr.heap.size, 7, none⟩ = some (.int .i64 pos))) (by kernel_rfl) hS2 (fun hHeld => ?_)
          refine' wpAnyH_take (i := 0) (oi := _) (v := _) rfl (by kernel_rfl) (by kernel_rfl) (by kernel_rfl) BadB.put (Or.inl ⟨by rfl, ?hyaf0⟩) (by assumption) ?restaf0
          case hyaf0 => (intro w hSw; go_simp; all_goals (with_reducible rfl))
          try simp only [Act.put, List.getElem_toArray, List.getElem_cons_zero, List.setIfInBounds_toArray, List.set_cons_zero, List.set_cons_succ]
          refine' wpAnyH_take (i := 1) (oi := _) (v := _) rfl (by kernel_rfl) (by kernel_rfl) (by kernel_rfl) BadB.put (Or.inl ⟨by rfl, ?hyaf1⟩) (by assumption) ?restaf1
          case hyaf1 => (intro w hSw; go_simp; all_goals (with_reducible rfl))
          try simp only [Act.put, List.getElem_toArray, List.getElem_cons_zero, List.getElem_cons_succ, List.setIfInBounds_toArray, List.set_cons_zero, List.set_cons_succ]
          refine' wpAnyH_take (i := 2) (oi := _) (v := _) rfl (by kernel_rfl) (by kernel_rfl) (by kernel_rfl) BadB.put (Or.inl ⟨by rfl, ?hyaf2⟩) (by assumption) ?restaf2
          case hyaf2 => (intro w hSw; go_simp; all_goals (with_reducible rfl))
          try simp only [Act.put, List.getElem_toArray, List.getElem_cons_zero, List.getElem_cons_succ, List.setIfInBounds_toArray, List.set_cons_zero, List.set_cons_succ]
          refine' wpAnyH_take (i := 3) (oi := _) (v := _) rfl (by kernel_rfl) (by kernel_rfl) (by kernel_rfl) BadB.put (Or.inl ⟨by rfl, ?hyaf3⟩) (by assumption) ?restaf3
          case hyaf3 => (intro w hSw; go_simp; all_goals (with_reducible rfl))
          try simp only [Act.put, List.getElem_toArray, List.getElem_cons_zero, List.getElem_cons_succ, List.setIfInBounds_toArray, List.set_cons_zero, List.set_cons_succ]
          refine' wpAnyH_take (i := 4) (oi := _) (v := _) rfl (by kernel_rfl) (by kernel_rfl) (by kernel_rfl) BadB.put (Or.inl ⟨by rfl, ?hyaf4⟩) (by assumption) ?restaf4
          case hyaf4 => (intro w hSw; go_simp; all_goals (with_reducible rfl))
          try simp only [Act.put, List.getElem_toArray, List.getElem_cons_zero, List.getElem_cons_succ, List.setIfInBounds_toArray, List.set_cons_zero, List.set_cons_succ]
          refine' wpAnyH_take (i := 5) (oi := _) (v := _) rfl (by kernel_rfl) (by kernel_rfl) (by kernel_rfl) BadB.put (Or.inl ⟨by rfl, ?hyaf5⟩) (by assumption) ?restaf5
          case hyaf5 => (intro w hSw; go_simp; all_goals (with_reducible rfl))
          try simp only [Act.put, List.getElem_toArray, List.getElem_cons_zero, List.getElem_cons_succ, List.setIfInBounds_toArray, List.set_cons_zero, List.set_cons_succ]
          refine' wpAnyH_take (i := 6) (oi := _) (v := _) rfl (by kernel_rfl) (by kernel_rfl) (by kernel_rfl) BadB.put (Or.inl ⟨by rfl, ?hyaf6⟩) (by assumption) ?restaf6
          case hyaf6 => (intro w hSw; go_simp; all_goals (with_reducible rfl))
          try simp only [Act.put, List.getElem_toArray, List.getElem_cons_zero, List.getElem_cons_succ, List.setIfInBounds_toArray, List.set_cons_zero, List.set_cons_succ]
          refine' wpAnyH_take (i := 7) (oi := _) (v := _) rfl (by kernel_rfl) (by kernel_rfl) (by kernel_rfl) BadB.put (Or.inl ⟨by rfl, ?hyaf7⟩) (by assumption) ?restaf7
          case hyaf7 => (intro w hSw; go_simp; all_goals (with_reducible rfl))
          try simp only [Act.put, List.getElem_toArray, List.getElem_cons_zero, List.getElem_cons_succ, List.setIfInBounds_toArray, List.set_cons_zero, List.set_cons_succ]
          refine' wpAnyH_take (i := 8) (oi := _) (v := _) rfl (by kernel_rfl) (by kernel_rfl) (by kernel_rfl) BadB.put (Or.inl ⟨by rfl, ?hyaf8⟩) (by assumption) ?restaf8
          case hyaf8 => (intro w hSw; go_simp; all_goals (with_reducible rfl))
          try simp only [Act.put, List.getElem_toArray, List.getElem_cons_zero, List.getElem_cons_succ, List.setIfInBounds_toArray, List.set_cons_zero, List.set_cons_succ]
          refine wpAnyH_ready (rs := [9]) (by kernel_rfl) (by simp) ?_
          refine AllReadyH.cons (o := _) rfl (fun K hK => ?_) AllReadyH.nil
          rcases hFs with rfl | rfl | rfl | rfl | rfl | rfl | rfl | rfl
          all_goals (
            go_simp
            refine hcd.out.mono ?_
            rintro e w7 ⟨rfl, hb7⟩
            exact ⟨rfl, rfl, (hBd.mono hSx.out.lk.low).trans hb7⟩)
        | ok p1 =>
          refine wp_region_noPanic ?_
          refine wp_region_held_drew (S := (fun X : World => X.cell? ⟨c.lb, 20 + kn, none⟩ = some (fnV F) ∧ X.cell? ⟨wr.heap.size, 0, none⟩ = some (.int .u8 (kn : Int)) ∧ X.cell? ⟨wr.heap.size, 1, none⟩ = some (.string nm) ∧ X.cell? ⟨wr.heap.size, 2, none⟩ = some (.string to) ∧ X.cell? ⟨wr.heap.size, 3, none⟩ = some (.bool new) ∧ X.cell? ⟨wr.heap.size, 4, none⟩ = some (.slice ea e.length ec) ∧ X.cell? ⟨wr.heap.size, 5, none⟩ = some (.slice ba body.length bc) ∧ X.cell? ⟨wr.heap.size, 6, none⟩ = some (.slice la els.length lc) ∧ X.cell? ⟨wr.heap.size, 7, none⟩ = some (.int .i64 pos))) (by kernel_rfl) hS2 (fun hHeld => ?_)
          refine' wpAnyH_take (i := 0) (oi := _) (v := _) rfl (by kernel_rfl) (by kernel_rfl) (by kernel_rfl) (fun _ _ _ h => h) (Or.inl ⟨by rfl, ?hybf0⟩) (by assumption) ?restbf0
          case hybf0 => (intro w hSw; go_simp; all_goals (with_reducible rfl))
          try simp only [Act.put, List.getElem_toArray, List.getElem_cons_zero, List.setIfInBounds_toArray, List.set_cons_zero, List.set_cons_succ]
          refine' wpAnyH_take (i := 1) (oi := _) (v := _) rfl (by kernel_rfl) (by kernel_rfl) (by kernel_rfl) (fun _ _ _ h => h) (Or.inl ⟨by rfl, ?hybf1⟩) (by assumption) ?restbf1
          case hybf1 => (intro w hSw; go_simp; all_goals (with_reducible rfl))
          try simp only [Act.put, List.getElem_toArray, List.getElem_cons_zero, List.getElem_cons_succ, List.setIfInBounds_toArray, List.set_cons_zero, List.set_cons_succ]
          refine' wpAnyH_take (i := 2) (oi := _) (v := _) rfl (by kernel_rfl) (by kernel_rfl) (by kernel_rfl) (fun _ _ _ h => h) (Or.inl ⟨by rfl, ?hybf2⟩) (by assumption) ?restbf2
          case hybf2 => (intro w hSw; go_simp; all_goals (with_reducible rfl))
          try simp only [Act.put, List.getElem_toArray, List.getElem_cons_zero, List.getElem_cons_succ, List.setIfInBounds_toArray, List.set_cons_zero, List.set_cons_succ]
          refine' wpAnyH_take (i := 3) (oi := _) (v := _) rfl (by kernel_rfl) (by kernel_rfl) (by kernel_rfl) (fun _ _ _ h => h) (Or.inl ⟨by rfl, ?hybf3⟩) (by assumption) ?restbf3
          case hybf3 => (intro w hSw; go_simp; all_goals (with_reducible rfl))
          try simp only [Act.put, List.getElem_toArray, List.getElem_cons_zero, List.getElem_cons_succ, List.setIfInBounds_toArray, List.set_cons_zero, List.set_cons_succ]
          refine' wpAnyH_take (i := 4) (oi := _) (v := _) rfl (by kernel_rfl) (by kernel_rfl) (by kernel_rfl) (fun _ _ _ h => h) (Or.inl ⟨by rfl, ?hybf4⟩) (by assumption) ?restbf4
          case hybf4 => (intro w hSw; go_simp; all_goals (with_reducible rfl))
          try simp only [Act.put, List.getElem_toArray, List.getElem_cons_zero, List.getElem_cons_succ, List.setIfInBounds_toArray, List.set_cons_zero, List.set_cons_succ]
          refine' wpAnyH_take (i := 5) (oi := _) (v := _) rfl (by kernel_rfl) (by kernel_rfl) (by kernel_rfl) (fun _ _ _ h => h) (Or.inl ⟨by rfl, ?hybf5⟩) (by assumption) ?restbf5
          case hybf5 => (intro w hSw; go_simp; all_goals (with_reducible rfl))
          try simp only [Act.put, List.getElem_toArray, List.getElem_cons_zero, List.getElem_cons_succ, List.setIfInBounds_toArray, List.set_cons_zero, List.set_cons_succ]
          refine' wpAnyH_take (i := 6) (oi := _) (v := _) rfl (by kernel_rfl) (by kernel_rfl) (by kernel_rfl) (fun _ _ _ h => h) (Or.inl ⟨by rfl, ?hybf6⟩) (by assumption) ?restbf6
          case hybf6 => (intro w hSw; go_simp; all_goals (with_reducible rfl))
          try simp only [Act.put, List.getElem_toArray, List.getElem_cons_zero, List.getElem_cons_succ, List.setIfInBounds_toArray, List.set_cons_zero, List.set_cons_succ]
          refine' wpAnyH_take (i := 7) (oi := _) (v := _) rfl (by kernel_rfl) (by kernel_rfl) (by kernel_rfl) (fun _ _ _ h => h) (Or.inl ⟨by rfl, ?hybf7⟩) (by assumption) ?restbf7
          case hybf7 => (intro w hSw; go_simp; all_goals (with_reducible rfl))
          try simp only [Act.put, List.getElem_toArray, List.getElem_cons_zero, List.getElem_cons_succ, List.setIfInBounds_toArray, List.set_cons_zero, List.set_cons_succ]
          refine' wpAnyH_take (i := 8) (oi := _) (v := _) rfl (by kernel_rfl) (by kernel_rfl) (by kernel_rfl) (fun _ _ _ h => h) (Or.inl ⟨by rfl, ?hybf8⟩) (by assumption) ?restbf8
          case hybf8 => (intro w hSw; go_simp; all_goals (with_reducible rfl))
          try simp only [Act.put, List.getElem_toArray, List.getElem_cons_zero, List.getElem_cons_succ, List.setIfInBounds_toArray, List.set_cons_zero, List.set_cons_succ]
          refine wpAnyH_ready (rs := [9]) (by kernel_rfl) (by simp) ?_
          refine AllReadyH.cons (o := _) rfl (fun K hK => ?_) AllReadyH.nil
          replace hK := Lib.hid hK
          rcases hFs with rfl | rfl | rfl | rfl | rfl | rfl | rfl | rfl
          all_goals (
            go_simp
            refine hcd.out.mono ?_
            rintro e w7 ⟨rfl, s2, hs2, rfl⟩
            have hst := (hSx.out.ext hBd).trans hs2
            have hbx7 := hs2.blk ((hBd.block _ (cells_lt hbn.out)).trans hbn.out) hnew.out
            refine hK.out _ _ (hSF.out _ _ hs2.lk hbx7) (fun hHeld => ?_)
            clear hK K
            try simp only [Act.put, List.setIfInBounds_toArray, List.set_cons_zero, List.set_cons_succ]
            refine wpAnyH_done (by kernel_rfl) ?_ _
            refine NoPanic.normal ?_
            have hr2 := hr'.out
            simp only at hr2
            replace hr2 := Lib.hid hr2
            replace hst := Lib.hid hst
            clear hS2 hHeld hcd hcall cf hbn hSx hs2 hbx7 hSF hBd hr' hnew
            go_wp2_with fail
            go_roundw
            case rel => exact ⟨i + 1, s2, by simp, by omega, hst, hr2⟩
            case measure => (simp [intOf]; omega))
      | true =>
        have hbe : Hid (((i : Int) == (l.length : Int) - 1) = bl) := Lib.hid (by rcases hbb.out with ⟨h1, h2⟩ | ⟨h1, h2⟩ <;> first | exact h2 | cases h1)
        have hWe := hW'.out _ hbe.out
        clear hbb
        go_wp2_with fail
        clear hWe hW' c34 c34' e0 e1 e2 e3 e4 e5 e6 e7
        have hBd : Below W.heap.size W W.drew := (Below.refl _ _).drew
        have hS2 := hSF.out W.drew _ (hSx.out.lk.ext hBd) ((hBd.block _ (cells_lt hbn.out)).trans hbn.out)
        have hcd := Lib.hid (hcall.out W.drew hBd)
        cases q with
        | error p =>
          have hr2 := hr'.out
          simp only at hr2
          subst hr2
          refine Code.wp_mono (Q := BadB p c.B W) ?_ ?_
          · rintro e a w7 ⟨rfl, hd, hE7⟩
            exact ⟨hd, rfl, hSx.out.below.trans hE7⟩
          refine wp_region_held_drew (S := (fun X : World => X.cell? ⟨c.lb, 20 + kn, none⟩ = some (fnV F) ∧ X.cell? ⟨wr.heap.size, 0, none⟩ = some (.int .u8 (kn : Int)) ∧ X.cell? ⟨wr.heap.size, 1, none⟩ = some (.string nm) ∧ X.cell? ⟨wr.heap.size, 2, none⟩ = some (.string to) ∧ X.cell? ⟨wr.heap.size, 3, none⟩ = some (.bool new) ∧ X.cell? ⟨wr.heap.size, 4, none⟩ = some (.slice ea e.length ec) ∧ X.cell? ⟨wr.heap.size, 5, none⟩ = some (.slice ba body.length bc) ∧ X.cell? ⟨wr.heap.size, 6, none⟩ = some (.slice la els.length lc) ∧ X.cell? ⟨wr.heap.size, 7, none⟩ = some (.int .i64 pos))) (by kernel_rfl) hS2 (fun hHeld => ?_)
          refine' wpAnyH_take (i := 0) (oi := _) (v := _) rfl (by kernel_rfl) (by kernel_rfl) (by kernel_rfl) BadB.put (Or.inl ⟨by rfl, ?hyat0⟩) (by assumption) ?restat0
          case hyat0 => (intro w hSw; go_simp; all_goals (with_reducible rfl))
          try simp only [Act.put, List.getElem_toArray, List.getElem_cons_zero, List.setIfInBounds_toArray, List.set_cons_zero, List.set_cons_succ]
          refine' wpAnyH_take (i := 1) (oi := _) (v := _) rfl (by kernel_rfl) (by kernel_rfl) (by kernel_rfl) BadB.put (Or.inl ⟨by rfl, ?hyat1⟩) (by assumption) ?restat1
          case hyat1 => (intro w hSw; go_simp; all_goals (with_reducible rfl))
          try simp only [Act.put, List.getElem_toArray, List.getElem_cons_zero, List.getElem_cons_succ, List.setIfInBounds_toArray, List.set_cons_zero, List.set_cons_succ]
          refine' wpAnyH_take (i := 2) (oi := _) (v := _) rfl (by kernel_rfl) (by kernel_rfl) (by kernel_rfl) BadB.put (Or.inl ⟨by rfl, ?hyat2⟩) (by assumption) ?restat2
          case hyat2 => (intro w hSw; go_simp; all_goals (with_reducible rfl))
          try simp only [Act.put, List.getElem_toArray, List.getElem_cons_zero, List.getElem_cons_succ, List.setIfInBounds_toArray, List.set_cons_zero, List.set_cons_succ]
          refine' wpAnyH_take (i := 3) (oi := _) (v := _) rfl (by kernel_rfl) (by kernel_rfl) (by kernel_rfl) BadB.put (Or.inl ⟨by rfl, ?hyat3⟩) (by assumption) ?restat3
          case hyat3 => (intro w hSw; go_simp; all_goals (with_reducible rfl))
          try simp only [Act.put, List.getElem_toArray, List.getElem_cons_zero, List.getElem_cons_succ, List.setIfInBounds_toArray, List.set_cons_zero, List.set_cons_succ]
          refine' wpAnyH_take (i := 4) (oi := _) (v := _) rfl (by kernel_rfl) (by kernel_rfl) (by kernel_rfl) BadB.put (Or.inl ⟨by rfl, ?hyat4⟩) (by assumption) ?restat4
          case hyat4 => (intro w hSw; go_simp; all_goals (with_reducible rfl))
          try simp only [Act.put, List.getElem_toArray, List.getElem_cons_zero, List.getElem_cons_succ, List.setIfInBounds_toArray, List.set_cons_zero, List.set_cons_succ]
          refine' wpAnyH_take (i := 5) (oi := _) (v := _) rfl (by kernel_rfl) (by kernel_rfl) (by kernel_rfl) BadB.put (Or.inl ⟨by rfl, ?hyat5⟩) (by assumption) ?restat5
          case hyat5 => (intro w hSw; go_simp; all_goals (with_reducible rfl))
          try simp only [Act.put, List.getElem_toArray, List.getElem_cons_zero, List.getElem_cons_succ, List.setIfInBounds_toArray, List.set_cons_zero, List.set_cons_succ]
          refine' wpAnyH_take (i := 6) (oi := _) (v := _) rfl (by kernel_rfl) (by kernel_rfl) (by kernel_rfl) BadB.put (Or.inl ⟨by rfl, ?hyat6⟩) (by assumption) ?restat6
          case hyat6 => (intro w hSw; go_simp; all_goals (with_reducible rfl))
          try simp only [Act.put, List.getElem_toArray, List.getElem_cons_zero, List.getElem_cons_succ, List.setIfInBounds_toArray, List.set_cons_zero, List.set_cons_succ]
          refine' wpAnyH_take (i := 7) (oi := _) (v := _) rfl (by kernel_rfl) (by kernel_rfl) (by kernel_rfl) BadB.put (Or.inl ⟨by rfl, ?hyat7⟩) (by assumption) ?restat7
          case hyat7 => (intro w hSw; go_simp; all_goals (with_reducible rfl))
          try simp only [Act.put, List.getElem_toArray, List.getElem_cons_zero, List.getElem_cons_succ, List.setIfInBounds_toArray, List.set_cons_zero, List.set_cons_succ]
          refine' wpAnyH_take (i := 8) (oi := _) (v := _) rfl (by kernel_rfl) (by kernel_rfl) (by kernel_rfl) BadB.put (Or.inl ⟨by rfl, ?hyat8⟩) (by assumption) ?restat8
          case hyat8 => (intro w hSw; go_simp; all_goals (with_reducible rfl))
          try simp only [Act.put, List.getElem_toArray, List.getElem_cons_zero, List.getElem_cons_succ, List.setIfInBounds_toArray, List.set_cons_zero, List.set_cons_succ]
          refine wpAnyH_ready (rs := [9]) (by kernel_rfl) (by simp) ?_
          refine AllReadyH.cons (o := _) rfl (fun K hK => ?_) AllReadyH.nil
          rcases hFs with rfl | rfl | rfl | rfl | rfl | rfl | rfl | rfl
          all_goals (
            go_simp
            refine hcd.out.mono ?_
            rintro e w7 ⟨rfl, hb7⟩
            exact ⟨rfl, rfl, (hBd.mono hSx.out.lk.low).trans hb7⟩)
        | ok p1 =>
          refine wp_region_noPanic ?_
          refine wp_region_held_drew (S := (fun X : World => X.cell? ⟨c.lb, 20 + kn, none⟩ = some (fnV F) ∧ X.cell? ⟨wr.heap.size, 0, none⟩ = some (.int .u8 (kn : Int)) ∧ X.cell? ⟨wr.heap.size, 1, none⟩ = some (.string nm) ∧ X.cell? ⟨wr.heap.size, 2, none⟩ = some (.string to) ∧ X.cell? ⟨wr.heap.size, 3, none⟩ = some (.bool new) ∧ X.cell? ⟨wr.heap.size, 4, none⟩ = some (.slice ea e.length ec) ∧ X.cell? ⟨wr.heap.size, 5, none⟩ = some (.slice ba body.length bc) ∧ X.cell? ⟨wr.heap.size, 6, none⟩ = some (.slice la els.length lc) ∧ X.cell? ⟨wr.heap.size, 7, none⟩ = some (.int .i64 pos))) (by kernel_rfl) hS2 (fun hHeld => ?_)
          refine' wpAnyH_take (i := 0) (oi := _) (v := _) rfl (by kernel_rfl) (by kernel_rfl) (by kernel_rfl) (fun _ _ _ h => h) (Or.inl ⟨by rfl, ?hybt0⟩) (by assumption) ?restbt0
          case hybt0 => (intro w hSw; go_simp; all_goals (with_reducible rfl))
          try simp only [Act.put, List.getElem_toArray, List.getElem_cons_zero, List.setIfInBounds_toArray, List.set_cons_zero, List.set_cons_succ]
          refine' wpAnyH_take (i := 1) (oi := _) (v := _) rfl (by kernel_rfl) (by kernel_rfl) (by kernel_rfl) (fun _ _ _ h => h) (Or.inl ⟨by rfl, ?hybt1⟩) (by assumption) ?restbt1
          case hybt1 => (intro w hSw; go_simp; all_goals (with_reducible rfl))
          try simp only [Act.put, List.getElem_toArray, List.getElem_cons_zero, List.getElem_cons_succ, List.setIfInBounds_toArray, List.set_cons_zero, List.set_cons_succ]
          refine' wpAnyH_take (i := 2) (oi := _) (v := _) rfl (by kernel_rfl) (by kernel_rfl) (by kernel_rfl) (fun _ _ _ h => h) (Or.inl ⟨by rfl, ?hybt2⟩) (by assumption) ?restbt2
          case hybt2 => (intro w hSw; go_simp; all_goals (with_reducible rfl))
          try simp only [Act.put, List.getElem_toArray, List.getElem_cons_zero, List.getElem_cons_succ, List.setIfInBounds_toArray, List.set_cons_zero, List.set_cons_succ]
          refine' wpAnyH_take (i := 3) (oi := _) (v := _) rfl (by kernel_rfl) (by kernel_rfl) (by kernel_rfl) (fun _ _ _ h => h) (Or.inl ⟨by rfl, ?hybt3⟩) (by assumption) ?restbt3
          case hybt3 => (intro w hSw; go_simp; all_goals (with_reducible rfl))
          try simp only [Act.put, List.getElem_toArray, List.getElem_cons_zero, List.getElem_cons_succ, List.setIfInBounds_toArray, List.set_cons_zero, List.set_cons_succ]
          refine' wpAnyH_take (i := 4) (oi := _) (v := _) rfl (by kernel_rfl) (by kernel_rfl) (by kernel_rfl) (fun _ _ _ h => h) (Or.inl ⟨by rfl, ?hybt4⟩) (by assumption) ?restbt4
          case hybt4 => (intro w hSw; go_simp; all_goals (with_reducible rfl))
          try simp only [Act.put, List.getElem_toArray, List.getElem_cons_zero, List.getElem_cons_succ, List.setIfInBounds_toArray, List.set_cons_zero, List.set_cons_succ]
          refine' wpAnyH_take (i := 5) (oi := _) (v := _) rfl (by kernel_rfl) (by kernel_rfl) (by kernel_rfl) (fun _ _ _ h => h) (Or.inl ⟨by rfl, ?hybt5⟩) (by assumption) ?restbt5
          case hybt5 => (intro w hSw; go_simp; all_goals (with_reducible rfl))
          try simp only [Act.put, List.getElem_toArray, List.getElem_cons_zero, List.getElem_cons_succ, List.setIfInBounds_toArray, List.set_cons_zero, List.set_cons_succ]
          refine' wpAnyH_take (i := 6) (oi := _) (v := _) rfl (by kernel_rfl) (by kernel_rfl) (by kernel_rfl) (fun _ _ _ h => h) (Or.inl ⟨by rfl, ?hybt6⟩) (by assumption) ?restbt6
          case hybt6 => (intro w hSw; go_simp; all_goals (with_reducible rfl))
          try simp only [Act.put, List.getElem_toArray, List.getElem_cons_zero, List.getElem_cons_succ, List.setIfInBounds_toArray, List.set_cons_zero, List.set_cons_succ]
          refine' wpAnyH_take (i := 7) (oi := _) (v := _) rfl (by kernel_rfl) (by kernel_rfl) (by kernel_rfl) (fun _ _ _ h => h) (Or.inl ⟨by rfl, ?hybt7⟩) (by assumption) ?restbt7
          case hybt7 => (intro w hSw; go_simp; all_goals (with_reducible rfl))
          try simp only [Act.put, List.getElem_toArray, List.getElem_cons_zero, List.getElem_cons_succ, List.setIfInBounds_toArray, List.set_cons_zero, List.set_cons_succ]
          refine' wpAnyH_take (i := 8) (oi := _) (v := _) rfl (by kernel_rfl) (by kernel_rfl) (by kernel_rfl) (fun _ _ _ h => h) (Or.inl ⟨by rfl, ?hybt8⟩) (by assumption) ?restbt8
          case hybt8 => (intro w hSw; go_simp; all_goals (with_reducible rfl))
          try simp only [Act.put, List.getElem_toArray, List.getElem_cons_zero, List.getElem_cons_succ, List.setIfInBounds_toArray, List.set_cons_zero, List.set_cons_succ]
          refine wpAnyH_ready (rs := [9]) (by kernel_rfl) (by simp) ?_
          refine AllReadyH.cons (o := _) rfl (fun K hK => ?_) AllReadyH.nil
          replace hK := Lib.hid hK
          rcases hFs with rfl | rfl | rfl | rfl | rfl | rfl | rfl | rfl
          all_goals (
            go_simp
            refine hcd.out.mono ?_
            rintro e w7 ⟨rfl, s2, hs2, rfl⟩
            have hst := (hSx.out.ext hBd).trans hs2
            have hbx7 := hs2.blk ((hBd.block _ (cells_lt hbn.out)).trans hbn.out) hnew.out
            refine hK.out _ _ (hSF.out _ _ hs2.lk hbx7) (fun hHeld => ?_)
            clear hK K
            try simp only [Act.put, List.setIfInBounds_toArray, List.set_cons_zero, List.set_cons_succ]
            refine wpAnyH_done (by kernel_rfl) ?_ _
            refine NoPanic.normal ?_
            have hr2 := hr'.out
            simp only at hr2
            replace hr2 := Lib.hid hr2
            replace hst := Lib.hid hst
            clear hS2 hHeld hcd hcall cf hbn hSx hs2 hbx7 hSF hBd hr' hnew
            go_wp2_with fail
            go_roundw
            case rel => exact ⟨i + 1, s2, by simp, by omega, hst, hr2⟩
            case measure => (simp [intOf]; omega))
    · have hil : i = l.length := by omega
      subst hil
      have hr' := hri.out
      rw [List.drop_length, listK_nil] at hr'
      subst hr'
      have hi2 : ¬ ((l.length : Int) < (l.length : Int)) := by omega
      clear hri hrow hin hok hsz hX hp
      go_wp2_with fail
      exact ⟨rfl, .tuple #[], by simp [results, Tryz.results136, go_sem], rfl, si, hS.out, rfl⟩
end Go.Proofs.YtpcdlneompnhlaaGreatDoor.Ty
