/- Walks of what Kinds of statements ask: let. Conditions: the looker lies in memory. -/
import Derived.Test.YtpcdlneompnhlaaGreatDoorTyH
namespace Go.Proofs.YtpcdlneompnhlaaGreatDoor.Ty
open Go Go.RowKit
open Go.Proofs.YtpcdlneompnhlaaGreatDoor.Lx Go.Proofs.YtpcdlneompnhlaaGreatDoor.Tr

/-- what a Let asks -/
def letK (ds : List De) (D : List (ByteArray × Nat)) (p : PS) (nm : ByteArray) (x : Ex) (pos : Int) : Except (Int × Int) PS :=
  match exK ds D p.kn x with
  | .error q => .error q
  | .ok t => declK D p nm t pos

set_option maxHeartbeats 2000000 in
set_option maxRecDepth 100000 in
theorem let_c {c : Lc} {s : Ls} {w : World} (k : Int) (nm to : ByteArray) (new : Bool) (ea : Option Addr) (ec : Nat) (e : List Ex) (ba : Option Addr) (bc : Nat) (body : List St) (la : Option Addr) (lc : Nat) (els : List St) (pos : Int) (x : Ex) (hx : e[0]? = some x) (hok : okEL e) (hin : St.In w (fun b => b < c.B) (.mk k nm to new ea ec e ba bc body la lc els pos)) (h : Lk c s w) :
    Calls Tryz.prog 126 #[.pointer (some ⟨c.lb, 0, none⟩), .agg #[.int .u8 k, .string nm, .string to, .bool new, .slice ea e.length ec, .slice ba body.length bc, .slice la els.length lc, .int .i64 pos]] w (PostS c s w (letK c.ds c.D s.ps nm x pos)) := by
  have hb1 := box_lt w (.cells #[.int .u8 k, .string nm, .string to, .bool new, .slice ea e.length ec, .slice ba body.length bc, .slice la els.length lc, .int .i64 pos] 60)
  have hbx : (w.alloc (.cells #[.int .u8 k, .string nm, .string to, .bool new, .slice ea e.length ec, .slice ba body.length bc, .slice la els.length lc, .int .i64 pos] 60)).heap[w.heap.size]? = some (.cells #[.int .u8 k, .string nm, .string to, .bool new, .slice ea e.length ec, .slice ba body.length bc, .slice la els.length lc, .int .i64 pos] 60 (0, 0)) := World.alloc_heap_new w _
  have hnew := h.new_not
  have hlow := h.low
  have h1 := h.ext hb1
  have hs1 := StepS.of_ext h hb1
  unfold St.In at hin
  obtain ⟨_, hn, hto, hpos, herow, hein, hbrow, hbin, hlrow, hlin⟩ := hin
  have hokx := okEL_get hok hx
  have hinx := Ex.InL.get hein hx
  obtain ⟨kx, xn, xm, xa, xc, xl, xp⟩ := x
  have hkx := hokx
  rw [okE_eq] at hkx
  obtain ⟨⟨hk1, hk17, _⟩, _⟩ := hkx
  obtain ⟨kn, rfl⟩ : ∃ kn : Nat, kx = (kn : Int) := ⟨kx.toNat, by omega⟩
  have hlen : (0 : Int) < (e.length : Int) := by have := (List.getElem?_eq_some_iff.1 hx).1; omega
  have hq0 : (0 : Int) ≤ (kn : Int) := by omega
  have hq18 : (kn : Int) < 18 := by omega
  obtain ⟨b, off, ha, hb, e0, e1, e2, e3, e4⟩ := ex_cells (herow.below (Kps.of_below hb1)) 0 kn xn xm xa xc xl xp hx
  simp only [Nat.zero_mul, Nat.add_zero] at e0 e1 e2 e3 e4
  subst ha
  obtain ⟨bx0, bx1, bx2, bx3, bx4, bx5, bx6, bx7⟩ := box_cells hbx
  have hb2 := box_lt (w.alloc (.cells #[.int .u8 k, .string nm, .string to, .bool new, .slice (some ⟨b, off, none⟩) e.length ec, .slice ba body.length bc, .slice la els.length lc, .int .i64 pos] 60)) (.cells #[.int .u8 (kn : Int), .string xn, .int .i64 xm, .slice xa xl.length xc, .int .i64 xp] 62)
  have hx2 : ((w.alloc (.cells #[.int .u8 k, .string nm, .string to, .bool new, .slice (some ⟨b, off, none⟩) e.length ec, .slice ba body.length bc, .slice la els.length lc, .int .i64 pos] 60)).alloc (.cells #[.int .u8 (kn : Int), .string xn, .int .i64 xm, .slice xa xl.length xc, .int .i64 xp] 62)).heap[w.heap.size + 1]? = some (.cells #[.int .u8 (kn : Int), .string xn, .int .i64 xm, .slice xa xl.length xc, .int .i64 xp] 62 (0, 0)) := by
    have := World.alloc_heap_new (w.alloc (.cells #[.int .u8 k, .string nm, .string to, .bool new, .slice (some ⟨b, off, none⟩) e.length ec, .slice ba body.length bc, .slice la els.length lc, .int .i64 pos] 60)) (.cells #[.int .u8 (kn : Int), .string xn, .int .i64 xm, .slice xa xl.length xc, .int .i64 xp] 62)
    rwa [World.size_alloc] at this
  have hbx2 := (hb2.block _ (cells_lt hbx)).trans hbx
  have hs2 := hs1.ext hb2
  have hbw := hb1.trans (hb2.mono hb1.size)
  have hcall := fun (V : World) (hV : Below ((w.alloc (.cells #[.int .u8 k, .string nm, .string to, .bool new, .slice (some ⟨b, off, none⟩) e.length ec, .slice ba body.length bc, .slice la els.length lc, .int .i64 pos] 60)).alloc (.cells #[.int .u8 (kn : Int), .string xn, .int .i64 xm, .slice xa xl.length xc, .int .i64 xp] 62)).heap.size ((w.alloc (.cells #[.int .u8 k, .string nm, .string to, .bool new, .slice (some ⟨b, off, none⟩) e.length ec, .slice ba body.length bc, .slice la els.length lc, .int .i64 pos] 60)).alloc (.cells #[.int .u8 (kn : Int), .string xn, .int .i64 xm, .slice xa xl.length xc, .int .i64 xp] 62)) V) => ex_c (hs2.lk.ext hV) (.mk (kn : Int) xn xm xa xc xl xp) hokx (Ex.In.below (Kps.of_below (hbw.trans (hV.mono hbw.size))) _ hinx)
  have hdecl := fun t (V : World) (hV : Below ((w.alloc (.cells #[.int .u8 k, .string nm, .string to, .bool new, .slice (some ⟨b, off, none⟩) e.length ec, .slice ba body.length bc, .slice la els.length lc, .int .i64 pos] 60)).alloc (.cells #[.int .u8 (kn : Int), .string xn, .int .i64 xm, .slice xa xl.length xc, .int .i64 xp] 62)).heap.size ((w.alloc (.cells #[.int .u8 k, .string nm, .string to, .bool new, .slice (some ⟨b, off, none⟩) e.length ec, .slice ba body.length bc, .slice la els.length lc, .int .i64 pos] 60)).alloc (.cells #[.int .u8 (kn : Int), .string xn, .int .i64 xm, .slice xa xl.length xc, .int .i64 xp] 62)) V) => declare_c (hs2.lk.ext hV) nm hn t pos
  have cf := fun (V : World) (hV : Below ((w.alloc (.cells #[.int .u8 k, .string nm, .string to, .bool new, .slice (some ⟨b, off, none⟩) e.length ec, .slice ba body.length bc, .slice la els.length lc, .int .i64 pos] 60)).alloc (.cells #[.int .u8 (kn : Int), .string xn, .int .i64 xm, .slice xa xl.length xc, .int .i64 xp] 62)).heap.size ((w.alloc (.cells #[.int .u8 k, .string nm, .string to, .bool new, .slice (some ⟨b, off, none⟩) e.length ec, .slice ba body.length bc, .slice la els.length lc, .int .i64 pos] 60)).alloc (.cells #[.int .u8 (kn : Int), .string xn, .int .i64 xm, .slice xa xl.length xc, .int .i64 xp] 62)) V) => lk_cell (hs2.lk.ext hV).blk (ex_fn (c := c) (s := s) (k := kn) (by omega) (by omega))
  generalize hr : letK c.ds c.D s.ps nm (.mk (kn : Int) xn xm xa xc xl xp) pos = r
  unfold letK at hr
  rw [show s.ps.kn = s.kn from rfl] at hr
  generalize exK c.ds c.D s.kn (.mk (kn : Int) xn xm xa xc xl xp) = q at hcall hr
  replace hr := Lib.hid hr
  generalize hF : exF (kindE (.mk (kn : Int) xn xm xa xc xl xp)).toNat = F at hcall
  have hFk : exF kn = F := by rw [← hF]; rfl
  have hFs := exF_cases kn
  rw [hFk] at cf hFs
  have hv : (⟨(Ex.mk (kn : Int) xn xm xa xc xl xp).vals⟩ : Array Value) = #[.int .u8 (kn : Int), .string xn, .int .i64 xm, .slice xa xl.length xc, .int .i64 xp] := rfl
  rw [hv] at hcall
  replace hcall := Lib.hid hcall
  replace hdecl := Lib.hid hdecl
  replace cf := Lib.hid cf
  replace hs2 := Lib.hid hs2
  replace hlow := Lib.hid hlow
  replace hx2 := Lib.hid hx2
  replace hbx2 := Lib.hid hbx2
  have hnewF := Lib.hid (show ¬ Tch c s w.heap.size ∧ ¬ Tch c s (w.heap.size + 1) from ⟨hnew, fun ht => by have := h.tch_lt ht; omega⟩)
  have hkk := Lib.hid (show 1 ≤ kn ∧ kn ≤ 17 by omega)
  replace hFk := Lib.hid hFk
  clear hv hF hokx hinx hb hbw hb2 hs1 hbx hnew h1 h hn hto hpos herow hein hbrow hbin hlrow hlin hok hb1
  go_enter Tryz.func126, Tryz.ntmps126
  go_wp2_with fail
  obtain ⟨W, hW⟩ : ∃ W, (w.alloc (.cells #[.int .u8 k, .string nm, .string to, .bool new, .slice (some ⟨b, off, none⟩) e.length ec, .slice ba body.length bc, .slice la els.length lc, .int .i64 pos] 60)).alloc (.cells #[.int .u8 (kn : Int), .string xn, .int .i64 xm, .slice xa xl.length xc, .int .i64 xp] 62) = W := ⟨_, rfl⟩
  rw [hW] at hcall hdecl cf hs2 hx2 hbx2
  try rw [hW]
  clear hW e0 e1 e2 e3 e4 bx0 bx1 bx2 bx3 bx4 bx5 bx6 bx7
  have hSF : Hid (∀ V, Below W.heap.size W V → (fun X : World => X.cell? ⟨c.lb, 2 + kn, none⟩ = some (fnV F) ∧ X.cell? ⟨w.heap.size, 1, none⟩ = some (.string nm) ∧ X.cell? ⟨w.heap.size, 7, none⟩ = some (.int .i64 pos) ∧ X.cell? ⟨w.heap.size + 1, 0, none⟩ = some (.int .u8 (kn : Int)) ∧ X.cell? ⟨w.heap.size + 1, 1, none⟩ = some (.string xn) ∧ X.cell? ⟨w.heap.size + 1, 2, none⟩ = some (.int .i64 xm) ∧ X.cell? ⟨w.heap.size + 1, 3, none⟩ = some (.slice xa xl.length xc) ∧ X.cell? ⟨w.heap.size + 1, 4, none⟩ = some (.int .i64 xp)) V) := Lib.hid fun V hV => by
    have h5 := (hV.block _ (cells_lt hx2.out)).trans hx2.out
    have h6 := (hV.block _ (cells_lt hbx2.out)).trans hbx2.out
    exact ⟨cf.out V hV, blk_cell h6 rfl, blk_cell h6 rfl, blk_cell h5 rfl, blk_cell h5 rfl, blk_cell h5 rfl, blk_cell h5 rfl, blk_cell h5 rfl⟩
  have hnW : Hid (w.heap.size < W.heap.size ∧ w.heap.size + 1 < W.heap.size) := Lib.hid ⟨cells_lt hbx2.out, cells_lt hx2.out⟩
  have hkeep : Hid (∀ (V V' : World) (s8 : Ls), Below W.heap.size W V → StepS c s V s8 V' → (fun X : World => X.cell? ⟨c.lb, 2 + kn, none⟩ = some (fnV F) ∧ X.cell? ⟨w.heap.size, 1, none⟩ = some (.string nm) ∧ X.cell? ⟨w.heap.size, 7, none⟩ = some (.int .i64 pos) ∧ X.cell? ⟨w.heap.size + 1, 0, none⟩ = some (.int .u8 (kn : Int)) ∧ X.cell? ⟨w.heap.size + 1, 1, none⟩ = some (.string xn) ∧ X.cell? ⟨w.heap.size + 1, 2, none⟩ = some (.int .i64 xm) ∧ X.cell? ⟨w.heap.size + 1, 3, none⟩ = some (.slice xa xl.length xc) ∧ X.cell? ⟨w.heap.size + 1, 4, none⟩ = some (.int .i64 xp)) V → (fun X : World => X.cell? ⟨c.lb, 2 + kn, none⟩ = some (fnV F) ∧ X.cell? ⟨w.heap.size, 1, none⟩ = some (.string nm) ∧ X.cell? ⟨w.heap.size, 7, none⟩ = some (.int .i64 pos) ∧ X.cell? ⟨w.heap.size + 1, 0, none⟩ = some (.int .u8 (kn : Int)) ∧ X.cell? ⟨w.heap.size + 1, 1, none⟩ = some (.string xn) ∧ X.cell? ⟨w.heap.size + 1, 2, none⟩ = some (.int .i64 xm) ∧ X.cell? ⟨w.heap.size + 1, 3, none⟩ = some (.slice xa xl.length xc) ∧ X.cell? ⟨w.heap.size + 1, 4, none⟩ = some (.int .i64 xp)) V') := Lib.hid fun V V' s8 hV h8 hk => by
    have n1 : ¬ Tch c s w.heap.size := hnewF.out.1
    have n2 : ¬ Tch c s (w.heap.size + 1) := hnewF.out.2
    have h5 := h8.blk ((hV.block _ (cells_lt hx2.out)).trans hx2.out) n2
    have h6 := h8.blk ((hV.block _ (cells_lt hbx2.out)).trans hbx2.out) n1
    refine ⟨?_, blk_cell h6 rfl, blk_cell h6 rfl, blk_cell h5 rfl, blk_cell h5 rfl, blk_cell h5 rfl, blk_cell h5 rfl, blk_cell h5 rfl⟩
    have h7 := lk_cell h8.lk.blk (ex_fn (c := c) (s := s8) (k := kn) hkk.out.1 hkk.out.2)
    rw [hFk.out] at h7
    exact h7
  have hBd : Below W.heap.size W W.drew := (Below.refl _ _).drew
  have hS := hSF.out _ hBd
  have hfd := Lib.hid (hcall.out _ hBd)
  have hlw := hs2.out.lk.low
  have hBc := Lib.hid (fun V (hV : Below c.B W V) => hs2.out.below.trans hV)
  have hhl := Lib.hid hlw
  clear hcall cf hx2 hbx2 hlw hnewF hkk hFk
  cases q with
  | error p =>
    have hr2 := hr.out
    simp only at hr2
    subst hr2
    refine Code.wp_mono (Q := BadB p c.B W) ?_ ?_
    · rintro e a w7 ⟨rfl, hd, hE7⟩
      exact ⟨hd, rfl, hBc.out _ hE7⟩
    refine wp_region_held_drew (S := (fun X : World => X.cell? ⟨c.lb, 2 + kn, none⟩ = some (fnV F) ∧ X.cell? ⟨w.heap.size, 1, none⟩ = some (.string nm) ∧ X.cell? ⟨w.heap.size, 7, none⟩ = some (.int .i64 pos) ∧ X.cell? ⟨w.heap.size + 1, 0, none⟩ = some (.int .u8 (kn : Int)) ∧ X.cell? ⟨w.heap.size + 1, 1, none⟩ = some (.string xn) ∧ X.cell? ⟨w.heap.size + 1, 2, none⟩ = some (.int .i64 xm) ∧ X.cell? ⟨w.heap.size + 1, 3, none⟩ = some (.slice xa xl.length xc) ∧ X.cell? ⟨w.heap.size + 1, 4, none⟩ = some (.int .i64 xp))) (by kernel_rfl) hS (fun hHeld => ?_)
    refine' wpAnyH_take (i := 0) (oi := _) (v := _) rfl (by kernel_rfl) (by kernel_rfl) (by kernel_rfl) BadB.put (Or.inl ⟨by rfl, ?hya0⟩) (by assumption) ?resta0
    case hya0 => (intro w hSw; go_simp; all_goals (with_reducible rfl))
    try simp only [Act.put, List.getElem_toArray, List.getElem_cons_zero, List.setIfInBounds_toArray, List.set_cons_zero, List.set_cons_succ]
    refine' wpAnyH_take (i := 1) (oi := _) (v := _) rfl (by kernel_rfl) (by kernel_rfl) (by kernel_rfl) BadB.put (Or.inl ⟨by rfl, ?hya1⟩) (by assumption) ?resta1
    case hya1 => (intro w hSw; go_simp; all_goals (with_reducible rfl))
    try simp only [Act.put, List.getElem_toArray, List.getElem_cons_zero, List.getElem_cons_succ, List.setIfInBounds_toArray, List.set_cons_zero, List.set_cons_succ]
    refine' wpAnyH_take (i := 2) (oi := _) (v := _) rfl (by kernel_rfl) (by kernel_rfl) (by kernel_rfl) BadB.put (Or.inl ⟨by rfl, ?hya2⟩) (by assumption) ?resta2
    case hya2 => (intro w hSw; go_simp; all_goals (with_reducible rfl))
    try simp only [Act.put, List.getElem_toArray, List.getElem_cons_zero, List.getElem_cons_succ, List.setIfInBounds_toArray, List.set_cons_zero, List.set_cons_succ]
    refine' wpAnyH_take (i := 3) (oi := _) (v := _) rfl (by kernel_rfl) (by kernel_rfl) (by kernel_rfl) BadB.put (Or.inl ⟨by rfl, ?hya3⟩) (by assumption) ?resta3
    case hya3 => (intro w hSw; go_simp; all_goals (with_reducible rfl))
    try simp only [Act.put, List.getElem_toArray, List.getElem_cons_zero, List.getElem_cons_succ, List.setIfInBounds_toArray, List.set_cons_zero, List.set_cons_succ]
    refine' wpAnyH_take (i := 4) (oi := _) (v := _) rfl (by kernel_rfl) (by kernel_rfl) (by kernel_rfl) BadB.put (Or.inl ⟨by rfl, ?hya4⟩) (by assumption) ?resta4
    case hya4 => (intro w hSw; go_simp; all_goals (with_reducible rfl))
    try simp only [Act.put, List.getElem_toArray, List.getElem_cons_zero, List.getElem_cons_succ, List.setIfInBounds_toArray, List.set_cons_zero, List.set_cons_succ]
    refine' wpAnyH_take (i := 5) (oi := _) (v := _) rfl (by kernel_rfl) (by kernel_rfl) (by kernel_rfl) BadB.put (Or.inl ⟨by rfl, ?hya5⟩) (by assumption) ?resta5
    case hya5 => (intro w hSw; go_simp; all_goals (with_reducible rfl))
    try simp only [Act.put, List.getElem_toArray, List.getElem_cons_zero, List.getElem_cons_succ, List.setIfInBounds_toArray, List.set_cons_zero, List.set_cons_succ]
    refine' wpAnyH_take (i := 6) (oi := _) (v := _) rfl (by kernel_rfl) (by kernel_rfl) (by kernel_rfl) BadB.put (Or.inl ⟨by rfl, ?hya6⟩) (by assumption) ?resta6
    case hya6 => (intro w hSw; go_simp; all_goals (with_reducible rfl))
    try simp only [Act.put, List.getElem_toArray, List.getElem_cons_zero, List.getElem_cons_succ, List.setIfInBounds_toArray, List.set_cons_zero, List.set_cons_succ]
    refine' wpAnyH_take (i := 7) (oi := _) (v := _) rfl (by kernel_rfl) (by kernel_rfl) (by kernel_rfl) BadB.put (Or.inl ⟨by rfl, ?hya7⟩) (by assumption) ?resta7
    case hya7 => (intro w hSw; go_simp; all_goals (with_reducible rfl))
    try simp only [Act.put, List.getElem_toArray, List.getElem_cons_zero, List.getElem_cons_succ, List.setIfInBounds_toArray, List.set_cons_zero, List.set_cons_succ]
    refine' wpAnyH_take (i := 8) (oi := _) (v := _) rfl (by kernel_rfl) (by kernel_rfl) (by kernel_rfl) BadB.put (Or.inl ⟨by rfl, ?hya8⟩) (by assumption) ?resta8
    case hya8 => (intro w hSw; go_simp; all_goals (with_reducible rfl))
    try simp only [Act.put, List.getElem_toArray, List.getElem_cons_zero, List.getElem_cons_succ, List.setIfInBounds_toArray, List.set_cons_zero, List.set_cons_succ]
    refine' wpAnyH_take (i := 9) (oi := _) (v := _) rfl (by kernel_rfl) (by kernel_rfl) (by kernel_rfl) BadB.put (Or.inl ⟨by rfl, ?hya9⟩) (by assumption) ?resta9
    case hya9 => (intro w hSw; go_simp; all_goals (with_reducible rfl))
    try simp only [Act.put, List.getElem_toArray, List.getElem_cons_zero, List.getElem_cons_succ, List.setIfInBounds_toArray, List.set_cons_zero, List.set_cons_succ]
    refine' wpAnyH_take (i := 10) (oi := _) (v := _) rfl (by kernel_rfl) (by kernel_rfl) (by kernel_rfl) BadB.put (Or.inl ⟨by rfl, ?hya10⟩) (by assumption) ?resta10
    case hya10 => (intro w hSw; go_simp; all_goals (with_reducible rfl))
    try simp only [Act.put, List.getElem_toArray, List.getElem_cons_zero, List.getElem_cons_succ, List.setIfInBounds_toArray, List.set_cons_zero, List.set_cons_succ]
    refine' wpAnyH_take (i := 11) (oi := _) (v := _) rfl (by kernel_rfl) (by kernel_rfl) (by kernel_rfl) BadB.put (Or.inl ⟨by rfl, ?hya11⟩) (by assumption) ?resta11
    case hya11 => (intro w hSw; go_simp; all_goals (with_reducible rfl))
    try simp only [Act.put, List.getElem_toArray, List.getElem_cons_zero, List.getElem_cons_succ, List.setIfInBounds_toArray, List.set_cons_zero, List.set_cons_succ]
    refine' wpAnyH_take (i := 13) (oi := _) (v := _) rfl (by kernel_rfl) (by kernel_rfl) (by kernel_rfl) BadB.put (Or.inl ⟨by rfl, ?hya13⟩) (by assumption) ?resta13
    case hya13 => (intro w hSw; go_simp; all_goals (with_reducible rfl))
    try simp only [Act.put, List.getElem_toArray, List.getElem_cons_zero, List.getElem_cons_succ, List.setIfInBounds_toArray, List.set_cons_zero, List.set_cons_succ]
    refine' wpAnyH_take (i := 14) (oi := _) (v := _) rfl (by kernel_rfl) (by kernel_rfl) (by kernel_rfl) BadB.put (Or.inl ⟨by rfl, ?hya14⟩) (by assumption) ?resta14
    case hya14 => (intro w hSw; go_simp; all_goals (with_reducible rfl))
    try simp only [Act.put, List.getElem_toArray, List.getElem_cons_zero, List.getElem_cons_succ, List.setIfInBounds_toArray, List.set_cons_zero, List.set_cons_succ]
    refine wpAnyH_ready (rs := [12]) (by kernel_rfl) (by simp) ?_
    refine AllReadyH.cons (o := _) rfl (fun K hK => ?_) AllReadyH.nil
    rcases hFs with rfl | rfl | rfl | rfl | rfl
    all_goals (
      go_simp
      refine hfd.out.mono ?_
      rintro e w7 ⟨hb7, rfl⟩
      exact ⟨rfl, rfl, (hBd.trans hb7).mono hhl.out⟩)
  | ok t =>
    have hr2 := hr.out
    simp only at hr2
    clear hr
    have hdd := Lib.hid (fun V (hV : Below W.heap.size W V) => hdecl.out t V hV)
    clear hdecl
    rw [hr2] at hdd
    clear hr2
    cases r with
    | error p =>
      refine Code.wp_mono (Q := BadB p c.B W) ?_ ?_
      · rintro e a w7 ⟨rfl, hd, hE7⟩
        exact ⟨hd, rfl, hBc.out _ hE7⟩
      refine wp_region_held_drew (S := (fun X : World => X.cell? ⟨c.lb, 2 + kn, none⟩ = some (fnV F) ∧ X.cell? ⟨w.heap.size, 1, none⟩ = some (.string nm) ∧ X.cell? ⟨w.heap.size, 7, none⟩ = some (.int .i64 pos) ∧ X.cell? ⟨w.heap.size + 1, 0, none⟩ = some (.int .u8 (kn : Int)) ∧ X.cell? ⟨w.heap.size + 1, 1, none⟩ = some (.string xn) ∧ X.cell? ⟨w.heap.size + 1, 2, none⟩ = some (.int .i64 xm) ∧ X.cell? ⟨w.heap.size + 1, 3, none⟩ = some (.slice xa xl.length xc) ∧ X.cell? ⟨w.heap.size + 1, 4, none⟩ = some (.int .i64 xp))) (by kernel_rfl) hS (fun hHeld => ?_)
      refine' wpAnyH_take (i := 0) (oi := _) (v := _) rfl (by kernel_rfl) (by kernel_rfl) (by kernel_rfl) BadB.put (Or.inl ⟨by rfl, ?hyb0⟩) (by assumption) ?restb0
      case hyb0 => (intro w hSw; go_simp; all_goals (with_reducible rfl))
      try simp only [Act.put, List.getElem_toArray, List.getElem_cons_zero, List.setIfInBounds_toArray, List.set_cons_zero, List.set_cons_succ]
      refine' wpAnyH_take (i := 1) (oi := _) (v := _) rfl (by kernel_rfl) (by kernel_rfl) (by kernel_rfl) BadB.put (Or.inl ⟨by rfl, ?hyb1⟩) (by assumption) ?restb1
      case hyb1 => (intro w hSw; go_simp; all_goals (with_reducible rfl))
      try simp only [Act.put, List.getElem_toArray, List.getElem_cons_zero, List.getElem_cons_succ, List.setIfInBounds_toArray, List.set_cons_zero, List.set_cons_succ]
      refine' wpAnyH_take (i := 2) (oi := _) (v := _) rfl (by kernel_rfl) (by kernel_rfl) (by kernel_rfl) BadB.put (Or.inl ⟨by rfl, ?hyb2⟩) (by assumption) ?restb2
      case hyb2 => (intro w hSw; go_simp; all_goals (with_reducible rfl))
      try simp only [Act.put, List.getElem_toArray, List.getElem_cons_zero, List.getElem_cons_succ, List.setIfInBounds_toArray, List.set_cons_zero, List.set_cons_succ]
      refine' wpAnyH_take (i := 3) (oi := _) (v := _) rfl (by kernel_rfl) (by kernel_rfl) (by kernel_rfl) BadB.put (Or.inl ⟨by rfl, ?hyb3⟩) (by assumption) ?restb3
      case hyb3 => (intro w hSw; go_simp; all_goals (with_reducible rfl))
      try simp only [Act.put, List.getElem_toArray, List.getElem_cons_zero, List.getElem_cons_succ, List.setIfInBounds_toArray, List.set_cons_zero, List.set_cons_succ]
      refine' wpAnyH_take (i := 4) (oi := _) (v := _) rfl (by kernel_rfl) (by kernel_rfl) (by kernel_rfl) BadB.put (Or.inl ⟨by rfl, ?hyb4⟩) (by assumption) ?restb4
      case hyb4 => (intro w hSw; go_simp; all_goals (with_reducible rfl))
      try simp only [Act.put, List.getElem_toArray, List.getElem_cons_zero, List.getElem_cons_succ, List.setIfInBounds_toArray, List.set_cons_zero, List.set_cons_succ]
      refine' wpAnyH_take (i := 5) (oi := _) (v := _) rfl (by kernel_rfl) (by kernel_rfl) (by kernel_rfl) BadB.put (Or.inl ⟨by rfl, ?hyb5⟩) (by assumption) ?restb5
      case hyb5 => (intro w hSw; go_simp; all_goals (with_reducible rfl))
      try simp only [Act.put, List.getElem_toArray, List.getElem_cons_zero, List.getElem_cons_succ, List.setIfInBounds_toArray, List.set_cons_zero, List.set_cons_succ]
      refine' wpAnyH_take (i := 6) (oi := _) (v := _) rfl (by kernel_rfl) (by kernel_rfl) (by kernel_rfl) BadB.put (Or.inl ⟨by rfl, ?hyb6⟩) (by assumption) ?restb6
      case hyb6 => (intro w hSw; go_simp; all_goals (with_reducible rfl))
      try simp only [Act.put, List.getElem_toArray, List.getElem_cons_zero, List.getElem_cons_succ, List.setIfInBounds_toArray, List.set_cons_zero, List.set_cons_succ]
      refine' wpAnyH_take (i := 7) (oi := _) (v := _) rfl (by kernel_rfl) (by kernel_rfl) (by kernel_rfl) BadB.put (Or.inl ⟨by rfl, ?hyb7⟩) (by assumption) ?restb7
      case hyb7 => (intro w hSw; go_simp; all_goals (with_reducible rfl))
      try simp only [Act.put, List.getElem_toArray, List.getElem_cons_zero, List.getElem_cons_succ, List.setIfInBounds_toArray, List.set_cons_zero, List.set_cons_succ]
      refine' wpAnyH_take (i := 8) (oi := _) (v := _) rfl (by kernel_rfl) (by kernel_rfl) (by kernel_rfl) BadB.put (Or.inl ⟨by rfl, ?hyb8⟩) (by assumption) ?restb8
      case hyb8 => (intro w hSw; go_simp; all_goals (with_reducible rfl))
      try simp only [Act.put, List.getElem_toArray, List.getElem_cons_zero, List.getElem_cons_succ, List.setIfInBounds_toArray, List.set_cons_zero, List.set_cons_succ]
      refine' wpAnyH_take (i := 9) (oi := _) (v := _) rfl (by kernel_rfl) (by kernel_rfl) (by kernel_rfl) BadB.put (Or.inl ⟨by rfl, ?hyb9⟩) (by assumption) ?restb9
      case hyb9 => (intro w hSw; go_simp; all_goals (with_reducible rfl))
      try simp only [Act.put, List.getElem_toArray, List.getElem_cons_zero, List.getElem_cons_succ, List.setIfInBounds_toArray, List.set_cons_zero, List.set_cons_succ]
      refine' wpAnyH_take (i := 10) (oi := _) (v := _) rfl (by kernel_rfl) (by kernel_rfl) (by kernel_rfl) BadB.put (Or.inl ⟨by rfl, ?hyb10⟩) (by assumption) ?restb10
      case hyb10 => (intro w hSw; go_simp; all_goals (with_reducible rfl))
      try simp only [Act.put, List.getElem_toArray, List.getElem_cons_zero, List.getElem_cons_succ, List.setIfInBounds_toArray, List.set_cons_zero, List.set_cons_succ]
      refine' wpAnyH_take (i := 11) (oi := _) (v := _) rfl (by kernel_rfl) (by kernel_rfl) (by kernel_rfl) BadB.put (Or.inl ⟨by rfl, ?hyb11⟩) (by assumption) ?restb11
      case hyb11 => (intro w hSw; go_simp; all_goals (with_reducible rfl))
      try simp only [Act.put, List.getElem_toArray, List.getElem_cons_zero, List.getElem_cons_succ, List.setIfInBounds_toArray, List.set_cons_zero, List.set_cons_succ]
      refine' wpAnyH_take (i := 13) (oi := _) (v := _) rfl (by kernel_rfl) (by kernel_rfl) (by kernel_rfl) BadB.put (Or.inl ⟨by rfl, ?hyb13⟩) (by assumption) ?restb13
      case hyb13 => (intro w hSw; go_simp; all_goals (with_reducible rfl))
      try simp only [Act.put, List.getElem_toArray, List.getElem_cons_zero, List.getElem_cons_succ, List.setIfInBounds_toArray, List.set_cons_zero, List.set_cons_succ]
      refine' wpAnyH_take (i := 14) (oi := _) (v := _) rfl (by kernel_rfl) (by kernel_rfl) (by kernel_rfl) BadB.put (Or.inl ⟨by rfl, ?hyb14⟩) (by assumption) ?restb14
      case hyb14 => (intro w hSw; go_simp; all_goals (with_reducible rfl))
      try simp only [Act.put, List.getElem_toArray, List.getElem_cons_zero, List.getElem_cons_succ, List.setIfInBounds_toArray, List.set_cons_zero, List.set_cons_succ]
      refine wpAnyH_ready (rs := [12]) (by kernel_rfl) (by simp) ?_
      refine AllReadyH.cons (o := _) rfl (fun K hK => ?_) AllReadyH.nil
      replace hK := Lib.hid hK
      rcases hFs with rfl | rfl | rfl | rfl | rfl
      all_goals (
        go_simp
        refine hfd.out.mono ?_
        rintro e w7 ⟨hb7, rfl⟩
        have hB7 := hBd.trans hb7
        refine hK.out _ _ (hSF.out _ hB7) (fun hHeld => ?_)
        clear hK K
        try simp only [Act.put, List.setIfInBounds_toArray, List.set_cons_zero, List.set_cons_succ]
        refine wpAnyH_ready (rs := [15]) (by kernel_rfl) (by simp) ?_
        refine AllReadyH.cons (o := _) rfl (fun K hK => ?_) AllReadyH.nil
        replace hK := Lib.hid hK
        go_simp
        refine (hdd.out _ hB7).mono ?_
        rintro e w8 ⟨rfl, hb8⟩
        exact ⟨rfl, rfl, (hB7.mono hhl.out).trans hb8⟩)
    | ok p1 =>
      refine wp_region_noPanic ?_
      refine wp_region_held_drew (S := (fun X : World => X.cell? ⟨c.lb, 2 + kn, none⟩ = some (fnV F) ∧ X.cell? ⟨w.heap.size, 1, none⟩ = some (.string nm) ∧ X.cell? ⟨w.heap.size, 7, none⟩ = some (.int .i64 pos) ∧ X.cell? ⟨w.heap.size + 1, 0, none⟩ = some (.int .u8 (kn : Int)) ∧ X.cell? ⟨w.heap.size + 1, 1, none⟩ = some (.string xn) ∧ X.cell? ⟨w.heap.size + 1, 2, none⟩ = some (.int .i64 xm) ∧ X.cell? ⟨w.heap.size + 1, 3, none⟩ = some (.slice xa xl.length xc) ∧ X.cell? ⟨w.heap.size + 1, 4, none⟩ = some (.int .i64 xp))) (by kernel_rfl) hS (fun hHeld => ?_)
      refine' wpAnyH_take (i := 0) (oi := _) (v := _) rfl (by kernel_rfl) (by kernel_rfl) (by kernel_rfl) (fun _ _ _ h => h) (Or.inl ⟨by rfl, ?hyc0⟩) (by assumption) ?restc0
      case hyc0 => (intro w hSw; go_simp; all_goals (with_reducible rfl))
      try simp only [Act.put, List.getElem_toArray, List.getElem_cons_zero, List.setIfInBounds_toArray, List.set_cons_zero, List.set_cons_succ]
      refine' wpAnyH_take (i := 1) (oi := _) (v := _) rfl (by kernel_rfl) (by kernel_rfl) (by kernel_rfl) (fun _ _ _ h => h) (Or.inl ⟨by rfl, ?hyc1⟩) (by assumption) ?restc1
      case hyc1 => (intro w hSw; go_simp; all_goals (with_reducible rfl))
      try simp only [Act.put, List.getElem_toArray, List.getElem_cons_zero, List.getElem_cons_succ, List.setIfInBounds_toArray, List.set_cons_zero, List.set_cons_succ]
      refine' wpAnyH_take (i := 2) (oi := _) (v := _) rfl (by kernel_rfl) (by kernel_rfl) (by kernel_rfl) (fun _ _ _ h => h) (Or.inl ⟨by rfl, ?hyc2⟩) (by assumption) ?restc2
      case hyc2 => (intro w hSw; go_simp; all_goals (with_reducible rfl))
      try simp only [Act.put, List.getElem_toArray, List.getElem_cons_zero, List.getElem_cons_succ, List.setIfInBounds_toArray, List.set_cons_zero, List.set_cons_succ]
      refine' wpAnyH_take (i := 3) (oi := _) (v := _) rfl (by kernel_rfl) (by kernel_rfl) (by kernel_rfl) (fun _ _ _ h => h) (Or.inl ⟨by rfl, ?hyc3⟩) (by assumption) ?restc3
      case hyc3 => (intro w hSw; go_simp; all_goals (with_reducible rfl))
      try simp only [Act.put, List.getElem_toArray, List.getElem_cons_zero, List.getElem_cons_succ, List.setIfInBounds_toArray, List.set_cons_zero, List.set_cons_succ]
      refine' wpAnyH_take (i := 4) (oi := _) (v := _) rfl (by kernel_rfl) (by kernel_rfl) (by kernel_rfl) (fun _ _ _ h => h) (Or.inl ⟨by rfl, ?hyc4⟩) (by assumption) ?restc4
      case hyc4 => (intro w hSw; go_simp; all_goals (with_reducible rfl))
      try simp only [Act.put, List.getElem_toArray, List.getElem_cons_zero, List.getElem_cons_succ, List.setIfInBounds_toArray, List.set_cons_zero, List.set_cons_succ]
      refine' wpAnyH_take (i := 5) (oi := _) (v := _) rfl (by kernel_rfl) (by kernel_rfl) (by kernel_rfl) (fun _ _ _ h => h) (Or.inl ⟨by rfl, ?hyc5⟩) (by assumption) ?restc5
      case hyc5 => (intro w hSw; go_simp; all_goals (with_reducible rfl))
      try simp only [Act.put, List.getElem_toArray, List.getElem_cons_zero, List.getElem_cons_succ, List.setIfInBounds_toArray, List.set_cons_zero, List.set_cons_succ]
      refine' wpAnyH_take (i := 6) (oi := _) (v := _) rfl (by kernel_rfl) (by kernel_rfl) (by kernel_rfl) (fun _ _ _ h => h) (Or.inl ⟨by rfl, ?hyc6⟩) (by assumption) ?restc6
      case hyc6 => (intro w hSw; go_simp; all_goals (with_reducible rfl))
      try simp only [Act.put, List.getElem_toArray, List.getElem_cons_zero, List.getElem_cons_succ, List.setIfInBounds_toArray, List.set_cons_zero, List.set_cons_succ]
      refine' wpAnyH_take (i := 7) (oi := _) (v := _) rfl (by kernel_rfl) (by kernel_rfl) (by kernel_rfl) (fun _ _ _ h => h) (Or.inl ⟨by rfl, ?hyc7⟩) (by assumption) ?restc7
      case hyc7 => (intro w hSw; go_simp; all_goals (with_reducible rfl))
      try simp only [Act.put, List.getElem_toArray, List.getElem_cons_zero, List.getElem_cons_succ, List.setIfInBounds_toArray, List.set_cons_zero, List.set_cons_succ]
      refine' wpAnyH_take (i := 8) (oi := _) (v := _) rfl (by kernel_rfl) (by kernel_rfl) (by kernel_rfl) (fun _ _ _ h => h) (Or.inl ⟨by rfl, ?hyc8⟩) (by assumption) ?restc8
      case hyc8 => (intro w hSw; go_simp; all_goals (with_reducible rfl))
      try simp only [Act.put, List.getElem_toArray, List.getElem_cons_zero, List.getElem_cons_succ, List.setIfInBounds_toArray, List.set_cons_zero, List.set_cons_succ]
      refine' wpAnyH_take (i := 9) (oi := _) (v := _) rfl (by kernel_rfl) (by kernel_rfl) (by kernel_rfl) (fun _ _ _ h => h) (Or.inl ⟨by rfl, ?hyc9⟩) (by assumption) ?restc9
      case hyc9 => (intro w hSw; go_simp; all_goals (with_reducible rfl))
      try simp only [Act.put, List.getElem_toArray, List.getElem_cons_zero, List.getElem_cons_succ, List.setIfInBounds_toArray, List.set_cons_zero, List.set_cons_succ]
      refine' wpAnyH_take (i := 10) (oi := _) (v := _) rfl (by kernel_rfl) (by kernel_rfl) (by kernel_rfl) (fun _ _ _ h => h) (Or.inl ⟨by rfl, ?hyc10⟩) (by assumption) ?restc10
      case hyc10 => (intro w hSw; go_simp; all_goals (with_reducible rfl))
      try simp only [Act.put, List.getElem_toArray, List.getElem_cons_zero, List.getElem_cons_succ, List.setIfInBounds_toArray, List.set_cons_zero, List.set_cons_succ]
      refine' wpAnyH_take (i := 11) (oi := _) (v := _) rfl (by kernel_rfl) (by kernel_rfl) (by kernel_rfl) (fun _ _ _ h => h) (Or.inl ⟨by rfl, ?hyc11⟩) (by assumption) ?restc11
      case hyc11 => (intro w hSw; go_simp; all_goals (with_reducible rfl))
      try simp only [Act.put, List.getElem_toArray, List.getElem_cons_zero, List.getElem_cons_succ, List.setIfInBounds_toArray, List.set_cons_zero, List.set_cons_succ]
      refine' wpAnyH_take (i := 13) (oi := _) (v := _) rfl (by kernel_rfl) (by kernel_rfl) (by kernel_rfl) (fun _ _ _ h => h) (Or.inl ⟨by rfl, ?hyc13⟩) (by assumption) ?restc13
      case hyc13 => (intro w hSw; go_simp; all_goals (with_reducible rfl))
      try simp only [Act.put, List.getElem_toArray, List.getElem_cons_zero, List.getElem_cons_succ, List.setIfInBounds_toArray, List.set_cons_zero, List.set_cons_succ]
      refine' wpAnyH_take (i := 14) (oi := _) (v := _) rfl (by kernel_rfl) (by kernel_rfl) (by kernel_rfl) (fun _ _ _ h => h) (Or.inl ⟨by rfl, ?hyc14⟩) (by assumption) ?restc14
      case hyc14 => (intro w hSw; go_simp; all_goals (with_reducible rfl))
      try simp only [Act.put, List.getElem_toArray, List.getElem_cons_zero, List.getElem_cons_succ, List.setIfInBounds_toArray, List.set_cons_zero, List.set_cons_succ]
      refine wpAnyH_ready (rs := [12]) (by kernel_rfl) (by simp) ?_
      refine AllReadyH.cons (o := _) rfl (fun K hK => ?_) AllReadyH.nil
      replace hK := Lib.hid hK
      have hnt := Lib.hid (fun V (hV : Below W.heap.size W V) => (hs2.out.ext hV))
      have hnw1 : Hid (w.heap.size < W.heap.size ∧ w.heap.size + 1 < W.heap.size) := hnW
      rcases hFs with rfl | rfl | rfl | rfl | rfl
      all_goals (
        go_simp
        refine hfd.out.mono ?_
        rintro e w7 ⟨hb7, rfl⟩
        have hB7 := hBd.trans hb7
        refine hK.out _ _ (hSF.out _ hB7) (fun hHeld => ?_)
        clear hK K
        try simp only [Act.put, List.setIfInBounds_toArray, List.set_cons_zero, List.set_cons_succ]
        refine wpAnyH_ready (rs := [15]) (by kernel_rfl) (by simp) ?_
        refine AllReadyH.cons (o := _) rfl (fun K hK => ?_) AllReadyH.nil
        replace hK := Lib.hid hK
        go_simp
        refine (hdd.out _ hB7).mono ?_
        rintro e w8 ⟨rfl, s8, hs8, rfl⟩
        have hst := (hs2.out.ext hB7).trans hs8
        refine hK.out _ _ ?_ (fun hHeld => ?_)
        · have hk7 := hSF.out _ hB7
          exact hkeep.out _ _ _ hB7 hs8 hk7
        clear hK K
        try simp only [Act.put, List.setIfInBounds_toArray, List.set_cons_zero, List.set_cons_succ]
        refine wpAnyH_done (by kernel_rfl) ?_ _
        refine NoPanic.normal ?_
        replace hst := Lib.hid hst
        clear hS hSF hHeld hb7 hB7 hBd hfd hdd hs2 hBc hs8 hnt hnw1 hkeep
        go_wp2_with fail
        exact ⟨rfl, .tuple #[], by simp [results, Tryz.results126, go_sem], rfl, s8, hst.out, rfl⟩)
end Go.Proofs.YtpcdlneompnhlaaGreatDoor.Ty
