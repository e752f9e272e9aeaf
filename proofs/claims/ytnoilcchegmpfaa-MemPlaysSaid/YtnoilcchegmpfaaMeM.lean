/- Walk of awake. Conditions: none. -/
import Derived.Test.YtnoilcchegmpfaaMeL
namespace Go.Proofs.Ytnoilcchegmpfaa.Me
open Go Go.RowKit

theorem Row.In.below {w w' : World} {r : Row} (h : r.In w) (hb : Below w.heap.size w w') : r.In w' := h.keep (hb.block _ h.lt)
theorem Cs.below {w w' : World} {g B : Nat} {R : List Row} (h : Cs w g B R) (hb : Below w.heap.size w w') : Cs w' g B R :=
  ⟨(hb.block _ (cells_lt h.blk)).trans h.blk, fun r hr => ⟨(h.rows r hr).1.below hb, (h.rows r hr).2⟩, h.nd⟩
theorem one_row {R : List Row} {l : List Int} (h : R.map Row.l = [l]) : ∃ r, R = [r] ∧ r.l = l := by
  match R, h with
  | [r], h => exact ⟨r, rfl, by simpa using h⟩
def lit1 : List Gm := [⟨⟨#[]⟩, 2, 7⟩]
theorem lit1_row (w : World) : RowAt (w.alloc (.cells #[.string ⟨#[]⟩, .int .i64 2, .int .i64 7] 41)) (fun _ => True) (some ⟨w.heap.size, 0, none⟩) 1 lit1.length (gmCells lit1) := by
  refine ⟨Nat.le_refl _, by unfold maxLen; omega, (fun h => nomatch h), fun j u hj => ⟨w.heap.size, 0, rfl, trivial, ?_⟩⟩
  rw [Nat.zero_add]
  refine blk_cell (MapKept.heap_alloc w _).1 ?_
  simpa [gmCells, lit1, Gm.vals] using hj
theorem New_lit1 (w : World) : Calls Try.prog 5 #[.slice (some ⟨w.heap.size, 0, none⟩) 1 1, .int .i64 1] (w.alloc (.cells #[.string ⟨#[]⟩, .int .i64 2, .int .i64 7] 41)) fun e w' => ∃ m : Mm, e = .returned (.tuple #[.pointer (some ⟨m.mb, 0, none⟩), .int .i64 0]) ∧ m.In w' ∧ m.C = [[7, 7]] ∧ m.locks = 1 ∧ m.h = (fun _ => none) ∧ m.n = 0 ∧ (∀ b, m.foot b → w.heap.size ≤ b) ∧ Below w.heap.size w w' := by
  refine (New_c lit1 1 (some ⟨w.heap.size, 0, none⟩) 1 (w.alloc (.cells #[.string ⟨#[]⟩, .int .i64 2, .int .i64 7] 41)) (lit1_row w) (by decide)).mono ?_
  rintro e w' ⟨hb, h⟩
  rw [if_neg (by decide), if_neg (by decide)] at h
  obtain ⟨m, h1, h2, h3, h4, h5, h6, h7⟩ := h
  have hs : w.heap.size ≤ (w.alloc (.cells #[.string ⟨#[]⟩, .int .i64 2, .int .i64 7] 41)).heap.size := by simp
  exact ⟨m, h7, h1, h2, h3, h4, h5, fun b hb => Nat.le_trans hs (h6 b hb), (b_alloc w _).trans (hb.mono hs)⟩
set_option maxHeartbeats 4000000 in
set_option maxRecDepth 100000 in
theorem awake_c (w : World) : Calls Try.prog 4 #[] w fun e w' => e = .returned (.bool true) ∧ Below w.heap.size w w' := by
  have hN := Lib.hid (New_lit1 w)
  go_enter Try.func4, Try.ntmps4
  go_upto_region 2 with (go_at_call 5; refine hN.out.mono ?_; rintro e w1 ⟨m, rfl, h1, h2, h3, h4, h5, h6, hb1⟩)
  have hS : Hid (Calls Try.prog 13 #[.pointer (some ⟨m.mb, 0, none⟩), .int .i64 0, .int .i64 1, .int .i64 5] w1 fun e w' => e = .returned (.int .i64 0) ∧ ∃ m' : Mm, m'.mb = m.mb ∧ m'.In w' ∧ m'.C = [[7, 5]] ∧ m'.locks = 1 ∧ m'.h = (fun _ => none) ∧ m'.n = 0 ∧ (∀ b, m'.foot b → w.heap.size ≤ b) ∧ Below w.heap.size w w') := Lib.hid ((Set_c h1 0 1 5).mono (by
    rintro e w' ⟨q1, m', q2, q3, q4, q5, q6, q7, q8, q9, q10⟩
    rw [h2] at q1 q3
    exact ⟨q1, m', q7, q2, q3, q5.trans h3, q4.trans h4, q6.trans h5, fun b hb => h6 b ((q8 b).1 hb), hb1.trans (q10 _ h6)⟩))
  clear h1 h2 h3 h4 h5 h6 hb1 hN
  go_upto_region 4 with (first
    | (go_at_call 13; refine hS.out.mono ?_; rintro e w2 ⟨rfl, m2, hm2, h1, h2, h3, h4, h5, h6, hb2⟩; have hT := Lib.hid (Take_c h1 (by omega) 0 3 (by unfold I64; omega)); rw [hm2, h3, h4] at hT; replace hb2 := Lib.hid hb2; replace h6 := Lib.hid h6)
    | (go_at_call 14; refine hT.out.mono ?_; rintro e w3 ⟨he, m3, k1, k2, k3, k4, k5, k6, k7, k8, k9⟩; have he' : e = Ending.returned (.int .i64 0) := he; subst he'; clear he))
  have hmb : m3.mb = m.mb := k6.trans hm2
  have hC : m3.C = [[7, 5]] := k2.trans h2
  have hh : m3.h 0 = some 3 := by rw [k3]; unfold takeH; rw [h3, h4]; rfl
  have hb3 : Below w.heap.size w w3 := hb2.out.trans (k9 _ h6.out)
  have hCl : Hid (Calls Try.prog 15 #[.pointer (some ⟨m.mb, 0, none⟩)] w3 fun e w' => ∃ g b cap, e = .returned (.slice (some ⟨g, 0, none⟩) 1 1) ∧ w'.cell? ⟨g, 0, none⟩ = some (.slice (some ⟨b, 0, none⟩) 2 cap) ∧ w'.cell? ⟨b, 0, none⟩ = some (.int .i64 7) ∧ w'.cell? ⟨b, 1, none⟩ = some (.int .i64 5) ∧ m3.In w' ∧ Below w.heap.size w w') := Lib.hid (by
    have := Cells_c k1
    rw [hmb] at this
    refine this.mono ?_
    rintro e w' ⟨q1, R, q2, q3, q4, q5⟩
    rw [hC] at q2
    obtain ⟨r, rfl, hr⟩ := one_row q2
    have hl : m3.rows.length = 1 := by rw [← q3]; rfl
    rw [hl] at q1
    obtain ⟨p1, _⟩ := q4.rows r (by simp)
    have hlen : r.l.length = 2 := by rw [hr]; rfl
    refine ⟨_, r.b, r.cap, q1, ?_, (p1.cell (j := 0) (by rw [hr]; rfl)).1, (p1.cell (j := 1) (by rw [hr]; rfl)).1, k1.below q5, hb3.trans (q5.mono hb3.size)⟩
    have := blk_cell q4.blk (j := 0) (u := r.val) rfl
    rw [this]
    unfold Row.val
    rw [hlen])
  have hHo : Hid (∀ V, m3.In V → Calls Try.prog 16 #[.pointer (some ⟨m.mb, 0, none⟩), .int .i64 0] V fun e w' => e = .returned (.tuple #[.int .i64 3, .bool true]) ∧ w' = V) := Lib.hid fun V hV => by
    have := Holder_c hV 0 (by unfold I64; omega)
    rw [hmb, hh] at this
    exact this
  have hGe : Hid (∀ V, m3.In V → Calls Try.prog 17 #[.pointer (some ⟨m.mb, 0, none⟩), .int .i64 0, .int .i64 2] V fun e w' => e = .returned (.tuple #[.int .i64 0, .int .i64 5]) ∧ w' = V) := Lib.hid fun V hV => by
    have := Get_c hV 0 2
    unfold gets at this
    rw [hmb, hC, show getP [[7, 5]] 0 2 = (0, 5) by decide] at this
    exact this
  have hB1 : Hid (∀ V, Calls Try.prog 18 #[.int .u8 11, .int .i64 (-7), .int .i64 2] V fun e w' => e = .returned (.tuple #[.int .i64 (-1), .bool true]) ∧ Below V.heap.size V w') := Lib.hid fun V => by
    have := binary_c 11 (-7) 2 (by unfold U8; omega) V
    rw [show binP 11 (-7) 2 = some (-1) by decide] at this
    exact this
  have hB2 : Hid (∀ V, Calls Try.prog 18 #[.int .u8 10, .int .i64 1, .int .i64 0] V fun e w' => e = .returned (.tuple #[.int .i64 0, .bool false]) ∧ Below V.heap.size V w') := Lib.hid fun V => by
    have := binary_c 10 1 0 (by unfold U8; omega) V
    rw [show binP 10 1 0 = none by decide] at this
    exact this
  clear h1 h2 h3 h4 h5 h6 hb2 k1 k2 k3 k4 k5 k6 k7 k8 k9 hS hT hmb hC hh hb3
  go_upto_region 7 with (first
    | (go_at_call 15; refine hCl.out.mono ?_; rintro e w4 ⟨g, b, cap, rfl, c0, c1, c2, hI4, hb4⟩; replace c0 := Lib.hid c0; replace c1 := Lib.hid c1; replace c2 := Lib.hid c2; replace hb4 := Lib.hid hb4)
    | (go_at_call 16; refine (hHo.out _ hI4).mono ?_; rintro e w5 ⟨rfl, hw5⟩; subst w5)
    | (go_at_call 17; refine (hGe.out _ hI4).mono ?_; rintro e w5 ⟨rfl, hw5⟩; subst w5))
  clear hI4 hCl hHo hGe hm2
  go_upto_region 8 with (go_at_call 18; refine (hB1.out _).mono ?_; rintro e w6 ⟨rfl, hb6⟩; replace hb6 := Lib.hid hb6)
  go_upto_region 9 with (go_at_call 18; refine (hB2.out _).mono ?_; rintro e w7 ⟨rfl, hb7⟩; replace hb7 := Lib.hid hb7)
  have hb67 : Below w4.heap.size w4 w7 := hb6.out.trans (hb7.out.mono hb6.out.size)
  have d0 := (hb67.cell (World.block_lt_of_cell? _ _ c0.out)).trans c0.out
  have d1 := (hb67.cell (World.block_lt_of_cell? _ _ c1.out)).trans c1.out
  have d2 := (hb67.cell (World.block_lt_of_cell? _ _ c2.out)).trans c2.out
  have hfin := Lib.hid (hb4.out.trans (hb67.mono hb4.out.size))
  clear hb67 c0 c1 c2 hb4 hb6 hb7 hB1 hB2
  go_wp2_with fail
  go_ret
  exact ⟨rfl, hfin.out⟩
end Go.Proofs.Ytnoilcchegmpfaa.Me
