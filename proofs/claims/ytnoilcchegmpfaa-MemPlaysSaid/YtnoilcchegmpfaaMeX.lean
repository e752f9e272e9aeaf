/- Walk of Copy. Conditions: the memory lies in the world. -/
import Derived.Test.YtnoilcchegmpfaaMeW
set_option linter.unusedSimpArgs false
namespace Go.Proofs.Ytnoilcchegmpfaa.Me
open Go Go.RowKit

def PostP (m : Mm) (w : World) (e : Ending) (w' : World) : Prop :=
  Below w.heap.size w w' ∧ ∃ m' : Mm, e = .returned (.pointer (some ⟨m'.mb, 0, none⟩)) ∧ m'.In w' ∧ m'.C = m.C ∧ m'.h = m.h ∧ m'.locks = m.locks ∧ m'.n = m.n ∧ ∀ b, m'.foot b → w.heap.size ≤ b
set_option maxHeartbeats 1600000 in
set_option maxRecDepth 100000 in
theorem Copy_c {w : World} {m : Mm} (h : m.In w) : Calls Try.prog 7 #[.pointer (some ⟨m.mb, 0, none⟩)] w (PostP m w) := by
  have u0 := up_cell h.c1
  have u1 := up_cell h.c2
  have hCl := Lib.hid (Cells_c (h.below (show Below w.heap.size w w.drew from (Below.refl _ _).drew)))
  have hMc := Lib.hid (fun V (hV : Below w.heap.size w V) => mapClone_c (h.below hV).hd)
  have hfin : Hid (∀ (V W : World) (R : List Row), R.map Row.l = m.C → R.length = m.rows.length → Cs V w.heap.size (w.heap.size + 1) R → Below w.heap.size w V → Hd W V.heap.size m.n m.h → Below V.heap.size V W → W.heap.size = V.heap.size + 1 →
      PostP m w (.returned (.pointer (some ⟨W.heap.size, 0, none⟩))) (W.alloc (.cells #[.slice (some ⟨w.heap.size, 0, none⟩) m.rows.length m.rows.length, .int .i64 m.locks, .map (some V.heap.size)] 57))) := Lib.hid (by
    intro V W R q1 q2 q3 q4 q5 q6 q7
    have hb8 := b_alloc W (.cells #[.slice (some ⟨w.heap.size, 0, none⟩) m.rows.length m.rows.length, .int .i64 m.locks, .map (some V.heap.size)] 57)
    have q8 := (q3.below q6).below hb8
    refine ⟨(q4.trans (q6.mono q4.size)).trans (hb8.mono (Nat.le_trans q4.size q6.size)), ⟨W.heap.size, w.heap.size, V.heap.size, m.n, R, m.locks, m.h⟩, rfl, ⟨?_, q8.blk, fun r hr => (q8.rows r hr).1, q8.nd, q5.keep (hb8.block _ q5.lt), by show R.length ≤ _; rw [q2]; exact h.lim, h.lk⟩, q1, rfl, rfl, rfl, ?_⟩
    · show _ = some (Obj.cells #[.slice (some ⟨w.heap.size, 0, none⟩) R.length R.length, .int .i64 m.locks, .map (some V.heap.size)] 57 (0, 0))
      rw [q2]
      exact (MapKept.heap_alloc W _).1
    · rintro b (rfl | rfl | rfl | ⟨r, hr, rfl⟩)
      · exact Nat.le_trans q4.size q6.size
      · exact Nat.le_refl _
      · exact q4.size
      · have := (q8.rows r hr).2; omega)
  clear h
  go_enter Try.func7, Try.ntmps7
  go_upto_region 3 with fail
  have hS0 : (fun X : World => X.cell? ⟨m.mb, 1, none⟩ = some (.int .i64 m.locks) ∧ X.cell? ⟨m.mb, 2, none⟩ = some (.map (some m.hb))) w.drew := ⟨u0 ⟨w.drew, (Below.refl _ _).drew⟩, u1 ⟨w.drew, (Below.refl _ _).drew⟩⟩
  have hst := Lib.hid (fun U : UpW w => (⟨u0 U, u1 U⟩ : (fun X : World => X.cell? ⟨m.mb, 1, none⟩ = some (.int .i64 m.locks) ∧ X.cell? ⟨m.mb, 2, none⟩ = some (.map (some m.hb))) U.val))
  clear u0 u1
  refine wp_region_noPanic ?_
  refine wp_region_held_drew (S := (fun X : World => X.cell? ⟨m.mb, 1, none⟩ = some (.int .i64 m.locks) ∧ X.cell? ⟨m.mb, 2, none⟩ = some (.map (some m.hb)))) (by kernel_rfl) hS0 (fun hHeld => ?_)
  refine' wpAnyH_take (i := 0) (oi := _) (v := _) rfl (by kernel_rfl) (by kernel_rfl) (by kernel_rfl) (fun _ _ _ h => h) (Or.inl ⟨by rfl, ?hyp0⟩) (by assumption) ?restp0
  case hyp0 => (intro w hSw; obtain ⟨s0, s1⟩ := hSw; go_simp; all_goals (with_reducible rfl))
  try simp only [Act.put, List.getElem_toArray, List.getElem_cons_zero, List.getElem_cons_succ, List.setIfInBounds_toArray, List.set_cons_zero, List.set_cons_succ]
  refine' wpAnyH_take (i := 2) (oi := _) (v := _) rfl (by kernel_rfl) (by kernel_rfl) (by kernel_rfl) (fun _ _ _ h => h) (Or.inl ⟨by rfl, ?hyp2⟩) (by assumption) ?restp2
  case hyp2 => (intro w hSw; obtain ⟨s0, s1⟩ := hSw; go_simp; all_goals (with_reducible rfl))
  try simp only [Act.put, List.getElem_toArray, List.getElem_cons_zero, List.getElem_cons_succ, List.setIfInBounds_toArray, List.set_cons_zero, List.set_cons_succ]
  refine' wpAnyH_take (i := 3) (oi := _) (v := _) rfl (by kernel_rfl) (by kernel_rfl) (by kernel_rfl) (fun _ _ _ h => h) (Or.inl ⟨by rfl, ?hyp3⟩) (by assumption) ?restp3
  case hyp3 => (intro w hSw; obtain ⟨s0, s1⟩ := hSw; go_simp; all_goals (with_reducible rfl))
  try simp only [Act.put, List.getElem_toArray, List.getElem_cons_zero, List.getElem_cons_succ, List.setIfInBounds_toArray, List.set_cons_zero, List.set_cons_succ]
  refine' wpAnyH_take (i := 4) (oi := _) (v := _) rfl (by kernel_rfl) (by kernel_rfl) (by kernel_rfl) (fun _ _ _ h => h) (Or.inl ⟨by rfl, ?hyp4⟩) (by assumption) ?restp4
  case hyp4 => (intro w hSw; obtain ⟨s0, s1⟩ := hSw; go_simp; all_goals (with_reducible rfl))
  try simp only [Act.put, List.getElem_toArray, List.getElem_cons_zero, List.getElem_cons_succ, List.setIfInBounds_toArray, List.set_cons_zero, List.set_cons_succ]
  refine' wpAnyH_take (i := 5) (oi := _) (v := _) rfl (by kernel_rfl) (by kernel_rfl) (by kernel_rfl) (fun _ _ _ h => h) (Or.inl ⟨by rfl, ?hyp5⟩) (by assumption) ?restp5
  case hyp5 => (intro w hSw; obtain ⟨s0, s1⟩ := hSw; go_simp; all_goals (with_reducible rfl))
  try simp only [Act.put, List.getElem_toArray, List.getElem_cons_zero, List.getElem_cons_succ, List.setIfInBounds_toArray, List.set_cons_zero, List.set_cons_succ]
  refine' wpAnyH_take (i := 6) (oi := _) (v := _) rfl (by kernel_rfl) (by kernel_rfl) (by kernel_rfl) (fun _ _ _ h => h) (Or.inl ⟨by rfl, ?hyp6⟩) (by assumption) ?restp6
  case hyp6 => (intro w hSw; obtain ⟨s0, s1⟩ := hSw; go_simp; all_goals (with_reducible rfl))
  try simp only [Act.put, List.getElem_toArray, List.getElem_cons_zero, List.getElem_cons_succ, List.setIfInBounds_toArray, List.set_cons_zero, List.set_cons_succ]
  refine' wpAnyH_take (i := 7) (oi := _) (v := _) rfl (by kernel_rfl) (by kernel_rfl) (by kernel_rfl) (fun _ _ _ h => h) (Or.inl ⟨by rfl, ?hyp7⟩) (by assumption) ?restp7
  case hyp7 => (intro w hSw; obtain ⟨s0, s1⟩ := hSw; go_simp; all_goals (with_reducible rfl))
  try simp only [Act.put, List.getElem_toArray, List.getElem_cons_zero, List.getElem_cons_succ, List.setIfInBounds_toArray, List.set_cons_zero, List.set_cons_succ]
  refine' wpAnyH_take (i := 8) (oi := _) (v := _) rfl (by kernel_rfl) (by kernel_rfl) (by kernel_rfl) (fun _ _ _ h => h) (Or.inl ⟨by rfl, ?hyp8⟩) (by assumption) ?restp8
  case hyp8 => (intro w hSw; obtain ⟨s0, s1⟩ := hSw; go_simp; all_goals (with_reducible rfl))
  try simp only [Act.put, List.getElem_toArray, List.getElem_cons_zero, List.getElem_cons_succ, List.setIfInBounds_toArray, List.set_cons_zero, List.set_cons_succ]
  refine' wpAnyH_take (i := 9) (oi := _) (v := _) rfl (by kernel_rfl) (by kernel_rfl) (by kernel_rfl) (fun _ _ _ h => h) (Or.inl ⟨by rfl, ?hyp9⟩) (by assumption) ?restp9
  case hyp9 => (intro w hSw; obtain ⟨s0, s1⟩ := hSw; go_simp; all_goals (with_reducible rfl))
  try simp only [Act.put, List.getElem_toArray, List.getElem_cons_zero, List.getElem_cons_succ, List.setIfInBounds_toArray, List.set_cons_zero, List.set_cons_succ]
  refine wpAnyH_ready (rs := [1]) (by kernel_rfl) (by simp) ?_
  refine AllReadyH.cons (o := _) rfl (fun K hK => ?_) AllReadyH.nil
  go_simp
  go_at_call 15
  refine hCl.out.mono ?_
  rintro e V ⟨rfl, R, q1, q2, q3, q4⟩
  have q4' : Below w.heap.size w V := ((Below.refl _ w).drew).trans q4
  have q3' : Cs V w.heap.size (w.heap.size + 1) R := q3
  have hmc := Lib.hid (hMc.out V q4')
  have hf2 := Lib.hid (fun W => hfin.out V W R q1 q2 q3' q4')
  have hs3 : V.cell? ⟨m.mb, 1, none⟩ = some (.int .i64 m.locks) ∧ V.cell? ⟨m.mb, 2, none⟩ = some (.map (some m.hb)) := hst.out ⟨V, q4'⟩
  have hup : Hid (∀ W : World, Below V.heap.size V W → W.cell? ⟨m.mb, 1, none⟩ = some (.int .i64 m.locks) ∧ W.cell? ⟨m.mb, 2, none⟩ = some (.map (some m.hb))) := Lib.hid fun W hW => hst.out ⟨W, q4'.trans (hW.mono q4'.size)⟩
  clear q1 q2 q3 q4 q3' q4' hfin hMc hCl hst
  refine hK.out _ _ hs3 (fun hHeld => ?_)
  clear hK K
  try simp only [Act.put, List.getElem_toArray, List.getElem_cons_zero, List.getElem_cons_succ, List.setIfInBounds_toArray, List.set_cons_zero, List.set_cons_succ]
  refine wpAnyH_ready (rs := [10]) (by kernel_rfl) (by simp) ?_
  refine AllReadyH.cons (o := _) rfl (fun K hK => ?_) AllReadyH.nil
  go_simp
  go_at_call 22
  refine hmc.out.mono ?_
  rintro e W ⟨rfl, r1, r2, r3⟩
  have hf3 := Lib.hid (hf2.out W r1 r2 r3)
  have hs4 : W.cell? ⟨m.mb, 1, none⟩ = some (.int .i64 m.locks) ∧ W.cell? ⟨m.mb, 2, none⟩ = some (.map (some m.hb)) := hup.out W r2
  clear r1 r2 r3 hf2 hmc
  refine hK.out _ _ hs4 (fun hHeld => ?_)
  clear hK K
  try simp only [Act.put, List.getElem_toArray, List.getElem_cons_zero, List.getElem_cons_succ, List.setIfInBounds_toArray, List.set_cons_zero, List.set_cons_succ]
  refine wpAnyH_ready (rs := [11]) (by kernel_rfl) (by simp) ?_
  refine AllReadyH.cons (o := _) rfl (fun K hK => ?_) AllReadyH.nil
  go_simp
  refine hK.out _ _ hs4 (fun hHeld => ?_)
  clear hK K
  try simp only [Act.put, List.getElem_toArray, List.getElem_cons_zero, List.getElem_cons_succ, List.setIfInBounds_toArray, List.set_cons_zero, List.set_cons_succ]
  refine wpAnyH_ready (rs := [12]) (by kernel_rfl) (by simp) ?_
  refine AllReadyH.cons (o := _) rfl (fun K hK => ?_) AllReadyH.nil
  go_simp
  refine hK.out _ _ ⟨below_in (b_alloc _ _) hs4.1, below_in (b_alloc _ _) hs4.2⟩ (fun hHeld => ?_)
  clear hK K
  try simp only [Act.put, List.getElem_toArray, List.getElem_cons_zero, List.getElem_cons_succ, List.setIfInBounds_toArray, List.set_cons_zero, List.set_cons_succ]
  refine wpAnyH_ready (rs := [13]) (by kernel_rfl) (by simp) ?_
  refine AllReadyH.cons (o := _) rfl (fun K hK => ?_) AllReadyH.nil
  go_simp
  refine hK.out _ _ ⟨below_in (b_alloc _ _) hs4.1, below_in (b_alloc _ _) hs4.2⟩ (fun hHeld => ?_)
  clear hK K
  try simp only [Act.put, List.getElem_toArray, List.getElem_cons_zero, List.getElem_cons_succ, List.setIfInBounds_toArray, List.set_cons_zero, List.set_cons_succ]
  refine wpAnyH_done (by kernel_rfl) ?_ _
  refine NoPanic.normal ?_
  go_wp2_with fail
  go_ret
  exact hf3.out
end Go.Proofs.Ytnoilcchegmpfaa.Me
