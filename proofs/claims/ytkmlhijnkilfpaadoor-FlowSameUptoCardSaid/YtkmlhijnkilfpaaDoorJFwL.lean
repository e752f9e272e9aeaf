/- Walk of someNumber. Conditions: the instruction lies in memory; its Args are of bounded length. -/
import Derived.Test.YtkmlhijnkilfpaaDoorJaJ
import Derived.BigQuiet
import Derived.Deep.Cut
import Derived.Deep.QuietTactic
namespace Go.Proofs.YtkmlhijnkilfpaaDoor.Fw
open Go Go.RowKit
open Go.Proofs.YtkmlhijnkilfpaaDoor.Lx Go.Proofs.YtkmlhijnkilfpaaDoor.Tr Go.Proofs.YtkmlhijnkilfpaaDoor.Cd

def someN (i : Ins) : Ins :=
  if i.n < 0 then i
  else if i.op = 5 ∨ i.op = 6 ∨ i.op = 7 ∨ i.op = 8 then { i with n := 0 }
  else if i.op = 10 then { i with n := 1 + (i.args.length : Int) }
  else i
set_option maxHeartbeats 4000000 in
set_option maxRecDepth 100000 in
theorem someNumber_c (i : Ins) (w : World) (hl : i.args.length ≤ 4611686018427387904) :
    Calls Tryd.prog 72 #[.agg #[.int .u8 i.op, .int .i64 i.r, .int .i64 i.a, .int .i64 i.b, .int .i64 i.n, .slice i.aa i.args.length i.acap]] w fun e w' => e = .returned (.agg ⟨(someN i).vals⟩) ∧ Below w.heap.size w w' := by
  obtain ⟨op, r, a, b, n, aa, acap, args⟩ := i
  simp only at hl ⊢
  by_cases hn : n < 0
  · have hs : someN ⟨op, r, a, b, n, aa, acap, args⟩ = ⟨op, r, a, b, n, aa, acap, args⟩ := by simp [someN, hn]
    rw [hs]
    clear hs
    go_enter Tryd.func72, Tryd.ntmps72
    go_wp2_with fail
    exact bodyPost_ret (v := .agg ⟨(⟨op, r, a, b, n, aa, acap, args⟩ : Ins).vals⟩) (results_cell_row Tryd.results72 _ _ (w.heap.size + 1) _ _ _ _ rfl (blk_new _ _ (by simp)) Tryd.underlying44 rfl (by kernel_rfl)) rfl ⟨rfl, b_alloc2 _ _ _⟩
  · have hn' : ¬ n < 0 := hn
    by_cases h : op = 5 ∨ op = 6 ∨ op = 7 ∨ op = 8
    · have hs : someN ⟨op, r, a, b, n, aa, acap, args⟩ = ⟨op, r, a, b, 0, aa, acap, args⟩ := by simp [someN, hn, h]
      rw [hs]
      clear hs
      rcases h with rfl | rfl | rfl | rfl
      · go_enter Tryd.func72, Tryd.ntmps72
        go_wp2_with fail
        exact bodyPost_ret (v := .agg ⟨(⟨5, r, a, b, 0, aa, acap, args⟩ : Ins).vals⟩) (results_cell_row Tryd.results72 _ _ (w.heap.size + 1) _ _ _ _ rfl (blk_new _ _ (by simp)) Tryd.underlying44 rfl (by kernel_rfl)) rfl ⟨rfl, b_alloc2 _ _ _⟩
      · go_enter Tryd.func72, Tryd.ntmps72
        go_wp2_with fail
        exact bodyPost_ret (v := .agg ⟨(⟨6, r, a, b, 0, aa, acap, args⟩ : Ins).vals⟩) (results_cell_row Tryd.results72 _ _ (w.heap.size + 1) _ _ _ _ rfl (blk_new _ _ (by simp)) Tryd.underlying44 rfl (by kernel_rfl)) rfl ⟨rfl, b_alloc2 _ _ _⟩
      · go_enter Tryd.func72, Tryd.ntmps72
        go_wp2_with fail
        exact bodyPost_ret (v := .agg ⟨(⟨7, r, a, b, 0, aa, acap, args⟩ : Ins).vals⟩) (results_cell_row Tryd.results72 _ _ (w.heap.size + 1) _ _ _ _ rfl (blk_new _ _ (by simp)) Tryd.underlying44 rfl (by kernel_rfl)) rfl ⟨rfl, b_alloc2 _ _ _⟩
      · go_enter Tryd.func72, Tryd.ntmps72
        go_wp2_with fail
        exact bodyPost_ret (v := .agg ⟨(⟨8, r, a, b, 0, aa, acap, args⟩ : Ins).vals⟩) (results_cell_row Tryd.results72 _ _ (w.heap.size + 1) _ _ _ _ rfl (blk_new _ _ (by simp)) Tryd.underlying44 rfl (by kernel_rfl)) rfl ⟨rfl, b_alloc2 _ _ _⟩
    · have h5 := ne_b (a := op) (b := 5) (by omega)
      have h6 := ne_b (a := op) (b := 6) (by omega)
      have h7 := ne_b (a := op) (b := 7) (by omega)
      have h8 := ne_b (a := op) (b := 8) (by omega)
      by_cases h10 : op = 10
      · subst h10
        have hs : someN ⟨10, r, a, b, n, aa, acap, args⟩ = ⟨10, r, a, b, 1 + (args.length : Int), aa, acap, args⟩ := by simp [someN, hn]
        rw [hs]
        clear hs h5 h6 h7 h8 h
        have hw : IntKind.i64.wrap (1 + (args.length : Int)) = 1 + (args.length : Int) := IntWalk.i64_in (1 + (args.length : Int)) (by omega)
        go_enter Tryd.func72, Tryd.ntmps72
        go_wp2_with fail
        exact bodyPost_ret (v := .agg ⟨(⟨10, r, a, b, 1 + (args.length : Int), aa, acap, args⟩ : Ins).vals⟩) (results_cell_row Tryd.results72 _ _ (w.heap.size + 1) _ _ _ _ rfl (blk_new _ _ (by simp)) Tryd.underlying44 rfl (by kernel_rfl)) rfl ⟨rfl, b_alloc2 _ _ _⟩
      · have h11 := ne_b h10
        have hs : someN ⟨op, r, a, b, n, aa, acap, args⟩ = ⟨op, r, a, b, n, aa, acap, args⟩ := by simp [someN, hn, h, h10]
        rw [hs]
        clear hs h h10
        go_enter Tryd.func72, Tryd.ntmps72
        go_wp2_with fail
        exact bodyPost_ret (v := .agg ⟨(⟨op, r, a, b, n, aa, acap, args⟩ : Ins).vals⟩) (results_cell_row Tryd.results72 _ _ (w.heap.size + 1) _ _ _ _ rfl (blk_new _ _ (by simp)) Tryd.underlying44 rfl (by kernel_rfl)) rfl ⟨rfl, b_alloc2 _ _ _⟩
end Go.Proofs.YtkmlhijnkilfpaaDoor.Fw
