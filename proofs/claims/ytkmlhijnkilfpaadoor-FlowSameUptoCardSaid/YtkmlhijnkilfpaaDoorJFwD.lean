/- Walks of mayHead, mayEnds, mayPhis, all. Conditions: the graph lies in memory. -/
import Derived.Test.YtkmlhijnkilfpaaDoorJaJ
import Derived.BigQuiet
namespace Go.Proofs.YtkmlhijnkilfpaaDoor.Fw
open Go Go.RowKit
open Go.Proofs.YtkmlhijnkilfpaaDoor.Lx Go.Proofs.YtkmlhijnkilfpaaDoor.Tr Go.Proofs.YtkmlhijnkilfpaaDoor.Cd

set_option maxHeartbeats 4000000 in
set_option maxRecDepth 100000 in
theorem mayHead_c (g : Gr) (w : World) :
    Calls Tryd.prog 26 #[.agg ⟨g.vals⟩] w fun e w' => e = .returned (.bool (headG g)) ∧ Below w.heap.size w w' := by
  obtain ⟨name, thread, params, regs, ba, bcap, blocks⟩ := g
  unfold headG Gr.vals
  simp only
  cases thread
  · by_cases h0 : (0 : Int) ≤ params
    · by_cases h1 : params ≤ 8
      · by_cases h2 : params ≤ regs
        · by_cases h3 : regs ≤ 65536
          · by_cases h4 : (1 : Int) ≤ (blocks.length : Int)
            · by_cases h5 : (blocks.length : Int) ≤ 32768
              · go_enter Tryd.func26, Tryd.ntmps26
                go_wp2_with fail
                go_ret
                exact ⟨ret_bool (by first | rfl | (simp; omega)), b_alloc _ _⟩
              · go_enter Tryd.func26, Tryd.ntmps26
                go_wp2_with fail
                go_ret
                exact ⟨ret_bool (by first | rfl | (simp; omega)), b_alloc _ _⟩
            · go_enter Tryd.func26, Tryd.ntmps26
              go_wp2_with fail
              go_ret
              exact ⟨ret_bool (by first | rfl | (simp; omega)), b_alloc _ _⟩
          · go_enter Tryd.func26, Tryd.ntmps26
            go_wp2_with fail
            go_ret
            exact ⟨ret_bool (by first | rfl | (simp; omega)), b_alloc _ _⟩
        · go_enter Tryd.func26, Tryd.ntmps26
          go_wp2_with fail
          go_ret
          exact ⟨ret_bool (by first | rfl | (simp; omega)), b_alloc _ _⟩
      · go_enter Tryd.func26, Tryd.ntmps26
        go_wp2_with fail
        go_ret
        exact ⟨ret_bool (by first | rfl | (simp; omega)), b_alloc _ _⟩
    · go_enter Tryd.func26, Tryd.ntmps26
      go_wp2_with fail
      go_ret
      exact ⟨ret_bool (by first | rfl | (simp; omega)), b_alloc _ _⟩
  · by_cases h0 : (0 : Int) ≤ params
    · by_cases h1 : params ≤ 0
      · by_cases h2 : params ≤ regs
        · by_cases h3 : regs ≤ 65536
          · by_cases h4 : (1 : Int) ≤ (blocks.length : Int)
            · by_cases h5 : (blocks.length : Int) ≤ 32768
              · go_enter Tryd.func26, Tryd.ntmps26
                go_wp2_with fail
                go_ret
                exact ⟨ret_bool (by first | rfl | (simp; omega)), b_alloc _ _⟩
              · go_enter Tryd.func26, Tryd.ntmps26
                go_wp2_with fail
                go_ret
                exact ⟨ret_bool (by first | rfl | (simp; omega)), b_alloc _ _⟩
            · go_enter Tryd.func26, Tryd.ntmps26
              go_wp2_with fail
              go_ret
              exact ⟨ret_bool (by first | rfl | (simp; omega)), b_alloc _ _⟩
          · go_enter Tryd.func26, Tryd.ntmps26
            go_wp2_with fail
            go_ret
            exact ⟨ret_bool (by first | rfl | (simp; omega)), b_alloc _ _⟩
        · go_enter Tryd.func26, Tryd.ntmps26
          go_wp2_with fail
          go_ret
          exact ⟨ret_bool (by first | rfl | (simp; omega)), b_alloc _ _⟩
      · go_enter Tryd.func26, Tryd.ntmps26
        go_wp2_with fail
        go_ret
        exact ⟨ret_bool (by first | rfl | (simp; omega)), b_alloc _ _⟩
    · go_enter Tryd.func26, Tryd.ntmps26
      go_wp2_with fail
      go_ret
      exact ⟨ret_bool (by first | rfl | (simp; omega)), b_alloc _ _⟩
end Go.Proofs.YtkmlhijnkilfpaaDoor.Fw
