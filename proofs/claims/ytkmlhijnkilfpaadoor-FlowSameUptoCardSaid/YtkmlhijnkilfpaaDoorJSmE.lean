/- FlowSame answers true. Conditions: both programs of blocks lie in memory; names and lists of blocks are of bounded length; the packages' tables hold their lists. -/
import Derived.Test.YtkmlhijnkilfpaaDoorJSmD
namespace Go.Proofs.YtkmlhijnkilfpaaDoor.Fw
open Go Go.RowKit
open Go.Proofs.YtkmlhijnkilfpaaDoor.Lx Go.Proofs.YtkmlhijnkilfpaaDoor.Tr Go.Proofs.YtkmlhijnkilfpaaDoor.Cd
theorem flowSame_law (f g : Fm) (n : Int) (w : World) (hf : Fm.In w f) (hg : Fm.In w g) (hn : I64 n) (hT : OpTab w) (hsg : SignsIn w) (hnm : ∀ x ∈ f.funs, x.name.size ≤ 1048576 ∧ x.blocks.length ≤ 1048576) :
    Calls Tryd.prog 5 #[.agg ⟨f.vals⟩, .agg ⟨g.vals⟩, .int .i64 n] w fun e w' => e = .returned (.bool true) ∧ Below w.heap.size w w' := by
  by_cases h1 : 20 < f.funs.length
  · exact flowSame_long f g n w hT hsg (.inl (by omega))
  · by_cases h2 : 20 < g.funs.length
    · exact flowSame_long f g n w hT hsg (.inr (by omega))
    · exact flowSame_main f g n w hf hg hn hT hsg hnm (by omega) (by omega)
end Go.Proofs.YtkmlhijnkilfpaaDoor.Fw
