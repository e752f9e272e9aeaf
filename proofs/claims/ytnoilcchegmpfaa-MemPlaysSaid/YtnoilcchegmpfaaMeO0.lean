/- awake, in whatever later world. Conditions: none. -/
import Derived.Test.YtnoilcchegmpfaaMeM
namespace Go.Proofs.Ytnoilcchegmpfaa.Me
open Go Go.RowKit

theorem aw_c {w V : World} (hV : Below w.heap.size w V) : Calls Try.prog 4 #[] V fun e w' => e = .returned (.bool true) ∧ Below w.heap.size w w' :=
  (awake_c V).mono fun _ _ ⟨h1, h2⟩ => ⟨h1, hV.trans (h2.mono hV.size)⟩
end Go.Proofs.Ytnoilcchegmpfaa.Me
