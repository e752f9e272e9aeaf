/- CodeNames answers true. Conditions: the packages' tables hold their lists. -/
import Derived.Test.YtiicjbnocpphdaaDoorCnG
import Derived.Test.YtiicjbnocpphdaaDoorCnH
namespace Go.Proofs.YtiicjbnocpphdaaDoor.Cd
open Go Go.RowKit
open Go.Proofs.YtiicjbnocpphdaaDoor.Lx Go.Proofs.YtiicjbnocpphdaaDoor.Tr
theorem codeNames_c (w : World) (hT : OpTab w) (hsg : SignsIn w) :
    Calls Tryd.prog 3 #[] w fun e w' => e = .returned (.bool true) ∧ Below w.heap.size w w' :=
  codeNames_law w hT hsg (fun V hV => fields_c V (hT.keep hV) (hsg.below hsg.lt hV))
end Go.Proofs.YtiicjbnocpphdaaDoor.Cd
