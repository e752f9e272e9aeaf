/- Walks of thread and blocks: the blocks of a program of one thread. Conditions: the program may be; the packages' tables hold their lists. -/
import Derived.Test.YthiiahlgncngoaaDoorRRJM11
set_option maxHeartbeats 16000000
set_option maxRecDepth 100000
set_option linter.unusedVariables false
set_option linter.unusedSimpArgs false
namespace Go.Proofs.YthiiahlgncngoaaDoorRR.Fw
open Go Go.RowKit
open Go.Proofs.YthiiahlgncngoaaDoorRR.Lx Go.Proofs.YthiiahlgncngoaaDoorRR.Tr Go.Proofs.YthiiahlgncngoaaDoorRR.Cd
theorem GrO.low {B B' : Nat} {f : Cd.Fn} {x : Gr} {W : World} (h : GrO B f x W) (hB : B' ≤ B) : GrO B' f x W := ⟨h.name, h.thread, h.params, h.regs, h.q.low hB⟩
end Go.Proofs.YthiiahlgncngoaaDoorRR.Fw
