/- Walk of bobbinref07.Same. Conditions: both programs lie in memory. -/
import Derived.Test.YtkmlhijnkilfpaaDoorJaG
import Derived.Test.YtkmlhijnkilfpaaDoorJaL
import Derived.BigQuiet
import Derived.Deep.Cut
set_option linter.unusedSimpArgs false
namespace Go.Proofs.YtkmlhijnkilfpaaDoor.Cd
open Go Go.RowKit
open Go.Proofs.YtkmlhijnkilfpaaDoor.Lx Go.Proofs.YtkmlhijnkilfpaaDoor.Tr Go.Proofs.YtkmlhijnkilfpaaDoor.Pa

/-- two programs' boxes -/
def Bp2 (B : Nat) (p q : Pg) (V : World) : Prop :=
  (V.cell? ⟨B, 0, none⟩ = some (.slice p.ma p.mems.length p.mcap) ∧ V.cell? ⟨B, 1, none⟩ = some (.slice p.la p.locks.length p.lcap) ∧ V.cell? ⟨B, 2, none⟩ = some (.slice p.fa p.funs.length p.fcap)) ∧
  (V.cell? ⟨B + 1, 0, none⟩ = some (.slice q.ma q.mems.length q.mcap) ∧ V.cell? ⟨B + 1, 1, none⟩ = some (.slice q.la q.locks.length q.lcap) ∧ V.cell? ⟨B + 1, 2, none⟩ = some (.slice q.fa q.funs.length q.fcap))
theorem Bp2.below {B : Nat} {p q : Pg} {V V' : World} (h : Bp2 B p q V) (hb : Below V.heap.size V V') : Bp2 B p q V' :=
  ⟨⟨below_in hb h.1.1, below_in hb h.1.2.1, below_in hb h.1.2.2⟩, below_in hb h.2.1, below_in hb h.2.2.1, below_in hb h.2.2.2⟩
end Go.Proofs.YtkmlhijnkilfpaaDoor.Cd
