/- Walk of bobbinref07.May. Conditions: the program lies in memory; its lists are of bounded length; the packages' tables hold their lists. -/
import Derived.Test.YtkmlhijnkilfpaaDoorJaH
import Derived.Deep.Cut
import Derived.Test.YtkmlhijnkilfpaaDoorJaL
import Derived.Test.YtkmlhijnkilfpaaDoorJaI
import Derived.Test.YtkmlhijnkilfpaaDoorJaG
import Derived.Test.YtkmlhijnkilfpaaDoorJaE
import Derived.BigQuiet
set_option linter.unusedSimpArgs false
set_option linter.unusedVariables false
namespace Go.Proofs.YtkmlhijnkilfpaaDoor.Cd
open Go Go.RowKit
open Go.Proofs.YtkmlhijnkilfpaaDoor.Lx Go.Proofs.YtkmlhijnkilfpaaDoor.Tr Go.Proofs.YtkmlhijnkilfpaaDoor.Pa

/-! ### a list of names of the call's own -/
theorem str_one (l : List ByteArray) : ∀ u ∈ strCells l, u.oneCell' = true := fun u hu => by
  unfold strCells at hu
  obtain ⟨x, _, rfl⟩ := List.mem_map.1 hu
  rfl
structure Sml (p : Pg) : Prop where
  sum : p.mems.length + p.locks.length + p.funs.length ≤ 1048576
  args : ∀ f ∈ p.funs, ∀ i ∈ f.code, i.args.length ≤ 1048576
end Go.Proofs.YtkmlhijnkilfpaaDoor.Cd
