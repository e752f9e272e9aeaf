/- A class of worlds as a type of its own: all that a world has is as it was; the lexical walk of a region in any class. Conditions: none. -/
import Derived.Deep.Quiet
import Derived.Deep.QuietTactic
import Derived.Below
namespace Go.Proofs.YtiicjbnocpphdaaDoor.Pa
open Go Go.RowKit
/-- the worlds in which all that a world has is as it was -/
structure UpW (w : World) where
  val : World
  ok : Below w.heap.size w val
instance (w : World) : Inhabited (UpW w) := ⟨⟨w, Below.refl _ _⟩⟩
/-- the lexical walk of a region in any class of worlds, its operations written out -/
theorem quiet_lit {P : Program} {id : Nat} {Q : Exit → Act → World → Prop} {a : Act} {w : World} {l : List Oper} {C : World → Prop} (hm : P.follows .mixedOrders = true) (hB : Region.lexB .any l.toArray = true) (hC : C w.drew)
    (h : wpQuiet P l.toArray C (fun a' => ∀ w', C w' → Q .normal a' w') l a) : (Code.region id l.toArray true).wp P Q a w :=
  wp_region_quiet (C := C) hm hB hC (by simpa using h)
end Go.Proofs.YtiicjbnocpphdaaDoor.Pa
