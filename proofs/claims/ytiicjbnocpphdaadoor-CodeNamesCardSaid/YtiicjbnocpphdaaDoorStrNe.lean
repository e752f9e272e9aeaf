/- Two texts that are not the same. Conditions: none. -/
import Derived.Test.YtiicjbnocpphdaaDoorTrA
namespace Go.Proofs.YtiicjbnocpphdaaDoor.Tr
open Go Go.RowKit
theorem str_ne {a b : ByteArray} (h : ¬ a = b) : (a.toList == b.toList) = false := by
  rw [Bool.eq_false_iff]
  intro e
  rw [beq_iff_eq, Lib.toList_data, Lib.toList_data] at e
  apply h
  rw [← Lib.mk_data a, ← Lib.mk_data b, e]
theorem below_in {w W : World} (h : Below w.heap.size w W) {b o : Nat} {v : Value} (hc : w.cell? ⟨b, o, none⟩ = some v) : W.cell? ⟨b, o, none⟩ = some v := Kps.of_below (S := fun _ => True) h b o v trivial hc
end Go.Proofs.YtiicjbnocpphdaaDoor.Tr
