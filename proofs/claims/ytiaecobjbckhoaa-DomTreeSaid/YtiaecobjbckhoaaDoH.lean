/- An argument that reads as a list of small numbers is a way in memory. Conditions: none. -/
import Derived.Test.YtiaecobjbckhoaaDoC
import Derived.Test.YtiaecobjbckhoaaDoG
set_option linter.unusedVariables false
set_option linter.unusedSimpArgs false
namespace Go.Proofs.Ytiaecobjbckhoaa.Db
open Go Go.RowKit Go.ChangeShapes Go.WideShapes Go.ChangeAt Go.ChangeMaps

section
variable {H : Type} {enc : TypeId × Value → H} {w : World}
theorem cellsU : Try.prog.cellsOf 5 = 1 := by kernel_rfl
theorem flat_u8 (l : List Int) : l.flatMap (fun x => [Value.int .u8 x]) = l.map (Value.int .u8) := by
  induction l with
  | nil => rfl
  | cons x r ih => rw [List.flatMap_cons, ih]; rfl
theorem open_u8 (sp : Nat → Bool) (hd : Bool) (fuel : Nat) (cs : List Value) (x : DataW H × List MemPlace) (h : DataW.trod enc Try.prog w 0 sp hd fuel 5 cs = some x) : ∃ k : Int, cs = [.int .u8 k] ∧ (0 ≤ k ∧ k ≤ 255) := by
  obtain ⟨k0, e0, rfl, w0⟩ := DataW.trod_int Try.underlying5 h
  exact ⟨k0, e0, bounds_u8 w0⟩
theorem open_u8s (sp : Nat → Bool) (hd : Bool) (fuel : Nat) (cs : List Value) (x : DataW H × List MemPlace) (h : DataW.trod enc Try.prog w 0 sp hd fuel 43 cs = some x) :
    ∃ (a : Option Addr) (cap : Nat) (l : List Int), cs = [.slice a l.length cap] ∧ Wy a cap l w := by
  obtain ⟨a, cap, l, h1, h2, h3⟩ := open_rowN (fun x : Int => [Value.int .u8 x]) 1 (fun _ => rfl) (by omega) (fun k => 0 ≤ k ∧ k ≤ 255) Try.underlying43 cellsU h fun m cs x hx => open_u8 sp hd m cs x hx
  rw [flat_u8] at h2
  exact ⟨a, cap, l, h1, row_lt h2, h3⟩
end
end Go.Proofs.Ytiaecobjbckhoaa.Db
