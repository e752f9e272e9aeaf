/- A class of worlds as a type of its own: all that a world has is as it was; the lexical walk of a region in any class. Conditions: none. Walk of the document's mayIns. Conditions: the program, the Fun and the instruction lie in memory. -/
import Derived.Deep.Quiet
import Derived.Deep.QuietTactic
import Derived.Below
import Derived.Test.YtkmlhijnkilfpaaDoorJaI
import Derived.Deep.Cut
import Derived.OrdersHeld
namespace Go.Proofs.YtkmlhijnkilfpaaDoor.Pa
open Go Go.RowKit
/-- the worlds in which all that a world has is as it was -/
structure UpW (w : World) where
  val : World
  ok : Below w.heap.size w val
instance (w : World) : Inhabited (UpW w) := ⟨⟨w, Below.refl _ _⟩⟩
/-- the lexical walk of a region in any class of worlds, its operations written out -/
theorem quiet_lit {P : Program} {id : Nat} {Q : Exit → Act → World → Prop} {a : Act} {w : World} {l : List Oper} {C : World → Prop} (hm : P.follows .mixedOrders = true) (hB : Region.lexB .any l.toArray = true) (hC : C w.drew)
    (h : wpQuiet P l.toArray C (fun a' => ∀ w', C w' → Q .normal a' w') l a) : (Code.region id l.toArray true).wp P Q a w :=
  wp_region_quiet (C := C) hm hB hC (by simpa using h)
end Go.Proofs.YtkmlhijnkilfpaaDoor.Pa
namespace Go.Proofs.YtkmlhijnkilfpaaDoor.Cd
open Go Go.RowKit
open Go.Proofs.YtkmlhijnkilfpaaDoor.Lx Go.Proofs.YtkmlhijnkilfpaaDoor.Tr Go.Proofs.YtkmlhijnkilfpaaDoor.Pa

theorem row_none (W : World) (S : Nat → Prop) : RowAt W S none 0 0 [] := ⟨Nat.le_refl _, by unfold maxLen; omega, fun _ => rfl, fun j u hj => by simp at hj⟩
theorem row_own {B : Nat} {e : TypeId} {c n : Nat} {v : Value} {xs : List Value} {w : World} (h : w.ownsRow B e c v n xs) : ∃ a cap, v = .slice a n cap ∧ RowAt w (fun b => B ≤ b) a cap n xs := by
  obtain ⟨hlen, ⟨rfl, h0⟩ | ⟨g, cap, cur, rfl, hB, hg, h1, h2, h3, h4⟩⟩ := h
  · subst h0
    have : xs = [] := List.eq_nil_of_length_eq_zero (by simpa using hlen)
    subst this
    exact ⟨none, 0, rfl, row_none _ _⟩
  · refine ⟨_, cap, rfl, ⟨h1, h2, fun h => (by cases h), fun j u hj => ⟨g, 0, rfl, hB, ?_⟩⟩⟩
    have hj2 : j < n * c := by rw [← hlen]; exact (List.getElem?_eq_some_iff.1 hj).1
    rw [Nat.zero_add]
    rw [← h4, List.getElem?_take, if_pos hj2] at hj
    simp only [World.cell?, hg]
    simpa using hj
theorem up_cell {w : World} {b o : Nat} {v : Value} (h : w.cell? ⟨b, o, none⟩ = some v) : ∀ U : UpW w, U.val.cell? ⟨b, o, none⟩ = some v := fun U => below_in U.ok h
/-- a call of a region's: what it answers, and that all is as it was -/
theorem up_call {w : World} {f : FuncId} {args : Array Value} {v : Value} (h : ∀ V, Below w.heap.size w V → Calls Tryd.prog f args V fun e w' => e = .returned v ∧ Below V.heap.size V w') :
    ∀ U : UpW w, Calls Tryd.prog f args U.val fun e w' => e = .returned v ∧ ∃ U' : UpW w, w' = U'.val := fun U =>
  (h U.val U.ok).mono fun _ w' h => ⟨h.1, ⟨w', U.ok.trans (h.2.mono U.ok.size)⟩, rfl⟩
/-- three boxes: a program, a Fun, an instruction -/
structure Bx3 (w W : World) (p : Pg) (f : Fn) (i : Ins) : Prop where
  pc : ∀ j u, p.vals[j]? = some u → W.cell? ⟨w.heap.size, j, none⟩ = some u
  fc : ∀ j u, f.vals[j]? = some u → W.cell? ⟨w.heap.size + 1, j, none⟩ = some u
  ic : ∀ j u, i.vals[j]? = some u → W.cell? ⟨w.heap.size + 1 + 1, j, none⟩ = some u
theorem Bx3.new (w : World) (p : Pg) (f : Fn) (i : Ins) : Bx3 w (((w.alloc (.cells ⟨p.vals⟩ 26)).alloc (.cells ⟨f.vals⟩ 52)).alloc (.cells ⟨i.vals⟩ 44)) p f i := by
  obtain ⟨h0, h1, h2⟩ := ins3 w (.cells ⟨p.vals⟩ 26) (.cells ⟨f.vals⟩ 52) (.cells ⟨i.vals⟩ 44)
  exact ⟨cells_of h0, cells_of h1, cells_of h2⟩
theorem Bx3.below {w W V : World} {p : Pg} {f : Fn} {i : Ins} (h : Bx3 w W p f i) (hb : Below W.heap.size W V) : Bx3 w V p f i := ⟨fun j u hj => below_in hb (h.pc j u hj), fun j u hj => below_in hb (h.fc j u hj), fun j u hj => below_in hb (h.ic j u hj)⟩
end Go.Proofs.YtkmlhijnkilfpaaDoor.Cd
