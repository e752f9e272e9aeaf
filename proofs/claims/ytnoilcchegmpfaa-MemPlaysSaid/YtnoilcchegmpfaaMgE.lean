/- Walk of the law's same: the package's memory and the document's are alike. Conditions: both lie in the world, and are alike. -/
import Derived.Test.YtnoilcchegmpfaaMgD
namespace Go.Proofs.Ytnoilcchegmpfaa.Me
open Go Go.RowKit

theorem Dm.In.below {w w' : World} {d : Dm} (h : d.In w) (hb : Below w.heap.size w w') : d.In w' :=
  ⟨(hb.block _ (cells_lt h.blk)).trans h.blk, h.cs.keep' fun b _ h1 => hb.block b (cells_lt h1), h.hs.keep' fun b _ h1 => hb.block b (cells_lt h1), h.bs.keep' fun b _ h1 => hb.block b (cells_lt h1), fun r hr => (h.rows r hr).below hb, h.nd, h.lim, h.lk⟩
/-- the cells that were asked for: those from place k of row i on are as they were -/
structure Sl (w : World) (g : Nat) (R : List Row) (i k : Nat) (V : World) : Prop where
  bl : Below w.heap.size w V
  c : ∀ (j : Nat) (r : Row), R[j]? = some r → V.cell? ⟨g, j, none⟩ = some r.val
  x : ∀ (j : Nat) (r : Row) (y : Nat) (v : Int), R[j]? = some r → r.l[y]? = some v → (i < j ∨ (j = i ∧ k ≤ y)) → V.cell? ⟨r.b, y, none⟩ = some (.int .i64 v) ∧ V.frozen? ⟨r.b, y, none⟩ = false
  up : ∀ r ∈ R, w.heap.size ≤ r.b ∧ r.b ≠ g ∧ r.l.length ≤ r.cap ∧ r.cap ≤ maxLen
  nd : (R.map Row.b).Nodup
theorem Sl.drew {w V : World} {g i k : Nat} {R : List Row} (h : Sl w g R i k V) (n : Nat) : Sl w g R i k (V.drewN n) := ⟨h.bl.trans ⟨rfl, rfl, rfl, Nat.le_refl _, fun _ _ => rfl⟩, h.c, h.x, h.up, h.nd⟩
theorem Sl.next {w V : World} {g i k : Nat} {R : List Row} (h : Sl w g R i k V) : Sl w g R (i + 1) 0 V := ⟨h.bl, h.c, fun j r y v h1 h2 h3 => h.x j r y v h1 h2 (.inl (by omega)), h.up, h.nd⟩
theorem Sl.store {w V : World} {g i k : Nat} {R : List Row} (h : Sl w g R i k V) {r : Row} (hr : R[i]? = some r) (u : Value) : Sl w g R i (k + 1) (V.setCell ⟨r.b, k, none⟩ u) := by
  obtain ⟨p1, p2, _⟩ := h.up r (List.mem_of_getElem? hr)
  refine ⟨h.bl.setCell p1 _, fun j r' hj => (set_ne (fun e => p2 e.symm)).trans (h.c j r' hj), fun j r' y v h1 h2 h3 => ?_, h.up, h.nd⟩
  by_cases hij : j = i
  · subst hij
    rw [hr] at h1
    cases h1
    obtain ⟨q1, q2⟩ := h.x j r y v hr h2 (by omega)
    have hne : k ≠ y := by omega
    exact ⟨(World.cell?_setCell_other _ _ _ _ (fun e => by cases e; exact hne rfl)).trans q1, by rw [World.frozen?_setCell]; exact q2⟩
  · have hne : r'.b ≠ r.b := fun e => hij (by
      have g1 : (R.map Row.b)[j]? = some r.b := by simp [h1, e]
      have g2 : (R.map Row.b)[i]? = some r.b := by simp [hr]
      exact (List.getElem?_inj (List.getElem?_eq_some_iff.1 g1).1 h.nd).1 (g1.trans g2.symm))
    obtain ⟨q1, q2⟩ := h.x j r' y v h1 h2 (by omega)
    exact ⟨(set_ne hne).trans q1, by rw [World.frozen?_setCell]; exact q2⟩
theorem Sl.start {w V : World} {g : Nat} {R : List Row} (h : Cs V g (g + 1) R) (hb : Below w.heap.size w V) (hg : w.heap.size ≤ g) : Sl w g R 0 0 V :=
  ⟨hb, fun j r hj => blk_cell h.blk (by rw [List.getElem?_toArray, List.getElem?_map, hj]; rfl), fun j r y v h1 h2 _ => (h.rows r (List.mem_of_getElem? h1)).1.cell h2, fun r hr => ⟨by have := (h.rows r hr).2; omega, by have := (h.rows r hr).2; omega, (h.rows r hr).1.le, (h.rows r hr).1.lim⟩, h.nd⟩
end Go.Proofs.Ytnoilcchegmpfaa.Me
