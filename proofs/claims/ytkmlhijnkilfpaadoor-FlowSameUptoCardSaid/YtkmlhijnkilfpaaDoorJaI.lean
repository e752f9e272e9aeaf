/- A block's cells, one by one. Conditions: none. Append of a whole row that may be nil; a store into a row of one's own. Conditions: none. Walk of CodeThreads. Conditions: the arguments lie in memory; the packages' tables hold their lists. Walks of the document's Reads, Writes, Goal, within. Conditions: the instruction lies in memory. Walks of the document's Writes, Goal, within, SameIns, kept. Conditions: the instructions lie in memory. Walk of the document's kept. Conditions: the instruction's operation is one. -/
import Derived.Test.YtkmlhijnkilfpaaDoorJaB
import Derived.Test.YtkmlhijnkilfpaaDoorJaH
import Derived.Laws.OwnMore
import Derived.Maps.AppendAt
import Derived.Deep.QuietTactic
import Derived.Test.YtkmlhijnkilfpaaDoorJaG
namespace Go.Proofs.YtkmlhijnkilfpaaDoor.Cd
open Go Go.RowKit
theorem blk_cell {W : World} {b : Nat} {vs : Array Value} {t : TypeId} {fr : Nat × Nat} (h : W.heap[b]? = some (.cells vs t fr)) {j : Nat} {u : Value} (hu : vs[j]? = some u) : W.cell? ⟨b, j, none⟩ = some u := by
  simp only [World.cell?, h]
  simpa using hu
theorem blk_free {W : World} {b : Nat} {vs : Array Value} {t : TypeId} (h : W.heap[b]? = some (.cells vs t (0, 0))) (j : Nat) : W.frozen? ⟨b, j, none⟩ = false := by
  simp [World.frozen?, h]
end Go.Proofs.YtkmlhijnkilfpaaDoor.Cd
namespace Go.Proofs.YtkmlhijnkilfpaaDoor.Cd
open Go Go.RowKit
open Go.Proofs.YtkmlhijnkilfpaaDoor.Lx Go.Proofs.YtkmlhijnkilfpaaDoor.Tr

theorem grown_set (W : World) (g j : Nat) (u : Value) : W.grownBy (W.setCell ⟨g, j, none⟩ u) (some g) :=
  ⟨rfl, rfl, rfl, by simp, fun k _ hk => by
    have hk' : k ≠ g := fun e => hk (by rw [e])
    simp [World.setCell, Array.getElem?_modify, Ne.symm hk']⟩
theorem num_one (l : List Int) : ∀ u ∈ numCells l, u.oneCell' = true := fun u hu => by
  obtain ⟨x, _, rfl⟩ := List.mem_map.1 hu
  rfl
end Go.Proofs.YtkmlhijnkilfpaaDoor.Cd
namespace Go.Proofs.YtkmlhijnkilfpaaDoor.Cd
open Go Go.RowKit
open Go.Proofs.YtkmlhijnkilfpaaDoor.Lx Go.Proofs.YtkmlhijnkilfpaaDoor.Tr

/-- two boxes: a program and an instruction -/
structure Bx2 (w W : World) (p : Pg) (i : Ins) : Prop where
  pc : ∀ j u, p.vals[j]? = some u → W.cell? ⟨w.heap.size, j, none⟩ = some u
  ic : ∀ j u, i.vals[j]? = some u → W.cell? ⟨w.heap.size + 1, j, none⟩ = some u
theorem Bx2.new (w : World) (p : Pg) (i : Ins) : Bx2 w ((w.alloc (.cells ⟨p.vals⟩ 26)).alloc (.cells ⟨i.vals⟩ 44)) p i :=
  ⟨fun j u hj => below_in (b_alloc _ _) (box_new w p.vals 26 j u hj), cells_of (t := 44) (blk_new _ _ (by simp))⟩
theorem Bx2.below {w W V : World} {p : Pg} {i : Ins} (h : Bx2 w W p i) (hb : Below W.heap.size W V) : Bx2 w V p i := ⟨fun j u hj => below_in hb (h.pc j u hj), fun j u hj => below_in hb (h.ic j u hj)⟩
end Go.Proofs.YtkmlhijnkilfpaaDoor.Cd
namespace Go.Proofs.YtkmlhijnkilfpaaDoor.Cd
open Go Go.RowKit
open Go.Proofs.YtkmlhijnkilfpaaDoor.Lx Go.Proofs.YtkmlhijnkilfpaaDoor.Tr

theorem news_at (W : World) (vs : List Value) (t : TypeId) (B : Nat) (hB : W.heap.size = B) : ∀ j u, vs[j]? = some u → (W.alloc (.cells ⟨vs⟩ t)).cell? ((⟨B, 0, none⟩ : Addr).add j) = some u := fun j u hu => by
  subst hB
  rw [Go.WideShapes.add_plain, Nat.zero_add]
  exact box_new W vs t j u hu

end Go.Proofs.YtkmlhijnkilfpaaDoor.Cd
namespace Go.Proofs.YtkmlhijnkilfpaaDoor.Cd
open Go Go.RowKit
open Go.Proofs.YtkmlhijnkilfpaaDoor.Lx Go.Proofs.YtkmlhijnkilfpaaDoor.Tr

theorem box2 (w : World) (i k : Ins) : ((w.alloc (.cells ⟨i.vals⟩ 44)).alloc (.cells ⟨k.vals⟩ 44)).cell? ⟨w.heap.size, 5, none⟩ = some (.slice i.aa i.args.length i.acap) ∧ ((w.alloc (.cells ⟨i.vals⟩ 44)).alloc (.cells ⟨k.vals⟩ 44)).cell? ⟨w.heap.size + 1, 5, none⟩ = some (.slice k.aa k.args.length k.acap) :=
  ⟨below_in (b_alloc _ _) (box_new w i.vals 44 5 _ rfl), cells_of (t := 44) (vs := k.vals) (blk_new _ _ (by simp)) 5 _ rfl⟩
end Go.Proofs.YtkmlhijnkilfpaaDoor.Cd
namespace Go.Proofs.YtkmlhijnkilfpaaDoor.Cd
open Go Go.RowKit
open Go.Proofs.YtkmlhijnkilfpaaDoor.Lx Go.Proofs.YtkmlhijnkilfpaaDoor.Tr

theorem heap_oth {W : World} {b k j : Nat} {u : Value} (h : k ≠ b) : (W.setCell ⟨b, j, none⟩ u).heap[k]? = W.heap[k]? := by
  simp [World.setCell, Array.getElem?_modify, Ne.symm h]
theorem ins3 (w : World) (o0 o1 o2 : Obj) : (((w.alloc o0).alloc o1).alloc o2).heap[w.heap.size]? = some o0 ∧ (((w.alloc o0).alloc o1).alloc o2).heap[w.heap.size + 1]? = some o1 ∧ (((w.alloc o0).alloc o1).alloc o2).heap[w.heap.size + 1 + 1]? = some o2 :=
  ⟨(Below.heap_alloc _ _ _ (by simp; omega)).trans ((Below.heap_alloc _ _ _ (by simp)).trans (blk_new _ _ rfl)), (Below.heap_alloc _ _ _ (by simp)).trans (blk_new _ _ (by simp)), blk_new _ _ (by simp)⟩

end Go.Proofs.YtkmlhijnkilfpaaDoor.Cd
