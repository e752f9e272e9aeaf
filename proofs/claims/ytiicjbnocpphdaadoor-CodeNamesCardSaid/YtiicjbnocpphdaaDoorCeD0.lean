/- Walk of CodeThreads. Conditions: the arguments lie in memory; the packages' tables hold their lists. -/
import Derived.Test.YtiicjbnocpphdaaDoorCeC
import Derived.Deep.QuietTactic
namespace Go.Proofs.YtiicjbnocpphdaaDoor.Cd
open Go Go.RowKit
open Go.Proofs.YtiicjbnocpphdaaDoor.Lx Go.Proofs.YtiicjbnocpphdaaDoor.Tr

theorem pg_cells {W : World} {bx : Nat} {p : Pg} (h : ∀ j u, p.vals[j]? = some u → W.cell? ⟨bx, j, none⟩ = some u) : W.cell? ⟨bx, 0, none⟩ = some (.slice p.ma p.mems.length p.mcap) ∧ W.cell? ⟨bx, 1, none⟩ = some (.slice p.la p.locks.length p.lcap) ∧ W.cell? ⟨bx, 2, none⟩ = some (.slice p.fa p.funs.length p.fcap) := ⟨h _ _ rfl, h _ _ rfl, h _ _ rfl⟩
/-- two boxes: a program and an instruction -/
structure Bx2 (w W : World) (p : Pg) (i : Ins) : Prop where
  pc : ∀ j u, p.vals[j]? = some u → W.cell? ⟨w.heap.size, j, none⟩ = some u
  ic : ∀ j u, i.vals[j]? = some u → W.cell? ⟨w.heap.size + 1, j, none⟩ = some u
theorem Bx2.new (w : World) (p : Pg) (i : Ins) : Bx2 w ((w.alloc (.cells ⟨p.vals⟩ 27)).alloc (.cells ⟨i.vals⟩ 31)) p i :=
  ⟨fun j u hj => below_in (b_alloc _ _) (box_new w p.vals 27 j u hj), cells_of (t := 31) (blk_new _ _ (by simp))⟩
theorem Bx2.below {w W V : World} {p : Pg} {i : Ins} (h : Bx2 w W p i) (hb : Below W.heap.size W V) : Bx2 w V p i := ⟨fun j u hj => below_in hb (h.pc j u hj), fun j u hj => below_in hb (h.ic j u hj)⟩
theorem grown_trans {A B C : World} {r : Option Nat} (h : A.grownBy B r) (k : B.grownBy C r) : A.grownBy C r :=
  ⟨k.os.trans h.os, k.tape.trans h.tape, k.output.trans h.output, Nat.le_trans h.size k.size, fun b hb hn => (k.block b (Nat.lt_of_lt_of_le hb h.size) hn).trans (h.block b hb hn)⟩
theorem thrs_at {l : List Fn} {k : Nat} {f : Fn} (h : l[k]? = some f) (ht : f.thread = true) : (thrsFrom 0 l)[(thrsFrom 0 (l.take k)).length]? = some (k : Int) := by
  have h1 := thrs_take h
  rw [ht, if_pos rfl] at h1
  have h2 := thrs_from (l.take (k + 1)) (l.drop (k + 1)) 0
  rw [List.take_append_drop] at h2
  rw [h2, h1, List.append_assoc, List.getElem?_append_right (Nat.le_refl _), Nat.sub_self]
  rfl

end Go.Proofs.YtiicjbnocpphdaaDoor.Cd
