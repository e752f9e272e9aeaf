/- A program in a box, whose Funs grow by append. Conditions: none. -/
import Derived.Test.YtkmlhijnkilfpaaDoorJaK
import Derived.Test.YtkmlhijnkilfpaaDoorJaL
namespace Go.Proofs.YtkmlhijnkilfpaaDoor.Fw
open Go Go.RowKit
open Go.Proofs.YtkmlhijnkilfpaaDoor.Lx Go.Proofs.YtkmlhijnkilfpaaDoor.Tr Go.Proofs.YtkmlhijnkilfpaaDoor.Cd

theorem info_fn : (Tryd.prog.info? 52).map (fun i => (i.zero, i.size, i.bytes)) = some (some (.agg #[.string ⟨#[]⟩, .bool false, .int .i64 0, .int .i64 0, .slice none 0 0]), 5, 64) := by kernel_rfl
/-- a program in a box: two values, and Funs in a row of their own -/
structure Bx (B b : Nat) (m1 m2 : Value) (l : List Cd.Fn) (W : World) : Prop where
  hb : B ≤ b
  ex : ∃ v cap, W.heap[b]? = some (.cells #[m1, m2, .slice v l.length cap] 26 (0, 0)) ∧ W.ownsRow B 52 5 (.slice v l.length cap) l.length (fnCells l)
theorem own_neF {B g c m : Nat} {vs : Array Value} {v : Value} {xs : List Value} {W : World} {fr : Nat × Nat} (hg : W.heap[g]? = some (.cells vs 26 fr)) (h : W.ownsRow B 52 c v m xs) : v.ownBlock ≠ some g := by
  intro e
  rcases h.2 with ⟨rfl, _⟩ | ⟨q, cap, cur, rfl, _, hq, _⟩
  · cases e
  · have : q = g := by simpa [Value.ownBlock] using e
    subst this
    rw [hg] at hq
    have := Option.some.inj hq
    simp at this
theorem own_neI {B g c m : Nat} {vs : Array Value} {v : Value} {xs : List Value} {W : World} {fr : Nat × Nat} (hg : W.heap[g]? = some (.cells vs 44 fr)) (h : W.ownsRow B 52 c v m xs) : v.ownBlock ≠ some g := by
  intro e
  rcases h.2 with ⟨rfl, _⟩ | ⟨q, cap, cur, rfl, _, hq, _⟩
  · cases e
  · have : q = g := by simpa [Value.ownBlock] using e
    subst this
    rw [hg] at hq
    have := Option.some.inj hq
    simp at this
theorem Bx.keep {B b : Nat} {m1 m2 : Value} {l : List Cd.Fn} {W W' : World} (h : Bx B b m1 m2 l W) (hb : Below W.heap.size W W') : Bx B b m1 m2 l W' := by
  obtain ⟨h0, v, cap, h1, h2⟩ := h
  exact ⟨h0, v, cap, (hb.block b (Array.getElem?_eq_some_iff.1 h1).1).trans h1, own_below h2 hb⟩
theorem Bx.get {B b : Nat} {m1 m2 : Value} {l : List Cd.Fn} {W : World} (h : Bx B b m1 m2 l W) : ∃ v cap, W.cell? ⟨b, 0, none⟩ = some m1 ∧ W.cell? ⟨b, 1, none⟩ = some m2 ∧ W.cell? ⟨b, 2, none⟩ = some (.slice v l.length cap) ∧ W.ownsRow B 52 5 (.slice v l.length cap) l.length (fnCells l) ∧ b < W.heap.size := by
  obtain ⟨h0, v, cap, h1, h2⟩ := h
  exact ⟨v, cap, blk_cell h1 rfl, blk_cell h1 rfl, blk_cell h1 rfl, h2, (Array.getElem?_eq_some_iff.1 h1).1⟩
theorem Bx.row {B b : Nat} {m1 m2 : Value} {l : List Cd.Fn} {W : World} (_ : Bx B b m1 m2 l W) {v : Option Addr} {cap : Nat} (ho : W.ownsRow B 52 5 (.slice v l.length cap) l.length (fnCells l)) : RowAt W Tt v cap l.length (fnCells l) := by
  obtain ⟨a, c, e, hr⟩ := Cd.row_own ho
  cases e
  exact hr.mono fun _ _ => trivial
theorem row_at (W : World) (vs : List Value) (t : TypeId) (B : Nat) (hB : W.heap.size = B) : ∀ j u, vs[j]? = some u → (W.alloc (.cells ⟨vs⟩ t)).cell? ((⟨B, 0, none⟩ : Addr).add j) = some u := by
  subst hB
  intro j u h
  have := box_new W vs t j u h
  have e : (⟨W.heap.size, 0, none⟩ : Addr).add j = ⟨W.heap.size, j, none⟩ := by
    unfold Addr.add
    by_cases h0 : j = 0
    · subst h0; simp
    · simp [h0]
  rw [e]
  exact this
theorem fnCells_app (l : List Cd.Fn) (x : Cd.Fn) : fnCells (l ++ [x]) = fnCells l ++ x.vals := by unfold fnCells; rw [List.flatMap_append]; simp
theorem Bx.step {B b : Nat} {m1 m2 : Value} {l : List Cd.Fn} {W w3 : World} {o : Obj} {v : Option Addr} {cap : Nat} {v' : Value} {x : Cd.Fn} (h : Bx B b m1 m2 l W) (hc : W.cell? ⟨b, 2, none⟩ = some (.slice v l.length cap)) (hgr : (W.alloc o).grownBy w3 (Value.slice v l.length cap).ownBlock)
    (h3 : w3.ownsRow B 52 5 v' (l.length + 1) (fnCells l ++ x.vals)) :
    (∃ va vcap, v' = .slice va (l.length + 1) vcap) ∧ (w3.cell? ⟨b, 2, none⟩ = some (.slice v l.length cap) ∧ w3.frozen? ⟨b, 2, none⟩ = false ∧ b < w3.heap.size) ∧ Bx B b m1 m2 (l ++ [x]) (w3.setCell ⟨b, 2, none⟩ v') := by
  obtain ⟨h0, u, ucap, h1, h2⟩ := h
  have e := blk_cell h1 (j := 2) (u := .slice u l.length ucap) rfl
  rw [hc] at e
  cases e
  have hbl := (Array.getElem?_eq_some_iff.1 h1).1
  have hb3 : w3.heap[b]? = some (.cells #[m1, m2, .slice v l.length cap] 26 (0, 0)) :=
    (hgr.block b (by simp; omega) (fun e => own_neF h1 h2 e.symm)).trans ((Below.heap_alloc _ _ _ hbl).trans h1)
  have hv : ∃ va vcap, v' = .slice va (l.length + 1) vcap := by
    rcases h3.2 with ⟨_, h0⟩ | ⟨g, cap, cur, rfl, _⟩
    · omega
    · exact ⟨_, _, rfl⟩
  refine ⟨hv, ⟨blk_cell hb3 rfl, blk_free hb3 _, (Array.getElem?_eq_some_iff.1 hb3).1⟩, h0, ?_⟩
  obtain ⟨va, vcap, rfl⟩ := hv
  refine ⟨va, vcap, ?_, ?_⟩
  · have := heap_set1 hb3 2 (.slice va (l.length + 1) vcap)
    rw [this, List.length_append]
    simp
  · rw [fnCells_app, List.length_append]
    exact ownsRow_setCell_other h3 (own_neF hb3 h3) _
/-- a block of instructions stays while the Funs grow -/
theorem Bx.other {B b k : Nat} {m1 m2 : Value} {l : List Cd.Fn} {W w3 : World} {o : Obj} {v : Option Addr} {cap : Nat} {u : Value} {vs : Array Value} {fr : Nat × Nat} (h : Bx B b m1 m2 l W) (hc : W.cell? ⟨b, 2, none⟩ = some (.slice v l.length cap)) (ho : W.ownsRow B 52 5 (.slice v l.length cap) l.length (fnCells l)) (hgr : (W.alloc o).grownBy w3 (Value.slice v l.length cap).ownBlock)
    (hk : W.heap[k]? = some (.cells vs 44 fr)) : (w3.setCell ⟨b, 2, none⟩ u).heap[k]? = some (.cells vs 44 fr) := by
  have hkl := (Array.getElem?_eq_some_iff.1 hk).1
  have hkb : k ≠ b := by
    intro e
    subst e
    obtain ⟨h0, u, ucap, h1, h2⟩ := h
    rw [hk] at h1
    have := Option.some.inj h1
    simp at this
  rw [heap_oth hkb]
  exact (hgr.block k (by simp; omega) (fun e => own_neI hk ho e.symm)).trans ((Below.heap_alloc _ _ _ hkl).trans hk)
end Go.Proofs.YtkmlhijnkilfpaaDoor.Fw
