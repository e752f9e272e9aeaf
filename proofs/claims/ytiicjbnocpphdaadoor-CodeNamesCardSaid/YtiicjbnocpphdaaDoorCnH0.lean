/- The table of fields. Conditions: none. -/
import Derived.Test.YtiicjbnocpphdaaDoorCnG0
set_option linter.unusedSimpArgs false
set_option linter.unusedVariables false
namespace Go.Proofs.YtiicjbnocpphdaaDoor.Cd
open Go Go.RowKit
open Go.Proofs.YtiicjbnocpphdaaDoor.Lx Go.Proofs.YtiicjbnocpphdaaDoor.Tr
open Go.Proofs.YtiicjbnocpphdaaDoor.Vq Go.Proofs.YtiicjbnocpphdaaDoor.Qr

structure FRow where
  i : Ins
  ra : Option Addr
  rc : Nat
  reads : List Int
  w : Int
  goal : Int
/-- the table, where its lists lie from block B on -/
def fT (B : Nat) : List FRow := [⟨⟨1, 5, 6, 0, 0, none, 0, []⟩, none, 0, [], 5, (-1)⟩,
  ⟨⟨2, 5, 6, 0, 0, none, 0, []⟩, some ⟨B, 0, none⟩, 1, [6], 5, (-1)⟩,
  ⟨⟨3, 5, 6, 0, 0, none, 0, []⟩, some ⟨B + 1, 0, none⟩, 1, [6], 5, (-1)⟩,
  ⟨⟨4, 5, 6, 6, 0, none, 0, []⟩, some ⟨B + 1 + 1, 0, none⟩, 2, [6, 6], 5, (-1)⟩,
  ⟨⟨5, 5, 6, 0, 0, none, 0, []⟩, some ⟨B + 1 + 1 + 1, 0, none⟩, 1, [6], 5, (-1)⟩,
  ⟨⟨5, 5, (-1), 0, 0, none, 0, []⟩, none, 0, [], 5, (-1)⟩,
  ⟨⟨6, 5, 6, 7, 0, none, 0, []⟩, some ⟨B + 1 + 1 + 1 + 1, 0, none⟩, 2, [6, 7], (-1), (-1)⟩,
  ⟨⟨7, 0, 0, 0, 5, none, 0, []⟩, none, 0, [], (-1), (-1)⟩,
  ⟨⟨8, 0, 0, 0, 5, none, 0, []⟩, none, 0, [], (-1), (-1)⟩,
  ⟨⟨9, 0, 6, 0, 0, none, 0, []⟩, some ⟨B + 1 + 1 + 1 + 1 + 1, 0, none⟩, 1, [6], (-1), (-1)⟩,
  ⟨⟨10, 5, 9, 0, 0, some ⟨B + 1 + 1 + 1 + 1 + 1 + 1, 0, none⟩, 2, [7, 6]⟩, some ⟨B + 1 + 1 + 1 + 1 + 1 + 1 + 1, 0, none⟩, 2, [7, 6], 5, (-1)⟩,
  ⟨⟨11, 0, 4, 0, 3, none, 0, []⟩, none, 0, [], (-1), 3⟩,
  ⟨⟨12, 0, 6, 0, 3, none, 0, []⟩, some ⟨B + 1 + 1 + 1 + 1 + 1 + 1 + 1 + 1, 0, none⟩, 1, [6], (-1), 3⟩,
  ⟨⟨13, 0, 6, 0, 3, none, 0, []⟩, some ⟨B + 1 + 1 + 1 + 1 + 1 + 1 + 1 + 1 + 1, 0, none⟩, 1, [6], (-1), (-1)⟩,
  ⟨⟨99, 5, 6, 0, 3, none, 0, []⟩, none, 0, [], (-1), (-1)⟩,
  ⟨⟨0, 0, 6, 0, 0, none, 0, []⟩, none, 0, [], (-1), (-1)⟩]
def fVals (x : FRow) : List Value := x.i.vals ++ [.slice x.ra x.reads.length x.rc, .int .i64 x.w, .int .i64 x.goal]
theorem fVals_len (x : FRow) : (fVals x).length = 9 := rfl
def fQs (B : Nat) : Array (Nat × Value) := ⟨(fT B).zipIdx.map fun x => (x.2, .agg ⟨fVals x.1⟩)⟩
theorem f_len (B : Nat) : (fT B).length = 16 := rfl
set_option maxRecDepth 100000
theorem f_build (B : Nat) (w : World) : (Instr.buildSlice 61 16 (fQs B)).run Tryd.prog w = .ok (.slice (some ⟨w.heap.size, 0, none⟩) 16 16) (w.alloc (.cells ⟨(fT B).flatMap fVals⟩ 60)) := by kernel_rfl
/-- what a row says is so -/
def fOk (x : FRow) : Bool := decide (x.reads.length ≤ 8) && (decide (rdP x.i = x.reads) && ((wrP x.i).2 == decide (0 ≤ x.w) && ((!(wrP x.i).2 || decide ((wrP x.i).1 = x.w)) && (((wrP x.i).2 || decide ((wrP x.i).1 = 0)) && ((glP x.i).2 == decide (0 ≤ x.goal) && ((!(glP x.i).2 || decide ((glP x.i).1 = x.goal)) && ((glP x.i).2 || decide ((glP x.i).1 = 0))))))))
theorem f_all (B : Nat) : (fT B).all fOk = true := by kernel_rfl
theorem f_In (B : Nat) (V : World) (h0 : V.heap[B]? = some (.cells ⟨numCells [6]⟩ 3 (0, 0))) (h1 : V.heap[B + 1]? = some (.cells ⟨numCells [6]⟩ 3 (0, 0))) (h2 : V.heap[B + 1 + 1]? = some (.cells ⟨numCells [6, 6]⟩ 3 (0, 0))) (h3 : V.heap[B + 1 + 1 + 1]? = some (.cells ⟨numCells [6]⟩ 3 (0, 0))) (h4 : V.heap[B + 1 + 1 + 1 + 1]? = some (.cells ⟨numCells [6, 7]⟩ 3 (0, 0))) (h5 : V.heap[B + 1 + 1 + 1 + 1 + 1]? = some (.cells ⟨numCells [6]⟩ 3 (0, 0))) (h6 : V.heap[B + 1 + 1 + 1 + 1 + 1 + 1]? = some (.cells ⟨numCells [7, 6]⟩ 3 (0, 0))) (h7 : V.heap[B + 1 + 1 + 1 + 1 + 1 + 1 + 1]? = some (.cells ⟨numCells [7, 6]⟩ 3 (0, 0))) (h8 : V.heap[B + 1 + 1 + 1 + 1 + 1 + 1 + 1 + 1]? = some (.cells ⟨numCells [6]⟩ 3 (0, 0))) (h9 : V.heap[B + 1 + 1 + 1 + 1 + 1 + 1 + 1 + 1 + 1]? = some (.cells ⟨numCells [6]⟩ 3 (0, 0))) : ∀ x ∈ fT B, Ins.In V (fun _ => True) x.i ∧ RowAt V (fun _ => True) x.ra x.rc x.reads.length (numCells x.reads) := by
  intro x hx
  unfold fT at hx
  simp only [List.mem_cons, List.mem_nil_iff, or_false] at hx
  rcases hx with rfl | rfl | rfl | rfl | rfl | rfl | rfl | rfl | rfl | rfl | rfl | rfl | rfl | rfl | rfl | rfl
  all_goals
    refine ⟨⟨⟨by simp, by simp⟩, ⟨by simp, by simp⟩, ⟨by simp, by simp⟩, ⟨by simp, by simp⟩, ⟨by simp, by simp⟩, ?_, ?_⟩, ?_⟩
    · first | exact row_none _ _ | exact row_blk (vs := numCells [6]) 1 h0 (by decide) trivial | exact row_blk (vs := numCells [6]) 1 h1 (by decide) trivial | exact row_blk (vs := numCells [6, 6]) 2 h2 (by decide) trivial | exact row_blk (vs := numCells [6]) 1 h3 (by decide) trivial | exact row_blk (vs := numCells [6, 7]) 2 h4 (by decide) trivial | exact row_blk (vs := numCells [6]) 1 h5 (by decide) trivial | exact row_blk (vs := numCells [7, 6]) 2 h6 (by decide) trivial | exact row_blk (vs := numCells [7, 6]) 2 h7 (by decide) trivial | exact row_blk (vs := numCells [6]) 1 h8 (by decide) trivial | exact row_blk (vs := numCells [6]) 1 h9 (by decide) trivial
    · intro y hy
      first | (simp at hy; done) | (simp only [List.mem_cons, List.mem_nil_iff, or_false] at hy; rcases hy with rfl | rfl <;> exact i64_of (by decide) (by decide))
    · first | exact row_none _ _ | exact row_blk (vs := numCells [6]) 1 h0 (by decide) trivial | exact row_blk (vs := numCells [6]) 1 h1 (by decide) trivial | exact row_blk (vs := numCells [6, 6]) 2 h2 (by decide) trivial | exact row_blk (vs := numCells [6]) 1 h3 (by decide) trivial | exact row_blk (vs := numCells [6, 7]) 2 h4 (by decide) trivial | exact row_blk (vs := numCells [6]) 1 h5 (by decide) trivial | exact row_blk (vs := numCells [7, 6]) 2 h6 (by decide) trivial | exact row_blk (vs := numCells [7, 6]) 2 h7 (by decide) trivial | exact row_blk (vs := numCells [6]) 1 h8 (by decide) trivial | exact row_blk (vs := numCells [6]) 1 h9 (by decide) trivial
theorem many_new (w : World) (o0 o1 o2 o3 o4 o5 o6 o7 o8 o9 o10 : Obj) (W : World) (h : (((((((((((w.alloc o0).alloc o1).alloc o2).alloc o3).alloc o4).alloc o5).alloc o6).alloc o7).alloc o8).alloc o9).alloc o10) = W) :
    W.heap[w.heap.size]? = some o0 ∧ W.heap[w.heap.size + 1]? = some o1 ∧ W.heap[w.heap.size + 1 + 1]? = some o2 ∧ W.heap[w.heap.size + 1 + 1 + 1]? = some o3 ∧ W.heap[w.heap.size + 1 + 1 + 1 + 1]? = some o4 ∧ W.heap[w.heap.size + 1 + 1 + 1 + 1 + 1]? = some o5 ∧ W.heap[w.heap.size + 1 + 1 + 1 + 1 + 1 + 1]? = some o6 ∧ W.heap[w.heap.size + 1 + 1 + 1 + 1 + 1 + 1 + 1]? = some o7 ∧ W.heap[w.heap.size + 1 + 1 + 1 + 1 + 1 + 1 + 1 + 1]? = some o8 ∧ W.heap[w.heap.size + 1 + 1 + 1 + 1 + 1 + 1 + 1 + 1 + 1]? = some o9 ∧ W.heap[w.heap.size + 1 + 1 + 1 + 1 + 1 + 1 + 1 + 1 + 1 + 1]? = some o10 ∧ Below w.heap.size w W := by
  subst h
  exact ⟨(Below.heap_alloc _ _ _ (by simp <;> omega)).trans ((Below.heap_alloc _ _ _ (by simp <;> omega)).trans ((Below.heap_alloc _ _ _ (by simp <;> omega)).trans ((Below.heap_alloc _ _ _ (by simp <;> omega)).trans ((Below.heap_alloc _ _ _ (by simp <;> omega)).trans ((Below.heap_alloc _ _ _ (by simp <;> omega)).trans ((Below.heap_alloc _ _ _ (by simp <;> omega)).trans ((Below.heap_alloc _ _ _ (by simp <;> omega)).trans ((Below.heap_alloc _ _ _ (by simp <;> omega)).trans ((Below.heap_alloc _ _ _ (by simp <;> omega)).trans (blk_new _ _ (by simp))))))))))), (Below.heap_alloc _ _ _ (by simp <;> omega)).trans ((Below.heap_alloc _ _ _ (by simp <;> omega)).trans ((Below.heap_alloc _ _ _ (by simp <;> omega)).trans ((Below.heap_alloc _ _ _ (by simp <;> omega)).trans ((Below.heap_alloc _ _ _ (by simp <;> omega)).trans ((Below.heap_alloc _ _ _ (by simp <;> omega)).trans ((Below.heap_alloc _ _ _ (by simp <;> omega)).trans ((Below.heap_alloc _ _ _ (by simp <;> omega)).trans ((Below.heap_alloc _ _ _ (by simp <;> omega)).trans (blk_new _ _ (by simp)))))))))), (Below.heap_alloc _ _ _ (by simp <;> omega)).trans ((Below.heap_alloc _ _ _ (by simp <;> omega)).trans ((Below.heap_alloc _ _ _ (by simp <;> omega)).trans ((Below.heap_alloc _ _ _ (by simp <;> omega)).trans ((Below.heap_alloc _ _ _ (by simp <;> omega)).trans ((Below.heap_alloc _ _ _ (by simp <;> omega)).trans ((Below.heap_alloc _ _ _ (by simp <;> omega)).trans ((Below.heap_alloc _ _ _ (by simp <;> omega)).trans (blk_new _ _ (by simp))))))))), (Below.heap_alloc _ _ _ (by simp <;> omega)).trans ((Below.heap_alloc _ _ _ (by simp <;> omega)).trans ((Below.heap_alloc _ _ _ (by simp <;> omega)).trans ((Below.heap_alloc _ _ _ (by simp <;> omega)).trans ((Below.heap_alloc _ _ _ (by simp <;> omega)).trans ((Below.heap_alloc _ _ _ (by simp <;> omega)).trans ((Below.heap_alloc _ _ _ (by simp <;> omega)).trans (blk_new _ _ (by simp)))))))), (Below.heap_alloc _ _ _ (by simp <;> omega)).trans ((Below.heap_alloc _ _ _ (by simp <;> omega)).trans ((Below.heap_alloc _ _ _ (by simp <;> omega)).trans ((Below.heap_alloc _ _ _ (by simp <;> omega)).trans ((Below.heap_alloc _ _ _ (by simp <;> omega)).trans ((Below.heap_alloc _ _ _ (by simp <;> omega)).trans (blk_new _ _ (by simp))))))), (Below.heap_alloc _ _ _ (by simp <;> omega)).trans ((Below.heap_alloc _ _ _ (by simp <;> omega)).trans ((Below.heap_alloc _ _ _ (by simp <;> omega)).trans ((Below.heap_alloc _ _ _ (by simp <;> omega)).trans ((Below.heap_alloc _ _ _ (by simp <;> omega)).trans (blk_new _ _ (by simp)))))), (Below.heap_alloc _ _ _ (by simp <;> omega)).trans ((Below.heap_alloc _ _ _ (by simp <;> omega)).trans ((Below.heap_alloc _ _ _ (by simp <;> omega)).trans ((Below.heap_alloc _ _ _ (by simp <;> omega)).trans (blk_new _ _ (by simp))))), (Below.heap_alloc _ _ _ (by simp <;> omega)).trans ((Below.heap_alloc _ _ _ (by simp <;> omega)).trans ((Below.heap_alloc _ _ _ (by simp <;> omega)).trans (blk_new _ _ (by simp)))), (Below.heap_alloc _ _ _ (by simp <;> omega)).trans ((Below.heap_alloc _ _ _ (by simp <;> omega)).trans (blk_new _ _ (by simp))), (Below.heap_alloc _ _ _ (by simp <;> omega)).trans (blk_new _ _ (by simp)), blk_new _ _ (by simp), (((((((((((Below.refl w.heap.size w).alloc (Nat.le_refl _) _).alloc (by simp <;> omega) _).alloc (by simp <;> omega) _).alloc (by simp <;> omega) _).alloc (by simp <;> omega) _).alloc (by simp <;> omega) _).alloc (by simp <;> omega) _).alloc (by simp <;> omega) _).alloc (by simp <;> omega) _).alloc (by simp <;> omega) _).alloc (by simp <;> omega) _⟩
end Go.Proofs.YtiicjbnocpphdaaDoor.Cd
