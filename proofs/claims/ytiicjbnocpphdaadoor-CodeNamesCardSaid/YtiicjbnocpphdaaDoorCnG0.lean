/- The table of CodeNames. Conditions: none. -/
import Derived.Test.YtiicjbnocpphdaaDoorCnE
set_option linter.unusedSimpArgs false
set_option linter.unusedVariables false
namespace Go.Proofs.YtiicjbnocpphdaaDoor.Cd
open Go Go.RowKit
open Go.Proofs.YtiicjbnocpphdaaDoor.Lx Go.Proofs.YtiicjbnocpphdaaDoor.Tr
open Go.Proofs.YtiicjbnocpphdaaDoor.Vq Go.Proofs.YtiicjbnocpphdaaDoor.Qr

/-- the table, where its lists of Args lie behind block B -/
def cnT (B : Nat) : List (Ins × Bool) := [(⟨0, 0, 0, 0, 0, none, 0, []⟩, false),
  (⟨14, 0, 0, 0, 0, none, 0, []⟩, false),
  (⟨1, 2, 0, 0, (-9223372036854775808), none, 0, []⟩, true),
  (⟨1, 3, 0, 0, 0, none, 0, []⟩, false),
  (⟨1, (-1), 0, 0, 0, none, 0, []⟩, false),
  (⟨1, 0, 1, 0, 0, none, 0, []⟩, false),
  (⟨2, 1, 2, 0, 0, none, 0, []⟩, true),
  (⟨2, 0, 3, 0, 0, none, 0, []⟩, false),
  (⟨2, 0, 0, 0, 1, none, 0, []⟩, false),
  (⟨3, 0, 0, 0, 5, none, 0, []⟩, true),
  (⟨3, 0, 0, 0, 6, none, 0, []⟩, true),
  (⟨3, 0, 0, 0, 7, none, 0, []⟩, false),
  (⟨3, 0, 0, 0, 0, none, 0, []⟩, false),
  (⟨4, 0, 1, 2, 7, none, 0, []⟩, true),
  (⟨4, 0, 0, 0, 17, none, 0, []⟩, true),
  (⟨4, 0, 0, 0, 18, none, 0, []⟩, false),
  (⟨4, 0, 0, 0, 6, none, 0, []⟩, false),
  (⟨4, 0, 0, 3, 7, none, 0, []⟩, false),
  (⟨5, 0, (-1), 0, 0, none, 0, []⟩, true),
  (⟨5, 0, (-2), 0, 0, none, 0, []⟩, false),
  (⟨5, 0, 0, 0, 1, none, 0, []⟩, false),
  (⟨5, 0, 0, 0, (-1), none, 0, []⟩, false),
  (⟨6, 0, (-1), 2, 0, none, 0, []⟩, true),
  (⟨6, 0, 0, (-1), 0, none, 0, []⟩, false),
  (⟨6, 1, 0, 0, 0, none, 0, []⟩, false),
  (⟨7, 0, 0, 0, 0, none, 0, []⟩, true),
  (⟨7, 0, 0, 0, 1, none, 0, []⟩, false),
  (⟨8, 0, 0, 0, 0, none, 0, []⟩, true),
  (⟨8, 0, 1, 0, 0, none, 0, []⟩, false),
  (⟨9, 0, 2, 0, 0, none, 0, []⟩, true),
  (⟨9, 0, (-1), 0, 0, none, 0, []⟩, false),
  (⟨10, 1, 0, 0, 1, some ⟨B + 1, 0, none⟩, 2, [0, 2]⟩, true),
  (⟨10, 0, 0, 0, 1, some ⟨B + 1 + 1, 0, none⟩, 1, [0]⟩, false),
  (⟨10, 0, 0, 0, 1, some ⟨B + 1 + 1 + 1, 0, none⟩, 3, [0, 1, 2]⟩, false),
  (⟨10, 0, 0, 0, 1, some ⟨B + 1 + 1 + 1 + 1, 0, none⟩, 2, [0, 3]⟩, false),
  (⟨10, 0, 0, 0, 0, none, 0, []⟩, false),
  (⟨10, 0, 0, 0, 2, none, 0, []⟩, false),
  (⟨11, 0, 0, 0, 0, none, 0, []⟩, true),
  (⟨11, 0, 0, 0, 1, none, 0, []⟩, false),
  (⟨11, 0, 0, 0, (-1), none, 0, []⟩, false),
  (⟨12, 0, 2, 0, 0, none, 0, []⟩, true),
  (⟨12, 0, 2, 0, 1099511627776, none, 0, []⟩, false),
  (⟨13, 0, 2, 0, 0, none, 0, []⟩, true),
  (⟨13, 0, 0, 0, 0, some ⟨B + 1 + 1 + 1 + 1 + 1, 0, none⟩, 1, [1]⟩, false)]
def xVals (x : Ins × Bool) : List Value := x.1.vals ++ [.bool x.2]
theorem xVals_len (x : Ins × Bool) : (xVals x).length = 7 := rfl
def cnQs (B : Nat) : Array (Nat × Value) := ⟨(cnT B).zipIdx.map fun x => (x.2, .agg ⟨xVals x.1⟩)⟩
theorem cn_len (B : Nat) : (cnT B).length = 44 := rfl
set_option maxRecDepth 100000
theorem cn_build (B : Nat) (w : World) : (Instr.buildSlice 33 44 (cnQs B)).run Tryd.prog w = .ok (.slice (some ⟨w.heap.size, 0, none⟩) 44 44) (w.alloc (.cells ⟨(cnT B).flatMap xVals⟩ 32)) := by kernel_rfl
theorem cn_all (B : Nat) (ma la fa aa ca ba : Option Addr) (mc lc fc ac cc bc : Nat) : ((cnT B).all fun x => (mayI (oneP ma la fa aa ca ba mc lc fc ac cc bc 3 [bk]) 0 x.1 == x.2) && (!(mayI (oneP ma la fa aa ca ba mc lc fc ac cc bc 3 [bk]) 2 x.1) && !(mayI (oneP ma la fa aa ca ba mc lc fc ac cc bc 3 [bk]) (-1) x.1))) = true := by kernel_rfl
theorem cn_row (B : Nat) (V : World) (h1 : V.heap[B + 1]? = some (.cells ⟨numCells [0, 2]⟩ 3 (0, 0))) (h2 : V.heap[B + 1 + 1]? = some (.cells ⟨numCells [0]⟩ 3 (0, 0))) (h3 : V.heap[B + 1 + 1 + 1]? = some (.cells ⟨numCells [0, 1, 2]⟩ 3 (0, 0))) (h4 : V.heap[B + 1 + 1 + 1 + 1]? = some (.cells ⟨numCells [0, 3]⟩ 3 (0, 0))) (h5 : V.heap[B + 1 + 1 + 1 + 1 + 1]? = some (.cells ⟨numCells [1]⟩ 3 (0, 0))) : ∀ x ∈ cnT B, U8 x.1.op ∧ RowAt V (fun _ => True) x.1.aa x.1.acap x.1.args.length (numCells x.1.args) := by
  intro x hx
  unfold cnT at hx
  simp only [List.mem_cons, List.mem_nil_iff, or_false] at hx
  rcases hx with rfl | rfl | rfl | rfl | rfl | rfl | rfl | rfl | rfl | rfl | rfl | rfl | rfl | rfl | rfl | rfl | rfl | rfl | rfl | rfl | rfl | rfl | rfl | rfl | rfl | rfl | rfl | rfl | rfl | rfl | rfl | rfl | rfl | rfl | rfl | rfl | rfl | rfl | rfl | rfl | rfl | rfl | rfl | rfl
  all_goals first | exact ⟨⟨by decide, by decide⟩, row_none _ _⟩ | exact ⟨(show U8 10 from ⟨by decide, by decide⟩), row_blk (vs := numCells [0, 2]) 2 h1 (by decide) trivial⟩ | exact ⟨(show U8 10 from ⟨by decide, by decide⟩), row_blk (vs := numCells [0]) 1 h2 (by decide) trivial⟩ | exact ⟨(show U8 10 from ⟨by decide, by decide⟩), row_blk (vs := numCells [0, 1, 2]) 3 h3 (by decide) trivial⟩ | exact ⟨(show U8 10 from ⟨by decide, by decide⟩), row_blk (vs := numCells [0, 3]) 2 h4 (by decide) trivial⟩ | exact ⟨(show U8 13 from ⟨by decide, by decide⟩), row_blk (vs := numCells [1]) 1 h5 (by decide) trivial⟩
theorem seven (w : World) (o0 o1 o2 o3 o4 o5 o6 : Obj) (W : World) (h : ((((((w.alloc o0).alloc o1).alloc o2).alloc o3).alloc o4).alloc o5).alloc o6 = W) :
    W.heap[w.heap.size]? = some o0 ∧ W.heap[w.heap.size + 1]? = some o1 ∧ W.heap[w.heap.size + 1 + 1]? = some o2 ∧ W.heap[w.heap.size + 1 + 1 + 1]? = some o3 ∧ W.heap[w.heap.size + 1 + 1 + 1 + 1]? = some o4 ∧ W.heap[w.heap.size + 1 + 1 + 1 + 1 + 1]? = some o5 ∧ W.heap[w.heap.size + 1 + 1 + 1 + 1 + 1 + 1]? = some o6 ∧ Below w.heap.size w W := by
  obtain ⟨W1, h1⟩ : ∃ W1, ((((w.alloc o0).alloc o1).alloc o2).alloc o3).alloc o4 = W1 := ⟨_, rfl⟩
  have h0 := five0 w o0 o1 o2 o3 o4 W1 h1
  obtain ⟨g1, g2, g3, g4, hs, hb⟩ := five w o0 o1 o2 o3 o4 W1 h1
  rw [h1] at h
  subst h
  have hk := b_alloc2 W1 o5 o6
  refine ⟨(hk.block _ (by omega)).trans h0, (hk.block _ (by omega)).trans g1, (hk.block _ (by omega)).trans g2, (hk.block _ (by omega)).trans g3, (hk.block _ (by omega)).trans g4, (Below.heap_alloc _ _ _ (by simp; omega)).trans (blk_new _ _ (by omega)), blk_new _ _ (by simp; omega), hb.trans (hk.mono (by omega))⟩
theorem wp_bs {P : Program} {o : Oper} {a : Act} {w w' : World} {K : Act → World → Prop} {Q : Exit → Act → World → Prop} (t n : Nat) (ps : Array (Nat × Operand)) (qs : Array (Nat × Value)) (v : Value) (ho : o.op = .buildSlice t n ps) (hp : ps.map (fun p => (p.1, a.eval p.2)) = qs) (hr : (Instr.buildSlice t n qs).run P w = .ok v w') (h : K (a.put o.dst v) w') : Oper.wp P o a w K Q := by
  subst hp
  unfold Oper.wp execOp
  simp only [ho]
  simp [hr]
  exact h
end Go.Proofs.YtiicjbnocpphdaaDoor.Cd
