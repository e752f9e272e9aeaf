/- A variable that holds an expression whose parts lie elsewhere. Conditions: none. -/
import Derived.Test.YtolmhcdcfnoicaaDoorOkN
import Derived.Test.YtolmhcdcfnoicaaDoorAcc
import Derived.Test.YtolmhcdcfnoicaaDoorTrX
import Derived.ArgAppend
namespace Go.Proofs.YtolmhcdcfnoicaaDoor.Tr
open Go Go.RowKit
open Go.Proofs.YtolmhcdcfnoicaaDoor.Lx
open Go.Proofs.YtolmhcdcfnoicaaDoor.Qg
open Go.Proofs.YtolmhcdcfnoicaaDoor.Qr

def eOne0 : Ex := .mk 1 ⟨#[]⟩ 1 none 0 [] 0
def negs : Nat → Ex
  | 0 => eOne0
  | k + 1 => .mk 5 ⟨#[]⟩ 0 none 0 [negs k] 0
/-- a variable's block holds an expression whose parts lie elsewhere -/
def VarE (b : Nat) (x : Ex) (w : World) : Prop := ∃ e : Ex, w.heap[b]? = some (.cells ⟨e.vals⟩ 25 (0, 0)) ∧ Ex.In w (fun c => c ≠ b) e ∧ e.er = x
theorem varE_new (w : World) : VarE w.heap.size eOne0 (w.alloc (.cells #[.int .u8 1, .string ⟨#[]⟩, .int .i64 1, .slice none 0 0, .int .i64 0] 25)) := by
  refine ⟨eOne0, World.alloc_heap_new w _, ?_, by unfold eOne0; rw [Ex.er_eq, Ex.erL_nil]⟩
  unfold eOne0 Ex.In
  exact ⟨by unfold U8; omega, by unfold maxLen; decide, by unfold I64; omega, by unfold I64; omega, ⟨Nat.le_refl _, Nat.zero_le _, fun _ => rfl, fun j u hu => by simp [exCells] at hu⟩, inL_nil⟩
theorem heap_set {w : World} {b : Nat} {vs : Array Value} {T : TypeId} {fr : Nat × Nat} (h : w.heap[b]? = some (.cells vs T fr)) (j : Nat) (v : Value) : (w.setCell ⟨b, j, none⟩ v).heap[b]? = some (.cells (vs.setIfInBounds j v) T fr) := by
  unfold World.setCell
  show (w.heap.modify b _)[b]? = _
  rw [Array.getElem?_modify, if_pos rfl, h]
  simp
theorem kps_set {S : Nat → Prop} {b : Nat} (hS : ¬ S b) (A : World) (j : Nat) (v : Value) : Kps S A (A.setCell ⟨b, j, none⟩ v) := fun c o u hc h => by
  rw [World.cell?_setCell_other _ _ _ _ (fun e => hS (by cases e; exact hc))]
  exact h
theorem varE_step {wr : World} {bd : Nat} {x e : Ex} (hb : wr.heap[bd]? = some (.cells ⟨e.vals⟩ 25 (0, 0))) (hie : Ex.In wr (fun c => c ≠ bd) e) (her : e.er = x) :
    VarE bd (.mk 5 ⟨#[]⟩ 0 none 0 [x] 0) ((((((wr.setCell ⟨bd, 0, none⟩ (.int .u8 5)).setCell ⟨bd, 1, none⟩ (.string ⟨#[]⟩)).setCell ⟨bd, 2, none⟩ (.int .i64 0)).setCell ⟨bd, 3, none⟩ (.slice (some ⟨wr.heap.size, 0, none⟩) 1 1)).setCell ⟨bd, 4, none⟩ (.int .i64 0)).alloc (.cells ⟨exCells [e]⟩ 25)) := by
  have h5 := heap_set (heap_set (heap_set (heap_set (heap_set hb 0 (.int .u8 5)) 1 (.string ⟨#[]⟩)) 2 (.int .i64 0)) 3 (.slice (some ⟨wr.heap.size, 0, none⟩) 1 1)) 4 (.int .i64 0)
  have hK : Kps (fun c => c ≠ bd) wr (((((wr.setCell ⟨bd, 0, none⟩ (.int .u8 5)).setCell ⟨bd, 1, none⟩ (.string ⟨#[]⟩)).setCell ⟨bd, 2, none⟩ (.int .i64 0)).setCell ⟨bd, 3, none⟩ (.slice (some ⟨wr.heap.size, 0, none⟩) 1 1)).setCell ⟨bd, 4, none⟩ (.int .i64 0)) :=
    ((((kps_set (by simp) _ _ _).trans (kps_set (by simp) _ _ _)).trans (kps_set (by simp) _ _ _)).trans (kps_set (by simp) _ _ _)).trans (kps_set (by simp) _ _ _)
  have hs : (((((wr.setCell ⟨bd, 0, none⟩ (.int .u8 5)).setCell ⟨bd, 1, none⟩ (.string ⟨#[]⟩)).setCell ⟨bd, 2, none⟩ (.int .i64 0)).setCell ⟨bd, 3, none⟩ (.slice (some ⟨wr.heap.size, 0, none⟩) 1 1)).setCell ⟨bd, 4, none⟩ (.int .i64 0)).heap.size = wr.heap.size := by simp
  have hbl : bd < wr.heap.size := (Array.getElem?_eq_some_iff.1 hb).1
  generalize (((((wr.setCell ⟨bd, 0, none⟩ (.int .u8 5)).setCell ⟨bd, 1, none⟩ (.string ⟨#[]⟩)).setCell ⟨bd, 2, none⟩ (.int .i64 0)).setCell ⟨bd, 3, none⟩ (.slice (some ⟨wr.heap.size, 0, none⟩) 1 1)).setCell ⟨bd, 4, none⟩ (.int .i64 0)) = W at *
  refine ⟨.mk 5 ⟨#[]⟩ 0 (some ⟨wr.heap.size, 0, none⟩) 1 [e] 0, ?_, ?_, by rw [Ex.er_eq, Ex.erL_cons, Ex.erL_nil, her]⟩
  · rw [(Ext.al W _).block bd (by omega), h5]
    obtain ⟨k, nm, n, a, c, l, q⟩ := e
    rfl
  · unfold Ex.In
    refine ⟨by unfold U8; omega, by unfold maxLen; decide, by unfold I64; omega, by unfold I64; omega, ?_, inL_cons (Ex.In.below (hK.trans (Kps.alloc _ _)) _ hie) inL_nil⟩
    rw [← hs]
    exact row_new (exCells [e]) _ 1 (by omega) (by omega)
theorem varE_neg {wr w4 : World} {bd k : Nat} {ek : Int} {en : ByteArray} {em : Int} {ea : Option Addr} {ec : Nat} {el : List Ex} {ep : Int} (hb : wr.heap[bd]? = some (.cells ⟨(Ex.mk ek en em ea ec el ep).vals⟩ 25 (0, 0))) (hie : Ex.In wr (fun c => c ≠ bd) (.mk ek en em ea ec el ep)) (her : (Ex.mk ek en em ea ec el ep).er = negs k) (hE : Ext w4 wr) (hs : w4.heap.size = bd) :
    VarE bd (negs (k + 1)) ((((((wr.setCell ⟨bd, 0, none⟩ (.int .u8 5)).setCell ⟨bd, 1, none⟩ (.string ⟨#[]⟩)).setCell ⟨bd, 2, none⟩ (.int .i64 0)).setCell ⟨bd, 3, none⟩ (.slice (some ⟨wr.heap.size, 0, none⟩) 1 1)).setCell ⟨bd, 4, none⟩ (.int .i64 0)).alloc (.cells #[.int .u8 ek, .string en, .int .i64 em, .slice ea el.length ec, .int .i64 ep] 25)) ∧
    Ext w4 ((((((wr.setCell ⟨bd, 0, none⟩ (.int .u8 5)).setCell ⟨bd, 1, none⟩ (.string ⟨#[]⟩)).setCell ⟨bd, 2, none⟩ (.int .i64 0)).setCell ⟨bd, 3, none⟩ (.slice (some ⟨wr.heap.size, 0, none⟩) 1 1)).setCell ⟨bd, 4, none⟩ (.int .i64 0)).alloc (.cells #[.int .u8 ek, .string en, .int .i64 em, .slice ea el.length ec, .int .i64 ep] 25)) := by
  have hbl : bd < wr.heap.size := (Array.getElem?_eq_some_iff.1 hb).1
  have e1 : exCells [Ex.mk ek en em ea ec el ep] = [.int .u8 ek, .string en, .int .i64 em, .slice ea el.length ec, .int .i64 ep] := rfl
  have h := varE_step hb hie her
  rw [e1] at h
  have e2 : negs (k + 1) = .mk 5 ⟨#[]⟩ 0 none 0 [negs k] 0 := rfl
  rw [e2]
  refine ⟨h, ?_⟩
  unfold Ext at hE ⊢
  rw [hs] at hE ⊢
  exact (((((hE.setCell (Nat.le_refl _) _).setCell (Nat.le_refl _) _).setCell (Nat.le_refl _) _).setCell (Nat.le_refl _) _).setCell (Nat.le_refl _) _).alloc (by simp; omega) _
/-- append to a list without room -/
theorem row_own {w : World} {base : Nat} {T : TypeId} {size n : Nat} {v : Value} {xs : List Value} (h : w.ownsRow base T size v n xs) (hn : 0 < n) : ∃ a cap, v = .slice a n cap ∧ RowAt w (fun _ => True) a cap n xs := by
  obtain ⟨hl, h⟩ := h
  rcases h with ⟨_, h0⟩ | ⟨g, cap, cur, hv, _, hb, hc, hm, hs, ht⟩
  · omega
  · refine ⟨_, cap, hv, hc, hm, fun h => (by cases h), fun j u hu => ⟨g, 0, rfl, trivial, ?_⟩⟩
    rw [Nat.zero_add]
    refine blk_cell hb ?_
    rw [← ht] at hu
    have hj : j < n * size := by
      have := (List.getElem?_eq_some_iff.1 hu).1
      simp at this
      omega
    rw [List.getElem?_take_of_lt hj] at hu
    simpa using hu
theorem app_des {w : World} {l m : List De} {bk off : Nat} {am : Option Addr} {cm : Nat} (ty : TypeId) (hrow : RowAt w (fun _ => True) (some ⟨bk, off, none⟩) l.length l.length (deCells l)) (hin : De.InL w (fun _ => True) l)
    (hrm : RowAt w (fun _ => True) am cm m.length (deCells m)) (him : De.InL w (fun _ => True) m) (hm : 0 < m.length) (hs : l.length + m.length ≤ 100000) :
    ∃ v' w', (Builtin.append_ #[22, 22] ty #[.slice (some ⟨bk, off, none⟩) l.length l.length, .slice am m.length cm]).run Tryd.prog w = .ok v' w' ∧ VDs (fun _ => True) (De.erL (l ++ m)) v' w' ∧ Ext w w' := by
  obtain ⟨i, h2, h3, h4, h5⟩ := info_parts (show (Tryd.prog.info? 40).map (fun i => (i.zero, i.size, i.bytes)) = some (some (.agg #[.int .u8 0, .string ⟨#[]⟩, .int .i64 0, .slice none 0 0, .slice none 0 0, .int .i64 0]), 6, 88) by kernel_rfl)
  obtain ⟨d, r, rfl⟩ : ∃ d r, m = d :: r := by
    cases m with
    | nil => simp at hm
    | cons d r => exact ⟨d, r, rfl⟩
  obtain ⟨bm, om, rfl, _, _⟩ := hrm.at_ 0 (.int .u8 d.kind) rfl
  have hlen : ∀ l : List De, (deCells l).length = l.length * 6 := fun l => flat_len De.vals 6 De.vals_len l
  obtain ⟨v', w', hr, ho, hg⟩ := run_append_arg_grows (P := Tryd.prog) w 22 ty 40 i _ 6 88 Tryd.underlying22 h2 h3 h4 h5 (by rfl) (by omega) ⟨bk, off, none⟩ l.length l.length (deCells l) (hlen l)
    (fun j u hu => by
      obtain ⟨b', o', ha, _, hc⟩ := hrow.at_ j u hu
      cases ha
      by_cases h0 : j = 0
      · subst h0; simpa [Addr.add] using hc
      · simpa [Addr.add, h0] using hc)
    ⟨bm, om, none⟩ (d :: r).length cm (deCells (d :: r)) (hlen _)
    (fun j u hu => by
      obtain ⟨b', o', ha, _, hc⟩ := hrm.at_ j u hu
      cases ha
      by_cases h0 : j = 0
      · subst h0; simpa [Addr.add] using hc
      · simpa [Addr.add, h0] using hc)
    (by omega) (by unfold maxLen; omega) (by omega)
  have hE : Ext w w' := (Below.refl _ _).grown hg (Nat.le_refl _) (fun k hk => by cases hk)
  obtain ⟨a, cap, rfl, hR⟩ := row_own ho (by omega)
  refine ⟨_, w', hr, ⟨l ++ d :: r, a, cap, by rw [List.length_append], ?_, fun x hx => ?_, rfl⟩, hE⟩
  · have e1 : deCells (l ++ d :: r) = deCells l ++ deCells (d :: r) := by unfold deCells; exact List.flatMap_append
    rw [e1, List.length_append]
    exact hR
  · rcases List.mem_append.1 hx with hx | hx
    · exact De.In.below (Kps.of_below hE) (hin x hx)
    · exact De.In.below (Kps.of_below hE) (him x hx)
theorem run_callv {P : Program} {a : Act} {o : Oper} {f : FuncId} {x y : Operand} {ts : Array TypeId} {u : Value} {w : World}
    (ho : o.op = .call { callee := .value x, args := #[y], argTypes := ts }) (hx : a.eval x = .func (.func f) #[] #[]) (hy : a.eval y = u) (hf : ∀ (ys : Array Value) (w : World), (callFunc f ys).run P w = .ok (.enter f ys) w) :
    (execOp a.eval o).run P w = .ok (.enter f #[u]) w := by
  subst hy
  unfold execOp
  simp only [ho, resolve, hx, Deferred.ofValue, Sem.run_bind, Sem.run_pure, Result.andThen, invoke]
  simp [hf]
theorem en_ok (xs : Array Value) (w : World) : (callFunc 25 xs).run Tryd.prog w = .ok (.enter 25 xs) w := rfl
/-- the calls of the walk, by what they are handed -/
theorem call_ok {w : World} {x : St} {v : Value} {b : Bool} (h : VS (fun _ => True) x v w) (hsz : x.sz ≤ 4194304) (hb : okS x = b) (ht : TabsD w) :
    Calls Tryd.prog 25 #[v] w fun e w' => e = .returned (.bool b) ∧ Ext w w' := by
  obtain ⟨e, rfl, hin, her⟩ := h
  exact (ok_any e w hin (by rw [← St.er_sz, her]; exact hsz) ht).mono fun x w' h => ⟨by rw [h.1, her, hb], h.2⟩
theorem call_may {w : World} {xs : List De} {v : Value} {b : Bool} (h : VDs (fun _ => True) xs v w) (hsz : De.szL xs ≤ 4194304) (hb : mayP xs = b) (ht : TabsD w) :
    Calls Tryd.prog 11 #[v] w fun e w' => e = .returned (.bool b) ∧ Ext w w' := by
  obtain ⟨l, a, c, rfl, hrow, hin, rfl⟩ := h
  exact (mayP_any l a c w hrow hin (by rw [← De.erL_sz]; exact hsz) ht).mono fun x w' h => ⟨by rw [h.1, ← mayP_er, hb], h.2⟩
theorem var_ex {w W : World} {b : Nat} {x : Ex} (h : VarE b x w) (hb : Ext w W) : ∃ v, (Instr.loadAt 25 (.pointer (some ⟨b, 0, none⟩))).run Tryd.prog W = .ok v W ∧ VE (fun _ => True) x v W := by
  obtain ⟨⟨ek, en, em, ea, ec, el, ep⟩, hk, hin, her⟩ := h
  have c0 : w.cell? ⟨b, 0, none⟩ = some (.int .u8 ek) := blk_cell hk rfl
  have c1 : w.cell? ⟨b, 1, none⟩ = some (.string en) := blk_cell hk rfl
  have c2 : w.cell? ⟨b, 2, none⟩ = some (.int .i64 em) := blk_cell hk rfl
  have c3 : w.cell? ⟨b, 3, none⟩ = some (.slice ea el.length ec) := blk_cell hk rfl
  have c4 : w.cell? ⟨b, 4, none⟩ = some (.int .i64 ep) := blk_cell hk rfl
  exact ⟨_, ld_ex (below_in hb c0) (below_in hb c1) (below_in hb c2) (below_in hb c3) (below_in hb c4), ⟨_, rfl, Ex.In.below (Kps.of_below hb) _ (Ex.In.mono (fun _ _ => trivial) _ hin), her⟩⟩
theorem VarE.ext {w W : World} {b : Nat} {x : Ex} (h : VarE b x w) (hb : Ext w W) : VarE b x W := by
  obtain ⟨e, hk, hin, her⟩ := h
  exact ⟨e, (hb.block b (Array.getElem?_eq_some_iff.1 hk).1).trans hk, Ex.In.below (Kps.of_below hb) _ hin, her⟩
theorem des_nil {w : World} {S : Nat → Prop} : VDs S [] (.slice none 0 0) w := ⟨[], none, 0, rfl, ⟨Nat.le_refl _, Nat.zero_le _, fun _ => rfl, fun j u hu => by simp [deCells] at hu⟩, idL_nil, rfl⟩
theorem run_app {P : Program} {a : Act} {o : Oper} {x y : Operand} {ts : Array TypeId} {u v r : Value} {w w' : World}
    (ho : o.op = .call { callee := .builtin .append, args := #[x, y], argTypes := ts }) (hx : a.eval x = u) (hy : a.eval y = v) (hr : (Builtin.append_ ts o.type #[u, v]).run P w = .ok r w') : (execOp a.eval o).run P w = .ok (.value r) w' := by
  unfold execOp
  simp [ho, hx, hy, resolve, invoke, builtin, hr]
theorem run_ix {P : Program} {a : Act} {o : Oper} {t : TypeId} {x y : Operand} {u v r : Value} {w w' : World} (ho : o.op = .indexAddr t x y) (hx : a.eval x = u) (hy : a.eval y = v) (hr : (Instr.indexAt t u v).run P w = .ok r w') : (execOp a.eval o).run P w = .ok (.value r) w' := by
  subst hx hy
  unfold execOp
  simp [ho, hr]
end Go.Proofs.YtolmhcdcfnoicaaDoor.Tr
