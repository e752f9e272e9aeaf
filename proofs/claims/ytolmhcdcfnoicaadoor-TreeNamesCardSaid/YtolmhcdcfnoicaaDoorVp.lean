/- Values that are trees, by what they say: literals of expressions, statements, declarations and names in memory; the steps of a region by Qr's law. Conditions: none. -/
import Derived.Test.YtolmhcdcfnoicaaDoorTrW
import Derived.Test.YtolmhcdcfnoicaaDoorQf
import Derived.Test.YtolmhcdcfnoicaaDoorQr
namespace Go.Proofs.YtolmhcdcfnoicaaDoor.Tr
open Go Go.RowKit
open Go.Proofs.YtolmhcdcfnoicaaDoor.Lx
open Go.Proofs.YtolmhcdcfnoicaaDoor.Qg
open Go.Proofs.YtolmhcdcfnoicaaDoor.Qr

/-! ### what a value says -/
def VE (S : Nat → Prop) (x : Ex) (v : Value) (w : World) : Prop := ∃ e : Ex, v = .agg ⟨e.vals⟩ ∧ Ex.In w S e ∧ e.er = x
def VS (S : Nat → Prop) (x : St) (v : Value) (w : World) : Prop := ∃ e : St, v = .agg ⟨e.vals⟩ ∧ St.In w S e ∧ e.er = x
def VD (S : Nat → Prop) (x : De) (v : Value) (w : World) : Prop := ∃ e : De, v = .agg ⟨e.vals⟩ ∧ De.In w S e ∧ e.er = x
def VEs (S : Nat → Prop) (xs : List Ex) (v : Value) (w : World) : Prop := ∃ (l : List Ex) (a : Option Addr) (cap : Nat), v = .slice a l.length cap ∧ RowAt w S a cap l.length (exCells l) ∧ Ex.InL w S l ∧ Ex.erL l = xs
def VSs (S : Nat → Prop) (xs : List St) (v : Value) (w : World) : Prop := ∃ (l : List St) (a : Option Addr) (cap : Nat), v = .slice a l.length cap ∧ RowAt w S a cap l.length (stCells l) ∧ St.InL w S l ∧ St.erL l = xs
def VDs (S : Nat → Prop) (xs : List De) (v : Value) (w : World) : Prop := ∃ (l : List De) (a : Option Addr) (cap : Nat), v = .slice a l.length cap ∧ RowAt w S a cap l.length (deCells l) ∧ De.InL w S l ∧ De.erL l = xs
def VNs (S : Nat → Prop) (xs : List ByteArray) (v : Value) (w : World) : Prop := ∃ (a : Option Addr) (cap : Nat), v = .slice a xs.length cap ∧ RowAt w S a cap xs.length (strCells xs) ∧ ∀ p ∈ xs, p.size ≤ maxLen
/-- just this value -/
def VK (u : Value) (v : Value) (_ : World) : Prop := v = u
def VT (_ : Value) (_ : World) : Prop := True

abbrev Ext (w w' : World) : Prop := Below w.heap.size w w'
def Mono (p : Value → World → Prop) : Prop := ∀ v w w', Ext w w' → p v w → p v w'
theorem VE.mono {S : Nat → Prop} {x : Ex} : Mono (VE S x) := fun _ _ _ hb ⟨e, h1, h2, h3⟩ => ⟨e, h1, Ex.In.below (Kps.of_below hb) _ h2, h3⟩
theorem VS.mono {S : Nat → Prop} {x : St} : Mono (VS S x) := fun _ _ _ hb ⟨e, h1, h2, h3⟩ => ⟨e, h1, St.In.below (Kps.of_below hb) _ h2, h3⟩
theorem VD.mono {S : Nat → Prop} {x : De} : Mono (VD S x) := fun _ _ _ hb ⟨e, h1, h2, h3⟩ => ⟨e, h1, De.In.below (Kps.of_below hb) h2, h3⟩
theorem VEs.mono {S : Nat → Prop} {x : List Ex} : Mono (VEs S x) := fun _ _ _ hb ⟨l, a, c, h1, h2, h3, h4⟩ => ⟨l, a, c, h1, h2.below (Kps.of_below hb), Ex.InL.below (Kps.of_below hb) _ h3, h4⟩
theorem VSs.mono {S : Nat → Prop} {x : List St} : Mono (VSs S x) := fun _ _ _ hb ⟨l, a, c, h1, h2, h3, h4⟩ => ⟨l, a, c, h1, h2.below (Kps.of_below hb), St.InL.below (Kps.of_below hb) _ h3, h4⟩
theorem VDs.mono {S : Nat → Prop} {x : List De} : Mono (VDs S x) := fun _ _ _ hb ⟨l, a, c, h1, h2, h3, h4⟩ => ⟨l, a, c, h1, h2.below (Kps.of_below hb), De.InL.below (Kps.of_below hb) h3, h4⟩
theorem VNs.mono {S : Nat → Prop} {x : List ByteArray} : Mono (VNs S x) := fun _ _ _ hb ⟨a, c, h1, h2, h3⟩ => ⟨a, c, h1, h2.below (Kps.of_below hb), h3⟩
theorem VK.mono {u : Value} : Mono (VK u) := fun _ _ _ _ h => h
theorem VT.mono : Mono VT := fun _ _ _ _ h => h

/-! ### lists made anew -/
theorem row_new {w : World} {S : Nat → Prop} (vs : List Value) (T : TypeId) (n : Nat) (hn : n ≤ 100000) (hS : S w.heap.size) : RowAt (w.alloc (.cells ⟨vs⟩ T)) S (some ⟨w.heap.size, 0, none⟩) n n vs := by
  refine ⟨Nat.le_refl _, by unfold maxLen; omega, fun h => (by cases h), fun j u hu => ⟨w.heap.size, 0, rfl, hS, ?_⟩⟩
  have h : (w.alloc (.cells ⟨vs⟩ T)).heap[w.heap.size]? = some (.cells ⟨vs⟩ T (0, 0)) := World.alloc_heap_new w _
  simp only [World.cell?, h]
  rw [Nat.zero_add]
  simpa using hu
theorem exs_new {w : World} {S : Nat → Prop} {T : TypeId} (l : List Ex) (hn : l.length ≤ 100000) (hin : Ex.InL w S l) (hS : S w.heap.size) :
    VEs S (Ex.erL l) (.slice (some ⟨w.heap.size, 0, none⟩) l.length l.length) (w.alloc (.cells ⟨exCells l⟩ T)) :=
  ⟨l, _, _, rfl, row_new _ _ _ hn hS, Ex.InL.below (Kps.of_below ((Below.refl _ _).alloc (Nat.le_refl _) _)) _ hin, rfl⟩
theorem sts_new {w : World} {S : Nat → Prop} {T : TypeId} (l : List St) (hn : l.length ≤ 100000) (hin : St.InL w S l) (hS : S w.heap.size) :
    VSs S (St.erL l) (.slice (some ⟨w.heap.size, 0, none⟩) l.length l.length) (w.alloc (.cells ⟨stCells l⟩ T)) :=
  ⟨l, _, _, rfl, row_new _ _ _ hn hS, St.InL.below (Kps.of_below ((Below.refl _ _).alloc (Nat.le_refl _) _)) _ hin, rfl⟩
theorem des_new {w : World} {S : Nat → Prop} {T : TypeId} (l : List De) (hn : l.length ≤ 100000) (hin : De.InL w S l) (hS : S w.heap.size) :
    VDs S (De.erL l) (.slice (some ⟨w.heap.size, 0, none⟩) l.length l.length) (w.alloc (.cells ⟨deCells l⟩ T)) :=
  ⟨l, _, _, rfl, row_new _ _ _ hn hS, De.InL.below (Kps.of_below ((Below.refl _ _).alloc (Nat.le_refl _) _)) hin, rfl⟩
theorem strs_new {w : World} {S : Nat → Prop} {T : TypeId} (l : List ByteArray) (hn : l.length ≤ 100000) (hin : ∀ p ∈ l, p.size ≤ maxLen) (hS : S w.heap.size) :
    VNs S l (.slice (some ⟨w.heap.size, 0, none⟩) l.length l.length) (w.alloc (.cells ⟨strCells l⟩ T)) :=
  ⟨_, _, rfl, row_new _ _ _ hn hS, hin⟩
theorem exs_nil {w : World} {S : Nat → Prop} : VEs S [] (.slice none 0 0) w := ⟨[], none, 0, rfl, ⟨Nat.le_refl _, Nat.zero_le _, fun _ => rfl, fun j u hu => by simp [exCells] at hu⟩, by unfold Ex.InL; trivial, Ex.erL_nil⟩
theorem sts_nil {w : World} {S : Nat → Prop} : VSs S [] (.slice none 0 0) w := ⟨[], none, 0, rfl, ⟨Nat.le_refl _, Nat.zero_le _, fun _ => rfl, fun j u hu => by simp [stCells] at hu⟩, by unfold St.InL; trivial, St.erL_nil⟩
theorem strs_nil {w : World} {S : Nat → Prop} : VNs S [] (.slice none 0 0) w := ⟨none, 0, rfl, ⟨Nat.le_refl _, Nat.zero_le _, fun _ => rfl, fun j u hu => by simp [strCells] at hu⟩, fun p h => by cases h⟩
/-! ### parts put together -/
theorem mk_ex {w : World} {S : Nat → Prop} {k : Int} {nm : ByteArray} {n : Int} {xs : List Ex} {v : Value} (hk : U8 k) (hnm : nm.size ≤ maxLen) (hn : I64 n) (hv : VEs S xs v w) :
    VE S (.mk k nm n none 0 xs 0) (.agg #[.int .u8 k, .string nm, .int .i64 n, v, .int .i64 0]) w := by
  obtain ⟨l, a, c, rfl, h2, h3, rfl⟩ := hv
  exact ⟨.mk k nm n a c l 0, rfl, by unfold Ex.In; exact ⟨hk, hnm, hn, ⟨by omega, by omega⟩, h2, h3⟩, Ex.er_eq _ _ _ _ _ _ _⟩
theorem mk_st {w : World} {S : Nat → Prop} {k : Int} {nm to : ByteArray} {nw : Bool} {xs : List Ex} {b e : List St} {v vb ve : Value} (hk : U8 k) (hnm : nm.size ≤ maxLen) (hto : to.size ≤ maxLen) (hv : VEs S xs v w) (hb : VSs S b vb w) (he : VSs S e ve w) :
    VS S (.mk k nm to nw none 0 xs none 0 b none 0 e 0) (.agg #[.int .u8 k, .string nm, .string to, .bool nw, v, vb, ve, .int .i64 0]) w := by
  obtain ⟨l, a, c, rfl, h2, h3, rfl⟩ := hv
  obtain ⟨l1, a1, c1, rfl, h21, h31, rfl⟩ := hb
  obtain ⟨l2, a2, c2, rfl, h22, h32, rfl⟩ := he
  exact ⟨.mk k nm to nw a c l a1 c1 l1 a2 c2 l2 0, rfl, by unfold St.In; exact ⟨hk, hnm, hto, ⟨by omega, by omega⟩, h2, h3, h21, h31, h22, h32⟩, St.er_eq _ _ _ _ _ _ _ _ _ _ _ _ _ _⟩
theorem mk_de {w : World} {S : Nat → Prop} {k : Int} {nm : ByteArray} {n : Int} {ps : List ByteArray} {b : List St} {v vb : Value} (hk : U8 k) (hnm : nm.size ≤ maxLen) (hn : I64 n) (hv : VNs S ps v w) (hb : VSs S b vb w) :
    VD S ⟨k, nm, n, none, 0, ps, none, 0, b, 0⟩ (.agg #[.int .u8 k, .string nm, .int .i64 n, v, vb, .int .i64 0]) w := by
  obtain ⟨a, c, rfl, h2, h3⟩ := hv
  obtain ⟨l1, a1, c1, rfl, h21, h31, rfl⟩ := hb
  exact ⟨⟨k, nm, n, a, c, ps, a1, c1, l1, 0⟩, rfl, ⟨hk, hnm, hn, ⟨by simp only; omega, by simp only; omega⟩, h2, h3, h21, h31⟩, rfl⟩

/-! ### the steps -/
section
variable {P : Program} {ops : Array Oper} {Q : Exit → Act → World → Prop} {C : World → Prop} {R : Nat → Value → World → Prop} {a0 : Act}
/-- one operation is shown -/
def Step (P : Program) (ops : Array Oper) (Q : Exit → Act → World → Prop) (C : World → Prop) (R : Nat → Value → World → Prop) (a0 : Act) (j : Nat) (o : Oper) : Prop :=
  ∀ (a : Act) (w : World), C w → Seen ops R a0 o a w →
      (Region.wanted o (yielded ops a.tmps) = true → o.wp P a w (fun a' w' => C w' ∧ Ext w w' ∧ ∃ v, a' = a.put o.dst v ∧ R j v w') Q) ∧
      (Region.wanted o (yielded ops a.tmps) = false → Ext w w ∧ R j undef w)
def StepsL (P : Program) (ops : Array Oper) (Q : Exit → Act → World → Prop) (C : World → Prop) (R : Nat → Value → World → Prop) (a0 : Act) : Nat → List Oper → Prop
  | _, [] => True
  | k, o :: r => Step P ops Q C R a0 k o ∧ StepsL P ops Q C R a0 (k + 1) r
theorem stepsL_get : ∀ (l : List Oper) (k j : Nat) (o : Oper), StepsL P ops Q C R a0 k l → l[j]? = some o → Step P ops Q C R a0 (k + j) o
  | [], _, _, _, _, h => by simp at h
  | x :: r, k, 0, o, hs, h => by
    simp at h; subst h
    exact hs.1
  | x :: r, k, j + 1, o, hs, h => by
    have := stepsL_get r (k + 1) j o hs.2 (by simpa using h)
    have e : k + 1 + j = k + (j + 1) := by omega
    rwa [e] at this
theorem steps_all {l : List Oper} (h : StepsL P l.toArray Q C R a0 0 l) : ∀ j o, l.toArray[j]? = some o → Step P l.toArray Q C R a0 j o := fun j o ho => by
  have := stepsL_get l 0 j o h (by simpa using ho)
  rwa [Nat.zero_add] at this
def MonoL : List (Value → World → Prop) → Prop
  | [] => True
  | p :: r => Mono p ∧ MonoL r
theorem mono_get : ∀ (l : List (Value → World → Prop)) (i : Nat), MonoL l → Mono (l.getD i VT)
  | [], _, _ => by simpa using VT.mono
  | p :: r, 0, h => by simpa using h.1
  | p :: r, i + 1, h => by simpa using mono_get r i h.2

theorem ev {a : Act} {t : Nat} {v : Value} (h : a.tmps[t]? = some v) : a.eval (.tmp t) = v := by simp [Act.eval, h]
theorem old_of {o : Oper} {a : Act} {w : World} (hs : Seen ops R a0 o a w) (t : Nat) {v : Value} (hB : (ops.all fun o => o.dst != some t) = true) (h0 : a0.tmps[t]? = some v) : a.tmps[t]? = some v := by
  rw [hs.old t (fun i hd => ?_), h0]
  unfold dstOf at hd
  cases hq : ops[i]? with
  | none => rw [hq] at hd; cases hd
  | some x =>
    rw [hq] at hd
    have h1 := Array.all_eq_true_iff_forall_mem.1 hB x (Array.mem_of_getElem? hq)
    have h2 : x.dst = some t := hd
    simp [h2] at h1
theorem got_of {o : Oper} {a : Act} {w : World} (hs : Seen ops R a0 o a w) (i d : Nat) (hi : (o.after.any fun e => Region.binds .any e && e.on == i) = true) (hd : dstOf ops i = some d) : ∃ v, a.tmps[d]? = some v ∧ R i v w := hs.got i d hi hd
theorem wanted_none {o : Oper} {a : Act} (hg : o.guard = none) : Region.wanted o (yielded ops a.tmps) = true := by unfold Region.wanted; rw [hg]
theorem wanted_true {o : Oper} {a : Act} {j d : Nat} (hg : o.guard = some (j, true)) (hd : dstOf ops j = some d) (h : a.tmps[d]? = some (.bool true)) : Region.wanted o (yielded ops a.tmps) = true := by
  unfold Region.wanted; rw [hg]
  have : yielded ops a.tmps j = some true := by
    unfold yielded; unfold dstOf at hd
    rw [hd]; simp [h]
  simp [this]
/-- an operation that leaves a value, and perhaps makes memory -/
theorem s_new {j : Nat} {o : Oper} (h : ∀ a w, C w → Seen ops R a0 o a w → Region.wanted o (yielded ops a.tmps) = true ∧ ∃ v w', (execOp a.eval o).run P w = .ok (.value v) w' ∧ C w' ∧ Ext w w' ∧ R j v w') : Step P ops Q C R a0 j o := fun a w hC hs => by
  obtain ⟨hw, v, w', hr, hC', hE, hR⟩ := h a w hC hs
  refine ⟨fun _ => ?_, fun hn => (by rw [hw] at hn; cases hn)⟩
  unfold Oper.wp
  rw [hr]
  exact ⟨hC', hE, v, rfl, hR⟩
theorem s_val {j : Nat} {o : Oper} (h : ∀ a w, C w → Seen ops R a0 o a w → Region.wanted o (yielded ops a.tmps) = true ∧ ∃ v, (execOp a.eval o).run P w = .ok (.value v) w ∧ R j v w) : Step P ops Q C R a0 j o :=
  s_new fun a w hC hs => by
    obtain ⟨hw, v, hr, hR⟩ := h a w hC hs
    exact ⟨hw, v, w, hr, hC, Below.refl _ _, hR⟩
theorem s_call {j : Nat} {o : Oper} (h : ∀ a w, C w → Seen ops R a0 o a w → Region.wanted o (yielded ops a.tmps) = true ∧ ∃ f args, (execOp a.eval o).run P w = .ok (.enter f args) w ∧
    Calls P f args w (fun e w' => ∃ v, e = .returned v ∧ C w' ∧ Ext w w' ∧ R j v w')) : Step P ops Q C R a0 j o := fun a w hC hs => by
  obtain ⟨hw, f, args, hr, hc⟩ := h a w hC hs
  refine ⟨fun _ => ?_, fun hn => (by rw [hw] at hn; cases hn)⟩
  unfold Oper.wp
  rw [hr]
  exact hc.mono fun e w' ⟨v, he, hC', hE, hR⟩ => by subst he; exact ⟨hC', hE, v, rfl, hR⟩
theorem run_bs {a : Act} {o : Oper} {t n : Nat} {ps : Array (Nat × Operand)} {qs : Array (Nat × Value)} {v : Value} {w w' : World} (ho : o.op = .buildSlice t n ps) (hp : ps.map (fun p => (p.1, a.eval p.2)) = qs)
    (hr : (Instr.buildSlice t n qs).run P w = .ok v w') : (execOp a.eval o).run P w = .ok (.value v) w' := by
  subst hp
  unfold execOp
  simp [ho, hr]
theorem run_b {a : Act} {o : Oper} {t : Nat} {ps : Array (Nat × Operand)} {qs : Array (Nat × Value)} {v : Value} {w w' : World} (ho : o.op = .build t ps) (hp : ps.map (fun p => (p.1, a.eval p.2)) = qs)
    (hr : (Instr.build t qs).run P w = .ok v w') : (execOp a.eval o).run P w = .ok (.value v) w' := by
  subst hp
  unfold execOp
  simp [ho, hr]
theorem run_mv {a : Act} {o : Oper} {x : Operand} {v : Value} {w : World} (ho : o.op = .move x ∨ o.op = .assign x) (hx : a.eval x = v) : (execOp a.eval o).run P w = .ok (.value v) w := by
  subst hx
  unfold execOp
  rcases ho with h | h <;> simp [h]
theorem run_ld {a : Act} {o : Oper} {t : Nat} {x : Operand} {u v : Value} {w : World} (ho : o.op = .load t x) (hx : a.eval x = u) (hr : (Instr.loadAt t u).run P w = .ok v w) : (execOp a.eval o).run P w = .ok (.value v) w := by
  subst hx
  unfold execOp
  simp [ho, hr]
theorem run_pk {a : Act} {o : Oper} {c x y : Operand} {b : Bool} {v : Value} {w : World} (ho : o.op = .pick c x y) (hc : a.eval c = .bool b) (hx : (if b = true then a.eval x else a.eval y) = v) : (execOp a.eval o).run P w = .ok (.value v) w := by
  subst hx
  unfold execOp
  simp [ho, hc, asBool]
theorem stepsL_cons {k : Nat} {o : Oper} {r : List Oper} (h : Step P ops Q C R a0 k o) (h' : StepsL P ops Q C R a0 (k + 1) r) : StepsL P ops Q C R a0 k (o :: r) := ⟨h, h'⟩
theorem stepsL_nil {k : Nat} : StepsL P ops Q C R a0 k [] := trivial
theorem ev_const {a : Act} (v : Value) : a.eval (.const v) = v := rfl
theorem run_un {a : Act} {o : Oper} {x : Operand} {op : UnOp} {t : TypeId} {u v : Value} {w w' : World} (ho : o.op = .unOp op t x) (hx : a.eval x = u) (hr : (Op.unary op u).run P w = .ok v w') : (execOp a.eval o).run P w = .ok (.value v) w' := by
  subst hx
  unfold execOp
  simp [ho, hr]
theorem run_ms {a : Act} {o : Oper} {t : TypeId} {x y : Operand} {u v r : Value} {w w' : World} (ho : o.op = .makeSlice t x y) (hx : a.eval x = u) (hy : a.eval y = v) (hr : (Instr.makeSlice t u v).run P w = .ok r w') : (execOp a.eval o).run P w = .ok (.value r) w' := by
  subst hx hy
  unfold execOp
  simp [ho, hr]
end
theorem Ext.al (w : World) (o : Obj) : Ext w (w.alloc o) := (Below.refl _ _).alloc (Nat.le_refl _) _
theorem inL_nil {w : World} {S : Nat → Prop} : Ex.InL w S [] := by unfold Ex.InL; trivial
theorem inL_cons {w : World} {S : Nat → Prop} {e : Ex} {r : List Ex} (h : Ex.In w S e) (h' : Ex.InL w S r) : Ex.InL w S (e :: r) := by unfold Ex.InL; exact ⟨h, h'⟩
theorem isL_nil {w : World} {S : Nat → Prop} : St.InL w S [] := by unfold St.InL; trivial
theorem isL_cons {w : World} {S : Nat → Prop} {e : St} {r : List St} (h : St.In w S e) (h' : St.InL w S r) : St.InL w S (e :: r) := by unfold St.InL; exact ⟨h, h'⟩
theorem idL_nil {w : World} {S : Nat → Prop} : De.InL w S [] := fun d hd => by cases hd
theorem idL_cons {w : World} {S : Nat → Prop} {e : De} {r : List De} (h : De.In w S e) (h' : De.InL w S r) : De.InL w S (e :: r) := fun d hd => by
  rcases List.mem_cons.1 hd with rfl | hd
  · exact h
  · exact h' d hd
end Go.Proofs.YtolmhcdcfnoicaaDoor.Tr
