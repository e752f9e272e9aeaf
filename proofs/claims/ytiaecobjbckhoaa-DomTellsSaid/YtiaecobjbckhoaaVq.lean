/- The steps of a region by Qr's law: what each operation comes to. Conditions: none. -/
import Derived.Test.YtiaecobjbckhoaaDbB
import Derived.Test.YtiaecobjbckhoaaQr
import Derived.Below
import Derived.Carry
namespace Go.Proofs.Ytiaecobjbckhoaa.Vq
open Go Go.RowKit
open Go.Proofs.Ytiaecobjbckhoaa.Qr

/-- just this value -/
def VK (u : Value) (v : Value) (_ : World) : Prop := v = u
def VT (_ : Value) (_ : World) : Prop := True
abbrev Ext (w w' : World) : Prop := Below w.heap.size w w'
def Mono (p : Value → World → Prop) : Prop := ∀ v w w', Ext w w' → p v w → p v w'
theorem VK.mono {u : Value} : Mono (VK u) := fun _ _ _ _ h => h
theorem VT.mono : Mono VT := fun _ _ _ _ h => h

/-! ### the steps -/
section
variable {P : Program} {ops : Array Oper} {Q : Exit → Act → World → Prop} {C : World → Prop} {R : Nat → Value → World → Prop} {a0 : Act}
/-- one operation is shown -/
def Step (P : Program) (ops : Array Oper) (Q : Exit → Act → World → Prop) (C : World → Prop) (R : Nat → Value → World → Prop) (a0 : Act) (j : Nat) (o : Oper) : Prop :=
  ∀ (a : Act) (w : World), C w → Seen ops R a0 o a w →
      (Region.wanted o (yielded ops a.tmps) = true → o.wp P a w (fun a' w' => C w' ∧ Ext w w' ∧ ∃ v, a' = a.put o.dst v ∧ R j v w') Q) ∧
      (Region.wanted o (yielded ops a.tmps) = false → Ext w w ∧ R j undef w)
def StepsL (P : Program) (ops : Array Oper) (Q : Exit → Act → World → Prop) (C : World → Prop) (R : Nat → Value → World → Prop) (a0 : Act) : Nat → List Oper → Prop
  | _, [] => True
  | k, o :: r => Step P ops Q C R a0 k o ∧ StepsL P ops Q C R a0 (k + 1) r
theorem stepsL_get : ∀ (l : List Oper) (k j : Nat) (o : Oper), StepsL P ops Q C R a0 k l → l[j]? = some o → Step P ops Q C R a0 (k + j) o
  | [], _, _, _, _, h => by simp at h
  | x :: r, k, 0, o, hs, h => by
    simp at h; subst h
    exact hs.1
  | x :: r, k, j + 1, o, hs, h => by
    have := stepsL_get r (k + 1) j o hs.2 (by simpa using h)
    have e : k + 1 + j = k + (j + 1) := by omega
    rwa [e] at this
theorem steps_all {l : List Oper} (h : StepsL P l.toArray Q C R a0 0 l) : ∀ j o, l.toArray[j]? = some o → Step P l.toArray Q C R a0 j o := fun j o ho => by
  have := stepsL_get l 0 j o h (by simpa using ho)
  rwa [Nat.zero_add] at this
def MonoL : List (Value → World → Prop) → Prop
  | [] => True
  | p :: r => Mono p ∧ MonoL r
theorem mono_get : ∀ (l : List (Value → World → Prop)) (i : Nat), MonoL l → Mono (l.getD i VT)
  | [], _, _ => by simpa using VT.mono
  | p :: r, 0, h => by simpa using h.1
  | p :: r, i + 1, h => by simpa using mono_get r i h.2

theorem ev {a : Act} {t : Nat} {v : Value} (h : a.tmps[t]? = some v) : a.eval (.tmp t) = v := by simp [Act.eval, h]
theorem old_of {o : Oper} {a : Act} {w : World} (hs : Seen ops R a0 o a w) (t : Nat) {v : Value} (hB : (ops.all fun o => o.dst != some t) = true) (h0 : a0.tmps[t]? = some v) : a.tmps[t]? = some v := by
  rw [hs.old t (fun i hd => ?_), h0]
  unfold dstOf at hd
  cases hq : ops[i]? with
  | none => rw [hq] at hd; cases hd
  | some x =>
    rw [hq] at hd
    have h1 := Array.all_eq_true_iff_forall_mem.1 hB x (Array.mem_of_getElem? hq)
    have h2 : x.dst = some t := hd
    simp [h2] at h1
theorem got_of {o : Oper} {a : Act} {w : World} (hs : Seen ops R a0 o a w) (i d : Nat) (hi : (o.after.any fun e => Region.binds .any e && e.on == i) = true) (hd : dstOf ops i = some d) : ∃ v, a.tmps[d]? = some v ∧ R i v w := hs.got i d hi hd
theorem wanted_none {o : Oper} {a : Act} (hg : o.guard = none) : Region.wanted o (yielded ops a.tmps) = true := by unfold Region.wanted; rw [hg]
theorem wanted_true {o : Oper} {a : Act} {j d : Nat} (hg : o.guard = some (j, true)) (hd : dstOf ops j = some d) (h : a.tmps[d]? = some (.bool true)) : Region.wanted o (yielded ops a.tmps) = true := by
  unfold Region.wanted; rw [hg]
  have : yielded ops a.tmps j = some true := by
    unfold yielded; unfold dstOf at hd
    rw [hd]; simp [h]
  simp [this]
/-- an operation that leaves a value, and perhaps makes memory -/
theorem s_new {j : Nat} {o : Oper} (h : ∀ a w, C w → Seen ops R a0 o a w → Region.wanted o (yielded ops a.tmps) = true ∧ ∃ v w', (execOp a.eval o).run P w = .ok (.value v) w' ∧ C w' ∧ Ext w w' ∧ R j v w') : Step P ops Q C R a0 j o := fun a w hC hs => by
  obtain ⟨hw, v, w', hr, hC', hE, hR⟩ := h a w hC hs
  refine ⟨fun _ => ?_, fun hn => (by rw [hw] at hn; cases hn)⟩
  unfold Oper.wp
  rw [hr]
  exact ⟨hC', hE, v, rfl, hR⟩
theorem s_val {j : Nat} {o : Oper} (h : ∀ a w, C w → Seen ops R a0 o a w → Region.wanted o (yielded ops a.tmps) = true ∧ ∃ v, (execOp a.eval o).run P w = .ok (.value v) w ∧ R j v w) : Step P ops Q C R a0 j o :=
  s_new fun a w hC hs => by
    obtain ⟨hw, v, hr, hR⟩ := h a w hC hs
    exact ⟨hw, v, w, hr, hC, Below.refl _ _, hR⟩
theorem s_call {j : Nat} {o : Oper} (h : ∀ a w, C w → Seen ops R a0 o a w → Region.wanted o (yielded ops a.tmps) = true ∧ ∃ f args, (execOp a.eval o).run P w = .ok (.enter f args) w ∧
    Calls P f args w (fun e w' => ∃ v, e = .returned v ∧ C w' ∧ Ext w w' ∧ R j v w')) : Step P ops Q C R a0 j o := fun a w hC hs => by
  obtain ⟨hw, f, args, hr, hc⟩ := h a w hC hs
  refine ⟨fun _ => ?_, fun hn => (by rw [hw] at hn; cases hn)⟩
  unfold Oper.wp
  rw [hr]
  exact hc.mono fun e w' ⟨v, he, hC', hE, hR⟩ => by subst he; exact ⟨hC', hE, v, rfl, hR⟩
theorem run_bs {a : Act} {o : Oper} {t n : Nat} {ps : Array (Nat × Operand)} {qs : Array (Nat × Value)} {v : Value} {w w' : World} (ho : o.op = .buildSlice t n ps) (hp : ps.map (fun p => (p.1, a.eval p.2)) = qs)
    (hr : (Instr.buildSlice t n qs).run P w = .ok v w') : (execOp a.eval o).run P w = .ok (.value v) w' := by
  subst hp
  unfold execOp
  simp [ho, hr]
theorem run_b {a : Act} {o : Oper} {t : Nat} {ps : Array (Nat × Operand)} {qs : Array (Nat × Value)} {v : Value} {w w' : World} (ho : o.op = .build t ps) (hp : ps.map (fun p => (p.1, a.eval p.2)) = qs)
    (hr : (Instr.build t qs).run P w = .ok v w') : (execOp a.eval o).run P w = .ok (.value v) w' := by
  subst hp
  unfold execOp
  simp [ho, hr]
theorem run_mv {a : Act} {o : Oper} {x : Operand} {v : Value} {w : World} (ho : o.op = .move x ∨ o.op = .assign x) (hx : a.eval x = v) : (execOp a.eval o).run P w = .ok (.value v) w := by
  subst hx
  unfold execOp
  rcases ho with h | h <;> simp [h]
theorem run_ld {a : Act} {o : Oper} {t : Nat} {x : Operand} {u v : Value} {w : World} (ho : o.op = .load t x) (hx : a.eval x = u) (hr : (Instr.loadAt t u).run P w = .ok v w) : (execOp a.eval o).run P w = .ok (.value v) w := by
  subst hx
  unfold execOp
  simp [ho, hr]
theorem run_pk {a : Act} {o : Oper} {c x y : Operand} {b : Bool} {v : Value} {w : World} (ho : o.op = .pick c x y) (hc : a.eval c = .bool b) (hx : (if b = true then a.eval x else a.eval y) = v) : (execOp a.eval o).run P w = .ok (.value v) w := by
  subst hx
  unfold execOp
  simp [ho, hc, asBool]
theorem stepsL_cons {k : Nat} {o : Oper} {r : List Oper} (h : Step P ops Q C R a0 k o) (h' : StepsL P ops Q C R a0 (k + 1) r) : StepsL P ops Q C R a0 k (o :: r) := ⟨h, h'⟩
theorem stepsL_nil {k : Nat} : StepsL P ops Q C R a0 k [] := trivial
theorem ev_const {a : Act} (v : Value) : a.eval (.const v) = v := rfl
theorem run_un {a : Act} {o : Oper} {x : Operand} {op : UnOp} {t : TypeId} {u v : Value} {w w' : World} (ho : o.op = .unOp op t x) (hx : a.eval x = u) (hr : (Op.unary op u).run P w = .ok v w') : (execOp a.eval o).run P w = .ok (.value v) w' := by
  subst hx
  unfold execOp
  simp [ho, hr]
theorem run_ms {a : Act} {o : Oper} {t : TypeId} {x y : Operand} {u v r : Value} {w w' : World} (ho : o.op = .makeSlice t x y) (hx : a.eval x = u) (hy : a.eval y = v) (hr : (Instr.makeSlice t u v).run P w = .ok r w') : (execOp a.eval o).run P w = .ok (.value r) w' := by
  subst hx hy
  unfold execOp
  simp [ho, hr]
end
theorem Ext.al (w : World) (o : Obj) : Ext w (w.alloc o) := (Below.refl _ _).alloc (Nat.le_refl _) _
theorem run_mm {P : Program} {a : Act} {o : Oper} {t : TypeId} {w : World} (ho : o.op = .makeMap t none) : (execOp a.eval o).run P w = .ok (.value (.map (some w.heap.size))) (w.alloc (.map #[] 0)) := by
  unfold execOp
  simp [ho, run_makeMap]
theorem run_len {P : Program} {a : Act} {o : Oper} {x : Operand} {t : TypeId} {w : World} {u v : Value} (ho : o.op = .call { callee := .builtin .len, args := #[x], argTypes := #[t] }) (hx : a.eval x = u) (hr : (Builtin.len_ #[t] o.type #[u]).run P w = .ok v w) : (execOp a.eval o).run P w = .ok (.value v) w := by
  unfold execOp
  simp [ho, hx, resolve, invoke, builtin, hr]
theorem run_bx {P : Program} {a : Act} {o : Oper} {t : TypeId} {x : Operand} {u v : Value} {w w' : World} (ho : o.op = .box t x) (hx : a.eval x = u) (hr : (Instr.box t u).run P w = .ok v w') : (execOp a.eval o).run P w = .ok (.value v) w' := by
  subst hx
  unfold execOp
  simp [ho, hr]
end Go.Proofs.Ytiaecobjbckhoaa.Vq
