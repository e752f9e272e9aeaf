/- A region that draws its order, walked once in the order of the text, where a guard may be a Bool that is not decided. Conditions: none. -/
import Derived.Deep.Quiet
import Derived.Deep.QuietTactic
namespace Go.Proofs.YtolmhcdcfnoicaaDoor.Qg
open Go

/-- what a guarded operation leaves: its value where it is wanted, else nothing -/
def gv (c want : Bool) (v : Value) : Value := if c = want then v else undef
theorem gv_eq {c want : Bool} {v : Value} (h : c = want) : gv c want v = v := if_pos h

section
variable {P : Program} {ops : Array Oper} {C : World → Prop} {Q : Act → Prop} {a : Act} {o : Oper} {rest : List Oper}

theorem q_val {v : Value} {a' : Act} (hg : o.guard = none) (hv : ∀ w, C w → (execOp a.eval o).run P w = .ok (.value v) w) (ha : a.put o.dst v = a')
    (h : wpQuiet P ops C Q rest a') : wpQuiet P ops C Q (o :: rest) a := by
  unfold wpQuiet
  have hw : Region.wanted o (yielded ops a.tmps) = true := by unfold Region.wanted; rw [hg]
  rw [if_pos hw]
  subst ha
  exact ⟨v, fun w hC => by unfold Oper.quietAt; rw [hv w hC]; exact ⟨rfl, rfl⟩, h⟩

theorem q_call {v : Value} {a' : Act} {f : FuncId} {args : Array Value} (hg : o.guard = none) (hv : ∀ w, C w → (execOp a.eval o).run P w = .ok (.enter f args) w)
    (hc : ∀ w, C w → Calls P f args w (fun e w' => e = .returned v ∧ C w')) (ha : a.put o.dst v = a')
    (h : wpQuiet P ops C Q rest a') : wpQuiet P ops C Q (o :: rest) a := by
  unfold wpQuiet
  have hw : Region.wanted o (yielded ops a.tmps) = true := by unfold Region.wanted; rw [hg]
  rw [if_pos hw]
  subst ha
  exact ⟨v, fun w hC => by unfold Oper.quietAt; rw [hv w hC]; exact ⟨rfl, hc w hC⟩, h⟩

theorem wanted_g {j : Nat} {want c : Bool} (hg : o.guard = some (j, want)) (hy : yielded ops a.tmps j = some c) : Region.wanted o (yielded ops a.tmps) = decide (c = want) := by
  unfold Region.wanted
  rw [hg]
  simp only [hy]
  cases c <;> cases want <;> rfl

theorem g_val {v : Value} {a' : Act} {j : Nat} {want c : Bool} (hg : o.guard = some (j, want)) (hy : yielded ops a.tmps j = some c)
    (hv : c = want → ∀ w, C w → (execOp a.eval o).run P w = .ok (.value v) w) (ha : a.put o.dst (gv c want v) = a')
    (h : wpQuiet P ops C Q rest a') : wpQuiet P ops C Q (o :: rest) a := by
  unfold wpQuiet
  rw [wanted_g hg hy]
  subst ha
  by_cases hc : c = want
  · rw [gv_eq hc] at h
    simp only [hc, decide_true, if_true]
    exact ⟨v, fun w hC => by unfold Oper.quietAt; rw [hv hc w hC]; exact ⟨rfl, rfl⟩, h⟩
  · unfold gv at h
    rw [if_neg hc] at h
    simp only [hc, decide_false, Bool.false_eq_true, if_false]
    exact h

theorem g_call {v : Value} {a' : Act} {j : Nat} {want c : Bool} {f : FuncId} {args : Array Value} (hg : o.guard = some (j, want)) (hy : yielded ops a.tmps j = some c)
    (hv : c = want → ∀ w, C w → (execOp a.eval o).run P w = .ok (.enter f args) w)
    (hcl : c = want → ∀ w, C w → Calls P f args w (fun e w' => e = .returned v ∧ C w')) (ha : a.put o.dst (gv c want v) = a')
    (h : wpQuiet P ops C Q rest a') : wpQuiet P ops C Q (o :: rest) a := by
  unfold wpQuiet
  rw [wanted_g hg hy]
  subst ha
  by_cases hc : c = want
  · rw [gv_eq hc] at h
    simp only [hc, decide_true, if_true]
    exact ⟨v, fun w hC => by unfold Oper.quietAt; rw [hv hc w hC]; exact ⟨rfl, hcl hc w hC⟩, h⟩
  · unfold gv at h
    rw [if_neg hc] at h
    simp only [hc, decide_false, Bool.false_eq_true, if_false]
    exact h

theorem t_val {v : Value} {a' : Act} (hw : Region.wanted o (yielded ops a.tmps) = true) (hv : ∀ w, C w → (execOp a.eval o).run P w = .ok (.value v) w) (ha : a.put o.dst v = a')
    (h : wpQuiet P ops C Q rest a') : wpQuiet P ops C Q (o :: rest) a := by
  unfold wpQuiet
  rw [if_pos hw]
  subst ha
  exact ⟨v, fun w hC => by unfold Oper.quietAt; rw [hv w hC]; exact ⟨rfl, rfl⟩, h⟩
theorem t_call {v : Value} {a' : Act} {f : FuncId} {args : Array Value} (hw : Region.wanted o (yielded ops a.tmps) = true) (hv : ∀ w, C w → (execOp a.eval o).run P w = .ok (.enter f args) w)
    (hc : ∀ w, C w → Calls P f args w (fun e w' => e = .returned v ∧ C w')) (ha : a.put o.dst v = a')
    (h : wpQuiet P ops C Q rest a') : wpQuiet P ops C Q (o :: rest) a := by
  unfold wpQuiet
  rw [if_pos hw]
  subst ha
  exact ⟨v, fun w hC => by unfold Oper.quietAt; rw [hv w hC]; exact ⟨rfl, hc w hC⟩, h⟩
theorem t_skip {a' : Act} (hw : Region.wanted o (yielded ops a.tmps) = false) (ha : a.put o.dst undef = a')
    (h : wpQuiet P ops C Q rest a') : wpQuiet P ops C Q (o :: rest) a := by
  unfold wpQuiet
  rw [hw]
  subst ha
  simpa using h
theorem run_v {P : Program} {s : Sem Value} {x : Value} {w : World} (h : s.run P w = .ok x w) : (do pure (Next.value (← s)) : Sem Next).run P w = .ok (.value x) w := by simp [h]

/-- a call of a function by its name is entered -/
theorem run_call {P : Program} {a : Act} {o : Oper} {f : FuncId} {xs : Array Operand} {ts : Array TypeId} {args : Array Value} {w : World}
    (ho : o.op = .call { callee := .value (.func f), args := xs, argTypes := ts }) (hx : xs.map a.eval = args) (hf : ∀ (ys : Array Value) (w : World), (callFunc f ys).run P w = .ok (.enter f ys) w) :
    (execOp a.eval o).run P w = .ok (.enter f args) w := by
  have h1 : a.eval (.func f) = Value.func (.func f) #[] #[] := rfl
  subst hx
  unfold execOp
  simp only [ho, resolve, h1, Deferred.ofValue, Sem.run_bind, Sem.run_pure, Result.andThen, invoke]
  simp [hf]
theorem run_call0 {P : Program} {a : Act} {o : Oper} {f : FuncId} {ts : Array TypeId} {w : World}
    (ho : o.op = .call { callee := .value (.func f), args := #[], argTypes := ts }) (hf : ∀ (xs : Array Value) (w : World), (callFunc f xs).run P w = .ok (.enter f xs) w) :
    (execOp a.eval o).run P w = .ok (.enter f #[]) w := run_call ho (by simp) hf
theorem run_call1 {P : Program} {a : Act} {o : Oper} {f : FuncId} {x : Operand} {ts : Array TypeId} {u : Value} {w : World}
    (ho : o.op = .call { callee := .value (.func f), args := #[x], argTypes := ts }) (hx : a.eval x = u) (hf : ∀ (xs : Array Value) (w : World), (callFunc f xs).run P w = .ok (.enter f xs) w) :
    (execOp a.eval o).run P w = .ok (.enter f #[u]) w := run_call ho (by simp [hx]) hf
theorem run_call2 {P : Program} {a : Act} {o : Oper} {f : FuncId} {x y : Operand} {ts : Array TypeId} {u v : Value} {w : World}
    (ho : o.op = .call { callee := .value (.func f), args := #[x, y], argTypes := ts }) (hx : a.eval x = u) (hy : a.eval y = v) (hf : ∀ (xs : Array Value) (w : World), (callFunc f xs).run P w = .ok (.enter f xs) w) :
    (execOp a.eval o).run P w = .ok (.enter f #[u, v]) w := run_call ho (by simp [hx, hy]) hf
theorem run_call3 {P : Program} {a : Act} {o : Oper} {f : FuncId} {x y z : Operand} {ts : Array TypeId} {u v t : Value} {w : World}
    (ho : o.op = .call { callee := .value (.func f), args := #[x, y, z], argTypes := ts }) (hx : a.eval x = u) (hy : a.eval y = v) (hz : a.eval z = t) (hf : ∀ (xs : Array Value) (w : World), (callFunc f xs).run P w = .ok (.enter f xs) w) :
    (execOp a.eval o).run P w = .ok (.enter f #[u, v, t]) w := run_call ho (by simp [hx, hy, hz]) hf
theorem run_len {P : Program} {a : Act} {o : Oper} {x : Operand} {ts : Array TypeId} {v u : Value} {w : World}
    (ho : o.op = .call { callee := .builtin .len, args := #[x], argTypes := ts }) (hx : a.eval x = v) (hl : (Builtin.len_ ts o.type #[v]).run P w = .ok u w) : (execOp a.eval o).run P w = .ok (.value u) w := by
  unfold execOp
  simp [ho, hx, resolve, invoke, builtin, hl]

/-- what '||' picks -/
theorem pick_or {c d : Bool} : (if c then Value.bool true else gv c false (.bool d)) = .bool (c || d) := by cases c <;> simp [gv]
/-- what '&&' picks -/
theorem pick_and {c d : Bool} : (if c then gv c true (.bool d) else Value.bool false) = .bool (c && d) := by cases c <;> simp [gv]
end
end Go.Proofs.YtolmhcdcfnoicaaDoor.Qg
