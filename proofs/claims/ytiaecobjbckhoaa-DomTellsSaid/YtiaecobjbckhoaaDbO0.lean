/- A tree in the making: the rows, the tree and its variable are made in any order. Conditions: none. -/
import Derived.Test.YtiaecobjbckhoaaDbM
import Derived.Test.YtiaecobjbckhoaaDbD
import Derived.Test.YtiaecobjbckhoaaDbE
import Derived.Test.YtiaecobjbckhoaaDbF
set_option linter.unusedVariables false
set_option linter.unusedSimpArgs false
namespace Go.Proofs.Ytiaecobjbckhoaa.Db
open Go Go.RowKit
open Go.WideShapes Go.MapKept Dm
open Go.Proofs.Ytiaecobjbckhoaa.Qr Go.Proofs.Ytiaecobjbckhoaa.Vq Go.Proofs.Ytiaecobjbckhoaa.QrS

def bk : Value → Nat
  | .slice (some a) _ _ => a.block
  | .pointer (some a) => a.block
  | _ => 0
structure NT (n : Nat) (nx : Value) (W1 : World) (l2 l5 l7 l8 l9 l10 : Bool) (v2 v5 v7 v8 v9 : Value) (w : World) : Prop where
  fr : Fr (fun i => W1.heap.size ≤ i) W1 w
  p : l2 = true → v2 = .slice (some ⟨bk v2, 0, none⟩) n n ∧ W1.heap.size ≤ bk v2 ∧ InR (bk v2) n (fun _ => -1) w
  e : l5 = true → v5 = .slice (some ⟨bk v5, 0, none⟩) n n ∧ W1.heap.size ≤ bk v5 ∧ InR (bk v5) n (fun _ => 0) w
  g : l7 = true → v7 = .agg #[.slice none 0 0, v2, v5, nx]
  t : l8 = true → v8 = .pointer (some ⟨bk v8, 0, none⟩) ∧ W1.heap.size ≤ bk v8 ∧ w.heap[bk v8]? = some (.cells #[.slice none 0 0, v2, v5, nx] 52 (0, 0))
  c : l9 = true → v9 = .pointer (some ⟨bk v9, 0, none⟩) ∧ W1.heap.size ≤ bk v9 ∧ w.heap[bk v9]? = some (.cells #[cond l10 v8 (.pointer none)] 25 (0, 0))
  n25 : l2 = true → l5 = true → bk v2 ≠ bk v5
  n28 : l2 = true → l8 = true → bk v2 ≠ bk v8
  n29 : l2 = true → l9 = true → bk v2 ≠ bk v9
  n58 : l5 = true → l8 = true → bk v5 ≠ bk v8
  n59 : l5 = true → l9 = true → bk v5 ≠ bk v9
  n89 : l8 = true → l9 = true → bk v8 ≠ bk v9
theorem hlt {w : World} {b : Nat} {o : Obj} (h : w.heap[b]? = some o) : b < w.heap.size := (Array.getElem?_eq_some_iff.1 h).1
section
variable {n : Nat} {nx : Value} {W1 : World} {l2 l5 l7 l8 l9 l10 : Bool} {v2 v5 v7 v8 v9 v : Value} {w w' : World}
theorem NT.start (W : World) : NT n nx W false false false false false false undef undef undef undef undef W :=
  ⟨Fr.refl _ _, fun e => (by cases e), fun e => (by cases e), fun e => (by cases e), fun e => (by cases e), fun e => (by cases e), fun e => (by cases e), fun e => (by cases e), fun e => (by cases e), fun e => (by cases e), fun e => (by cases e), fun e => (by cases e)⟩
theorem NT.keep (h : NT n nx W1 l2 l5 l7 l8 l9 l10 v2 v5 v7 v8 v9 w) (hb : Below w.heap.size w w') : NT n nx W1 l2 l5 l7 l8 l9 l10 v2 v5 v7 v8 v9 w' :=
  ⟨h.fr.trans (Fr.of_below hb), fun e => ⟨(h.p e).1, (h.p e).2.1, (h.p e).2.2.at_ (hb.block _ (h.p e).2.2.lt)⟩, fun e => ⟨(h.e e).1, (h.e e).2.1, (h.e e).2.2.at_ (hb.block _ (h.e e).2.2.lt)⟩, h.g,
    fun e => ⟨(h.t e).1, (h.t e).2.1, (hb.block _ (hlt (h.t e).2.2)).trans (h.t e).2.2⟩, fun e => ⟨(h.c e).1, (h.c e).2.1, (hb.block _ (hlt (h.c e).2.2)).trans (h.c e).2.2⟩, h.n25, h.n28, h.n29, h.n58, h.n59, h.n89⟩
theorem NT.a2 (h : NT n nx W1 false l5 false false l9 false v2 v5 v7 v8 v9 w) (hb : Below w.heap.size w w') {g : Nat} (hg : w.heap.size ≤ g) (hr : InR g n (fun _ => -1) w') : NT n nx W1 true l5 false false l9 false (.slice (some ⟨g, 0, none⟩) n n) v5 v7 v8 v9 w' := by
  have hk := h.keep hb
  have hz := h.fr.size
  exact ⟨hk.fr, fun _ => ⟨rfl, Nat.le_trans hz hg, hr⟩, hk.e, fun e => (by cases e), fun e => (by cases e), hk.c, fun _ e k => by have := (h.e e).2.2.lt; rw [← k] at this; exact absurd this (Nat.not_lt.2 hg), fun _ e => (by cases e), fun _ e k => by have := hlt (h.c e).2.2; rw [← k] at this; exact absurd this (Nat.not_lt.2 hg), fun _ e => (by cases e), hk.n59, fun e => (by cases e)⟩
theorem NT.a5 (h : NT n nx W1 l2 false false false l9 false v2 v5 v7 v8 v9 w) (hb : Below w.heap.size w w') {g : Nat} (hg : w.heap.size ≤ g) (hr : InR g n (fun _ => 0) w') : NT n nx W1 l2 true false false l9 false v2 (.slice (some ⟨g, 0, none⟩) n n) v7 v8 v9 w' := by
  have hk := h.keep hb
  have hz := h.fr.size
  exact ⟨hk.fr, hk.p, fun _ => ⟨rfl, Nat.le_trans hz hg, hr⟩, fun e => (by cases e), fun e => (by cases e), hk.c, fun e _ k => by have := (h.p e).2.2.lt; rw [k] at this; exact absurd this (Nat.not_lt.2 hg), fun _ e => (by cases e), hk.n29, fun _ e => (by cases e), fun _ e k => by have := hlt (h.c e).2.2; rw [← k] at this; exact absurd this (Nat.not_lt.2 hg), fun e => (by cases e)⟩
theorem NT.a7 (h : NT n nx W1 l2 l5 false false l9 false v2 v5 v7 v8 v9 w) : NT n nx W1 l2 l5 true false l9 false v2 v5 (.agg #[.slice none 0 0, v2, v5, nx]) v8 v9 w :=
  ⟨h.fr, h.p, h.e, fun _ => rfl, h.t, h.c, h.n25, h.n28, h.n29, h.n58, h.n59, h.n89⟩
theorem NT.a8 (h : NT n nx W1 l2 l5 l7 false l9 false v2 v5 v7 v8 v9 w) : NT n nx W1 l2 l5 l7 true l9 false v2 v5 v7 (.pointer (some ⟨w.heap.size, 0, none⟩)) v9 (w.alloc (.cells #[.slice none 0 0, v2, v5, nx] 52)) := by
  have hk := h.keep (b_alloc w (.cells #[.slice none 0 0, v2, v5, nx] 52))
  exact ⟨hk.fr, hk.p, hk.e, hk.g, fun _ => ⟨rfl, h.fr.size, blk_new _ _ rfl⟩, hk.c, hk.n25, fun e _ k => by have := (h.p e).2.2.lt; rw [k] at this; exact absurd this (Nat.lt_irrefl _), hk.n29, fun e _ k => by have := (h.e e).2.2.lt; rw [k] at this; exact absurd this (Nat.lt_irrefl _), hk.n59, fun _ e k => by have := hlt (h.c e).2.2; rw [← k] at this; exact absurd this (Nat.lt_irrefl _)⟩
theorem NT.a9 (h : NT n nx W1 l2 l5 l7 l8 false false v2 v5 v7 v8 v9 w) : NT n nx W1 l2 l5 l7 l8 true false v2 v5 v7 v8 (.pointer (some ⟨w.heap.size, 0, none⟩)) (w.alloc (.cells #[.pointer none] 25)) := by
  have hk := h.keep (b_alloc w (.cells #[.pointer none] 25))
  exact ⟨hk.fr, hk.p, hk.e, hk.g, hk.t, fun _ => ⟨rfl, h.fr.size, blk_new _ _ rfl⟩, hk.n25, hk.n28, fun e _ k => by have := (h.p e).2.2.lt; rw [k] at this; exact absurd this (Nat.lt_irrefl _), hk.n58, fun e _ k => by have := (h.e e).2.2.lt; rw [k] at this; exact absurd this (Nat.lt_irrefl _), fun e _ k => by have := hlt (h.t e).2.2; rw [k] at this; exact absurd this (Nat.lt_irrefl _)⟩
theorem NT.a10 (h : NT n nx W1 true true l7 true true false v2 v5 v7 v8 v9 w) : NT n nx W1 true true l7 true true true v2 v5 v7 v8 v9 (w.setCell ⟨bk v9, 0, none⟩ v8) := by
  have hf : Fr (fun i => i = bk v9) w (w.setCell ⟨bk v9, 0, none⟩ v8) := Fr.set _ _ rfl
  have hB := (h.c rfl).2.1
  exact ⟨h.fr.trans (hf.mono fun i _ e => by omega), fun e => ⟨(h.p e).1, (h.p e).2.1, hf.inr (h.p e).2.2 (h.n29 rfl rfl)⟩, fun e => ⟨(h.e e).1, (h.e e).2.1, hf.inr (h.e e).2.2 (h.n59 rfl rfl)⟩, h.g,
    fun e => ⟨(h.t e).1, (h.t e).2.1, (hf.block _ (hlt (h.t e).2.2) (h.n89 rfl rfl)).trans (h.t e).2.2⟩, fun e => ⟨(h.c e).1, hB, by rw [heap_set1 (h.c e).2.2]; rfl⟩, h.n25, h.n28, h.n29, h.n58, h.n59, h.n89⟩
end
theorem wp_enter {P : Program} {a : Act} {o : Oper} {f : FuncId} {args : Array Value} {w : World} {K : Act → World → Prop} {Q : Exit → Act → World → Prop} (hr : (execOp a.eval o).run P w = .ok (.enter f args) w) (hc : Calls P f args w (fun e w' => ∃ v, e = .returned v ∧ K (a.put o.dst v) w')) : o.wp P a w K Q := by
  unfold Oper.wp
  rw [hr]
  exact hc.mono fun e w' ⟨v, he, hk⟩ => by subst he; exact hk
theorem run_al {P : Program} {a : Act} {o : Oper} {t : TypeId} {v : Value} {w w' : World} (ho : o.op = .alloc t) (hr : (Instr.alloc t true (.tuple #[])).run P w = .ok v w') : (execOp a.eval o).run P w = .ok (.value v) w' := by
  unfold execOp
  simp [ho, hr]
theorem al_tp (V : World) : (Instr.alloc 25 true (.tuple #[])).run Try.prog V = .ok (.pointer (some ⟨V.heap.size, 0, none⟩)) (V.alloc (.cells #[.pointer none] 25)) := by go_simp
theorem b_tree {V : World} (a b c : Option Addr) (k1 k2 k3 m1 m2 m3 : Nat) : (Instr.build 52 #[(1, .slice a k1 m1), (2, .slice b k2 m2), (3, .slice c k3 m3)]).run Try.prog V = .ok (.agg #[.slice none 0 0, .slice a k1 m1, .slice b k2 m2, .slice c k3 m3]) V := by kernel_rfl
theorem bx_tree {V : World} (a b c : Option Addr) (k1 k2 k3 m1 m2 m3 : Nat) : (Instr.box 52 (.agg #[.slice none 0 0, .slice a k1 m1, .slice b k2 m2, .slice c k3 m3])).run Try.prog V = .ok (.pointer (some ⟨V.heap.size, 0, none⟩)) (V.alloc (.cells #[.slice none 0 0, .slice a k1 m1, .slice b k2 m2, .slice c k3 m3] 52)) := by kernel_rfl
theorem wp_storeT {a : Act} {o : Oper} {x y : Operand} {b k : Nat} {v v0 : Value} {w : World} {K : Act → World → Prop} {Q : Exit → Act → World → Prop} (ho : o.op = .store 25 x y) (hd : o.dst = none) (hx : a.eval x = .pointer (some ⟨b, k, none⟩)) (hy : a.eval y = v) (hv : ∃ p, v = .pointer p) (hc : w.cell? ⟨b, k, none⟩ = some v0) (hf : w.frozen? ⟨b, k, none⟩ = false) (h : K (a.put o.dst undef) (w.setCell ⟨b, k, none⟩ v)) : o.wp Try.prog a w K Q := by
  obtain ⟨p, rfl⟩ := hv
  unfold Oper.wp execOp
  simp only [ho]
  rw [hx, hy]
  simp [go_sem, hc, hf, hd, Act.put] at h ⊢
  exact h
theorem row_lt {w : World} {a : Option Addr} {cap n : Nat} {xs : List Value} (h : RowAt w Tt a cap n xs) : RowAt w (fun b => b < w.heap.size) a cap n xs :=
  ⟨h.le, h.lim, h.nil, fun j u hj => by
    obtain ⟨b, off, ha, _, hc⟩ := h.at_ j u hj
    exact ⟨b, off, ha, World.block_lt_of_cell? _ _ hc, hc⟩⟩
/-- a call of a function by its name is entered -/
theorem run_call {P : Program} {a : Act} {o : Oper} {f : FuncId} {xs : Array Operand} {ts : Array TypeId} {args : Array Value} {w : World}
    (ho : o.op = .call { callee := .value (.func f), args := xs, argTypes := ts }) (hx : xs.map a.eval = args) (hf : ∀ (ys : Array Value) (w : World), (callFunc f ys).run P w = .ok (.enter f ys) w) :
    (execOp a.eval o).run P w = .ok (.enter f args) w := by
  have h1 : a.eval (.func f) = Value.func (.func f) #[] #[] := rfl
  subst hx
  unfold execOp
  simp only [ho, resolve, h1, Deferred.ofValue, Sem.run_bind, Sem.run_pure, Result.andThen, invoke]
  simp [hf]
theorem run_call1 {P : Program} {a : Act} {o : Oper} {f : FuncId} {x : Operand} {ts : Array TypeId} {u : Value} {w : World}
    (ho : o.op = .call { callee := .value (.func f), args := #[x], argTypes := ts }) (hx : a.eval x = u) (hf : ∀ (xs : Array Value) (w : World), (callFunc f xs).run P w = .ok (.enter f xs) w) :
    (execOp a.eval o).run P w = .ok (.enter f #[u]) w := run_call ho (by simp [hx]) hf
theorem ln_sl {V : World} {a : Option Addr} {n c : Nat} : (Builtin.len_ #[33] 3 #[.slice a n c]).run Try.prog V = .ok (.int .i64 (n : Int)) V := by go_simp
end Go.Proofs.Ytiaecobjbckhoaa.Db
