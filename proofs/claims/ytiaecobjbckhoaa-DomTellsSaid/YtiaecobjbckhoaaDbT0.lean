/- Chains in the making: the rows, the chains and their variable are made in any order. Conditions: none. -/
import Derived.Test.YtiaecobjbckhoaaDbO0
set_option linter.unusedVariables false
set_option linter.unusedSimpArgs false
namespace Go.Proofs.Ytiaecobjbckhoaa.Db
open Go Go.RowKit
open Go.WideShapes Go.MapKept Dm
open Go.Proofs.Ytiaecobjbckhoaa.Qr Go.Proofs.Ytiaecobjbckhoaa.Vq Go.Proofs.Ytiaecobjbckhoaa.QrS

structure NC (n : Nat) (nx : Value) (W1 : World) (l2 l5 l7 l8 l9 l10 : Bool) (v2 v5 v7 v8 v9 : Value) (w : World) : Prop where
  fr : Fr (fun i => W1.heap.size ≤ i) W1 w
  p : l2 = true → v2 = .slice (some ⟨bk v2, 0, none⟩) n n ∧ W1.heap.size ≤ bk v2 ∧ InR (bk v2) n (fun _ => -1) w
  e : l5 = true → v5 = .slice (some ⟨bk v5, 0, none⟩) n n ∧ W1.heap.size ≤ bk v5 ∧ InR (bk v5) n (fun _ => 0) w
  g : l7 = true → v7 = .agg #[nx, v2, v5]
  t : l8 = true → v8 = .pointer (some ⟨bk v8, 0, none⟩) ∧ W1.heap.size ≤ bk v8 ∧ w.heap[bk v8]? = some (.cells #[nx, v2, v5] 65 (0, 0))
  c : l9 = true → v9 = .pointer (some ⟨bk v9, 0, none⟩) ∧ W1.heap.size ≤ bk v9 ∧ w.heap[bk v9]? = some (.cells #[cond l10 v8 (.pointer none)] 63 (0, 0))
  n25 : l2 = true → l5 = true → bk v2 ≠ bk v5
  n28 : l2 = true → l8 = true → bk v2 ≠ bk v8
  n29 : l2 = true → l9 = true → bk v2 ≠ bk v9
  n58 : l5 = true → l8 = true → bk v5 ≠ bk v8
  n59 : l5 = true → l9 = true → bk v5 ≠ bk v9
  n89 : l8 = true → l9 = true → bk v8 ≠ bk v9
section
variable {n : Nat} {nx : Value} {W1 : World} {l2 l5 l7 l8 l9 l10 : Bool} {v2 v5 v7 v8 v9 v : Value} {w w' : World}
theorem NC.start (W : World) : NC n nx W false false false false false false undef undef undef undef undef W :=
  ⟨Fr.refl _ _, fun e => (by cases e), fun e => (by cases e), fun e => (by cases e), fun e => (by cases e), fun e => (by cases e), fun e => (by cases e), fun e => (by cases e), fun e => (by cases e), fun e => (by cases e), fun e => (by cases e), fun e => (by cases e)⟩
theorem NC.keep (h : NC n nx W1 l2 l5 l7 l8 l9 l10 v2 v5 v7 v8 v9 w) (hb : Below w.heap.size w w') : NC n nx W1 l2 l5 l7 l8 l9 l10 v2 v5 v7 v8 v9 w' :=
  ⟨h.fr.trans (Fr.of_below hb), fun e => ⟨(h.p e).1, (h.p e).2.1, (h.p e).2.2.at_ (hb.block _ (h.p e).2.2.lt)⟩, fun e => ⟨(h.e e).1, (h.e e).2.1, (h.e e).2.2.at_ (hb.block _ (h.e e).2.2.lt)⟩, h.g,
    fun e => ⟨(h.t e).1, (h.t e).2.1, (hb.block _ (hlt (h.t e).2.2)).trans (h.t e).2.2⟩, fun e => ⟨(h.c e).1, (h.c e).2.1, (hb.block _ (hlt (h.c e).2.2)).trans (h.c e).2.2⟩, h.n25, h.n28, h.n29, h.n58, h.n59, h.n89⟩
theorem NC.a2 (h : NC n nx W1 false l5 false false l9 false v2 v5 v7 v8 v9 w) (hb : Below w.heap.size w w') {g : Nat} (hg : w.heap.size ≤ g) (hr : InR g n (fun _ => -1) w') : NC n nx W1 true l5 false false l9 false (.slice (some ⟨g, 0, none⟩) n n) v5 v7 v8 v9 w' := by
  have hk := h.keep hb
  have hz := h.fr.size
  exact ⟨hk.fr, fun _ => ⟨rfl, Nat.le_trans hz hg, hr⟩, hk.e, fun e => (by cases e), fun e => (by cases e), hk.c, fun _ e k => by have := (h.e e).2.2.lt; rw [← k] at this; exact absurd this (Nat.not_lt.2 hg), fun _ e => (by cases e), fun _ e k => by have := hlt (h.c e).2.2; rw [← k] at this; exact absurd this (Nat.not_lt.2 hg), fun _ e => (by cases e), hk.n59, fun e => (by cases e)⟩
theorem NC.a5 (h : NC n nx W1 l2 false false false l9 false v2 v5 v7 v8 v9 w) (hb : Below w.heap.size w w') {g : Nat} (hg : w.heap.size ≤ g) (hr : InR g n (fun _ => 0) w') : NC n nx W1 l2 true false false l9 false v2 (.slice (some ⟨g, 0, none⟩) n n) v7 v8 v9 w' := by
  have hk := h.keep hb
  have hz := h.fr.size
  exact ⟨hk.fr, hk.p, fun _ => ⟨rfl, Nat.le_trans hz hg, hr⟩, fun e => (by cases e), fun e => (by cases e), hk.c, fun e _ k => by have := (h.p e).2.2.lt; rw [k] at this; exact absurd this (Nat.not_lt.2 hg), fun _ e => (by cases e), hk.n29, fun _ e => (by cases e), fun _ e k => by have := hlt (h.c e).2.2; rw [← k] at this; exact absurd this (Nat.not_lt.2 hg), fun e => (by cases e)⟩
theorem NC.a7 (h : NC n nx W1 l2 l5 false false l9 false v2 v5 v7 v8 v9 w) : NC n nx W1 l2 l5 true false l9 false v2 v5 (.agg #[nx, v2, v5]) v8 v9 w :=
  ⟨h.fr, h.p, h.e, fun _ => rfl, h.t, h.c, h.n25, h.n28, h.n29, h.n58, h.n59, h.n89⟩
theorem NC.a8 (h : NC n nx W1 l2 l5 l7 false l9 false v2 v5 v7 v8 v9 w) : NC n nx W1 l2 l5 l7 true l9 false v2 v5 v7 (.pointer (some ⟨w.heap.size, 0, none⟩)) v9 (w.alloc (.cells #[nx, v2, v5] 65)) := by
  have hk := h.keep (b_alloc w (.cells #[nx, v2, v5] 65))
  exact ⟨hk.fr, hk.p, hk.e, hk.g, fun _ => ⟨rfl, h.fr.size, blk_new _ _ rfl⟩, hk.c, hk.n25, fun e _ k => by have := (h.p e).2.2.lt; rw [k] at this; exact absurd this (Nat.lt_irrefl _), hk.n29, fun e _ k => by have := (h.e e).2.2.lt; rw [k] at this; exact absurd this (Nat.lt_irrefl _), hk.n59, fun _ e k => by have := hlt (h.c e).2.2; rw [← k] at this; exact absurd this (Nat.lt_irrefl _)⟩
theorem NC.a9 (h : NC n nx W1 l2 l5 l7 l8 false false v2 v5 v7 v8 v9 w) : NC n nx W1 l2 l5 l7 l8 true false v2 v5 v7 v8 (.pointer (some ⟨w.heap.size, 0, none⟩)) (w.alloc (.cells #[.pointer none] 63)) := by
  have hk := h.keep (b_alloc w (.cells #[.pointer none] 63))
  exact ⟨hk.fr, hk.p, hk.e, hk.g, hk.t, fun _ => ⟨rfl, h.fr.size, blk_new _ _ rfl⟩, hk.n25, hk.n28, fun e _ k => by have := (h.p e).2.2.lt; rw [k] at this; exact absurd this (Nat.lt_irrefl _), hk.n58, fun e _ k => by have := (h.e e).2.2.lt; rw [k] at this; exact absurd this (Nat.lt_irrefl _), fun e _ k => by have := hlt (h.t e).2.2; rw [k] at this; exact absurd this (Nat.lt_irrefl _)⟩
theorem NC.a10 (h : NC n nx W1 true true l7 true true false v2 v5 v7 v8 v9 w) : NC n nx W1 true true l7 true true true v2 v5 v7 v8 v9 (w.setCell ⟨bk v9, 0, none⟩ v8) := by
  have hf : Fr (fun i => i = bk v9) w (w.setCell ⟨bk v9, 0, none⟩ v8) := Fr.set _ _ rfl
  have hB := (h.c rfl).2.1
  exact ⟨h.fr.trans (hf.mono fun i _ e => by omega), fun e => ⟨(h.p e).1, (h.p e).2.1, hf.inr (h.p e).2.2 (h.n29 rfl rfl)⟩, fun e => ⟨(h.e e).1, (h.e e).2.1, hf.inr (h.e e).2.2 (h.n59 rfl rfl)⟩, h.g,
    fun e => ⟨(h.t e).1, (h.t e).2.1, (hf.block _ (hlt (h.t e).2.2) (h.n89 rfl rfl)).trans (h.t e).2.2⟩, fun e => ⟨(h.c e).1, hB, by rw [heap_set1 (h.c e).2.2]; rfl⟩, h.n25, h.n28, h.n29, h.n58, h.n59, h.n89⟩
end
theorem al_cp (V : World) : (Instr.alloc 63 true (.tuple #[])).run Try.prog V = .ok (.pointer (some ⟨V.heap.size, 0, none⟩)) (V.alloc (.cells #[.pointer none] 63)) := by go_simp
theorem b_ch {V : World} (a b c : Option Addr) (k1 k2 k3 m1 m2 m3 : Nat) : (Instr.build 65 #[(0, .slice a k1 m1), (1, .slice b k2 m2), (2, .slice c k3 m3)]).run Try.prog V = .ok (.agg #[.slice a k1 m1, .slice b k2 m2, .slice c k3 m3]) V := by kernel_rfl
theorem bx_ch {V : World} (a b c : Option Addr) (k1 k2 k3 m1 m2 m3 : Nat) : (Instr.box 65 (.agg #[.slice a k1 m1, .slice b k2 m2, .slice c k3 m3])).run Try.prog V = .ok (.pointer (some ⟨V.heap.size, 0, none⟩)) (V.alloc (.cells #[.slice a k1 m1, .slice b k2 m2, .slice c k3 m3] 65)) := by kernel_rfl
theorem wp_storeC {a : Act} {o : Oper} {x y : Operand} {b k : Nat} {v v0 : Value} {w : World} {K : Act → World → Prop} {Q : Exit → Act → World → Prop} (ho : o.op = .store 63 x y) (hd : o.dst = none) (hx : a.eval x = .pointer (some ⟨b, k, none⟩)) (hy : a.eval y = v) (hv : ∃ p, v = .pointer p) (hc : w.cell? ⟨b, k, none⟩ = some v0) (hf : w.frozen? ⟨b, k, none⟩ = false) (h : K (a.put o.dst undef) (w.setCell ⟨b, k, none⟩ v)) : o.wp Try.prog a w K Q := by
  obtain ⟨p, rfl⟩ := hv
  unfold Oper.wp execOp
  simp only [ho]
  rw [hx, hy]
  simp [go_sem, hc, hf, hd, Act.put] at h ⊢
  exact h
end Go.Proofs.Ytiaecobjbckhoaa.Db
