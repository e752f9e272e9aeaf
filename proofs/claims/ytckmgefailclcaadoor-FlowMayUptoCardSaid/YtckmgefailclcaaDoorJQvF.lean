/- Single operations of a region by Qr's law. Conditions: none. -/
import Derived.Test.YtckmgefailclcaaDoorJaN
import Derived.Test.YtckmgefailclcaaDoorJFwA
set_option linter.unusedSimpArgs false
namespace Go.Proofs.YtckmgefailclcaaDoor.Fw
open Go Go.RowKit
open Go.Proofs.YtckmgefailclcaaDoor.Vq Go.Proofs.YtckmgefailclcaaDoor.Qr

theorem run_ix {P : Program} {a : Act} {o : Oper} {t : TypeId} {x y : Operand} {u v r : Value} {w w' : World} (ho : o.op = .indexAddr t x y) (hx : a.eval x = u) (hy : a.eval y = v) (hr : (Instr.indexAt t u v).run P w = .ok r w') : (execOp a.eval o).run P w = .ok (.value r) w' := by
  subst hx hy
  unfold execOp
  simp [ho, hr]
theorem run_notB {a : Act} {o : Oper} {t : TypeId} {x : Operand} {b : Bool} {w : World} (ho : o.op = .unOp .not t x) (hx : a.eval x = .bool b) : (execOp a.eval o).run Tryd.prog w = .ok (.value (.bool !b)) w := by
  unfold execOp
  rw [ho]
  simp only [hx]
  cases b <;> simp [go_sem]
theorem s_skip {P : Program} {ops : Array Oper} {Q : Exit → Act → World → Prop} {C : World → Prop} {R : Nat → Value → World → Prop} {a0 : Act} {j : Nat} {o : Oper} (h : ∀ a w, C w → Seen ops R a0 o a w → Region.wanted o (yielded ops a.tmps) = false) (hR : ∀ w, R j undef w) : Step P ops Q C R a0 j o := fun a w hC hs =>
  ⟨fun hn => (by rw [h a w hC hs] at hn; cases hn), fun _ => ⟨Below.refl _ _, hR w⟩⟩
theorem wanted_not {ops : Array Oper} {o : Oper} {a : Act} {j d : Nat} {b : Bool} (hg : o.guard = some (j, b)) (hd : Go.Proofs.YtckmgefailclcaaDoor.Qr.dstOf ops j = some d) (h : a.tmps[d]? = some (.bool !b)) : Region.wanted o (yielded ops a.tmps) = false := by
  unfold Region.wanted; rw [hg]
  have : yielded ops a.tmps j = some (!b) := by
    unfold yielded; unfold Go.Proofs.YtckmgefailclcaaDoor.Qr.dstOf at hd
    rw [hd]; simp [h]
  simp [this]
theorem wanted_is {ops : Array Oper} {o : Oper} {a : Act} {j d : Nat} {b : Bool} (hg : o.guard = some (j, b)) (hd : Go.Proofs.YtckmgefailclcaaDoor.Qr.dstOf ops j = some d) (h : a.tmps[d]? = some (.bool b)) : Region.wanted o (yielded ops a.tmps) = true := by
  unfold Region.wanted; rw [hg]
  have : yielded ops a.tmps j = some b := by
    unfold yielded; unfold Go.Proofs.YtckmgefailclcaaDoor.Qr.dstOf at hd
    rw [hd]; simp [h]
  simp [this]
theorem run_eqi {a : Act} {b : Bool} {o : Oper} {t t2 : TypeId} {x y : Operand} {n m : Int} {w : World} (hb : (n == m) = b) (ho : o.op = .binOp .eql t x y t2) (hx : a.eval x = .int .i64 n) (hy : a.eval y = .int .i64 m) : (execOp a.eval o).run Tryd.prog w = .ok (.value (.bool b)) w := by
  subst hb
  unfold execOp
  rw [ho]
  simp only [hx, hy]
  simp [go_sem]
theorem run_nqi {a : Act} {b : Bool} {o : Oper} {t t2 : TypeId} {x y : Operand} {n m : Int} {w : World} (hb : (n != m) = b) (ho : o.op = .binOp .neq t x y t2) (hx : a.eval x = .int .i64 n) (hy : a.eval y = .int .i64 m) : (execOp a.eval o).run Tryd.prog w = .ok (.value (.bool b)) w := by
  subst hb
  unfold execOp
  rw [ho]
  simp only [hx, hy]
  simp [go_sem]
theorem fl_b0 {V : World} {b : Nat} : (Instr.fieldAt 42 (.pointer (some ⟨b, 0, none⟩)) 0).run Tryd.prog V = .ok (.pointer (some ⟨b, 0, none⟩)) V := by go_simp
theorem fl_b2 {V : World} {b : Nat} : (Instr.fieldAt 42 (.pointer (some ⟨b, 0, none⟩)) 2).run Tryd.prog V = .ok (.pointer (some ⟨b, 2, none⟩)) V := by go_simp
theorem fl_p0 {V : World} {b o : Nat} : (Instr.fieldAt 60 (.pointer (some ⟨b, o, none⟩)) 0).run Tryd.prog V = .ok (.pointer (some ⟨b, o, none⟩)) V := by go_simp
theorem fl_p1 {V : World} {b o : Nat} : (Instr.fieldAt 60 (.pointer (some ⟨b, o, none⟩)) 1).run Tryd.prog V = .ok (.pointer (some ⟨b, o + 1, none⟩)) V := by go_simp
theorem ix_phi {V : World} {b off n cap k : Nat} (h : (k : Int) < (n : Int)) : (Instr.indexAt 38 (.slice (some ⟨b, off, none⟩) n cap) (.int .i64 k)).run Tryd.prog V = .ok (.pointer (some ⟨b, off + k * 2, none⟩)) V := by go_simp
theorem ld_phis {V : World} {b o : Nat} {a : Option Addr} {n c : Nat} (h : V.cell? ⟨b, o, none⟩ = some (.slice a n c)) : (Instr.loadAt 38 (.pointer (some ⟨b, o, none⟩))).run Tryd.prog V = .ok (.slice a n c) V := by go_simp
theorem ld_ints {V : World} {b o : Nat} {a : Option Addr} {n c : Nat} (h : V.cell? ⟨b, o, none⟩ = some (.slice a n c)) : (Instr.loadAt 40 (.pointer (some ⟨b, o, none⟩))).run Tryd.prog V = .ok (.slice a n c) V := by go_simp
theorem ld_int {V : World} {b o : Nat} {n : Int} (h : V.cell? ⟨b, o, none⟩ = some (.int .i64 n)) : (Instr.loadAt 3 (.pointer (some ⟨b, o, none⟩))).run Tryd.prog V = .ok (.int .i64 n) V := by go_simp
theorem ln_ints {p : Option Addr} {n c : Nat} {w : World} : (Builtin.len_ #[40] 3 #[.slice p n c]).run Tryd.prog w = .ok (.int .i64 n) w := by go_simp
theorem bs_one (V : World) (r : Int) : (Instr.buildSlice 40 1 #[(0, .int .i64 r)]).run Tryd.prog V = .ok (.slice (some ⟨V.heap.size, 0, none⟩) 1 1) (V.alloc (.cells #[.int .i64 r] 3)) := by kernel_rfl
/-- a list of one number, wherever it lies -/
def VN1 (r : Int) (v : Value) (w : World) : Prop := ∃ a, v = .slice a 1 1 ∧ Go.Proofs.YtckmgefailclcaaDoor.Tr.RowAt w (fun _ => True) a 1 1 [.int .i64 r]
theorem VN1.mono {r : Int} : Mono (VN1 r) := fun _ _ _ hb ⟨a, h, h2⟩ => ⟨a, h, h2.below (Go.Proofs.YtckmgefailclcaaDoor.Tr.Kps.of_below hb)⟩
end Go.Proofs.YtckmgefailclcaaDoor.Fw
