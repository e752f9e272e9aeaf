/- Single operations that above wants. Conditions: none. -/
import Derived.Test.YtiaecobjbckhoaaDbT0
set_option linter.unusedVariables false
set_option linter.unusedSimpArgs false
namespace Go.Proofs.Ytiaecobjbckhoaa.Db
open Go Go.RowKit
open Go.WideShapes Go.MapKept Dm
open Go.Proofs.Ytiaecobjbckhoaa.Qr Go.Proofs.Ytiaecobjbckhoaa.Vq Go.Proofs.Ytiaecobjbckhoaa.QrS

theorem run_call2 {P : Program} {a : Act} {o : Oper} {f : FuncId} {x y : Operand} {ts : Array TypeId} {u v : Value} {w : World}
    (ho : o.op = .call { callee := .value (.func f), args := #[x, y], argTypes := ts }) (hx : a.eval x = u) (hy : a.eval y = v) (hf : ∀ (xs : Array Value) (w : World), (callFunc f xs).run P w = .ok (.enter f xs) w) :
    (execOp a.eval o).run P w = .ok (.enter f #[u, v]) w := run_call ho (by simp [hx, hy]) hf
theorem mn_int {V : World} {a b : Int} : (Builtin.min_ #[3, 3] 3 #[.int .i64 a, .int .i64 b]).run Try.prog V = .ok (.int .i64 (min a b)) V := by
  by_cases h : b < a
  · rw [Int.min_eq_right (by omega)]; go_simp
  · rw [Int.min_eq_left (by omega)]; go_simp
theorem run_min {P : Program} {a : Act} {o : Oper} {x y : Operand} {t : TypeId} {w : World} {u u' v : Value} (ho : o.op = .call { callee := .builtin .min, args := #[x, y], argTypes := #[t, t] }) (hx : a.eval x = u) (hy : a.eval y = u') (hr : (Builtin.min_ #[t, t] o.type #[u, u']).run P w = .ok v w) : (execOp a.eval o).run P w = .ok (.value v) w := by
  unfold execOp
  simp [ho, hx, hy, resolve, invoke, builtin, hr]
theorem wp_storeN {a : Act} {o : Oper} {x y : Operand} {b k : Nat} {z : Int} {v0 : Value} {w : World} {K : Act → World → Prop} {Q : Exit → Act → World → Prop} (ho : o.op = .store 3 x y) (hd : o.dst = none) (hx : a.eval x = .pointer (some ⟨b, k, none⟩)) (hy : a.eval y = .int .i64 z) (hc : w.cell? ⟨b, k, none⟩ = some v0) (hf : w.frozen? ⟨b, k, none⟩ = false) (h : K (a.put o.dst undef) (w.setCell ⟨b, k, none⟩ (.int .i64 z))) : o.wp Try.prog a w K Q := by
  unfold Oper.wp execOp
  simp only [ho]
  rw [hx, hy]
  simp [go_sem, hc, hf, hd, Act.put] at h ⊢
  exact h
theorem ld_chp {V : World} {b o q : Nat} (h : V.cell? ⟨b, o, none⟩ = some (.pointer (some ⟨q, 0, none⟩))) : (Instr.loadAt 63 (.pointer (some ⟨b, o, none⟩))).run Try.prog V = .ok (.pointer (some ⟨q, 0, none⟩)) V := by go_simp
end Go.Proofs.Ytiaecobjbckhoaa.Db
