/- Single operations of a region by Qr's law. Conditions: none. -/
import Derived.Test.YtkmlhijnkilfpaaDoorJaN
import Derived.Test.YtkmlhijnkilfpaaDoorJFwA
set_option linter.unusedSimpArgs false
namespace Go.Proofs.YtkmlhijnkilfpaaDoor.Fw
open Go Go.RowKit
open Go.Proofs.YtkmlhijnkilfpaaDoor.Vq Go.Proofs.YtkmlhijnkilfpaaDoor.Qr

theorem run_ix {P : Program} {a : Act} {o : Oper} {t : TypeId} {x y : Operand} {u v r : Value} {w w' : World} (ho : o.op = .indexAddr t x y) (hx : a.eval x = u) (hy : a.eval y = v) (hr : (Instr.indexAt t u v).run P w = .ok r w') : (execOp a.eval o).run P w = .ok (.value r) w' := by
  subst hx hy
  unfold execOp
  simp [ho, hr]
theorem run_notB {a : Act} {o : Oper} {t : TypeId} {x : Operand} {b : Bool} {w : World} (ho : o.op = .unOp .not t x) (hx : a.eval x = .bool b) : (execOp a.eval o).run Tryd.prog w = .ok (.value (.bool !b)) w := by
  unfold execOp
  rw [ho]
  simp only [hx]
  cases b <;> simp [go_sem]
theorem wanted_is {ops : Array Oper} {o : Oper} {a : Act} {j d : Nat} {b : Bool} (hg : o.guard = some (j, b)) (hd : Go.Proofs.YtkmlhijnkilfpaaDoor.Qr.dstOf ops j = some d) (h : a.tmps[d]? = some (.bool b)) : Region.wanted o (yielded ops a.tmps) = true := by
  unfold Region.wanted; rw [hg]
  have : yielded ops a.tmps j = some b := by
    unfold yielded; unfold Go.Proofs.YtkmlhijnkilfpaaDoor.Qr.dstOf at hd
    rw [hd]; simp [h]
  simp [this]
/-- a list of one number, wherever it lies -/
def VN1 (r : Int) (v : Value) (w : World) : Prop := ∃ a, v = .slice a 1 1 ∧ Go.Proofs.YtkmlhijnkilfpaaDoor.Tr.RowAt w (fun _ => True) a 1 1 [.int .i64 r]
theorem VN1.mono {r : Int} : Mono (VN1 r) := fun _ _ _ hb ⟨a, h, h2⟩ => ⟨a, h, h2.below (Go.Proofs.YtkmlhijnkilfpaaDoor.Tr.Kps.of_below hb)⟩
end Go.Proofs.YtkmlhijnkilfpaaDoor.Fw
