/- Walks of the document's SameGraph, Same. Conditions: what is held against one another lies in memory. -/
import Derived.Test.YtkmlhijnkilfpaaDoorJaK
import Derived.BigQuiet
import Derived.Deep.QuietTactic
import Derived.Test.YtkmlhijnkilfpaaDoorJQvF
import Derived.Test.YtkmlhijnkilfpaaDoorJCgB
import Derived.Test.YtkmlhijnkilfpaaDoorJFwB
import Derived.Test.YtkmlhijnkilfpaaDoorJFwQ
import Derived.Test.YtkmlhijnkilfpaaDoorJFwM
set_option linter.unusedSimpArgs false
set_option linter.unusedVariables false
namespace Go.Proofs.YtkmlhijnkilfpaaDoor.Fw
open Go Go.RowKit
open Go.Proofs.YtkmlhijnkilfpaaDoor.Lx Go.Proofs.YtkmlhijnkilfpaaDoor.Tr Go.Proofs.YtkmlhijnkilfpaaDoor.Cd
open Go.Proofs.YtkmlhijnkilfpaaDoor.Vq Go.Proofs.YtkmlhijnkilfpaaDoor.Qr
open Go.Proofs.YtkmlhijnkilfpaaDoor.Qg (run_call2)

theorem fl_f2 {V : World} {b : Nat} : (Instr.fieldAt 30 (.pointer (some ⟨b, 0, none⟩)) 2).run Tryd.prog V = .ok (.pointer (some ⟨b, 2, none⟩)) V := by go_simp
theorem ld_grs {V : World} {b o : Nat} {a : Option Addr} {n c : Nat} (h : V.cell? ⟨b, o, none⟩ = some (.slice a n c)) : (Instr.loadAt 28 (.pointer (some ⟨b, o, none⟩))).run Tryd.prog V = .ok (.slice a n c) V := by go_simp
theorem ix_gr {V : World} {b off n cap k : Nat} (h : (k : Int) < (n : Int)) : (Instr.indexAt 28 (.slice (some ⟨b, off, none⟩) n cap) (.int .i64 k)).run Tryd.prog V = .ok (.pointer (some ⟨b, off + k * 5, none⟩)) V := by go_simp
def GrC (u : Gr) (b o : Nat) (V : World) : Prop := V.cell? ⟨b, o, none⟩ = some (.string u.name) ∧ V.cell? ⟨b, o + 1, none⟩ = some (.bool u.thread) ∧ V.cell? ⟨b, o + 2, none⟩ = some (.int .i64 u.params) ∧ V.cell? ⟨b, o + 3, none⟩ = some (.int .i64 u.regs) ∧ V.cell? ⟨b, o + 4, none⟩ = some (.slice u.ba u.blocks.length u.bcap)
theorem ld_gr1 {u : Gr} {b o : Nat} {V : World} (h : GrC u b o V) : (Instr.loadAt 37 (.pointer (some ⟨b, o, none⟩))).run Tryd.prog V = .ok (.agg #[.string u.name, .bool u.thread, .int .i64 u.params, .int .i64 u.regs, .slice u.ba u.blocks.length u.bcap]) V := by
  obtain ⟨h0, h1, h2, h3, h4⟩ := h
  simp [go_sem, h0, h1, h2, h3, h4]

end Go.Proofs.YtkmlhijnkilfpaaDoor.Fw
