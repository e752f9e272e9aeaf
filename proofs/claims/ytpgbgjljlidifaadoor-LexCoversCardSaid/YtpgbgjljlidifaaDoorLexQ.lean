/- Two tokens compared: the model's comparison of their structs. Conditions: none. -/
import Derived.Test.YtpgbgjljlidifaaDoorLexI
import Derived.Laws.StructEq
namespace Go.Proofs.YtpgbgjljlidifaaDoor.Lx
open Go Go.RowKit

def tokAgg (t : Tok) : Value := .agg #[.int .u8 (t.kind : Int), .string ⟨t.txt.toArray⟩, .int .i64 (t.pos : Int)]
theorem stood36 : Tryd.prog.stoodInHeld 36 = false := by kernel_rfl
theorem guard36 : Tryd.prog.eqGuardType Tryd.prog.depth 36 = false := by kernel_rfl
theorem struct36 : Tryd.prog.underlying 36 = some (.struct (Tryd.prog.fieldsOf 36)) := by kernel_rfl
theorem tok_beq (x y : Tok) : ((x.kind : Int) == (y.kind : Int) && (x.txt == y.txt) && ((x.pos : Int) == (y.pos : Int))) = decide (x = y) := by
  obtain ⟨a, b, c⟩ := x
  obtain ⟨a', b', c'⟩ := y
  rw [Bool.eq_iff_iff]
  simp only [Bool.and_eq_true, beq_iff_eq, decide_eq_true_iff, Tok.mk.injEq]
  constructor
  · rintro ⟨⟨h1, h2⟩, h3⟩; exact ⟨by omega, h2, by omega⟩
  · rintro ⟨h1, h2, h3⟩; exact ⟨⟨by omega, h2⟩, by omega⟩
theorem tok_neq (x y : Tok) (W : World) : (binOp .neq 36 (.agg #[.int .u8 (x.kind : Int), .string ⟨x.txt.toArray⟩, .int .i64 (x.pos : Int)]) (.agg #[.int .u8 (y.kind : Int), .string ⟨y.txt.toArray⟩, .int .i64 (y.pos : Int)])).run Tryd.prog W = .ok (.bool (!decide (x = y))) W := by
  rw [run_neq_struct, ← tok_beq]
  rw [show (10000 : Nat) = 9999 + 1 from rfl, run_equalIn_struct _ 9999 36 _ _ struct36 stood36]
  cases h1 : ((x.kind : Int) == (y.kind : Int)) <;> cases h2 : (x.txt == y.txt) <;> cases h3 : ((x.pos : Int) == (y.pos : Int)) <;>
    simp [Program.fieldsOf, Tryd.underlying36, Tryd.underlying5, Tryd.underlying9, Tryd.underlying3, Op.eqFields, part, go_sem, h1, h2, h3]
end Go.Proofs.YtpgbgjljlidifaaDoor.Lx
