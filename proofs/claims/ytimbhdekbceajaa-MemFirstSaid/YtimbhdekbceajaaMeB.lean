/- Walks of mem.Unary, mem.Binary: what operations make. Conditions: the numbers fit their kinds. -/
import Derived.Test.YtimbhdekbceajaaMeA
import Derived.Lib.Hide
namespace Go.Proofs.Ytimbhdekbceajaa.Me
open Go Go.RowKit
open Go.WideShapes Go.MapKept

def I64 (a : Int) : Prop := -9223372036854775808 ≤ a ∧ a ≤ 9223372036854775807
def U8 (a : Int) : Prop := 0 ≤ a ∧ a ≤ 255
theorem wf_u8 {a : Int} (h : U8 a) : (Lit.int .u8 a).wf = true := by
  unfold U8 at h
  simp [Lit.wf, IntKind.min, IntKind.max, IntKind.bits, IntKind.signed]
  omega
theorem wf_i64 {a : Int} (h : I64 a) : (Lit.int .i64 a).wf = true := by
  unfold I64 at h
  simp [Lit.wf, IntKind.min, IntKind.max, IntKind.bits, IntKind.signed]
  omega
/-- the number of a truth -/
def tr (b : Bool) : Int := if b then 1 else 0

theorem truth_c (b : Bool) (w : World) : Calls Try.prog 48 #[.bool b] w fun e w' => e = .returned (.int .i64 (tr b)) ∧ w' = w := by
  cases b
  all_goals
    go_enter Try.func48, Try.ntmps48
    go_wp2_with fail
    go_ret
    exact ⟨rfl, rfl⟩
theorem number_1 (a b : Int) (w : World) : Calls Try.prog 59 #[.int .i64 a, .int .i64 b] w fun e w' => e = .returned (.int .i64 (wrap64 (a + b))) ∧ w' = w := by
  go_enter Try.func59, Try.ntmps59
  go_wp2_with fail
  all_goals go_ret
  exact ⟨rfl, rfl⟩
theorem number_2 (a b : Int) (w : World) : Calls Try.prog 60 #[.int .i64 a, .int .i64 b] w fun e w' => e = .returned (.int .i64 (wrap64 (a - b))) ∧ w' = w := by
  go_enter Try.func60, Try.ntmps60
  go_wp2_with fail
  all_goals go_ret
  exact ⟨rfl, rfl⟩
theorem number_3 (a b : Int) (w : World) : Calls Try.prog 61 #[.int .i64 a, .int .i64 b] w fun e w' => e = .returned (.int .i64 (wrap64 (a * b))) ∧ w' = w := by
  go_enter Try.func61, Try.ntmps61
  go_wp2_with fail
  all_goals go_ret
  exact ⟨rfl, rfl⟩
theorem number_4 (a b : Int) (hb : b ≠ 0) (w : World) : Calls Try.prog 62 #[.int .i64 a, .int .i64 b] w fun e w' => e = .returned (.int .i64 (wrap64 (a.tdiv b))) ∧ w' = w := by
  have hb' : (b == 0) = false := by simpa using hb
  go_enter Try.func62, Try.ntmps62
  go_wp2_with fail
  all_goals go_ret
  exact ⟨rfl, rfl⟩
theorem number_5 (a b : Int) (hb : b ≠ 0) (w : World) : Calls Try.prog 63 #[.int .i64 a, .int .i64 b] w fun e w' => e = .returned (.int .i64 (a.tmod b)) ∧ w' = w := by
  have hb' : (b == 0) = false := by simpa using hb
  go_enter Try.func63, Try.ntmps63
  go_wp2_with fail
  all_goals go_ret
  exact ⟨rfl, rfl⟩
theorem compared_1 (a b : Int) (w : World) : Calls Try.prog 64 #[.int .i64 a, .int .i64 b] w fun e w' => e = .returned (.bool (decide (a < b))) ∧ w' = w := by
  go_enter Try.func64, Try.ntmps64
  go_wp2_with fail
  all_goals go_ret
  all_goals exact ⟨by first | rfl | (congr 1; simp [*]; done) | (congr 2; rw [Bool.eq_iff_iff]; simp [*]; done), rfl⟩
theorem compared_2 (a b : Int) (w : World) : Calls Try.prog 65 #[.int .i64 a, .int .i64 b] w fun e w' => e = .returned (.bool (decide (a ≤ b))) ∧ w' = w := by
  go_enter Try.func65, Try.ntmps65
  go_wp2_with fail
  all_goals go_ret
  all_goals exact ⟨by first | rfl | (congr 1; simp [*]; done) | (congr 2; rw [Bool.eq_iff_iff]; simp [*]; done), rfl⟩
theorem compared_3 (a b : Int) (w : World) : Calls Try.prog 66 #[.int .i64 a, .int .i64 b] w fun e w' => e = .returned (.bool (a == b)) ∧ w' = w := by
  go_enter Try.func66, Try.ntmps66
  go_wp2_with fail
  all_goals go_ret
  all_goals exact ⟨by first | rfl | (congr 1; simp [*]; done) | (congr 2; rw [Bool.eq_iff_iff]; simp [*]; done), rfl⟩
theorem compared_4 (a b : Int) (w : World) : Calls Try.prog 67 #[.int .i64 a, .int .i64 b] w fun e w' => e = .returned (.bool (a != b)) ∧ w' = w := by
  go_enter Try.func67, Try.ntmps67
  go_wp2_with fail
  all_goals go_ret
  all_goals exact ⟨by first | rfl | (congr 1; simp [*]; done) | (congr 2; rw [Bool.eq_iff_iff]; simp [*]; done), rfl⟩
theorem compared_5 (a b : Int) (w : World) : Calls Try.prog 68 #[.int .i64 a, .int .i64 b] w fun e w' => e = .returned (.bool (a != 0 && b != 0)) ∧ w' = w := by
  go_enter Try.func68, Try.ntmps68
  go_wp2_with fail
  all_goals go_ret
  all_goals exact ⟨by first | rfl | (congr 1; simp [*]; done) | (congr 2; rw [Bool.eq_iff_iff]; simp [*]; done), rfl⟩
theorem compared_6 (a b : Int) (w : World) : Calls Try.prog 69 #[.int .i64 a, .int .i64 b] w fun e w' => e = .returned (.bool (a != 0 || b != 0)) ∧ w' = w := by
  go_enter Try.func69, Try.ntmps69
  go_wp2_with fail
  all_goals go_ret
  all_goals exact ⟨by first | rfl | (congr 1; simp [*]; done) | (congr 2; rw [Bool.eq_iff_iff]; simp [*]; done), rfl⟩
end Go.Proofs.Ytimbhdekbceajaa.Me
