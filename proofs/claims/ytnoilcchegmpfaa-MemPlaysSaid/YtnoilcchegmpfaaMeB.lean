/- Walks of mem.Unary, mem.Binary: what operations make. Conditions: the numbers fit their kinds. -/
import Derived.Test.YtnoilcchegmpfaaMeA
import Derived.Lib.Hide
namespace Go.Proofs.Ytnoilcchegmpfaa.Me
open Go Go.RowKit
open Go.WideShapes Go.MapKept

def I64 (a : Int) : Prop := -9223372036854775808 ≤ a ∧ a ≤ 9223372036854775807
def U8 (a : Int) : Prop := 0 ≤ a ∧ a ≤ 255
theorem wf_u8 {a : Int} (h : U8 a) : (Lit.int .u8 a).wf = true := by
  unfold U8 at h
  simp [Lit.wf, IntKind.min, IntKind.max, IntKind.bits, IntKind.signed]
  omega
theorem wf_i64 {a : Int} (h : I64 a) : (Lit.int .i64 a).wf = true := by
  unfold I64 at h
  simp [Lit.wf, IntKind.min, IntKind.max, IntKind.bits, IntKind.signed]
  omega
/-- the number of a truth -/
def tr (b : Bool) : Int := if b then 1 else 0

theorem truth_c (b : Bool) (w : World) : Calls Try.prog 52 #[.bool b] w fun e w' => e = .returned (.int .i64 (tr b)) ∧ w' = w := by
  cases b
  all_goals
    go_enter Try.func52, Try.ntmps52
    go_wp2_with fail
    go_ret
    exact ⟨rfl, rfl⟩
theorem number_1 (a b : Int) (w : World) : Calls Try.prog 41 #[.int .i64 a, .int .i64 b] w fun e w' => e = .returned (.int .i64 (wrap64 (a + b))) ∧ w' = w := by
  go_enter Try.func41, Try.ntmps41
  go_wp2_with fail
  all_goals go_ret
  exact ⟨rfl, rfl⟩
theorem number_2 (a b : Int) (w : World) : Calls Try.prog 42 #[.int .i64 a, .int .i64 b] w fun e w' => e = .returned (.int .i64 (wrap64 (a - b))) ∧ w' = w := by
  go_enter Try.func42, Try.ntmps42
  go_wp2_with fail
  all_goals go_ret
  exact ⟨rfl, rfl⟩
theorem number_3 (a b : Int) (w : World) : Calls Try.prog 43 #[.int .i64 a, .int .i64 b] w fun e w' => e = .returned (.int .i64 (wrap64 (a * b))) ∧ w' = w := by
  go_enter Try.func43, Try.ntmps43
  go_wp2_with fail
  all_goals go_ret
  exact ⟨rfl, rfl⟩
theorem number_4 (a b : Int) (hb : b ≠ 0) (w : World) : Calls Try.prog 44 #[.int .i64 a, .int .i64 b] w fun e w' => e = .returned (.int .i64 (wrap64 (a.tdiv b))) ∧ w' = w := by
  have hb' : (b == 0) = false := by simpa using hb
  go_enter Try.func44, Try.ntmps44
  go_wp2_with fail
  all_goals go_ret
  exact ⟨rfl, rfl⟩
theorem number_5 (a b : Int) (hb : b ≠ 0) (w : World) : Calls Try.prog 45 #[.int .i64 a, .int .i64 b] w fun e w' => e = .returned (.int .i64 (a.tmod b)) ∧ w' = w := by
  have hb' : (b == 0) = false := by simpa using hb
  go_enter Try.func45, Try.ntmps45
  go_wp2_with fail
  all_goals go_ret
  exact ⟨rfl, rfl⟩
theorem compared_1 (a b : Int) (w : World) : Calls Try.prog 46 #[.int .i64 a, .int .i64 b] w fun e w' => e = .returned (.bool (decide (a < b))) ∧ w' = w := by
  go_enter Try.func46, Try.ntmps46
  go_wp2_with fail
  all_goals go_ret
  all_goals exact ⟨by first | rfl | (congr 1; simp [*]; done) | (congr 2; rw [Bool.eq_iff_iff]; simp [*]; done), rfl⟩
theorem compared_2 (a b : Int) (w : World) : Calls Try.prog 47 #[.int .i64 a, .int .i64 b] w fun e w' => e = .returned (.bool (decide (a ≤ b))) ∧ w' = w := by
  go_enter Try.func47, Try.ntmps47
  go_wp2_with fail
  all_goals go_ret
  all_goals exact ⟨by first | rfl | (congr 1; simp [*]; done) | (congr 2; rw [Bool.eq_iff_iff]; simp [*]; done), rfl⟩
theorem compared_3 (a b : Int) (w : World) : Calls Try.prog 48 #[.int .i64 a, .int .i64 b] w fun e w' => e = .returned (.bool (a == b)) ∧ w' = w := by
  go_enter Try.func48, Try.ntmps48
  go_wp2_with fail
  all_goals go_ret
  all_goals exact ⟨by first | rfl | (congr 1; simp [*]; done) | (congr 2; rw [Bool.eq_iff_iff]; simp [*]; done), rfl⟩
theorem compared_4 (a b : Int) (w : World) : Calls Try.prog 49 #[.int .i64 a, .int .i64 b] w fun e w' => e = .returned (.bool (a != b)) ∧ w' = w := by
  go_enter Try.func49, Try.ntmps49
  go_wp2_with fail
  all_goals go_ret
  all_goals exact ⟨by first | rfl | (congr 1; simp [*]; done) | (congr 2; rw [Bool.eq_iff_iff]; simp [*]; done), rfl⟩
theorem compared_5 (a b : Int) (w : World) : Calls Try.prog 50 #[.int .i64 a, .int .i64 b] w fun e w' => e = .returned (.bool (a != 0 && b != 0)) ∧ w' = w := by
  go_enter Try.func50, Try.ntmps50
  go_wp2_with fail
  all_goals go_ret
  all_goals exact ⟨by first | rfl | (congr 1; simp [*]; done) | (congr 2; rw [Bool.eq_iff_iff]; simp [*]; done), rfl⟩
theorem compared_6 (a b : Int) (w : World) : Calls Try.prog 51 #[.int .i64 a, .int .i64 b] w fun e w' => e = .returned (.bool (a != 0 || b != 0)) ∧ w' = w := by
  go_enter Try.func51, Try.ntmps51
  go_wp2_with fail
  all_goals go_ret
  all_goals exact ⟨by first | rfl | (congr 1; simp [*]; done) | (congr 2; rw [Bool.eq_iff_iff]; simp [*]; done), rfl⟩
end Go.Proofs.Ytnoilcchegmpfaa.Me
