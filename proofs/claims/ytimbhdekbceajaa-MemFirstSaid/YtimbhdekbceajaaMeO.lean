/- Plain facts on what operations make; the small functions of the statements on numbers. Conditions: the numbers fit their kinds. -/
import Derived.Test.YtimbhdekbceajaaMeM
namespace Go.Proofs.Ytimbhdekbceajaa.Me
open Go Go.RowKit

def tw (k a b : Int) : Int := (binP k a b).getD 0
def uw (k a : Int) : Int := (unP k a).getD 0
theorem tw7 (a b : Int) : tw 7 a b = wrap64 (a + b) := rfl
theorem tw8 (a b : Int) : tw 8 a b = wrap64 (a - b) := rfl
theorem tw9 (a b : Int) : tw 9 a b = wrap64 (a * b) := rfl
theorem tw12 (a b : Int) : tw 12 a b = tr (decide (a < b)) := rfl
theorem tw13 (a b : Int) : tw 13 a b = tr (decide (a ≤ b)) := rfl
theorem tw14 (a b : Int) : tw 14 a b = tr (a == b) := rfl
theorem tw15 (a b : Int) : tw 15 a b = tr (a != b) := rfl
theorem tw16 (a b : Int) : tw 16 a b = tr (a != 0 && b != 0) := rfl
theorem tw17 (a b : Int) : tw 17 a b = tr (a != 0 || b != 0) := rfl
theorem uw5 (a : Int) : uw 5 a = wrap64 (-a) := rfl
theorem uw6 (a : Int) : uw 6 a = tr (a == 0) := rfl
theorem wr_ex (a : Int) : ∃ t : Int, wrap64 a = a + 18446744073709551616 * t := ⟨-((a + 9223372036854775808) / 18446744073709551616), by unfold wrap64; omega⟩
theorem wr_add (a t : Int) : wrap64 (a + 18446744073709551616 * t) = wrap64 a := by unfold wrap64; omega
theorem wr_id {a : Int} (h : I64 a) : wrap64 a = a := by unfold I64 at h; unfold wrap64; omega
theorem wr_congr {a b t : Int} (h : a = b + 18446744073709551616 * t) : wrap64 a = wrap64 b := by rw [h, wr_add]
theorem wr_sum (a b : Int) : wrap64 (wrap64 a + b) = wrap64 (a + b) := by
  obtain ⟨t, h⟩ := wr_ex a
  exact wr_congr (t := t) (by rw [h]; omega)
theorem wr_sum' (a b : Int) : wrap64 (a + wrap64 b) = wrap64 (a + b) := by rw [Int.add_comm, wr_sum, Int.add_comm]
theorem wr_mul (a b : Int) : wrap64 (wrap64 a * b) = wrap64 (a * b) := by
  obtain ⟨t, h⟩ := wr_ex a
  exact wr_congr (t := t * b) (by rw [h, Int.add_mul, Int.mul_assoc])
theorem wr_mul' (a b : Int) : wrap64 (a * wrap64 b) = wrap64 (a * b) := by rw [Int.mul_comm, wr_mul, Int.mul_comm]
theorem ring_add_comm (a b : Int) : tw 7 b a = tw 7 a b := by rw [tw7, tw7, Int.add_comm]
theorem ring_mul_comm (a b : Int) : tw 9 b a = tw 9 a b := by rw [tw9, tw9, Int.mul_comm]
theorem ring_add_assoc (a b c : Int) : tw 7 (tw 7 a b) c = tw 7 a (tw 7 b c) := by simp only [tw7]; rw [wr_sum, wr_sum', Int.add_assoc]
theorem ring_mul_assoc (a b c : Int) : tw 9 (tw 9 a b) c = tw 9 a (tw 9 b c) := by simp only [tw9]; rw [wr_mul, wr_mul', Int.mul_assoc]
theorem ring_dist (a b c : Int) : tw 7 (tw 9 a b) (tw 9 a c) = tw 9 a (tw 7 b c) := by simp only [tw9, tw7]; rw [wr_mul', wr_sum, wr_sum', Int.mul_add]
theorem ring_add_zero {a : Int} (h : I64 a) : tw 7 a 0 = a := by rw [tw7, Int.add_zero, wr_id h]
theorem ring_mul_one {a : Int} (h : I64 a) : tw 9 a 1 = a := by rw [tw9, Int.mul_one, wr_id h]
theorem ring_mul_zero (a : Int) : tw 9 a 0 = 0 := by rw [tw9, Int.mul_zero]; exact wr_id (by unfold I64; omega)
theorem ring_neg_neg {a : Int} (h : I64 a) : uw 5 (uw 5 a) = a := by
  simp only [uw5]
  obtain ⟨t, ht⟩ := wr_ex (-a)
  rw [ht, wr_congr (a := -(-a + 18446744073709551616 * t)) (b := a) (t := -t) (by omega), wr_id h]
theorem ring_neg (a : Int) : tw 7 a (uw 5 a) = 0 := by
  rw [tw7, uw5, wr_sum', show a + -a = 0 by omega]
  exact wr_id (by unfold I64; omega)
theorem num_sub (a b : Int) : tw 7 a (uw 5 b) = tw 8 a b := by
  rw [tw7, uw5, wr_sum', tw8]
  rfl
theorem tr_ne (b : Bool) : (tr b != 0) = b := by cases b <;> rfl
theorem tr_not (b : Bool) : tr (tr b == 0) = tr (!b) := by cases b <;> rfl
theorem num_less (a b : Int) : uw 6 (tw 13 b a) = tw 12 a b := by
  rw [uw6, tw13, tr_not, tw12]
  congr 1
  rw [Bool.eq_iff_iff]
  simp
theorem num_unlike (a b : Int) : uw 6 (tw 14 a b) = tw 15 a b := by
  rw [uw6, tw14, tr_not, tw15]
  rfl
theorem less_one (a b : Int) : wrap64 (wrap64 (tw 12 a b + tw 12 b a) + tw 14 a b) = 1 := by
  simp only [tw12, tw14]
  rcases Int.lt_trichotomy a b with h | h | h
  · rw [decide_eq_true h, decide_eq_false (by omega), show (a == b) = false by simpa using (by omega : a ≠ b)]; simp [tr, wrap64]
  · subst h
    rw [decide_eq_false (by omega), show (a == a) = true by simp]; simp [tr, wrap64]
  · rw [decide_eq_false (by omega), decide_eq_true h, show (a == b) = false by simpa using (by omega : a ≠ b)]; simp [tr, wrap64]
theorem less_on {a b c : Int} (h1 : tw 12 a b = 1) (h2 : tw 12 b c = 1) : tw 12 a c = 1 := by
  simp only [tw12, tr] at *
  split at h1
  · split at h2
    · simp at *
      omega
    · simp at h2
  · simp at h1
theorem less_or (a b : Int) : tw 17 (tw 12 a b) (tw 14 a b) = tw 13 a b := by
  simp only [tw17, tw12, tw14, tw13, tr_ne]
  congr 1
  rw [Bool.eq_iff_iff]
  simp
  omega
theorem not_and (a b : Int) : uw 6 (tw 16 a b) = tw 17 (uw 6 a) (uw 6 b) := by
  simp only [uw6, tw16, tw17, tr_not, tr_ne]
  congr 1
  cases h : a == 0 <;> cases h2 : b == 0 <;> simp_all
theorem not_or (a b : Int) : uw 6 (tw 17 a b) = tw 16 (uw 6 a) (uw 6 b) := by
  simp only [uw6, tw16, tw17, tr_not, tr_ne]
  congr 1
  cases h : a == 0 <;> cases h2 : b == 0 <;> simp_all
theorem not_not' (a : Int) : uw 6 (uw 6 a) = tw 15 a 0 := by
  simp only [uw6, tw15, tr_not]
  rfl
theorem div_mod {a b : Int} (ha : I64 a) : tw 7 (tw 9 b (wrap64 (a.tdiv b))) (a.tmod b) = a := by
  simp only [tw7, tw9]
  rw [wr_mul', wr_sum, Int.mul_tdiv_add_tmod, wr_id ha]
theorem two_c (k a b : Int) (hk : U8 k) {w V : World} (hV : Below w.heap.size w V) : Calls Try.prog 32 #[.int .u8 k, .int .i64 a, .int .i64 b] V fun e w' => e = .returned (.int .i64 (tw k a b)) ∧ Below w.heap.size w w' := by
  have h := Lib.hid (binary_c k a b hk V)
  unfold ret at h
  rw [show (binP k a b).getD 0 = tw k a b from rfl] at h
  generalize (binP k a b).isSome = x2 at h
  go_enter Try.func32, Try.ntmps32
  go_wp2_with (go_at_call 22; refine h.out.mono ?_; rintro e w1 ⟨rfl, hb1⟩)
  go_ret
  exact ⟨rfl, hV.trans (hb1.mono hV.size)⟩
theorem neg_c (a : Int) {w V : World} (hV : Below w.heap.size w V) : Calls Try.prog 20 #[.int .u8 5, .int .i64 a] V fun e w' => e = .returned (.tuple #[.int .i64 (uw 5 a), .bool true]) ∧ Below w.heap.size w w' :=
  (Unary_c 5 a (by unfold U8; omega) V).mono fun _ _ ⟨h1, h2⟩ => ⟨h1, hV.trans (h2.mono hV.size)⟩
theorem one_c {F : Nat} (_hF : F = F) (k a : Int) (hk : U8 k) {w V : World} (hV : Below w.heap.size w V) : Calls Try.prog 20 #[.int .u8 k, .int .i64 a] V fun e w' => (∃ x, e = .returned (.tuple #[.int .i64 (uw k a), .bool x])) ∧ Below w.heap.size w w' :=
  (Unary_c k a hk V).mono fun _ _ ⟨h1, h2⟩ => ⟨⟨_, h1⟩, hV.trans (h2.mono hV.size)⟩
theorem not_c (a : Int) {w V : World} (hV : Below w.heap.size w V) : Calls Try.prog 33 #[.int .i64 a] V fun e w' => e = .returned (.int .i64 (uw 6 a)) ∧ Below w.heap.size w w' := by
  have h := Lib.hid (one_c (F := 0) rfl 6 a (by unfold U8; omega) hV)
  go_enter Try.func33, Try.ntmps33
  go_wp2_with (go_at_call 20; refine h.out.mono ?_; rintro e w1 ⟨⟨x, rfl⟩, hb1⟩)
  go_ret
  exact ⟨rfl, hb1⟩
theorem nTwo_c (k a b : Int) (hk : U8 k) {w V : World} (hV : Below w.heap.size w V) : Calls Try.prog 30 #[.int .u8 k, .int .i64 a, .int .i64 b] V fun e w' => e = .returned (.int .i64 (tw k a b)) ∧ Below w.heap.size w w' := by
  have h := Lib.hid (binary_c k a b hk V)
  unfold ret at h
  rw [show (binP k a b).getD 0 = tw k a b from rfl] at h
  generalize (binP k a b).isSome = x2 at h
  go_enter Try.func30, Try.ntmps30
  go_wp2_with (go_at_call 22; refine h.out.mono ?_; rintro e w1 ⟨rfl, hb1⟩)
  go_ret
  exact ⟨rfl, hV.trans (hb1.mono hV.size)⟩
theorem nOne_c (k a : Int) (hk : U8 k) {w V : World} (hV : Below w.heap.size w V) : Calls Try.prog 31 #[.int .u8 k, .int .i64 a] V fun e w' => e = .returned (.int .i64 (uw k a)) ∧ Below w.heap.size w w' := by
  have h := Lib.hid (one_c (F := 0) rfl k a hk hV)
  go_enter Try.func31, Try.ntmps31
  go_wp2_with (go_at_call 20; refine h.out.mono ?_; rintro e w1 ⟨⟨x, rfl⟩, hb1⟩)
  go_ret
  exact ⟨rfl, hb1⟩
theorem aw_c {w V : World} (hV : Below w.heap.size w V) : Calls Try.prog 11 #[] V fun e w' => e = .returned (.bool true) ∧ Below w.heap.size w w' :=
  (awake_c V).mono fun _ _ ⟨h1, h2⟩ => ⟨h1, hV.trans (h2.mono hV.size)⟩
end Go.Proofs.Ytimbhdekbceajaa.Me
