/- MemNames answers true. Conditions: none. -/
import Derived.Test.YtimbhdekbceajaaMeY
import Derived.Deep.Cut
namespace Go.Proofs.Ytimbhdekbceajaa.Me
open Go Go.RowKit

theorem Mq.more {w V : World} {mb N : Nat} {C : List (List Int)} {h0 : Option Int} (h : Hid (Mq w mb C h0 N V)) : Hid (Mq w mb C h0 (N + 1) V) := by
  obtain ⟨⟨m, h1, h2, h3, h4, h5, h6, h7⟩, h8⟩ := h.out
  exact Lib.hid ⟨⟨m, h1, h2, h3, h4, h5, Nat.le_succ_of_le h6, h7⟩, h8⟩
theorem bin_v {w V : World} (hV : Hid (Below w.heap.size w V)) (k a b : Int) (hk : U8 k) (o : Option Int) (ho : binP k a b = o) : Calls Try.prog 22 #[.int .u8 k, .int .i64 a, .int .i64 b] V fun e w' => e = ret o ∧ Hid (Below w.heap.size w w') := by
  subst ho
  exact (binary_c k a b hk V).mono fun _ _ ⟨h1, h2⟩ => ⟨h1, Lib.hid (hV.out.trans (h2.mono hV.out.size))⟩
set_option maxHeartbeats 8000000 in
set_option maxRecDepth 100000 in
theorem memNames_law (w : World) : Calls Try.prog 5 #[] w fun e w' => e = .returned (.bool true) ∧ Below w.heap.size w w' := by
  have hb0 : Hid (Below w.heap.size w w) := Lib.hid (Below.refl _ _)
  have hA := Lib.hid (fun (V : World) (hV : Hid (Below w.heap.size w V)) => aw_c hV.out)
  have s0 : Hid (∀ (mb : Nat) (V : World), Hid (Mq w mb [[7, 7]] none 0 V) → Calls Try.prog 26 #[.pointer (some ⟨mb, 0, none⟩), .int .i64 0, .int .i64 1, .int .i64 5] V fun e w' => e = .returned (.int .i64 0) ∧ Hid (Mq w mb [[7, 5]] none 1 w')) := Lib.hid fun mb V hq => (mq_set hq 0 1 5 0 [[7, 5]] (by decide) (by decide)).mono fun e w' h => ⟨h.1, Mq.more h.2⟩
  have s1 : Hid (∀ (mb : Nat) (V : World), Hid (Mq w mb [[7, 5]] none 1 V) → Calls Try.prog 26 #[.pointer (some ⟨mb, 0, none⟩), .int .i64 1, .int .i64 0, .int .i64 5] V fun e w' => e = .returned (.int .i64 1) ∧ Hid (Mq w mb [[7, 5]] none 2 w')) := Lib.hid fun mb V hq => (mq_set hq 1 0 5 1 [[7, 5]] (by decide) (by decide)).mono fun e w' h => ⟨h.1, Mq.more h.2⟩
  have s2 : Hid (∀ (mb : Nat) (V : World), Hid (Mq w mb [[7, 5]] none 2 V) → Calls Try.prog 26 #[.pointer (some ⟨mb, 0, none⟩), .int .i64 0, .int .i64 2, .int .i64 5] V fun e w' => e = .returned (.int .i64 5) ∧ Hid (Mq w mb [[7, 5]] none 3 w')) := Lib.hid fun mb V hq => (mq_set hq 0 2 5 5 [[7, 5]] (by decide) (by decide)).mono fun e w' h => ⟨h.1, Mq.more h.2⟩
  have s3 : Hid (∀ (mb : Nat) (V : World), Hid (Mq w mb [[7, 5]] none 3 V) → Calls Try.prog 27 #[.pointer (some ⟨mb, 0, none⟩), .int .i64 0, .int .i64 3] V fun e w' => e = .returned (.int .i64 0) ∧ Hid (Mq w mb [[7, 5]] (some 3) 4 w')) := Lib.hid fun mb V hq => (mq_take_free hq (by omega) 3 (by unfold I64; omega))
  have s4 : Hid (∀ (mb : Nat) (V : World), Hid (Mq w mb [[7, 5]] (some 3) 4 V) → Calls Try.prog 27 #[.pointer (some ⟨mb, 0, none⟩), .int .i64 0, .int .i64 3] V fun e w' => e = .returned (.int .i64 6) ∧ Hid (Mq w mb [[7, 5]] (some 3) 5 w')) := Lib.hid fun mb V hq => (mq_take_held hq (by omega) 3 (by unfold I64; omega))
  have s5 : Hid (∀ (mb : Nat) (V : World), Hid (Mq w mb [[7, 5]] (some 3) 5 V) → Calls Try.prog 28 #[.pointer (some ⟨mb, 0, none⟩), .int .i64 0, .int .i64 4] V fun e w' => e = .returned (.int .i64 69) ∧ Hid (Mq w mb [[7, 5]] (some 3) 6 w')) := Lib.hid fun mb V hq => (mq_give_no hq (by omega) 4 (by decide))
  have s6 : Hid (∀ (mb : Nat) (V : World), Hid (Mq w mb [[7, 5]] (some 3) 6 V) → Calls Try.prog 27 #[.pointer (some ⟨mb, 0, none⟩), .int .i64 1, .int .i64 3] V fun e w' => e = .returned (.int .i64 1) ∧ Hid (Mq w mb [[7, 5]] (some 3) 7 w')) := Lib.hid fun mb V hq => (mq_take_out hq (by omega) 1 3 (by unfold I64; omega) (by omega))
  have s7 : Hid (∀ (mb : Nat) (V : World), Hid (Mq w mb [[7, 5]] (some 3) 7 V) → Calls Try.prog 28 #[.pointer (some ⟨mb, 0, none⟩), .int .i64 (-1), .int .i64 3] V fun e w' => e = .returned (.int .i64 1) ∧ Hid (Mq w mb [[7, 5]] (some 3) 8 w')) := Lib.hid fun mb V hq => (mq_give_out hq (by omega) (-1) 3 (by omega))
  have s8 : Hid (∀ (mb : Nat) (V : World), Hid (Mq w mb [[7, 5]] (some 3) 8 V) → Calls Try.prog 28 #[.pointer (some ⟨mb, 0, none⟩), .int .i64 0, .int .i64 3] V fun e w' => e = .returned (.int .i64 0) ∧ Hid (Mq w mb [[7, 5]] none 9 w')) := Lib.hid fun mb V hq => (mq_give_yes hq (by omega))
  have s9 : Hid (∀ (mb : Nat) (V : World), Hid (Mq w mb [[7, 5]] none 9 V) → Calls Try.prog 28 #[.pointer (some ⟨mb, 0, none⟩), .int .i64 0, .int .i64 3] V fun e w' => e = .returned (.int .i64 69) ∧ Hid (Mq w mb [[7, 5]] none 10 w')) := Lib.hid fun mb V hq => (mq_give_no hq (by omega) 3 (by decide))
  have b0 : Hid (∀ V : World, Hid (Below w.heap.size w V) → Calls Try.prog 22 #[.int .u8 10, .int .i64 (-9223372036854775808), .int .i64 (-1)] V fun e w' => e = ret (some (-9223372036854775808)) ∧ Hid (Below w.heap.size w w')) := Lib.hid fun V hV => bin_v hV 10 (-9223372036854775808) (-1) (by unfold U8; omega) _ (by decide +kernel)
  have b1 : Hid (∀ V : World, Hid (Below w.heap.size w V) → Calls Try.prog 22 #[.int .u8 11, .int .i64 (-9223372036854775808), .int .i64 (-1)] V fun e w' => e = ret (some 0) ∧ Hid (Below w.heap.size w w')) := Lib.hid fun V hV => bin_v hV 11 (-9223372036854775808) (-1) (by unfold U8; omega) _ (by decide +kernel)
  have b2 : Hid (∀ V : World, Hid (Below w.heap.size w V) → Calls Try.prog 22 #[.int .u8 5, .int .i64 1, .int .i64 1] V fun e w' => e = ret (none) ∧ Hid (Below w.heap.size w w')) := Lib.hid fun V hV => bin_v hV 5 1 1 (by unfold U8; omega) _ (by decide +kernel)
  have u0 : Hid (∀ V : World, Hid (Below w.heap.size w V) → Calls Try.prog 20 #[.int .u8 7, .int .i64 1] V fun e w' => e = ret none ∧ Hid (Below w.heap.size w w')) := Lib.hid fun V hV => (Unary_c 7 1 (by unfold U8; omega) V).mono fun _ _ h => ⟨by rw [h.1]; congr 1, Lib.hid (hV.out.trans (h.2.mono hV.out.size))⟩
  unfold ret at b0
  unfold ret at b1
  unfold ret at b2
  unfold ret at u0
  simp only [Option.getD_some, Option.isSome_some, Option.getD_none, Option.isSome_none] at b0 b1 b2 u0
  go_enter Try.func5, Try.ntmps5
  go_upto_region 4 with (first | (go_at_call 24; (with_reducible refine (Get_nil _ _ _).mono ?_); rintro e w' ⟨rfl, hw'⟩; subst w') | (go_at_call 25; (with_reducible refine (Holder_nil _ _).mono ?_); rintro e w' ⟨rfl, hw'⟩; subst w'))
  go_upto_region 5 with (go_at_call 12; refine (New_bad (w := w) (by assumption) 0 0 (by decide)).mono ?_; rintro e w1 ⟨rfl, hb1⟩)
  go_upto_region 6 with (go_at_call 12; refine (New_bad (w := w) (by assumption) 1025 0 (by decide)).mono ?_; rintro e w2 ⟨rfl, hb2⟩)
  go_upto_region 7 with (go_at_call 12; refine (New_none (w := w) (by assumption) (-1) (by omega)).mono ?_; rintro e w3 ⟨rfl, hb3⟩)
  go_upto_region 8 with (go_at_call 12; refine (New_none (w := w) (by assumption) 257 (by omega)).mono ?_; rintro e w4 ⟨rfl, hb4⟩)
  go_upto_region 11 with (go_at_call 12; refine (New_good (w := w) (by assumption)).mono ?_; rintro e w5 ⟨mb, rfl, q0⟩)
  clear hb0 hb1 hb2 hb3 hb4
  go_upto_region 12 with (first | (go_at_call 26; (with_reducible refine (s0.out _ _ (by assumption)).mono ?_); rintro e v0 ⟨rfl, q1⟩) | (go_at_call 26; (with_reducible refine (s1.out _ _ (by assumption)).mono ?_); rintro e v1 ⟨rfl, q2⟩) | (go_at_call 26; (with_reducible refine (s2.out _ _ (by assumption)).mono ?_); rintro e v2 ⟨rfl, q3⟩))
  clear s0 s1 s2 q0 q1 q2
  go_upto_region 13 with (first | (go_at_call 27; (with_reducible refine (s3.out _ _ (by assumption)).mono ?_); rintro e v3 ⟨rfl, q4⟩) | (go_at_call 27; (with_reducible refine (s4.out _ _ (by assumption)).mono ?_); rintro e v4 ⟨rfl, q5⟩) | (go_at_call 28; (with_reducible refine (s5.out _ _ (by assumption)).mono ?_); rintro e v5 ⟨rfl, q6⟩))
  clear s3 s4 s5 q3 q4 q5
  go_upto_region 15 with (first | (go_at_call 27; (with_reducible refine (s6.out _ _ (by assumption)).mono ?_); rintro e v6 ⟨rfl, q7⟩) | (go_at_call 28; (with_reducible refine (s7.out _ _ (by assumption)).mono ?_); rintro e v7 ⟨rfl, q8⟩) | (go_at_call 28; (with_reducible refine (s8.out _ _ (by assumption)).mono ?_); rintro e v8 ⟨rfl, q9⟩) | (go_at_call 28; (with_reducible refine (s9.out _ _ (by assumption)).mono ?_); rintro e v9 ⟨rfl, q10⟩))
  have hb5 := Lib.hid q10.out.bl
  clear s6 s7 s8 s9 q6 q7 q8 q9 q10
  go_upto_region 16 with (go_at_call 22; refine (b0.out _ (by assumption)).mono ?_; rintro e x0 ⟨rfl, hx0⟩)
  go_upto_region 17 with (go_at_call 22; refine (b1.out _ (by assumption)).mono ?_; rintro e x1 ⟨rfl, hx1⟩)
  go_upto_region 18 with (go_at_call 22; refine (b2.out _ (by assumption)).mono ?_; rintro e x2 ⟨rfl, hx2⟩)
  clear b0 b1 b2 hb5 hx0 hx1
  go_wp2_with (first | (go_at_call 20; refine (u0.out _ (by assumption)).mono ?_; rintro e x3 ⟨rfl, hx3⟩; clear hx2 u0) | (go_at_call 26; (with_reducible refine (Set_nil _ _ _ _).mono ?_); rintro e w' ⟨rfl, hw'⟩; subst w') | (go_at_call 27; (with_reducible refine (Take_nil _ _ _).mono ?_); rintro e w' ⟨rfl, hw'⟩; subst w') | (go_at_call 28; (with_reducible refine (Give_nil _ _ _).mono ?_); rintro e w' ⟨rfl, hw'⟩; subst w') | (go_at_call 29; (with_reducible refine (Cells_nil _).mono ?_); rintro e w' ⟨rfl, hw'⟩; subst w') | (go_at_call 14; (with_reducible refine (Copy_nil _).mono ?_); rintro e w' ⟨rfl, hw'⟩; subst w') | (go_at_call 18; (with_reducible refine (Same_nn _).mono ?_); rintro e w' ⟨rfl, hw'⟩; subst w') | (go_at_call 18; (with_reducible refine (Same_mn _ _).mono ?_); rintro e w' ⟨rfl, hw'⟩; subst w') | (go_at_call 18; (with_reducible refine (Same_nm _ _).mono ?_); rintro e w' ⟨rfl, hw'⟩; subst w') | (go_at_call 11; refine (hA.out _ (by assumption)).mono ?_; rintro e x4 ⟨rfl, hx4⟩))
  go_ret
  exact ⟨rfl, hx4⟩
end Go.Proofs.Ytimbhdekbceajaa.Me
