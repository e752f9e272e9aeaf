/- Walks of mem.Binary, and of the document's Unary and Binary. Conditions: the numbers fit their kinds. -/
import Derived.Test.YtimbhdekbceajaaMeC
set_option linter.unusedSimpArgs false
namespace Go.Proofs.Ytimbhdekbceajaa.Me
open Go Go.RowKit

theorem binP_zero {k a : Int} (h : k = 10 ∨ k = 11) : binP k a 0 = none := by unfold binP; rw [if_pos ⟨h, rfl⟩]
theorem binP_num {k a b v : Int} (h : ¬((k = 10 ∨ k = 11) ∧ b = 0)) (hv : numP k a b = some v) : binP k a b = some v := by unfold binP; rw [if_neg h, hv]
theorem binP_cmp {k a b : Int} (h : ¬((k = 10 ∨ k = 11) ∧ b = 0)) (hv : numP k a b = none) : binP k a b = (cmpP k a b).map tr := by unfold binP; rw [if_neg h, hv]

set_option maxHeartbeats 4000000 in
theorem binary_go (k a b : Int) (hk : U8 k) (w : World) (h : ¬((k = 10 ∨ k = 11) ∧ b = 0)) (hg : (k ≠ 10 ∧ k ≠ 11) ∨ b ≠ 0) : Calls Try.prog 22 #[.int .u8 k, .int .i64 a, .int .i64 b] w fun e w' => e = ret (binP k a b) ∧ Below w.heap.size w w' := by
  have hN := Lib.hid (fun V : World => number_c k a b hk (fun hk' hb => h ⟨hk', hb⟩) V)
  have hC := Lib.hid (fun V : World => compared_c k a b hk V)
  cases hn : numP k a b with
  | some v =>
    have hR := Lib.hid (binP_num h hn)
    rw [hn] at hN
    clear h hn
    simp only [ret, Option.getD_some, Option.isSome_some] at hN
    rcases hg with ⟨k10, k11⟩ | hb
    · go_enter Try.func22, Try.ntmps22
      go_wp2_with (first | (go_at_call 50; refine (hN.out _).mono ?_; rintro e w1 ⟨rfl, hb1⟩) | (go_at_call 51; refine (hC.out _).mono ?_; rintro e w2 ⟨rfl, hb2⟩) | go_in)
      go_ret2
      exact ⟨by rw [hR.out]; rfl, hb1⟩
    · have hb' : (b == 0) = false := by simpa using hb
      by_cases k10 : k = 10
      · subst k10
        go_enter Try.func22, Try.ntmps22
        go_wp2_with (first | (go_at_call 50; refine (hN.out _).mono ?_; rintro e w1 ⟨rfl, hb1⟩) | (go_at_call 51; refine (hC.out _).mono ?_; rintro e w2 ⟨rfl, hb2⟩) | go_in)
        go_ret2
        exact ⟨by rw [hR.out]; rfl, hb1⟩
      · by_cases k11 : k = 11
        · subst k11
          go_enter Try.func22, Try.ntmps22
          go_wp2_with (first | (go_at_call 50; refine (hN.out _).mono ?_; rintro e w1 ⟨rfl, hb1⟩) | (go_at_call 51; refine (hC.out _).mono ?_; rintro e w2 ⟨rfl, hb2⟩) | go_in)
          go_ret2
          exact ⟨by rw [hR.out]; rfl, hb1⟩
        · go_enter Try.func22, Try.ntmps22
          go_wp2_with (first | (go_at_call 50; refine (hN.out _).mono ?_; rintro e w1 ⟨rfl, hb1⟩) | (go_at_call 51; refine (hC.out _).mono ?_; rintro e w2 ⟨rfl, hb2⟩) | go_in)
          go_ret2
          exact ⟨by rw [hR.out]; rfl, hb1⟩
  | none =>
    have hk1 : k ≠ 10 := fun e => by subst e; simp [numP] at hn
    have hk2 : k ≠ 11 := fun e => by subst e; simp [numP] at hn
    have hR := Lib.hid (binP_cmp h hn)
    rw [hn] at hN
    clear h hn hg
    simp only [ret, Option.getD_none, Option.isSome_none] at hN
    generalize (cmpP k a b).map tr = r at hC hR
    simp only [ret] at hC
    go_enter Try.func22, Try.ntmps22
    go_wp2_with (first | (go_at_call 50; refine (hN.out _).mono ?_; rintro e w1 ⟨rfl, hb1⟩) | (go_at_call 51; refine (hC.out _).mono ?_; rintro e w2 ⟨rfl, hb2⟩) | go_in)
    go_ret2
    exact ⟨by rw [hR.out]; rfl, hb1.trans (hb2.mono hb1.size)⟩
set_option maxHeartbeats 1000000 in
theorem binary_c (k a b : Int) (hk : U8 k) (w : World) : Calls Try.prog 22 #[.int .u8 k, .int .i64 a, .int .i64 b] w fun e w' => e = ret (binP k a b) ∧ Below w.heap.size w w' := by
  by_cases h : (k = 10 ∨ k = 11) ∧ b = 0
  · obtain ⟨h1, rfl⟩ := h
    rw [binP_zero h1]
    rcases h1 with rfl | rfl
    · go_enter Try.func22, Try.ntmps22
      go_wp2_with fail
      go_ret2
      exact ⟨rfl, Below.refl _ _⟩
    · go_enter Try.func22, Try.ntmps22
      go_wp2_with fail
      go_ret2
      exact ⟨rfl, Below.refl _ _⟩
  · refine binary_go k a b hk w h ?_
    by_cases hb : b = 0
    · exact .inl ⟨fun e => h ⟨.inl e, hb⟩, fun e => h ⟨.inr e, hb⟩⟩
    · exact .inr hb
theorem rtruth_c (b : Bool) (w : World) : Calls Try.prog 49 #[.bool b] w fun e w' => e = .returned (.tuple #[.int .i64 (tr b), .bool true]) ∧ w' = w := by
  cases b
  all_goals
    go_enter Try.func49, Try.ntmps49
    go_wp2_with fail
    go_ret2
    exact ⟨rfl, rfl⟩
set_option maxHeartbeats 1000000 in
theorem runary_c (k a : Int) (w : World) : Calls Try.prog 21 #[.int .u8 k, .int .i64 a] w fun e w' => e = ret (unP k a) ∧ w' = w := by
  by_cases k0 : k = 5
  · subst k0
    go_enter Try.func21, Try.ntmps21
    go_wp2_with (first | (go_at_call 49; refine (rtruth_c _ _).mono ?_; rintro e w' ⟨rfl, rfl⟩) | go_in)
    go_ret2
    exact ⟨by simp [ret, unP], rfl⟩
  by_cases k1 : k = 6
  · subst k1
    go_enter Try.func21, Try.ntmps21
    go_wp2_with (first | (go_at_call 49; refine (rtruth_c _ _).mono ?_; rintro e w' ⟨rfl, rfl⟩) | go_in)
    go_ret2
    exact ⟨by simp [ret, unP], rfl⟩
  go_enter Try.func21, Try.ntmps21
  go_wp2_with (first | (go_at_call 49; refine (rtruth_c _ _).mono ?_; rintro e w' ⟨rfl, rfl⟩) | go_in)
  go_ret2
  exact ⟨by simp [ret, unP, k0, k1], rfl⟩
set_option maxHeartbeats 1000000 in
theorem rbin_7 (a b : Int) (w : World) : Calls Try.prog 23 #[.int .u8 7, .int .i64 a, .int .i64 b] w fun e w' => e = ret (binP 7 a b) ∧ w' = w := by
  go_enter Try.func23, Try.ntmps23
  go_wp2_with (first | (go_at_call 49; refine (rtruth_c _ _).mono ?_; rintro e w' ⟨rfl, rfl⟩) | go_in)
  go_ret2
  exact ⟨by simp [ret, binP, numP], rfl⟩
set_option maxHeartbeats 1000000 in
theorem rbin_8 (a b : Int) (w : World) : Calls Try.prog 23 #[.int .u8 8, .int .i64 a, .int .i64 b] w fun e w' => e = ret (binP 8 a b) ∧ w' = w := by
  go_enter Try.func23, Try.ntmps23
  go_wp2_with (first | (go_at_call 49; refine (rtruth_c _ _).mono ?_; rintro e w' ⟨rfl, rfl⟩) | go_in)
  go_ret2
  exact ⟨by simp [ret, binP, numP], rfl⟩
set_option maxHeartbeats 1000000 in
theorem rbin_9 (a b : Int) (w : World) : Calls Try.prog 23 #[.int .u8 9, .int .i64 a, .int .i64 b] w fun e w' => e = ret (binP 9 a b) ∧ w' = w := by
  go_enter Try.func23, Try.ntmps23
  go_wp2_with (first | (go_at_call 49; refine (rtruth_c _ _).mono ?_; rintro e w' ⟨rfl, rfl⟩) | go_in)
  go_ret2
  exact ⟨by simp [ret, binP, numP], rfl⟩
set_option maxHeartbeats 1000000 in
theorem rbin_10 (a b : Int) (w : World) : Calls Try.prog 23 #[.int .u8 10, .int .i64 a, .int .i64 b] w fun e w' => e = ret (binP 10 a b) ∧ w' = w := by
  by_cases hb : b = 0
  · subst hb
    go_enter Try.func23, Try.ntmps23
    go_wp2_with (first | (go_at_call 49; refine (rtruth_c _ _).mono ?_; rintro e w' ⟨rfl, rfl⟩) | go_in)
    go_ret2
    exact ⟨by simp [ret, binP], rfl⟩
  by_cases hc : b = -1
  · subst hc
    go_enter Try.func23, Try.ntmps23
    go_wp2_with (first | (go_at_call 49; refine (rtruth_c _ _).mono ?_; rintro e w' ⟨rfl, rfl⟩) | go_in)
    go_ret2
    exact ⟨by simp [ret, binP, numP], rfl⟩
  have hb' : (b == 0) = false := by simpa using hb
  have hc' : (b == -1) = false := by simpa using hc
  go_enter Try.func23, Try.ntmps23
  go_wp2_with (first | (go_at_call 49; refine (rtruth_c _ _).mono ?_; rintro e w' ⟨rfl, rfl⟩) | go_in)
  go_ret2
  exact ⟨by simp [ret, binP, numP, hb], rfl⟩
set_option maxHeartbeats 1000000 in
theorem rbin_11 (a b : Int) (w : World) : Calls Try.prog 23 #[.int .u8 11, .int .i64 a, .int .i64 b] w fun e w' => e = ret (binP 11 a b) ∧ w' = w := by
  by_cases hb : b = 0
  · subst hb
    go_enter Try.func23, Try.ntmps23
    go_wp2_with (first | (go_at_call 49; refine (rtruth_c _ _).mono ?_; rintro e w' ⟨rfl, rfl⟩) | go_in)
    go_ret2
    exact ⟨by simp [ret, binP], rfl⟩
  by_cases hc : b = -1
  · subst hc
    go_enter Try.func23, Try.ntmps23
    go_wp2_with (first | (go_at_call 49; refine (rtruth_c _ _).mono ?_; rintro e w' ⟨rfl, rfl⟩) | go_in)
    go_ret2
    exact ⟨by simp [ret, binP, numP], rfl⟩
  have hb' : (b == 0) = false := by simpa using hb
  have hc' : (b == -1) = false := by simpa using hc
  go_enter Try.func23, Try.ntmps23
  go_wp2_with (first | (go_at_call 49; refine (rtruth_c _ _).mono ?_; rintro e w' ⟨rfl, rfl⟩) | go_in)
  go_ret2
  exact ⟨by simp [ret, binP, numP, hb], rfl⟩
set_option maxHeartbeats 1000000 in
theorem rbin_12 (a b : Int) (w : World) : Calls Try.prog 23 #[.int .u8 12, .int .i64 a, .int .i64 b] w fun e w' => e = ret (binP 12 a b) ∧ w' = w := by
  go_enter Try.func23, Try.ntmps23
  go_wp2_with (first | (go_at_call 49; refine (rtruth_c _ _).mono ?_; rintro e w' ⟨rfl, rfl⟩) | go_in)
  go_ret2
  exact ⟨by simp [ret, binP, numP, cmpP], rfl⟩
set_option maxHeartbeats 1000000 in
theorem rbin_13 (a b : Int) (w : World) : Calls Try.prog 23 #[.int .u8 13, .int .i64 a, .int .i64 b] w fun e w' => e = ret (binP 13 a b) ∧ w' = w := by
  go_enter Try.func23, Try.ntmps23
  go_wp2_with (first | (go_at_call 49; refine (rtruth_c _ _).mono ?_; rintro e w' ⟨rfl, rfl⟩) | go_in)
  go_ret2
  exact ⟨by simp [ret, binP, numP, cmpP], rfl⟩
set_option maxHeartbeats 1000000 in
theorem rbin_14 (a b : Int) (w : World) : Calls Try.prog 23 #[.int .u8 14, .int .i64 a, .int .i64 b] w fun e w' => e = ret (binP 14 a b) ∧ w' = w := by
  go_enter Try.func23, Try.ntmps23
  go_wp2_with (first | (go_at_call 49; refine (rtruth_c _ _).mono ?_; rintro e w' ⟨rfl, rfl⟩) | go_in)
  go_ret2
  exact ⟨by simp [ret, binP, numP, cmpP], rfl⟩
set_option maxHeartbeats 1000000 in
theorem rbin_15 (a b : Int) (w : World) : Calls Try.prog 23 #[.int .u8 15, .int .i64 a, .int .i64 b] w fun e w' => e = ret (binP 15 a b) ∧ w' = w := by
  go_enter Try.func23, Try.ntmps23
  go_wp2_with (first | (go_at_call 49; refine (rtruth_c _ _).mono ?_; rintro e w' ⟨rfl, rfl⟩) | go_in)
  go_ret2
  exact ⟨by simp [ret, binP, numP, cmpP], rfl⟩
set_option maxHeartbeats 1000000 in
theorem rbin_16 (a b : Int) (w : World) : Calls Try.prog 23 #[.int .u8 16, .int .i64 a, .int .i64 b] w fun e w' => e = ret (binP 16 a b) ∧ w' = w := by
  by_cases h0 : a = 0
  · subst h0
    go_enter Try.func23, Try.ntmps23
    go_wp2_with (first | (go_at_call 49; refine (rtruth_c _ _).mono ?_; rintro e w' ⟨rfl, rfl⟩) | go_in)
    go_ret2
    exact ⟨by simp [ret, binP, numP, cmpP], rfl⟩
  have h0' : (a == 0) = false := by simpa using h0
  have h1' : (a != 0) = true := by simpa using h0
  go_enter Try.func23, Try.ntmps23
  go_wp2_with (first | (go_at_call 49; refine (rtruth_c _ _).mono ?_; rintro e w' ⟨rfl, rfl⟩) | go_in)
  go_ret2
  exact ⟨by simp [ret, binP, numP, cmpP, h1'], rfl⟩
set_option maxHeartbeats 1000000 in
theorem rbin_17 (a b : Int) (w : World) : Calls Try.prog 23 #[.int .u8 17, .int .i64 a, .int .i64 b] w fun e w' => e = ret (binP 17 a b) ∧ w' = w := by
  by_cases h0 : a = 0
  · subst h0
    go_enter Try.func23, Try.ntmps23
    go_wp2_with (first | (go_at_call 49; refine (rtruth_c _ _).mono ?_; rintro e w' ⟨rfl, rfl⟩) | go_in)
    go_ret2
    exact ⟨by simp [ret, binP, numP, cmpP], rfl⟩
  have h0' : (a == 0) = false := by simpa using h0
  have h1' : (a != 0) = true := by simpa using h0
  go_enter Try.func23, Try.ntmps23
  go_wp2_with (first | (go_at_call 49; refine (rtruth_c _ _).mono ?_; rintro e w' ⟨rfl, rfl⟩) | go_in)
  go_ret2
  exact ⟨by simp [ret, binP, numP, cmpP, h1'], rfl⟩
set_option maxHeartbeats 1000000 in
theorem rbinary_c (k a b : Int) (w : World) : Calls Try.prog 23 #[.int .u8 k, .int .i64 a, .int .i64 b] w fun e w' => e = ret (binP k a b) ∧ w' = w := by
  by_cases k7 : k = 7
  · subst k7; exact rbin_7 a b w
  by_cases k8 : k = 8
  · subst k8; exact rbin_8 a b w
  by_cases k9 : k = 9
  · subst k9; exact rbin_9 a b w
  by_cases k10 : k = 10
  · subst k10; exact rbin_10 a b w
  by_cases k11 : k = 11
  · subst k11; exact rbin_11 a b w
  by_cases k12 : k = 12
  · subst k12; exact rbin_12 a b w
  by_cases k13 : k = 13
  · subst k13; exact rbin_13 a b w
  by_cases k14 : k = 14
  · subst k14; exact rbin_14 a b w
  by_cases k15 : k = 15
  · subst k15; exact rbin_15 a b w
  by_cases k16 : k = 16
  · subst k16; exact rbin_16 a b w
  by_cases k17 : k = 17
  · subst k17; exact rbin_17 a b w
  go_enter Try.func23, Try.ntmps23
  go_wp2_with (first | (go_at_call 49; refine (rtruth_c _ _).mono ?_; rintro e w' ⟨rfl, rfl⟩) | go_in)
  go_ret2
  exact ⟨by simp [ret, binP, numP, cmpP, k7, k8, k9, k10, k11, k12, k13, k14, k15, k16, k17], rfl⟩
end Go.Proofs.Ytimbhdekbceajaa.Me
