/- Walks of mem.Binary, and of the document's Unary and Binary. Conditions: the numbers fit their kinds. -/
import Derived.Test.YtnoilcchegmpfaaMeC0
set_option linter.unusedSimpArgs false
namespace Go.Proofs.Ytnoilcchegmpfaa.Me
open Go Go.RowKit

theorem binP_zero {k a : Int} (h : k = 10 ∨ k = 11) : binP k a 0 = none := by unfold binP; rw [if_pos ⟨h, rfl⟩]
theorem binP_num {k a b v : Int} (h : ¬((k = 10 ∨ k = 11) ∧ b = 0)) (hv : numP k a b = some v) : binP k a b = some v := by unfold binP; rw [if_neg h, hv]
theorem binP_cmp {k a b : Int} (h : ¬((k = 10 ∨ k = 11) ∧ b = 0)) (hv : numP k a b = none) : binP k a b = (cmpP k a b).map tr := by unfold binP; rw [if_neg h, hv]

set_option maxHeartbeats 4000000 in
theorem binary_go (k a b : Int) (hk : U8 k) (w : World) (h : ¬((k = 10 ∨ k = 11) ∧ b = 0)) (hg : (k ≠ 10 ∧ k ≠ 11) ∨ b ≠ 0) : Calls Try.prog 18 #[.int .u8 k, .int .i64 a, .int .i64 b] w fun e w' => e = ret (binP k a b) ∧ Below w.heap.size w w' := by
  have hN := Lib.hid (fun V : World => number_c k a b hk (fun hk' hb => h ⟨hk', hb⟩) V)
  have hC := Lib.hid (fun V : World => compared_c k a b hk V)
  cases hn : numP k a b with
  | some v =>
    have hR := Lib.hid (binP_num h hn)
    rw [hn] at hN
    clear h hn
    simp only [ret, Option.getD_some, Option.isSome_some] at hN
    rcases hg with ⟨k10, k11⟩ | hb
    · go_enter Try.func18, Try.ntmps18
      go_wp2_with (first | (go_at_call 35; refine (hN.out _).mono ?_; rintro e w1 ⟨rfl, hb1⟩) | (go_at_call 36; refine (hC.out _).mono ?_; rintro e w2 ⟨rfl, hb2⟩) | go_in)
      go_ret2
      exact ⟨by rw [hR.out]; rfl, hb1⟩
    · have hb' : (b == 0) = false := by simpa using hb
      by_cases k10 : k = 10
      · subst k10
        go_enter Try.func18, Try.ntmps18
        go_wp2_with (first | (go_at_call 35; refine (hN.out _).mono ?_; rintro e w1 ⟨rfl, hb1⟩) | (go_at_call 36; refine (hC.out _).mono ?_; rintro e w2 ⟨rfl, hb2⟩) | go_in)
        go_ret2
        exact ⟨by rw [hR.out]; rfl, hb1⟩
      · by_cases k11 : k = 11
        · subst k11
          go_enter Try.func18, Try.ntmps18
          go_wp2_with (first | (go_at_call 35; refine (hN.out _).mono ?_; rintro e w1 ⟨rfl, hb1⟩) | (go_at_call 36; refine (hC.out _).mono ?_; rintro e w2 ⟨rfl, hb2⟩) | go_in)
          go_ret2
          exact ⟨by rw [hR.out]; rfl, hb1⟩
        · go_enter Try.func18, Try.ntmps18
          go_wp2_with (first | (go_at_call 35; refine (hN.out _).mono ?_; rintro e w1 ⟨rfl, hb1⟩) | (go_at_call 36; refine (hC.out _).mono ?_; rintro e w2 ⟨rfl, hb2⟩) | go_in)
          go_ret2
          exact ⟨by rw [hR.out]; rfl, hb1⟩
  | none =>
    have hk1 : k ≠ 10 := fun e => by subst e; simp [numP] at hn
    have hk2 : k ≠ 11 := fun e => by subst e; simp [numP] at hn
    have hR := Lib.hid (binP_cmp h hn)
    rw [hn] at hN
    clear h hn hg
    simp only [ret, Option.getD_none, Option.isSome_none] at hN
    generalize (cmpP k a b).map tr = r at hC hR
    simp only [ret] at hC
    go_enter Try.func18, Try.ntmps18
    go_wp2_with (first | (go_at_call 35; refine (hN.out _).mono ?_; rintro e w1 ⟨rfl, hb1⟩) | (go_at_call 36; refine (hC.out _).mono ?_; rintro e w2 ⟨rfl, hb2⟩) | go_in)
    go_ret2
    exact ⟨by rw [hR.out]; rfl, hb1.trans (hb2.mono hb1.size)⟩
set_option maxHeartbeats 1000000 in
theorem binary_c (k a b : Int) (hk : U8 k) (w : World) : Calls Try.prog 18 #[.int .u8 k, .int .i64 a, .int .i64 b] w fun e w' => e = ret (binP k a b) ∧ Below w.heap.size w w' := by
  by_cases h : (k = 10 ∨ k = 11) ∧ b = 0
  · obtain ⟨h1, rfl⟩ := h
    rw [binP_zero h1]
    rcases h1 with rfl | rfl
    · go_enter Try.func18, Try.ntmps18
      go_wp2_with fail
      go_ret2
      exact ⟨rfl, Below.refl _ _⟩
    · go_enter Try.func18, Try.ntmps18
      go_wp2_with fail
      go_ret2
      exact ⟨rfl, Below.refl _ _⟩
  · refine binary_go k a b hk w h ?_
    by_cases hb : b = 0
    · exact .inl ⟨fun e => h ⟨.inl e, hb⟩, fun e => h ⟨.inr e, hb⟩⟩
    · exact .inr hb
end Go.Proofs.Ytnoilcchegmpfaa.Me
