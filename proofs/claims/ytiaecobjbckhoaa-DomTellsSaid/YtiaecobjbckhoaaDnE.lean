/- Counting those that stand right below (plain; no memory). Conditions: none. -/
import Derived.Test.YtiaecobjbckhoaaDoD
set_option linter.unusedVariables false
set_option linter.unusedSimpArgs false
namespace Go.Proofs.Ytiaecobjbckhoaa.Db
open Go

def cnt (p : Nat → Bool) : Nat → Nat
  | 0 => 0
  | k + 1 => cnt p k + (if p k = true then 1 else 0)
def sm (f : Nat → Nat) : Nat → Nat
  | 0 => 0
  | k + 1 => sm f k + f k
theorem cnt_le (p : Nat → Bool) : ∀ k, cnt p k ≤ k
  | 0 => Nat.le_refl _
  | k + 1 => by
    have := cnt_le p k
    unfold cnt
    split <;> omega
theorem sm_le {f : Nat → Nat} {c : Nat} (h : ∀ b, f b ≤ c) : ∀ k, sm f k ≤ k * c
  | 0 => Nat.zero_le _
  | k + 1 => by
    have := sm_le h k
    have := h k
    unfold sm
    rw [Nat.succ_mul]
    omega
theorem sm_cong {f g : Nat → Nat} : ∀ k, (∀ b, b < k → f b = g b) → sm f k = sm g k
  | 0, _ => rfl
  | k + 1, h => by
    unfold sm
    rw [sm_cong k fun b hb => h b (by omega), h k (by omega)]
theorem sm_add (f g : Nat → Nat) : ∀ k, sm (fun b => f b + g b) k = sm f k + sm g k
  | 0 => rfl
  | k + 1 => by
    unfold sm
    rw [sm_add f g k]
    omega
theorem sm_zero {f : Nat → Nat} : ∀ k, (∀ b, b < k → f b = 0) → sm f k = 0
  | 0, _ => rfl
  | k + 1, h => by
    unfold sm
    rw [sm_zero k fun b hb => h b (by omega), h k (by omega)]
theorem sm_one {f : Nat → Nat} {q : Nat} : ∀ k, q < k → (∀ b, b < k → b ≠ q → f b = 0) → sm f k = f q
  | 0, h, _ => by omega
  | k + 1, h, hz => by
    unfold sm
    by_cases e : q = k
    · subst e
      rw [sm_zero q fun b hb => hz b (by omega) (by omega)]
      omega
    · rw [sm_one k (by omega) fun b hb => hz b (by omega), hz k (by omega) (fun e' => e e'.symm)]
      omega
section
variable {n : Nat} {next : Nat → Int} {ht : Nat → Nat}
theorem Hn.kid_mem (H : Hn n next ht) {b : Nat} {x : Int} (h : x ∈ (growP n next).kids (b : Int)) : ∃ y : Nat, x = y ∧ y < n ∧ next y = (b : Int) ∧ (growP n next).reach (b : Int) = true ∧ (growP n next).reach x = true ∧ (growP n next).nextP x = b := by
  rw [H.kids] at h
  split at h
  · rename_i hr
    obtain ⟨y, rfl, h2, h3⟩ := kidsP_in next b n x h
    have hy : (growP n next).reach (y : Int) = true := (H.reach y).2 (.step h2 h3 ((H.reach b).1 hr))
    refine ⟨y, rfl, h2, h3, hr, hy, ?_⟩
    unfold Tp.nextP
    rw [if_pos hy, Int.toNat_natCast]
    exact h3
  · cases h
theorem Hn.kid_rise (H : Hn n next ht) (b : Nat) : ((growP n next).kids (b : Int)).Pairwise (· < ·) := by
  rw [H.kids]
  split
  · exact kidsP_rise next b n
  · exact List.Pairwise.nil
theorem Hn.count (H : Hn n next ht) : sm (fun b => ((growP n next).kids (b : Int)).length) n + 1 = cnt (fun b => (growP n next).reach (b : Int)) n := by
  have key : ∀ j, j ≤ n → sm (fun b => if (growP n next).reach (b : Int) = true then (kidsP next j b).length else 0) n = cnt (fun y => (growP n next).reach (y : Int) && decide (y ≠ 0)) j := by
    intro j
    induction j with
    | zero => intro _; exact sm_zero n fun b _ => by simp [kidsP]
    | succ j ih =>
      intro hj
      unfold cnt
      rw [← ih (by omega), sm_cong (g := fun b => (if (growP n next).reach (b : Int) = true then (kidsP next j b).length else 0) + (if (growP n next).reach (b : Int) = true ∧ next j = (b : Int) then 1 else 0)) n fun b _ => by
        have hkp : kidsP next (j + 1) b = kidsP next j b ++ if next j = (b : Int) then [(j : Int)] else [] := rfl
        rw [hkp, List.length_append]
        by_cases h1 : (growP n next).reach (b : Int) = true
        · by_cases h2 : next j = (b : Int)
          · simp [h1, h2]
          · simp [h1, h2]
        · simp [h1], sm_add]
      congr 1
      rcases H.up j (by omega) with h | ⟨p, h1, h2, _⟩
      · rw [sm_zero n fun b _ => by rw [if_neg]; rintro ⟨_, h'⟩; omega]
        rw [if_neg]
        simp only [Bool.and_eq_true, decide_eq_true_eq, H.reach]
        rintro ⟨hu, h0⟩
        cases hu with
        | here => exact h0 rfl
        | step _ he _ => omega
      · rw [sm_one (q := p) n h2 fun b _ hne => by rw [if_neg]; rintro ⟨_, h'⟩; omega]
        have h0 : j ≠ 0 := fun e => by subst e; have := H.z; omega
        have hi : (growP n next).reach (p : Int) = true ↔ (growP n next).reach (j : Int) = true := by
          rw [H.reach, H.reach]
          constructor
          · intro h; exact .step (by omega) h1 h
          · intro h
            cases h with
            | here => exact absurd rfl h0
            | @step _ q _ he hu =>
              have : q = p := by omega
              subst this; exact hu
        by_cases hr : (growP n next).reach (p : Int) = true
        · rw [if_pos ⟨hr, h1⟩, if_pos (by simp [hi.1 hr, h0])]
        · rw [if_neg (fun h => hr h.1), if_neg]
          simp only [Bool.and_eq_true]
          exact fun h => hr (hi.2 h.1)
  have k2 : ∀ k, 0 < k → cnt (fun y => (growP n next).reach (y : Int) && decide (y ≠ 0)) k + 1 = cnt (fun y => (growP n next).reach (y : Int)) k := by
    intro k
    induction k with
    | zero => intro h; omega
    | succ k ih =>
      intro _
      unfold cnt
      by_cases e : k = 0
      · subst e
        have : (growP n next).reach ((0 : Nat) : Int) = true := (H.reach 0).2 .here
        have h' : (growP n next).reach 0 = true := this
        simp [cnt, h']
      · have := ih (by omega)
        have h2 : ((growP n next).reach (k : Int) && decide (k ≠ 0)) = (growP n next).reach (k : Int) := by simp [e]
        rw [h2]
        omega
  rw [← k2 n H.pos, ← key n (Nat.le_refl _)]
  congr 1
  refine sm_cong n fun b _ => ?_
  rw [H.kids]
  split <;> rfl
end
end Go.Proofs.Ytiaecobjbckhoaa.Db
