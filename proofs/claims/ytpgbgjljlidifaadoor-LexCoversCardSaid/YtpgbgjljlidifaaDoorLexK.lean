/- What a name is, byte by byte; a word is one token; a name with one byte more. Conditions: none. -/
import Derived.Test.YtpgbgjljlidifaaDoorLexH
namespace Go.Proofs.YtpgbgjljlidifaaDoor.Lx
open Go Go.RowKit

/-- a letter or _ first, then letters, digits and _ alone, at most 32 bytes -/
def wordy (l : List UInt8) : Bool := (l.head?.elim false bgn) && l.all wth && decide (l.length ≤ 32)
theorem run_all (p : UInt8 → Bool) : ∀ l, (run p l = l.length) ↔ l.all p = true
  | [] => by simp [run]
  | c :: r => by
    have ih := run_all p r
    have := run_le p r
    unfold run
    by_cases h : p c = true
    · rw [if_pos h, List.all_cons, h, Bool.true_and, ← ih]; simp
    · rw [if_neg h, List.all_cons]; simp [h]
theorem cutL_wordy (l : List UInt8) : (cutL l = (1, l.length)) ↔ wordy l = true := by
  cases l with
  | nil => simp [cutL, wordy]
  | cons c r =>
    have e := cutL_cons c r
    have hr := run_all wth (c :: r)
    unfold wordy
    rw [List.head?_cons, Option.elim_some]
    by_cases hb : bgn c = true
    · rw [if_pos hb] at e
      rw [hb, Bool.true_and, Bool.and_eq_true, decide_eq_true_iff, ← hr]
      by_cases hl : 32 < run wth (c :: r)
      · rw [if_pos hl] at e; rw [e]
        constructor
        · intro h; exact absurd (Prod.mk.inj h).1 (by omega)
        · rintro ⟨h1, h2⟩; omega
      · rw [if_neg hl] at e; rw [e]
        constructor
        · intro h; have := (Prod.mk.inj h).2; exact ⟨this, by omega⟩
        · rintro ⟨h1, h2⟩; rw [h1]
    · have hb' : bgn c = false := by simpa using hb
      rw [if_neg hb] at e
      rw [hb', Bool.false_and, Bool.false_and]
      constructor
      · intro h
        rw [h] at e
        split at e
        · split at e <;> exact absurd (Prod.mk.inj e).1 (by omega)
        · split at e <;> exact absurd (Prod.mk.inj e).1 (by omega)
      · intro h; exact absurd h (by simp)
theorem nme_iff (l : List UInt8) : nme l = true ↔ wordy l = true ∧ rsv l = false := by
  unfold nme
  rw [← cutL_wordy]
  cases l with
  | nil => simp [cutL]
  | cons c r =>
    generalize cutL (c :: r) = x
    obtain ⟨a, b⟩ := x
    simp
    constructor
    · rintro ⟨⟨h1, h2⟩, h3⟩; exact ⟨⟨h2, h3⟩, h1⟩
    · rintro ⟨⟨h1, h2⟩, h3⟩; exact ⟨⟨h3, h1⟩, h2⟩
theorem rsv_wordy (l : List UInt8) (h : rsv l = true) : wordy l = true := by
  have h' : l ∈ words := by simpa [rsv] using h
  have : ∀ x ∈ words, wordy x = true := by decide
  exact this l h'
theorem res_word (l : List UInt8) (h : wordy l = true) : res l = ([⟨1, l, 0⟩], 0, 0) := by
  have hc := (cutL_wordy l).2 h
  have hl : l.length ≤ 32 := by
    unfold wordy at h; simp only [Bool.and_eq_true, decide_eq_true_iff] at h; exact h.2
  have hne : l ≠ [] := by intro e; rw [e] at h; simp [wordy] at h
  have hs : skp false l = 0 := by
    cases l with
    | nil => rfl
    | cons c r =>
      have hb : bgn c = true := by
        unfold wordy at h; simp only [Bool.and_eq_true, List.head?_cons, Option.elim_some] at h; exact h.1.1
      have h1 : blk c = false := by
        unfold bgn at hb; unfold blk
        simp only [Bool.or_eq_true, decide_eq_true_iff] at hb
        simp; omega
      have h2 : ¬ c.toNat = 35 := by
        unfold bgn at hb
        simp only [Bool.or_eq_true, decide_eq_true_iff] at hb
        omega
      rw [skp_false_cons, if_neg (by simp [h1]), if_neg h2]
  unfold res
  rw [if_neg (by omega), lexs_tok l l 0 (by rw [hs]; rfl) hne (by rw [hc]; simp), hs, hc]
  simp only [Nat.zero_add, List.drop_length]
  rw [lexs_end [] _ rfl]
  simp
theorem wordy_snoc (l : List UInt8) (c : UInt8) (h : wordy l = true) : wordy (l ++ [c]) = (wth c && decide (l.length + 1 ≤ 32)) := by
  have hne : l ≠ [] := by intro e; rw [e] at h; simp [wordy] at h
  unfold wordy at h ⊢
  simp only [Bool.and_eq_true, decide_eq_true_iff] at h
  obtain ⟨⟨h1, h2⟩, h3⟩ := h
  have hh : (l ++ [c]).head? = l.head? := by cases l with | nil => exact absurd rfl hne | cons a r => rfl
  rw [hh, h1, List.all_append, h2, List.length_append]
  simp
/-- a name with one byte more -/
theorem longer_yes (l : List UInt8) (c : UInt8) (h : wordy l = true) (hc : wth c = true) (hl : l.length + 1 ≤ 32) (hr : rsv (l ++ [c]) = false) : nme (l ++ [c]) = true := by
  rw [nme_iff, wordy_snoc l c h, hc]; simp [hl, hr]
theorem longer_no (l : List UInt8) (c : UInt8) (h : wordy l = true) (hc : wth c = false) : nme (l ++ [c]) = false := by
  rw [Bool.eq_false_iff]
  intro e
  rw [nme_iff, wordy_snoc l c h, hc] at e
  simp at e
end Go.Proofs.YtpgbgjljlidifaaDoor.Lx
