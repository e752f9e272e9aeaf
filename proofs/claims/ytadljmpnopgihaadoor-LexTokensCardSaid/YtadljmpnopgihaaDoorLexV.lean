/- Numbers: the code's way (as texts) and the reference's (as numbers) agree; the walk of the reference's number. Conditions: digits alone. -/
import Derived.Test.YtadljmpnopgihaaDoorLexU
namespace Go.Proofs.YtadljmpnopgihaaDoor.Lx
open Go Go.RowKit

/-- one digit more -/
def dg (n : Nat) (c : UInt8) : Nat := n * 10 + (c.toNat - 48)
/-- the number that digits say, behind others -/
def vl (n : Nat) (l : List UInt8) : Nat := l.foldl dg n
theorem vl_nil (n : Nat) : vl n [] = n := List.foldl_nil
theorem vl_cons' (n : Nat) (c : UInt8) (r : List UInt8) : vl n (c :: r) = vl (dg n c) r := List.foldl_cons ..
theorem vl_cons (n : Nat) (c : UInt8) (r : List UInt8) : vl n (c :: r) = vl (n * 10 + (c.toNat - 48)) r := by rw [vl_cons']; unfold dg; exact Eq.refl _
theorem vl_snoc (l : List UInt8) (n : Nat) (c : UInt8) : vl n (l ++ [c]) = vl n l * 10 + (c.toNat - 48) := by
  unfold vl
  rw [List.foldl_append, List.foldl_cons, List.foldl_nil]
  unfold dg
  exact Eq.refl _
theorem dgt_bd (c : UInt8) (h : dgt c = true) : 48 ≤ c.toNat ∧ c.toNat ≤ 57 := by simpa [dgt] using h
theorem vl_lt : ∀ (x y : List UInt8) (n m : Nat), x.length = y.length → (∀ c ∈ x, dgt c = true) → n < m → vl n x < vl m y
  | [], [], n, m, _, _, h => by rw [vl_nil, vl_nil]; exact h
  | a :: x, b :: y, n, m, hl, hx, h => by
    have ha := dgt_bd a (hx a (by simp))
    rw [vl_cons, vl_cons]
    exact vl_lt x y _ _ (by simpa using hl) (fun c hc => hx c (by simp [hc])) (by omega)
theorem vl_bd : ∀ (l : List UInt8) (n : Nat), (∀ c ∈ l, dgt c = true) → vl n l < (n + 1) * 10 ^ l.length
  | [], n, _ => by rw [vl_nil]; simp
  | a :: r, n, h => by
    have ha := dgt_bd a (h a (by simp))
    have ih := vl_bd r (n * 10 + (a.toNat - 48)) (fun c hc => h c (by simp [hc]))
    have h1 : (n * 10 + (a.toNat - 48) + 1) * 10 ^ r.length ≤ ((n + 1) * 10) * 10 ^ r.length := Nat.mul_le_mul_right _ (by omega)
    rw [List.length_cons, Nat.pow_succ, vl_cons]
    calc _ < _ := ih
      _ ≤ _ := h1
      _ = _ := by rw [Nat.mul_assoc, Nat.mul_comm 10]
theorem less_eq : ∀ (x y : List UInt8) (n : Nat), x.length = y.length → (∀ c ∈ x, dgt c = true) → (∀ c ∈ y, dgt c = true) → (Op.bytesLess x y || x == y) = decide (vl n x ≤ vl n y)
  | [], [], n, _, _, _ => by rw [vl_nil]; simp [Op.bytesLess]
  | a :: x, b :: y, n, hl, hx, hy => by
    have ha := dgt_bd a (hx a (by simp))
    have hb := dgt_bd b (hy b (by simp))
    have hl' : x.length = y.length := by simpa using hl
    have hx' : ∀ c ∈ x, dgt c = true := fun c hc => hx c (by simp [hc])
    have hy' : ∀ c ∈ y, dgt c = true := fun c hc => hy c (by simp [hc])
    rw [vl_cons, vl_cons]
    by_cases h1 : a.toNat < b.toNat
    · have hv := vl_lt x y (n * 10 + (a.toNat - 48)) (n * 10 + (b.toNat - 48)) hl' hx' (by omega)
      have hab : a < b := UInt8.lt_iff_toNat_lt.2 h1
      rw [decide_eq_true (by omega)]
      simp [Op.bytesLess, hab]
    · by_cases h2 : a.toNat = b.toNat
      · have hab : a = b := UInt8.toNat_inj.1 h2
        subst hab
        rw [← less_eq x y _ hl' hx' hy']
        simp [Op.bytesLess]
      · have hv := vl_lt y x (n * 10 + (b.toNat - 48)) (n * 10 + (a.toNat - 48)) hl'.symm hy' (by omega)
        have hab : ¬ a < b := fun e => h1 (UInt8.lt_iff_toNat_lt.1 e)
        have hba : a ≠ b := fun e => h2 (by rw [e])
        rw [decide_eq_false (by omega)]
        simp [Op.bytesLess, hab, hba]
theorem vl_max : vl 0 maxNum = 9223372036854775808 := by decide
theorem max_digits : ∀ c ∈ maxNum, dgt c = true := by decide
/-- at most 9223372036854775808 -/
def small (n : Nat) : Bool := decide (n ≤ 9223372036854775808)
theorem numOk_long (l : List UInt8) (h : 19 < l.length) : numOk l = false := by
  unfold numOk
  by_cases e : l.head? = some 48
  · rw [if_pos e, Bool.eq_false_iff]; intro e2
    have : l = [48] := by simpa using e2
    rw [this] at h; simp at h
  · rw [if_neg e]; simp; omega
theorem numOk_zero (l : List UInt8) (h : 1 < l.length) (e : l.head? = some 48) : numOk l = false := by
  unfold numOk
  rw [if_pos e, Bool.eq_false_iff]; intro e2
  have : l = [48] := by simpa using e2
  rw [this] at h; simp at h
theorem numOk_val (l : List UInt8) (hd : ∀ c ∈ l, dgt c = true) (h0 : 0 < l.length) (h : l.length ≤ 19) (e : 1 < l.length → l.head? ≠ some 48) : numOk l = small (vl 0 l) := by
  unfold numOk small
  by_cases e1 : l.head? = some 48
  · have h1 : l.length = 1 := by
      by_cases h2 : 1 < l.length
      · exact absurd e1 (e h2)
      · omega
    have hl : l = [48] := by
      match l, h1 with
      | [c], _ => simp at e1; rw [e1]
    subst hl
    decide
  · rw [if_neg e1]
    by_cases h2 : l.length = 19
    · have hle := less_eq l maxNum 0 (by rw [h2]; rfl) hd max_digits
      rw [h2, vl_max] at *
      rw [hle]
      simp
    · have hb := vl_bd l 0 hd
      have hp : 10 ^ l.length ≤ 10 ^ 18 := Nat.pow_le_pow_right (by omega) (by omega)
      rw [decide_eq_true (show l.length < 19 by omega), decide_eq_true (show vl 0 l ≤ 9223372036854775808 by omega)]
      rfl
end Go.Proofs.YtadljmpnopgihaaDoor.Lx
