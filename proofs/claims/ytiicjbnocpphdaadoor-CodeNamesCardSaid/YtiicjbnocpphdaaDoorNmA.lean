/- Plain functions on bytes: what a letter, a digit, a blank is; what is passed over; where a token ends; a text's tokens. Conditions: none. -/
import Derived.Laws.Strings
import Derived.Lib.Strings
import Derived.Lib.Bytealg
namespace Go.Proofs.YtiicjbnocpphdaaDoor.Lx
open Go

/-- a letter or _ -/
def bgn (c : UInt8) : Bool := decide (97 ≤ c.toNat ∧ c.toNat ≤ 122) || decide (65 ≤ c.toNat ∧ c.toNat ≤ 90) || decide (c.toNat = 95)
/-- a decimal digit -/
def dgt (c : UInt8) : Bool := decide (48 ≤ c.toNat ∧ c.toNat ≤ 57)
def wth (c : UInt8) : Bool := bgn c || dgt c
def blk (c : UInt8) : Bool := decide (c.toNat = 32) || decide (c.toNat = 9) || decide (c.toNat = 10)

/-- how many bytes, from the first one on, are of a kind -/
def run (p : UInt8 → Bool) : List UInt8 → Nat
  | [] => 0
  | c :: r => if p c then run p r + 1 else 0

/-- how many bytes, from the first one on, are passed over (true: within a remark) -/
def skp : Bool → List UInt8 → Nat
  | _, [] => 0
  | true, c :: r => (if c.toNat = 10 then skp false r else skp true r) + 1
  | false, c :: r => if blk c then skp false r + 1 else if c.toNat = 35 then skp true r + 1 else 0

def maxNum : List UInt8 := [57, 50, 50, 51, 51, 55, 50, 48, 51, 54, 56, 53, 52, 55, 55, 53, 56, 48, 56]
/-- are digits a number? -/
def numOk (l : List UInt8) : Bool :=
  if l.head? = some 48 then l == [48] else decide (l.length < 19) || (decide (l.length = 19) && (Op.bytesLess l maxNum || l == maxNum))

def signs : List (List UInt8) := [[124, 124], [38, 38], [60, 61], [62, 61], [61, 61], [33, 61], [60], [62], [61], [43], [45], [42], [47], [37], [33], [40], [41], [123], [125], [91], [93], [59], [44]]
/-- how many bytes the sign has that stands at the beginning of a text; 0: none stands there -/
def sgnIn : List (List UInt8) → List UInt8 → Nat
  | [], _ => 0
  | x :: r, l => if x.isPrefixOf l then x.length else sgnIn r l
def sgn (l : List UInt8) : Nat := sgnIn signs l

/-- the kind of the token at the beginning of a text, and its length; kind 0: none -/
def cutL (l : List UInt8) : Nat × Nat :=
  match l with
  | [] => (0, 0)
  | c :: _ =>
    if bgn c then (if 32 < run wth l then (0, 0) else (1, run wth l))
    else if dgt c then (if !numOk (l.take (run dgt l)) || ((l.drop (run dgt l)).head?.elim false bgn) then (0, 0) else (2, run dgt l))
    else if sgn l = 0 then (0, 0) else (3, sgn l)

theorem cutL_cons (c : UInt8) (r : List UInt8) : cutL (c :: r) =
    if bgn c then (if 32 < run wth (c :: r) then (0, 0) else (1, run wth (c :: r)))
    else if dgt c then (if !numOk ((c :: r).take (run dgt (c :: r))) || (((c :: r).drop (run dgt (c :: r))).head?.elim false bgn) then (0, 0) else (2, run dgt (c :: r)))
    else if sgn (c :: r) = 0 then (0, 0) else (3, sgn (c :: r)) := rfl
theorem run_le (p : UInt8 → Bool) : ∀ l, run p l ≤ l.length
  | [] => by simp [run]
  | c :: r => by have := run_le p r; unfold run; split <;> simp <;> omega

theorem skp_le : ∀ (b : Bool) l, skp b l ≤ l.length
  | _, [] => by simp [skp]
  | true, c :: r => by have := skp_le false r; have := skp_le true r; unfold skp; split <;> simp <;> omega
  | false, c :: r => by have := skp_le false r; have := skp_le true r; unfold skp; split <;> (try split) <;> simp <;> omega

theorem skp_true_cons (c : UInt8) (r : List UInt8) : skp true (c :: r) = (if c.toNat = 10 then skp false r else skp true r) + 1 := by simp [skp]
theorem skp_false_cons (c : UInt8) (r : List UInt8) : skp false (c :: r) = if blk c then skp false r + 1 else if c.toNat = 35 then skp true r + 1 else 0 := by simp [skp]
theorem skp_nil (b : Bool) : skp b [] = 0 := by cases b <;> simp [skp]
theorem skp_true_none : ∀ l, Lib.indexByte l 10 = -1 → skp true l = l.length
  | [], _ => by simp [skp]
  | c :: r, h => by
    have ih := skp_true_none r
    unfold Lib.indexByte at h
    rw [skp_true_cons]
    split at h
    · omega
    · rename_i hc
      have hne : ¬ c.toNat = 10 := by
        intro e; apply hc; simp; exact UInt8.toNat_inj.1 (by simpa using e)
      rw [if_neg hne]
      split at h
      · rename_i h1; rw [ih (by simpa using h1)]; simp
      · rename_i h1; exfalso; have := Lib.indexByte_ge r 10; apply h1; simp; omega
theorem skp_true_some : ∀ l (i : Nat), Lib.indexByte l 10 = i → skp true l = i + skp false (l.drop i)
  | [], i, h => by simp [Lib.indexByte] at h
  | c :: r, i, h => by
    have ih := skp_true_some r
    unfold Lib.indexByte at h
    rw [skp_true_cons]
    split at h
    · rename_i hc
      have hc : c = 10 := by simpa using hc
      have hi : i = 0 := by omega
      subst hi; subst hc
      simp [skp_false_cons, blk]
    · rename_i hc
      have hne : ¬ c.toNat = 10 := by
        intro e; apply hc; simp; exact UInt8.toNat_inj.1 (by simpa using e)
      rw [if_neg hne]
      split at h
      · omega
      · obtain ⟨k, rfl⟩ : ∃ k : Nat, i = k + 1 := by
          have := Lib.indexByte_ge r 10
          rename_i h1
          have : Lib.indexByte r 10 ≠ -1 := by intro e; apply h1; simp [e]
          exact ⟨i - 1, by omega⟩
        rw [ih k (by omega)]
        simp
        omega
theorem indexByte_lt : ∀ (l : List UInt8) (i : Nat), Lib.indexByte l 10 = i → i < l.length
  | [], i, h => by simp [Lib.indexByte] at h
  | c :: r, i, h => by
    unfold Lib.indexByte at h
    split at h
    · simp; omega
    · split at h
      · omega
      · rename_i h1
        have := Lib.indexByte_ge r 10
        have : Lib.indexByte r 10 ≠ -1 := by intro e; apply h1; simp [e]
        have := indexByte_lt r (i - 1) (by omega)
        simp; omega
end Go.Proofs.YtiicjbnocpphdaaDoor.Lx
