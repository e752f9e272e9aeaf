/- A text's tokens, as a plain function on bytes, and how it unfolds. Conditions: none. -/
import Derived.Test.YtpgbgjljlidifaaDoorLexA
namespace Go.Proofs.YtpgbgjljlidifaaDoor.Lx
open Go

structure Tok where
  kind : Nat
  txt : List UInt8
  pos : Nat
deriving DecidableEq

/-- a text's tokens, or the place at which it is refused; so many rounds; the text begins at a place -/
def lx : Nat → List UInt8 → Nat → Except Nat (List Tok)
  | 0, _, _ => .ok []
  | f + 1, l, p =>
    if l.drop (skp false l) = [] then .ok []
    else if (cutL (l.drop (skp false l))).1 = 0 then .error (p + skp false l)
    else match lx f ((l.drop (skp false l)).drop (cutL (l.drop (skp false l))).2) (p + skp false l + (cutL (l.drop (skp false l))).2) with
      | .ok ts => .ok (⟨(cutL (l.drop (skp false l))).1, (l.drop (skp false l)).take (cutL (l.drop (skp false l))).2, p + skp false l⟩ :: ts)
      | .error q => .error q
def lexs (l : List UInt8) (p : Nat) : Except Nat (List Tok) := lx (l.length + 1) l p

theorem sgnIn_le : ∀ (L : List (List UInt8)) (l : List UInt8), sgnIn L l ≤ l.length
  | [], _ => by simp [sgnIn]
  | x :: r, l => by
    unfold sgnIn; split
    · rename_i h; exact (List.isPrefixOf_iff_prefix.1 h).length_le
    · exact sgnIn_le r l
theorem run_pos (p : UInt8 → Bool) (c : UInt8) (r : List UInt8) (h : p c = true) : 0 < run p (c :: r) := by simp [run, h]
theorem bgn_wth (c : UInt8) (h : bgn c = true) : wth c = true := by simp [wth, h]
/-- a token has a byte at least, and lies within the text -/
theorem cutL_bd (l : List UInt8) (h : (cutL l).1 ≠ 0) : 0 < (cutL l).2 ∧ (cutL l).2 ≤ l.length := by
  cases l with
  | nil => simp [cutL] at h
  | cons c r =>
    have h1 := run_le wth (c :: r)
    have h2 := run_le dgt (c :: r)
    have h3 : sgn (c :: r) ≤ (c :: r).length := sgnIn_le signs _
    have e := cutL_cons c r
    by_cases hb : bgn c = true
    · rw [if_pos hb] at e
      by_cases hl : 32 < run wth (c :: r)
      · rw [if_pos hl] at e; rw [e] at h; exact absurd rfl h
      · rw [if_neg hl] at e; rw [e]; exact ⟨run_pos wth c r (bgn_wth c hb), h1⟩
    · by_cases hd : dgt c = true
      · rw [if_neg hb, if_pos hd] at e
        by_cases hc : (!numOk ((c :: r).take (run dgt (c :: r))) || (((c :: r).drop (run dgt (c :: r))).head?.elim false bgn)) = true
        · rw [if_pos hc] at e; rw [e] at h; exact absurd rfl h
        · rw [if_neg hc] at e; rw [e]; exact ⟨run_pos dgt c r hd, h2⟩
      · rw [if_neg hb, if_neg hd] at e
        by_cases hc : sgn (c :: r) = 0
        · rw [if_pos hc] at e; rw [e] at h; exact absurd rfl h
        · rw [if_neg hc] at e; rw [e]; exact ⟨by show 0 < sgn (c :: r); omega, h3⟩

theorem lx_fuel : ∀ (f g : Nat) (l : List UInt8) (p : Nat), l.length < f → l.length < g → lx f l p = lx g l p
  | 0, _, _, _, h, _ => by omega
  | _, 0, _, _, _, h => by omega
  | f + 1, g + 1, l, p, h1, h2 => by
    unfold lx
    by_cases hn : l.drop (skp false l) = []
    · rw [if_pos hn, if_pos hn]
    · rw [if_neg hn, if_neg hn]
      by_cases hk : (cutL (l.drop (skp false l))).1 = 0
      · rw [if_pos hk, if_pos hk]
      · rw [if_neg hk, if_neg hk]
        have hb := cutL_bd _ hk
        have hl : ((l.drop (skp false l)).drop (cutL (l.drop (skp false l))).2).length < l.length := by
          rw [List.length_drop, List.length_drop] at *
          omega
        rw [lx_fuel f g _ _ (by omega) (by omega)]

/-- how the tokens unfold -/
theorem lexs_end (l : List UInt8) (p : Nat) (h : l.drop (skp false l) = []) : lexs l p = .ok [] := by
  unfold lexs lx; rw [if_pos h]
theorem lexs_bad (l l1 : List UInt8) (p : Nat) (h1 : l.drop (skp false l) = l1) (h : l1 ≠ []) (hk : (cutL l1).1 = 0) : lexs l p = .error (p + skp false l) := by
  unfold lexs lx; rw [h1, if_neg h, if_pos hk]
theorem lexs_tok (l l1 : List UInt8) (p : Nat) (h1 : l.drop (skp false l) = l1) (h : l1 ≠ []) (hk : (cutL l1).1 ≠ 0) :
    lexs l p = match lexs (l1.drop (cutL l1).2) (p + skp false l + (cutL l1).2) with
      | .ok ts => .ok (⟨(cutL l1).1, l1.take (cutL l1).2, p + skp false l⟩ :: ts)
      | .error q => .error q := by
  have hb := cutL_bd _ hk
  have hl : (l1.drop (cutL l1).2).length < l.length := by
    have : l1.length ≤ l.length := by rw [← h1, List.length_drop]; omega
    rw [List.length_drop]; omega
  conv => lhs; unfold lexs lx
  rw [h1, if_neg h, if_neg hk]
  unfold lexs
  rw [lx_fuel l.length ((l1.drop (cutL l1).2).length + 1) _ _ (by omega) (by omega)]

theorem skp_again : ∀ (b : Bool) (l : List UInt8), skp false (l.drop (skp b l)) = 0
  | _, [] => by simp [skp]
  | true, c :: r => by
    rw [skp_true_cons]; split
    · exact skp_again false r
    · exact skp_again true r
  | false, c :: r => by
    rw [skp_false_cons]; split
    · exact skp_again false r
    · split
      · exact skp_again true r
      · rename_i h1 h2
        rw [List.drop_zero, skp_false_cons, if_neg h1, if_neg h2]
/-- what is passed over may be passed over first -/
theorem lexs_skip (l : List UInt8) (p : Nat) : lexs (l.drop (skp false l)) (p + skp false l) = lexs l p := by
  have h0 := skp_again false l
  by_cases hn : l.drop (skp false l) = []
  · rw [lexs_end l p hn]
    rw [hn]; rfl
  · by_cases hk : (cutL (l.drop (skp false l))).1 = 0
    · rw [lexs_bad l _ p rfl hn hk, lexs_bad (l.drop (skp false l)) (l.drop (skp false l)) (p + skp false l) (by rw [h0]; rfl) hn hk, h0]; rfl
    · rw [lexs_tok l _ p rfl hn hk, lexs_tok (l.drop (skp false l)) (l.drop (skp false l)) (p + skp false l) (by rw [h0]; rfl) hn hk, h0]; rfl

/-- one more list of tokens ahead -/
def pre (acc : List Tok) : Except Nat (List Tok) → Except Nat (List Tok)
  | .ok ts => .ok (acc ++ ts)
  | .error q => .error q

/-- what Tokens answers: tokens, place, number of the error -/
def res (l : List UInt8) : List Tok × Nat × Nat :=
  if 65536 < l.length then ([], 0, 40) else match lexs l 0 with
    | .ok ts => (ts, 0, 0)
    | .error q => ([], q, 63)
end Go.Proofs.YtpgbgjljlidifaaDoor.Lx
