/- What is passed over ahead of a text, and what stands farther on: the tokens are the same, farther on. Conditions: none. -/
import Derived.Test.YtpgbgjljlidifaaDoorLexF
namespace Go.Proofs.YtpgbgjljlidifaaDoor.Lx
open Go

def movT (d : Nat) (t : Tok) : Tok := ⟨t.kind, t.txt, t.pos + d⟩
def mov (d : Nat) : Except Nat (List Tok) → Except Nat (List Tok)
  | .ok ts => .ok (ts.map (movT d))
  | .error q => .error (q + d)
theorem lx_mov : ∀ (f : Nat) (l : List UInt8) (p d : Nat), lx f l (p + d) = mov d (lx f l p)
  | 0, _, _, _ => rfl
  | f + 1, l, p, d => by
    unfold lx
    by_cases hn : l.drop (skp false l) = []
    · rw [if_pos hn, if_pos hn]; rfl
    · rw [if_neg hn, if_neg hn]
      by_cases hk : (cutL (l.drop (skp false l))).1 = 0
      · rw [if_pos hk, if_pos hk]
        show Except.error _ = Except.error _
        congr 1; omega
      · rw [if_neg hk, if_neg hk]
        have e : p + d + skp false l + (cutL (l.drop (skp false l))).2 = p + skp false l + (cutL (l.drop (skp false l))).2 + d := by omega
        rw [e, lx_mov f _ _ d]
        cases lx f ((l.drop (skp false l)).drop (cutL (l.drop (skp false l))).2) (p + skp false l + (cutL (l.drop (skp false l))).2) with
        | error q => rfl
        | ok ts =>
          show Except.ok _ = Except.ok _
          congr 1
          simp only [List.map_cons, movT]
          congr 2
          omega
theorem lexs_mov (l : List UInt8) (p d : Nat) : lexs l (p + d) = mov d (lexs l p) := lx_mov _ l p d

/-- a text that is passed over whole, whatever follows -/
def Passed (I : List UInt8) : Prop := ∀ r, skp false (I ++ r) = I.length + skp false r
theorem Passed.nil : Passed [] := fun r => by simp
theorem Passed.app {I J : List UInt8} (h : Passed I) (k : Passed J) : Passed (I ++ J) := fun r => by
  rw [List.append_assoc, h, k, List.length_append]; omega
theorem Passed.one {c : UInt8} (h : blk c = true) : Passed [c] := fun r => by
  show skp false (c :: r) = 1 + _
  rw [skp_false_cons, if_pos h]; omega
theorem Passed.many {c : UInt8} (h : blk c = true) : ∀ n, Passed (List.replicate n c)
  | 0 => Passed.nil
  | n + 1 => by
    have := (Passed.one h).app (Passed.many h n)
    exact this
theorem skp_remark : ∀ (R r : List UInt8), (∀ c ∈ R, c.toNat ≠ 10) → skp true (R ++ 10 :: r) = R.length + 1 + skp false r
  | [], r, _ => by
    rw [List.nil_append, skp_true_cons]
    show skp false r + 1 = 0 + 1 + skp false r
    omega
  | c :: R, r, h => by
    rw [List.cons_append, skp_true_cons, if_neg (h c (by simp)), skp_remark R r (fun x hx => h x (by simp [hx]))]
    simp; omega
theorem Passed.remark {R : List UInt8} (h : ∀ c ∈ R, c.toNat ≠ 10) : Passed (35 :: (R ++ [10])) := fun r => by
  have e : (35 :: (R ++ [10])) ++ r = 35 :: (R ++ 10 :: r) := by simp
  rw [e, skp_false_cons, if_neg (by decide), if_pos (by decide), skp_remark R r h]
  simp; omega
theorem lexs_passed (I l : List UInt8) (p : Nat) (h : Passed I) : lexs (I ++ l) p = lexs l (p + I.length) := by
  rw [← lexs_skip (I ++ l) p, h l, ← lexs_skip l (p + I.length)]
  have e : (I ++ l).drop (I.length + skp false l) = l.drop (skp false l) := by
    rw [← List.drop_drop, List.drop_left]
  rw [e, Nat.add_assoc]
/-- idle ahead: the same tokens, farther on -/
theorem res_ahead (I l : List UInt8) (h : Passed I) (hl : I.length + l.length ≤ 65536) :
    res (I ++ l) = match lexs l 0 with | .ok ts => (ts.map (movT I.length), 0, 0) | .error q => ([], q + I.length, 63) := by
  unfold res
  rw [if_neg (by rw [List.length_append]; omega), lexs_passed I l 0 h, lexs_mov l 0 I.length]
  cases lexs l 0 <;> rfl
theorem res_ok (l : List UInt8) (ts : List Tok) (hl : l.length ≤ 65536) (h : lexs l 0 = .ok ts) : res l = (ts, 0, 0) := by
  unfold res; rw [if_neg (by omega), h]
theorem res_err (l : List UInt8) (q : Nat) (hl : l.length ≤ 65536) (h : lexs l 0 = .error q) : res l = ([], q, 63) := by
  unfold res; rw [if_neg (by omega), h]
theorem ahead_ok (I l : List UInt8) (ts : List Tok) (hI : Passed I) (hl : I.length + l.length ≤ 65536) (h : lexs l 0 = .ok ts) : res (I ++ l) = (ts.map (movT I.length), 0, 0) := by
  rw [res_ahead I l hI hl, h]
theorem ahead_err (I l : List UInt8) (q : Nat) (hI : Passed I) (hl : I.length + l.length ≤ 65536) (h : lexs l 0 = .error q) : res (I ++ l) = ([], q + I.length, 63) := by
  rw [res_ahead I l hI hl, h]
/-- where tokens lie -/
theorem lx_in : ∀ (f : Nat) (l : List UInt8) (p : Nat) (ts : List Tok), lx f l p = .ok ts → ∀ t ∈ ts, p ≤ t.pos ∧ t.pos + t.txt.length ≤ p + l.length ∧ 0 < t.txt.length ∧ (l.drop (t.pos - p)).take t.txt.length = t.txt
  | 0, l, p, ts, h, t, ht => by
    have : ts = [] := by injection h with h; exact h.symm
    rw [this] at ht; simp at ht
  | f + 1, l, p, ts, h, t, ht => by
    unfold lx at h
    by_cases hn : l.drop (skp false l) = []
    · rw [if_pos hn] at h
      have : ts = [] := by injection h with h; exact h.symm
      rw [this] at ht; simp at ht
    · rw [if_neg hn] at h
      by_cases hk : (cutL (l.drop (skp false l))).1 = 0
      · rw [if_pos hk] at h; cases h
      · rw [if_neg hk] at h
        have hb := cutL_bd _ hk
        have hs := skp_le false l
        rw [List.length_drop] at hb
        have ih := lx_in f ((l.drop (skp false l)).drop (cutL (l.drop (skp false l))).2) (p + skp false l + (cutL (l.drop (skp false l))).2)
        cases hr : lx f ((l.drop (skp false l)).drop (cutL (l.drop (skp false l))).2) (p + skp false l + (cutL (l.drop (skp false l))).2) with
        | error q => rw [hr] at h; cases h
        | ok us =>
          rw [hr] at h
          injection h with h
          rw [← h] at ht
          rcases List.mem_cons.1 ht with rfl | ht
          · simp only
            have e1 : ((l.drop (skp false l)).take (cutL (l.drop (skp false l))).2).length = (cutL (l.drop (skp false l))).2 := by
              rw [List.length_take, List.length_drop]; omega
            rw [e1]
            refine ⟨by omega, by omega, by omega, ?_⟩
            rw [show p + skp false l - p = skp false l by omega]
          · obtain ⟨h1, h2, h3, h4⟩ := ih us hr t ht
            rw [List.length_drop, List.length_drop] at h2
            refine ⟨by omega, by omega, h3, ?_⟩
            rw [List.drop_drop, List.drop_drop] at h4
            rw [show skp false l + ((cutL (l.drop (skp false l))).2 + (t.pos - (p + skp false l + (cutL (l.drop (skp false l))).2))) = t.pos - p by omega] at h4
            exact h4
theorem lexs_in (l : List UInt8) (ts : List Tok) (h : lexs l 0 = .ok ts) (t : Tok) (ht : t ∈ ts) : t.pos + t.txt.length ≤ l.length ∧ 0 < t.txt.length ∧ (l.drop t.pos).take t.txt.length = t.txt := by
  obtain ⟨_, h2, h3, h4⟩ := lx_in _ l 0 ts h t ht
  exact ⟨by omega, h3, by simpa using h4⟩
theorem lx_err : ∀ (f : Nat) (l : List UInt8) (p q : Nat), lx f l p = .error q → q ≤ p + l.length
  | 0, l, p, q, h => by cases h
  | f + 1, l, p, q, h => by
    unfold lx at h
    have hs := skp_le false l
    by_cases hn : l.drop (skp false l) = []
    · rw [if_pos hn] at h; cases h
    · rw [if_neg hn] at h
      by_cases hk : (cutL (l.drop (skp false l))).1 = 0
      · rw [if_pos hk] at h; injection h with h; omega
      · rw [if_neg hk] at h
        have hb := cutL_bd _ hk
        rw [List.length_drop] at hb
        cases hr : lx f ((l.drop (skp false l)).drop (cutL (l.drop (skp false l))).2) (p + skp false l + (cutL (l.drop (skp false l))).2) with
        | ok us => rw [hr] at h; cases h
        | error q' =>
          rw [hr] at h; injection h with h
          have := lx_err f _ _ q' hr
          rw [List.length_drop, List.length_drop] at this
          omega

/-- the first k tokens moved on -/
def movK (d k : Nat) (ts : List Tok) : List Tok := (ts.take k).map (movT d) ++ ts.drop k
theorem movK_zero (d : Nat) (ts : List Tok) : movK d 0 ts = ts := by simp [movK]
theorem movK_all (d : Nat) (ts : List Tok) (k : Nat) (h : ts.length ≤ k) : movK d k ts = ts.map (movT d) := by
  unfold movK; rw [List.take_of_length_le h, List.drop_of_length_le h, List.append_nil]
theorem movK_len (d k : Nat) (ts : List Tok) : (movK d k ts).length = ts.length := by unfold movK; simp; omega
theorem movK_at (d k : Nat) (ts : List Tok) (t : Tok) (h : ts[k]? = some t) : (movK d k ts)[k]? = some t := by
  have hl := (List.getElem?_eq_some_iff.1 h).1
  unfold movK
  rw [List.getElem?_append_right (by simp; omega)]
  simp only [List.length_map, List.length_take]
  rw [show k - min k ts.length = 0 by omega, List.getElem?_drop, Nat.add_zero, h]
theorem movK_next (d k : Nat) (ts : List Tok) (t : Tok) (h : ts[k]? = some t) : movK d (k + 1) ts = (movK d k ts).set k (movT d t) := by
  have hl := (List.getElem?_eq_some_iff.1 h).1
  unfold movK
  have hle : ((ts.take k).map (movT d)).length = k := by simp; omega
  rw [List.set_append_right _ _ (by omega), hle, Nat.sub_self, List.take_add_one, h]
  have hd : ts.drop k = t :: ts.drop (k + 1) := by
    rw [List.drop_eq_getElem_cons hl]
    congr 1
    exact (List.getElem?_eq_some_iff.1 h).2
  rw [hd, List.set_cons_zero]
  simp
end Go.Proofs.YtpgbgjljlidifaaDoor.Lx
