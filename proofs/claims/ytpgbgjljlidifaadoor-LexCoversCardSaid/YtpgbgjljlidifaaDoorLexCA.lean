/- What is cut stays cut: a token's text alone, and with a blank or a line's end behind it; two texts with a line's end between. Conditions: none. -/
import Derived.Test.YtpgbgjljlidifaaDoorLexS
import Derived.Test.YtpgbgjljlidifaaDoorLexU
namespace Go.Proofs.YtpgbgjljlidifaaDoor.Lx
open Go

/-- a byte that ends each token -/
def Ends (d : UInt8) : Prop := d = 32 ∨ d = 10
theorem Ends.wth {d : UInt8} (h : Ends d) : wth d = false := by rcases h with rfl | rfl <;> decide
theorem Ends.dgt {d : UInt8} (h : Ends d) : dgt d = false := by rcases h with rfl | rfl <;> decide
theorem Ends.bgn {d : UInt8} (h : Ends d) : bgn d = false := by rcases h with rfl | rfl <;> decide
theorem Ends.two {d : UInt8} (h : Ends d) (c : UInt8) : twos.contains [c, d] = false := by
  have hx : ∀ x ∈ twos, x.getD 1 0 ≠ 32 ∧ x.getD 1 0 ≠ 10 := by decide
  rw [Bool.eq_false_iff]
  intro e
  have hm : [c, d] ∈ twos := by simpa using e
  have h2 := hx _ hm
  have h3 : ([c, d] : List UInt8).getD 1 0 = d := rfl
  rw [h3] at h2
  rcases h with h | h
  · exact h2.1 h
  · exact h2.2 h
theorem run_app (p : UInt8 → Bool) (d : UInt8) (hd : p d = false) (r : List UInt8) : ∀ l, run p (l ++ d :: r) = run p l
  | [] => by rw [List.nil_append]; simp [run, hd]
  | c :: l => by
    have ih := run_app p d hd r l
    rw [List.cons_append]
    unfold run
    rw [ih]
theorem run_take_self (p : UInt8 → Bool) : ∀ l, run p (l.take (run p l)) = run p l
  | [] => rfl
  | c :: l => by
    by_cases h : p c = true
    · have e : run p (c :: l) = run p l + 1 := by simp [run, h]
      rw [e, List.take_succ_cons]
      simp only [run, h, if_true]
      rw [run_take_self p l]
    · have e : run p (c :: l) = 0 := by simp [run, h]
      rw [e, List.take_zero]; rfl
theorem sgn_app (d : UInt8) (hd : Ends d) (c : UInt8) (l r : List UInt8) : sgn ((c :: l) ++ d :: r) = sgn (c :: l) := by
  rw [sgn_eq, sgn_eq]
  cases l with
  | nil =>
    have e1 : (([c] : List UInt8) ++ d :: r).take 2 = [c, d] := rfl
    have e2 : (([c] : List UInt8) ++ d :: r).take 1 = [c] := rfl
    have e3 : ([c] : List UInt8).take 2 = [c] := rfl
    have e4 : ([c] : List UInt8).take 1 = [c] := rfl
    rw [e1, e2, e3, e4, hd.two c]
    have h1 : twos.contains [c] = false := by have := twos_short [c] (by simp); rwa [e3] at this
    rw [h1]
  | cons a l => rfl
theorem sgn_take (l : List UInt8) (h : sgn l ≠ 0) : sgn (l.take (sgn l)) = sgn l := by
  have e := sgn_eq l
  by_cases h2 : twos.contains (l.take 2) = true
  · rw [if_pos h2] at e
    rw [e, sgn_eq, List.take_take, show min 2 2 = 2 from rfl, h2, if_pos rfl]
  · rw [if_neg h2] at e
    by_cases h1 : ones.contains (l.take 1) = true
    · rw [if_pos h1] at e
      rw [e, sgn_eq, List.take_take, List.take_take, show min 2 1 = 1 from rfl, show min 1 1 = 1 from rfl]
      have hs := twos_short (l.take 1) (by simp; omega)
      rw [List.take_take, show min 2 1 = 1 from rfl] at hs
      rw [hs, h1]; rfl
    · rw [if_neg h1] at e; exact absurd e h

/-- with a blank or a line's end behind, and whatever follows it -/
theorem cutL_app (d : UInt8) (hd : Ends d) (l r : List UInt8) (hl : l ≠ []) : cutL (l ++ d :: r) = cutL l := by
  cases l with
  | nil => exact absurd rfl hl
  | cons c l =>
    rw [List.cons_append, cutL_cons, cutL_cons, ← List.cons_append, run_app wth d hd.wth, run_app dgt d hd.dgt, sgn_app d hd]
    have h1 := run_le dgt (c :: l)
    have e1 : ((c :: l) ++ d :: r).take (run dgt (c :: l)) = (c :: l).take (run dgt (c :: l)) := by
      rw [List.take_append_of_le_length h1]
    have e2 : ((((c :: l) ++ d :: r).drop (run dgt (c :: l))).head?.elim false bgn) = (((c :: l).drop (run dgt (c :: l))).head?.elim false bgn) := by
      rw [List.drop_append_of_le_length h1]
      cases hx : (c :: l).drop (run dgt (c :: l)) with
      | nil => rw [List.nil_append, List.head?_cons, Option.elim_some, hd.bgn]; rfl
      | cons a b => rfl
    rw [e1, e2]
/-- a token's text alone -/
theorem cutL_take (l : List UInt8) (h : (cutL l).1 ≠ 0) : cutL (l.take (cutL l).2) = cutL l := by
  have hb := cutL_bd l h
  cases l with
  | nil => simp [cutL] at h
  | cons c l =>
    have e := cutL_cons c l
    have key : ∀ n, 0 < n → (c :: l).take n = c :: l.take (n - 1) := by
      intro n hn
      obtain ⟨m, rfl⟩ : ∃ m, n = m + 1 := ⟨n - 1, by omega⟩
      rw [List.take_succ_cons, Nat.add_sub_cancel]
    by_cases hg : bgn c = true
    · rw [if_pos hg] at e
      by_cases hl : 32 < run wth (c :: l)
      · rw [if_pos hl] at e; rw [e] at h; exact absurd rfl h
      · rw [if_neg hl] at e
        have e2 : (cutL (c :: l)).2 = run wth (c :: l) := by rw [e]
        rw [e2] at hb ⊢
        have hr := run_take_self wth (c :: l)
        rw [e]
        rw [key _ hb.1] at hr ⊢
        rw [cutL_cons, if_pos hg, hr, if_neg hl]
    · by_cases hd : dgt c = true
      · rw [if_neg hg, if_pos hd] at e
        by_cases hc : (!numOk ((c :: l).take (run dgt (c :: l))) || (((c :: l).drop (run dgt (c :: l))).head?.elim false bgn)) = true
        · rw [if_pos hc] at e; rw [e] at h; exact absurd rfl h
        · rw [if_neg hc] at e
          have e2 : (cutL (c :: l)).2 = run dgt (c :: l) := by rw [e]
          rw [e2] at hb ⊢
          have hr := run_take_self dgt (c :: l)
          have hlen : ((c :: l).take (run dgt (c :: l))).length = run dgt (c :: l) := by rw [List.length_take]; omega
          have htt : ((c :: l).take (run dgt (c :: l))).take (run dgt (c :: l)) = (c :: l).take (run dgt (c :: l)) := by rw [List.take_take, Nat.min_self]
          have hdd : ((c :: l).take (run dgt (c :: l))).drop (run dgt (c :: l)) = [] := List.drop_of_length_le (by omega)
          have hn : numOk ((c :: l).take (run dgt (c :: l))) = true := by
            simp only [Bool.or_eq_true, Bool.not_eq_true', not_or] at hc
            simpa using hc.1
          rw [e]
          generalize hn0 : run dgt (c :: l) = n at *
          rw [key n hb.1] at hr hlen htt hdd hn ⊢
          rw [cutL_cons, if_neg hg, if_pos hd, hr, htt, hdd, hn]
          rfl
      · rw [if_neg hg, if_neg hd] at e
        by_cases hc : sgn (c :: l) = 0
        · rw [if_pos hc] at e; rw [e] at h; exact absurd rfl h
        · rw [if_neg hc] at e
          have e2 : (cutL (c :: l)).2 = sgn (c :: l) := by rw [e]
          rw [e2] at hb ⊢
          have hr := sgn_take (c :: l) hc
          rw [e]
          rw [key _ hb.1] at hr ⊢
          rw [cutL_cons, if_neg hg, if_neg hd, hr, if_neg hc]

/-- what is passed over, with a line's end behind -/
theorem skp_app : ∀ (b : Bool) (l r : List UInt8), skp b (l ++ 10 :: r) = if skp b l = l.length then l.length + 1 + skp false r else skp b l
  | true, [], r => by
    rw [List.nil_append, skp_true_cons, if_pos (by decide), skp_nil, List.length_nil, if_pos (Eq.refl 0)]; omega
  | false, [], r => by
    rw [List.nil_append, skp_false_cons, if_pos (by decide), skp_nil, List.length_nil, if_pos (Eq.refl 0)]; omega
  | true, c :: l, r => by
    rw [List.cons_append, skp_true_cons, skp_true_cons, skp_app false l r, skp_app true l r]
    by_cases hc : c.toNat = 10
    · rw [if_pos hc, if_pos hc]
      by_cases he : skp false l = l.length
      · rw [if_pos he, if_pos (by simp [he])]; simp; omega
      · rw [if_neg he, if_neg (by simp; exact he)]
    · rw [if_neg hc, if_neg hc]
      by_cases he : skp true l = l.length
      · rw [if_pos he, if_pos (by simp [he])]; simp; omega
      · rw [if_neg he, if_neg (by simp; exact he)]
  | false, c :: l, r => by
    rw [List.cons_append, skp_false_cons, skp_false_cons, skp_app false l r, skp_app true l r]
    by_cases hc : blk c = true
    · rw [if_pos hc, if_pos hc]
      by_cases he : skp false l = l.length
      · rw [if_pos he, if_pos (by simp [he])]; simp; omega
      · rw [if_neg he, if_neg (by simp; exact he)]
    · rw [if_neg hc, if_neg hc]
      by_cases h35 : c.toNat = 35
      · rw [if_pos h35, if_pos h35]
        by_cases he : skp true l = l.length
        · rw [if_pos he, if_pos (by simp [he])]; simp; omega
        · rw [if_neg he, if_neg (by simp; exact he)]
      · rw [if_neg h35, if_neg h35, if_neg (by simp)]
/-- what is passed over, taken by itself, is passed over -/
theorem skp_take : ∀ (b : Bool) (l : List UInt8), skp b (l.take (skp b l)) = skp b l
  | _, [] => by simp [skp]
  | true, c :: l => by
    rw [skp_true_cons]
    by_cases hc : c.toNat = 10
    · rw [if_pos hc, List.take_succ_cons, skp_true_cons, if_pos hc, skp_take false l]
    · rw [if_neg hc, List.take_succ_cons, skp_true_cons, if_neg hc, skp_take true l]
  | false, c :: l => by
    rw [skp_false_cons]
    by_cases hb : blk c = true
    · rw [if_pos hb, List.take_succ_cons, skp_false_cons, if_pos hb, skp_take false l]
    · rw [if_neg hb]
      by_cases hc : c.toNat = 35
      · rw [if_pos hc, List.take_succ_cons, skp_false_cons, if_neg hb, if_pos hc, skp_take true l]
      · rw [if_neg hc, List.take_zero, skp_nil]

/-- two texts with a line's end between -/
theorem lexs_two : ∀ (n : Nat) (l r : List UInt8) (p : Nat) (ts : List Tok), l.length ≤ n → lexs l p = .ok ts → lexs (l ++ 10 :: r) p = pre ts (lexs r (p + l.length + 1))
  | n, l, r, p, ts, hn, h => by
    have hs := skp_le false l
    have hsa := skp_app false l r
    by_cases he : l.drop (skp false l) = []
    · have hl : skp false l = l.length := by
        have := congrArg List.length he
        rw [List.length_drop, List.length_nil] at this
        omega
      rw [lexs_end l p he] at h
      have hts : ts = [] := by injection h with h; exact h.symm
      rw [if_pos hl] at hsa
      have e : l ++ 10 :: r = (l ++ [10]) ++ r := by simp
      rw [hts, ← lexs_skip (l ++ 10 :: r) p, hsa]
      have e2 : (l ++ 10 :: r).drop (l.length + 1 + skp false r) = r.drop (skp false r) := by
        rw [← List.drop_drop, e, List.drop_left' (by simp)]
      rw [e2, show p + (l.length + 1 + skp false r) = (p + l.length + 1) + skp false r by omega, lexs_skip]
      cases lexs r (p + l.length + 1) <;> rfl
    · have hl : skp false l ≠ l.length := fun e => he (List.drop_of_length_le (by omega))
      rw [if_neg hl] at hsa
      by_cases hk : (cutL (l.drop (skp false l))).1 = 0
      · rw [lexs_bad l _ p rfl he hk] at h; cases h
      · have hb := cutL_bd _ hk
        rw [List.length_drop] at hb
        rw [lexs_tok l _ p rfl he hk] at h
        have hda : (l ++ 10 :: r).drop (skp false (l ++ 10 :: r)) = l.drop (skp false l) ++ 10 :: r := by
          rw [hsa, List.drop_append_of_le_length hs]
        have hca := cutL_app 10 (.inr rfl) (l.drop (skp false l)) r he
        rw [lexs_tok (l ++ 10 :: r) _ p hda (by simp) (by rw [hca]; exact hk), hca, hsa]
        have hd2 : (l.drop (skp false l) ++ 10 :: r).drop (cutL (l.drop (skp false l))).2 = (l.drop (skp false l)).drop (cutL (l.drop (skp false l))).2 ++ 10 :: r := by
          rw [List.drop_append_of_le_length (by rw [List.length_drop]; exact hb.2)]
        have ht2 : (l.drop (skp false l) ++ 10 :: r).take (cutL (l.drop (skp false l))).2 = (l.drop (skp false l)).take (cutL (l.drop (skp false l))).2 := by
          rw [List.take_append_of_le_length (by rw [List.length_drop]; exact hb.2)]
        rw [hd2, ht2]
        cases hr : lexs ((l.drop (skp false l)).drop (cutL (l.drop (skp false l))).2) (p + skp false l + (cutL (l.drop (skp false l))).2) with
        | error q => rw [hr] at h; cases h
        | ok us =>
          rw [hr] at h
          have hts := (Except.ok.inj h).symm
          have hlen : ((l.drop (skp false l)).drop (cutL (l.drop (skp false l))).2).length = l.length - skp false l - (cutL (l.drop (skp false l))).2 := by rw [List.length_drop, List.length_drop]
          match n, hn with
          | 0, hn => omega
          | n + 1, hn =>
            rw [lexs_two n _ r _ us (by rw [hlen]; omega) hr, hlen, hts]
            rw [show p + skp false l + (cutL (l.drop (skp false l))).2 + (l.length - skp false l - (cutL (l.drop (skp false l))).2) + 1 = p + l.length + 1 by omega]
            cases lexs r (p + l.length + 1) <;> simp [pre]

/-- the tokens' texts, a blank behind each -/
def again (ts : List Tok) : List UInt8 := ts.flatMap fun t => t.txt ++ [32]
/-- alone each is the token that it was -/
def Good (t : Tok) : Prop := cutL t.txt = (t.kind, t.txt.length) ∧ t.kind ≠ 0 ∧ skp false t.txt = 0 ∧ t.txt ≠ []
theorem skp_zero_head (c : UInt8) (r r' : List UInt8) (h : skp false (c :: r) = 0) : skp false (c :: r') = 0 := by
  rw [skp_false_cons] at h ⊢
  by_cases hb : blk c = true
  · rw [if_pos hb] at h; omega
  · rw [if_neg hb] at h ⊢
    by_cases hc : c.toNat = 35
    · rw [if_pos hc] at h; omega
    · rw [if_neg hc]
theorem good_of (l : List UInt8) (p : Nat) (hl : l ≠ []) (h0 : skp false l = 0) (hk : (cutL l).1 ≠ 0) : Good ⟨(cutL l).1, l.take (cutL l).2, p⟩ := by
  have hb := cutL_bd l hk
  have hlen : (l.take (cutL l).2).length = (cutL l).2 := by rw [List.length_take]; omega
  refine ⟨by show cutL (l.take (cutL l).2) = ((cutL l).1, (l.take (cutL l).2).length); rw [cutL_take l hk, hlen], hk, ?_, ?_⟩
  · show skp false (l.take (cutL l).2) = 0
    cases l with
    | nil => exact absurd rfl hl
    | cons c r =>
      obtain ⟨m, hm⟩ : ∃ m, (cutL (c :: r)).2 = m + 1 := ⟨(cutL (c :: r)).2 - 1, by omega⟩
      rw [hm, List.take_succ_cons]
      exact skp_zero_head c r _ h0
  · show l.take (cutL l).2 ≠ []
    intro e
    have := congrArg List.length e
    rw [hlen] at this
    simp at this
    omega
/-- from a place on: what lies between, the texts, and what is left -/
def Chain (l : List UInt8) : Nat → List Tok → Prop
  | p, [] => skp false (l.drop p) = (l.drop p).length
  | p, t :: ts => t.pos = p + skp false (l.drop p) ∧ Good t ∧ t.pos + t.txt.length ≤ l.length ∧ (l.drop t.pos).take t.txt.length = t.txt ∧ Chain l (t.pos + t.txt.length) ts
theorem tok_inv (l : List UInt8) (p : Nat) (ts : List Tok) (h : lexs (l.drop p) p = .ok ts) : (ts = [] ∧ (l.drop p).drop (skp false (l.drop p)) = []) ∨
    ∃ k m us, cutL (l.drop (p + skp false (l.drop p))) = (k, m) ∧ k ≠ 0 ∧ l.drop (p + skp false (l.drop p)) ≠ [] ∧ lexs (l.drop (p + skp false (l.drop p) + m)) (p + skp false (l.drop p) + m) = .ok us ∧ ts = ⟨k, (l.drop (p + skp false (l.drop p))).take m, p + skp false (l.drop p)⟩ :: us := by
  have hd : (l.drop p).drop (skp false (l.drop p)) = l.drop (p + skp false (l.drop p)) := List.drop_drop
  by_cases he : (l.drop p).drop (skp false (l.drop p)) = []
  · rw [lexs_end _ p he] at h
    exact .inl ⟨(Except.ok.inj h).symm, he⟩
  · rw [hd] at he
    obtain ⟨k, m, hkm⟩ : ∃ k m, cutL (l.drop (p + skp false (l.drop p))) = (k, m) := ⟨_, _, rfl⟩
    by_cases hk : k = 0
    · rw [lexs_bad _ _ p hd he (by rw [hkm]; exact hk)] at h; cases h
    · rw [lexs_tok _ _ p hd he (by rw [hkm]; exact hk), hkm] at h
      simp only [List.drop_drop] at h
      cases hr : lexs (l.drop (p + skp false (l.drop p) + m)) (p + skp false (l.drop p) + m) with
      | error q => rw [hr] at h; cases h
      | ok us =>
        rw [hr] at h
        exact .inr ⟨k, m, us, hkm, hk, he, hr, (Except.ok.inj h).symm⟩
theorem chain_of : ∀ (ts : List Tok) (l : List UInt8) (p : Nat), p ≤ l.length → lexs (l.drop p) p = .ok ts → Chain l p ts
  | [], l, p, hp, h => by
    have hs := skp_le false (l.drop p)
    rcases tok_inv l p [] h with ⟨_, he⟩ | ⟨k, m, us, _, _, _, _, hc⟩
    · have := congrArg List.length he
      rw [List.length_drop, List.length_nil] at this
      show skp false (l.drop p) = (l.drop p).length
      omega
    · cases hc
  | t :: ts, l, p, hp, h => by
    have hs := skp_le false (l.drop p)
    rw [List.length_drop] at hs
    rcases tok_inv l p (t :: ts) h with ⟨hc, _⟩ | ⟨k, m, us, hkm, hk, hne, hr, hc⟩
    · cases hc
    · obtain ⟨h1, h2⟩ := List.cons.inj hc
      have hb := cutL_bd (l.drop (p + skp false (l.drop p))) (by rw [hkm]; exact hk)
      rw [hkm, List.length_drop] at hb
      have h0 : skp false (l.drop (p + skp false (l.drop p))) = 0 := by
        have := skp_again false (l.drop p)
        rwa [List.drop_drop] at this
      have hg := good_of (l.drop (p + skp false (l.drop p))) (p + skp false (l.drop p)) hne h0 (by rw [hkm]; exact hk)
      rw [hkm] at hg
      have hlen : ((l.drop (p + skp false (l.drop p))).take m).length = m := by
        rw [List.length_take, List.length_drop]; omega
      subst h2
      subst h1
      refine ⟨rfl, hg, ?_, ?_, ?_⟩
      · simp only [hlen]; omega
      · simp only [hlen]
      · simp only [hlen]
        exact chain_of ts l _ (by omega) hr
/-- the texts again are the same tokens -/
theorem again_cons (t : Tok) (ts : List Tok) : again (t :: ts) = t.txt ++ 32 :: again ts := by simp [again]
theorem lexs_again : ∀ (ts : List Tok) (q : Nat), (∀ t ∈ ts, Good t) → ∃ us, lexs (again ts) q = .ok us ∧ us.map (fun t => (t.kind, t.txt)) = ts.map (fun t => (t.kind, t.txt))
  | [], q, _ => ⟨[], lexs_end _ q rfl, rfl⟩
  | t :: ts, q, h => by
    obtain ⟨g1, g2, g3, g4⟩ := h t (by simp)
    obtain ⟨us, h1, h2⟩ := lexs_again ts (q + t.txt.length + 1) (fun x hx => h x (by simp [hx]))
    have hc := cutL_app 32 (.inl rfl) t.txt (again ts) g4
    rw [g1] at hc
    have hsk : skp false (t.txt ++ 32 :: again ts) = 0 := by
      cases hx : t.txt with
      | nil => exact absurd hx g4
      | cons c r => rw [hx] at g3; exact skp_zero_head c r _ g3
    refine ⟨⟨t.kind, t.txt, q⟩ :: us, ?_, by simp [h2]⟩
    rw [again_cons, lexs_tok _ (t.txt ++ 32 :: again ts) q (by rw [hsk]; rfl) (by simp) (by rw [hc]; exact g2), hsk, hc]
    simp only [Nat.add_zero]
    rw [List.drop_left, List.take_left]
    have hp := lexs_passed [32] (again ts) (q + t.txt.length) (Passed.one (by decide))
    have e : [32] ++ again ts = 32 :: again ts := rfl
    rw [e] at hp
    rw [hp]
    simp only [List.length_singleton]
    rw [h1]
end Go.Proofs.YtpgbgjljlidifaaDoor.Lx
