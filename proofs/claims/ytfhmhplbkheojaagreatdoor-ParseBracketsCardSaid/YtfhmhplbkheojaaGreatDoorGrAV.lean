/- What is cut stays cut: a token's text alone, and with a blank or a line's end behind it; two texts with a line's end between. Conditions: none. · What Parse answers of two texts whose tokens are alike but for their places. Conditions: none. -/
import Derived.Test.YtfhmhplbkheojaaGreatDoorGrAU
import Derived.Test.YtfhmhplbkheojaaGreatDoorGrAJ
namespace Go.Proofs.YtfhmhplbkheojaaGreatDoor.Lx
open Go

theorem app_any (a b : ByteArray) : (a ++ b).data.toList = a.data.toList ++ b.data.toList := by simp
theorem app_sz (a b : ByteArray) : (a ++ b).size = a.size + b.size := by rw [Lib.size_eq, app_any, List.length_append, Lib.size_eq, Lib.size_eq]
def twos : List (List UInt8) := [[124, 124], [38, 38], [60, 61], [62, 61], [61, 61], [33, 61]]
def ones : List (List UInt8) := [[60], [62], [61], [43], [45], [42], [47], [37], [33], [40], [41], [123], [125], [91], [93], [59], [44]]
theorem sgnIn_app (n : Nat) : ∀ (A B : List (List UInt8)) (l : List UInt8), (∀ x ∈ A, x.length = n) → sgnIn (A ++ B) l = if A.any (·.isPrefixOf l) then n else sgnIn B l
  | [], B, l, _ => by simp
  | x :: r, B, l, h => by
    rw [List.cons_append, sgnIn, sgnIn_app n r B l (fun y hy => h y (by simp [hy])), List.any_cons]
    by_cases hp : x.isPrefixOf l = true
    · rw [if_pos hp, hp, Bool.true_or, if_pos rfl, h x (by simp)]
    · rw [if_neg hp]; simp [hp]
theorem pfx_take (n : Nat) (x l : List UInt8) (hx : x.length = n) : x.isPrefixOf l = (x == l.take n) := by
  rw [Bool.eq_iff_iff, List.isPrefixOf_iff_prefix, List.prefix_iff_eq_take, hx]; simp
theorem any_take (n : Nat) : ∀ (A : List (List UInt8)) (l : List UInt8), (∀ x ∈ A, x.length = n) → A.any (·.isPrefixOf l) = A.contains (l.take n)
  | [], l, _ => by simp
  | x :: r, l, h => by
    rw [List.any_cons, List.contains_cons, any_take n r l (fun y hy => h y (by simp [hy])), pfx_take n x l (h x (by simp))]
    congr 1
    rw [Bool.eq_iff_iff, beq_iff_eq, beq_iff_eq]; exact eq_comm
theorem sgn_eq (l : List UInt8) : sgn l = if twos.contains (l.take 2) then 2 else if ones.contains (l.take 1) then 1 else 0 := by
  have e : signs = twos ++ (ones ++ []) := rfl
  unfold sgn
  rw [e, sgnIn_app 2 twos _ l (by decide), sgnIn_app 1 ones [] l (by decide), any_take 2 twos l (by decide), any_take 1 ones l (by decide)]
  rfl
theorem twos_short (l : List UInt8) (h : l.length ≤ 1) : twos.contains (l.take 2) = false := by
  rw [Bool.eq_false_iff]; intro e
  have hm : l.take 2 ∈ twos := by simpa using e
  have : ∀ x ∈ twos, x.length = 2 := by decide
  have := this _ hm
  rw [List.length_take] at this
  omega
/-- a byte that ends each token -/
def Ends (d : UInt8) : Prop := d = 32 ∨ d = 10
theorem Ends.wth {d : UInt8} (h : Ends d) : wth d = false := by rcases h with rfl | rfl <;> decide
theorem Ends.dgt {d : UInt8} (h : Ends d) : dgt d = false := by rcases h with rfl | rfl <;> decide
theorem Ends.bgn {d : UInt8} (h : Ends d) : bgn d = false := by rcases h with rfl | rfl <;> decide
theorem Ends.two {d : UInt8} (h : Ends d) (c : UInt8) : twos.contains [c, d] = false := by
  have hx : ∀ x ∈ twos, x.getD 1 0 ≠ 32 ∧ x.getD 1 0 ≠ 10 := by decide
  rw [Bool.eq_false_iff]
  intro e
  have hm : [c, d] ∈ twos := by simpa using e
  have h2 := hx _ hm
  have h3 : ([c, d] : List UInt8).getD 1 0 = d := rfl
  rw [h3] at h2
  rcases h with h | h
  · exact h2.1 h
  · exact h2.2 h
theorem run_app (p : UInt8 → Bool) (d : UInt8) (hd : p d = false) (r : List UInt8) : ∀ l, run p (l ++ d :: r) = run p l
  | [] => by rw [List.nil_append]; simp [run, hd]
  | c :: l => by
    have ih := run_app p d hd r l
    rw [List.cons_append]
    unfold run
    rw [ih]
theorem run_take_self (p : UInt8 → Bool) : ∀ l, run p (l.take (run p l)) = run p l
  | [] => rfl
  | c :: l => by
    by_cases h : p c = true
    · have e : run p (c :: l) = run p l + 1 := by simp [run, h]
      rw [e, List.take_succ_cons]
      simp only [run, h, if_true]
      rw [run_take_self p l]
    · have e : run p (c :: l) = 0 := by simp [run, h]
      rw [e, List.take_zero]; rfl
theorem sgn_app (d : UInt8) (hd : Ends d) (c : UInt8) (l r : List UInt8) : sgn ((c :: l) ++ d :: r) = sgn (c :: l) := by
  rw [sgn_eq, sgn_eq]
  cases l with
  | nil =>
    have e1 : (([c] : List UInt8) ++ d :: r).take 2 = [c, d] := rfl
    have e2 : (([c] : List UInt8) ++ d :: r).take 1 = [c] := rfl
    have e3 : ([c] : List UInt8).take 2 = [c] := rfl
    have e4 : ([c] : List UInt8).take 1 = [c] := rfl
    rw [e1, e2, e3, e4, hd.two c]
    have h1 : twos.contains [c] = false := by have := twos_short [c] (by simp); rwa [e3] at this
    rw [h1]
  | cons a l => rfl
theorem sgn_take (l : List UInt8) (h : sgn l ≠ 0) : sgn (l.take (sgn l)) = sgn l := by
  have e := sgn_eq l
  by_cases h2 : twos.contains (l.take 2) = true
  · rw [if_pos h2] at e
    rw [e, sgn_eq, List.take_take, show min 2 2 = 2 from rfl, h2, if_pos rfl]
  · rw [if_neg h2] at e
    by_cases h1 : ones.contains (l.take 1) = true
    · rw [if_pos h1] at e
      rw [e, sgn_eq, List.take_take, List.take_take, show min 2 1 = 1 from rfl, show min 1 1 = 1 from rfl]
      have hs := twos_short (l.take 1) (by simp; omega)
      rw [List.take_take, show min 2 1 = 1 from rfl] at hs
      rw [hs, h1]; rfl
    · rw [if_neg h1] at e; exact absurd e h

/-- with a blank or a line's end behind, and whatever follows it -/
theorem cutL_app (d : UInt8) (hd : Ends d) (l r : List UInt8) (hl : l ≠ []) : cutL (l ++ d :: r) = cutL l := by
  cases l with
  | nil => exact absurd rfl hl
  | cons c l =>
    rw [List.cons_append, cutL_cons, cutL_cons, ← List.cons_append, run_app wth d hd.wth, run_app dgt d hd.dgt, sgn_app d hd]
    have h1 := run_le dgt (c :: l)
    have e1 : ((c :: l) ++ d :: r).take (run dgt (c :: l)) = (c :: l).take (run dgt (c :: l)) := by
      rw [List.take_append_of_le_length h1]
    have e2 : ((((c :: l) ++ d :: r).drop (run dgt (c :: l))).head?.elim false bgn) = (((c :: l).drop (run dgt (c :: l))).head?.elim false bgn) := by
      rw [List.drop_append_of_le_length h1]
      cases hx : (c :: l).drop (run dgt (c :: l)) with
      | nil => rw [List.nil_append, List.head?_cons, Option.elim_some, hd.bgn]; rfl
      | cons a b => rfl
    rw [e1, e2]
/-- a token's text alone -/
theorem cutL_take (l : List UInt8) (h : (cutL l).1 ≠ 0) : cutL (l.take (cutL l).2) = cutL l := by
  have hb := cutL_bd l h
  cases l with
  | nil => simp [cutL] at h
  | cons c l =>
    have e := cutL_cons c l
    have key : ∀ n, 0 < n → (c :: l).take n = c :: l.take (n - 1) := by
      intro n hn
      obtain ⟨m, rfl⟩ : ∃ m, n = m + 1 := ⟨n - 1, by omega⟩
      rw [List.take_succ_cons, Nat.add_sub_cancel]
    by_cases hg : bgn c = true
    · rw [if_pos hg] at e
      by_cases hl : 32 < run wth (c :: l)
      · rw [if_pos hl] at e; rw [e] at h; exact absurd rfl h
      · rw [if_neg hl] at e
        have e2 : (cutL (c :: l)).2 = run wth (c :: l) := by rw [e]
        rw [e2] at hb ⊢
        have hr := run_take_self wth (c :: l)
        rw [e]
        rw [key _ hb.1] at hr ⊢
        rw [cutL_cons, if_pos hg, hr, if_neg hl]
    · by_cases hd : dgt c = true
      · rw [if_neg hg, if_pos hd] at e
        by_cases hc : (!numOk ((c :: l).take (run dgt (c :: l))) || (((c :: l).drop (run dgt (c :: l))).head?.elim false bgn)) = true
        · rw [if_pos hc] at e; rw [e] at h; exact absurd rfl h
        · rw [if_neg hc] at e
          have e2 : (cutL (c :: l)).2 = run dgt (c :: l) := by rw [e]
          rw [e2] at hb ⊢
          have hr := run_take_self dgt (c :: l)
          have hlen : ((c :: l).take (run dgt (c :: l))).length = run dgt (c :: l) := by rw [List.length_take]; omega
          have htt : ((c :: l).take (run dgt (c :: l))).take (run dgt (c :: l)) = (c :: l).take (run dgt (c :: l)) := by rw [List.take_take, Nat.min_self]
          have hdd : ((c :: l).take (run dgt (c :: l))).drop (run dgt (c :: l)) = [] := List.drop_of_length_le (by omega)
          have hn : numOk ((c :: l).take (run dgt (c :: l))) = true := by
            simp only [Bool.or_eq_true, Bool.not_eq_true', not_or] at hc
            simpa using hc.1
          rw [e]
          generalize hn0 : run dgt (c :: l) = n at *
          rw [key n hb.1] at hr hlen htt hdd hn ⊢
          rw [cutL_cons, if_neg hg, if_pos hd, hr, htt, hdd, hn]
          rfl
      · rw [if_neg hg, if_neg hd] at e
        by_cases hc : sgn (c :: l) = 0
        · rw [if_pos hc] at e; rw [e] at h; exact absurd rfl h
        · rw [if_neg hc] at e
          have e2 : (cutL (c :: l)).2 = sgn (c :: l) := by rw [e]
          rw [e2] at hb ⊢
          have hr := sgn_take (c :: l) hc
          rw [e]
          rw [key _ hb.1] at hr ⊢
          rw [cutL_cons, if_neg hg, if_neg hd, hr, if_neg hc]

/-- what is passed over, with a line's end behind -/
theorem skp_app : ∀ (b : Bool) (l r : List UInt8), skp b (l ++ 10 :: r) = if skp b l = l.length then l.length + 1 + skp false r else skp b l
  | true, [], r => by
    rw [List.nil_append, skp_true_cons, if_pos (by decide), skp_nil, List.length_nil, if_pos (Eq.refl 0)]; omega
  | false, [], r => by
    rw [List.nil_append, skp_false_cons, if_pos (by decide), skp_nil, List.length_nil, if_pos (Eq.refl 0)]; omega
  | true, c :: l, r => by
    rw [List.cons_append, skp_true_cons, skp_true_cons, skp_app false l r, skp_app true l r]
    by_cases hc : c.toNat = 10
    · rw [if_pos hc, if_pos hc]
      by_cases he : skp false l = l.length
      · rw [if_pos he, if_pos (by simp [he])]; simp; omega
      · rw [if_neg he, if_neg (by simp; exact he)]
    · rw [if_neg hc, if_neg hc]
      by_cases he : skp true l = l.length
      · rw [if_pos he, if_pos (by simp [he])]; simp; omega
      · rw [if_neg he, if_neg (by simp; exact he)]
  | false, c :: l, r => by
    rw [List.cons_append, skp_false_cons, skp_false_cons, skp_app false l r, skp_app true l r]
    by_cases hc : blk c = true
    · rw [if_pos hc, if_pos hc]
      by_cases he : skp false l = l.length
      · rw [if_pos he, if_pos (by simp [he])]; simp; omega
      · rw [if_neg he, if_neg (by simp; exact he)]
    · rw [if_neg hc, if_neg hc]
      by_cases h35 : c.toNat = 35
      · rw [if_pos h35, if_pos h35]
        by_cases he : skp true l = l.length
        · rw [if_pos he, if_pos (by simp [he])]; simp; omega
        · rw [if_neg he, if_neg (by simp; exact he)]
      · rw [if_neg h35, if_neg h35, if_neg (by simp)]
/-- what is passed over, taken by itself, is passed over -/
theorem skp_take : ∀ (b : Bool) (l : List UInt8), skp b (l.take (skp b l)) = skp b l
  | _, [] => by simp [skp]
  | true, c :: l => by
    rw [skp_true_cons]
    by_cases hc : c.toNat = 10
    · rw [if_pos hc, List.take_succ_cons, skp_true_cons, if_pos hc, skp_take false l]
    · rw [if_neg hc, List.take_succ_cons, skp_true_cons, if_neg hc, skp_take true l]
  | false, c :: l => by
    rw [skp_false_cons]
    by_cases hb : blk c = true
    · rw [if_pos hb, List.take_succ_cons, skp_false_cons, if_pos hb, skp_take false l]
    · rw [if_neg hb]
      by_cases hc : c.toNat = 35
      · rw [if_pos hc, List.take_succ_cons, skp_false_cons, if_neg hb, if_pos hc, skp_take true l]
      · rw [if_neg hc, List.take_zero, skp_nil]

/-- two texts with a line's end between -/
theorem lexs_two : ∀ (n : Nat) (l r : List UInt8) (p : Nat) (ts : List Tok), l.length ≤ n → lexs l p = .ok ts → lexs (l ++ 10 :: r) p = pre ts (lexs r (p + l.length + 1))
  | n, l, r, p, ts, hn, h => by
    have hs := skp_le false l
    have hsa := skp_app false l r
    by_cases he : l.drop (skp false l) = []
    · have hl : skp false l = l.length := by
        have := congrArg List.length he
        rw [List.length_drop, List.length_nil] at this
        omega
      rw [lexs_end l p he] at h
      have hts : ts = [] := by injection h with h; exact h.symm
      rw [if_pos hl] at hsa
      have e : l ++ 10 :: r = (l ++ [10]) ++ r := by simp
      rw [hts, ← lexs_skip (l ++ 10 :: r) p, hsa]
      have e2 : (l ++ 10 :: r).drop (l.length + 1 + skp false r) = r.drop (skp false r) := by
        rw [← List.drop_drop, e, List.drop_left' (by simp)]
      rw [e2, show p + (l.length + 1 + skp false r) = (p + l.length + 1) + skp false r by omega, lexs_skip]
      cases lexs r (p + l.length + 1) <;> rfl
    · have hl : skp false l ≠ l.length := fun e => he (List.drop_of_length_le (by omega))
      rw [if_neg hl] at hsa
      by_cases hk : (cutL (l.drop (skp false l))).1 = 0
      · rw [lexs_bad l _ p rfl he hk] at h; cases h
      · have hb := cutL_bd _ hk
        rw [List.length_drop] at hb
        rw [lexs_tok l _ p rfl he hk] at h
        have hda : (l ++ 10 :: r).drop (skp false (l ++ 10 :: r)) = l.drop (skp false l) ++ 10 :: r := by
          rw [hsa, List.drop_append_of_le_length hs]
        have hca := cutL_app 10 (.inr rfl) (l.drop (skp false l)) r he
        rw [lexs_tok (l ++ 10 :: r) _ p hda (by simp) (by rw [hca]; exact hk), hca, hsa]
        have hd2 : (l.drop (skp false l) ++ 10 :: r).drop (cutL (l.drop (skp false l))).2 = (l.drop (skp false l)).drop (cutL (l.drop (skp false l))).2 ++ 10 :: r := by
          rw [List.drop_append_of_le_length (by rw [List.length_drop]; exact hb.2)]
        have ht2 : (l.drop (skp false l) ++ 10 :: r).take (cutL (l.drop (skp false l))).2 = (l.drop (skp false l)).take (cutL (l.drop (skp false l))).2 := by
          rw [List.take_append_of_le_length (by rw [List.length_drop]; exact hb.2)]
        rw [hd2, ht2]
        cases hr : lexs ((l.drop (skp false l)).drop (cutL (l.drop (skp false l))).2) (p + skp false l + (cutL (l.drop (skp false l))).2) with
        | error q => rw [hr] at h; cases h
        | ok us =>
          rw [hr] at h
          have hts := (Except.ok.inj h).symm
          have hlen : ((l.drop (skp false l)).drop (cutL (l.drop (skp false l))).2).length = l.length - skp false l - (cutL (l.drop (skp false l))).2 := by rw [List.length_drop, List.length_drop]
          match n, hn with
          | 0, hn => omega
          | n + 1, hn =>
            rw [lexs_two n _ r _ us (by rw [hlen]; omega) hr, hlen, hts]
            rw [show p + skp false l + (cutL (l.drop (skp false l))).2 + (l.length - skp false l - (cutL (l.drop (skp false l))).2) + 1 = p + l.length + 1 by omega]
            cases lexs r (p + l.length + 1) <;> simp [pre]

/-- the tokens' texts, a blank behind each -/
def again (ts : List Tok) : List UInt8 := ts.flatMap fun t => t.txt ++ [32]
/-- alone each is the token that it was -/
def Good (t : Tok) : Prop := cutL t.txt = (t.kind, t.txt.length) ∧ t.kind ≠ 0 ∧ skp false t.txt = 0 ∧ t.txt ≠ []
theorem skp_zero_head (c : UInt8) (r r' : List UInt8) (h : skp false (c :: r) = 0) : skp false (c :: r') = 0 := by
  rw [skp_false_cons] at h ⊢
  by_cases hb : blk c = true
  · rw [if_pos hb] at h; omega
  · rw [if_neg hb] at h ⊢
    by_cases hc : c.toNat = 35
    · rw [if_pos hc] at h; omega
    · rw [if_neg hc]
theorem good_of (l : List UInt8) (p : Nat) (hl : l ≠ []) (h0 : skp false l = 0) (hk : (cutL l).1 ≠ 0) : Good ⟨(cutL l).1, l.take (cutL l).2, p⟩ := by
  have hb := cutL_bd l hk
  have hlen : (l.take (cutL l).2).length = (cutL l).2 := by rw [List.length_take]; omega
  refine ⟨by show cutL (l.take (cutL l).2) = ((cutL l).1, (l.take (cutL l).2).length); rw [cutL_take l hk, hlen], hk, ?_, ?_⟩
  · show skp false (l.take (cutL l).2) = 0
    cases l with
    | nil => exact absurd rfl hl
    | cons c r =>
      obtain ⟨m, hm⟩ : ∃ m, (cutL (c :: r)).2 = m + 1 := ⟨(cutL (c :: r)).2 - 1, by omega⟩
      rw [hm, List.take_succ_cons]
      exact skp_zero_head c r _ h0
  · show l.take (cutL l).2 ≠ []
    intro e
    have := congrArg List.length e
    rw [hlen] at this
    simp at this
    omega
/-- from a place on: what lies between, the texts, and what is left -/
def Chain (l : List UInt8) : Nat → List Tok → Prop
  | p, [] => skp false (l.drop p) = (l.drop p).length
  | p, t :: ts => t.pos = p + skp false (l.drop p) ∧ Good t ∧ t.pos + t.txt.length ≤ l.length ∧ (l.drop t.pos).take t.txt.length = t.txt ∧ Chain l (t.pos + t.txt.length) ts
theorem tok_inv (l : List UInt8) (p : Nat) (ts : List Tok) (h : lexs (l.drop p) p = .ok ts) : (ts = [] ∧ (l.drop p).drop (skp false (l.drop p)) = []) ∨
    ∃ k m us, cutL (l.drop (p + skp false (l.drop p))) = (k, m) ∧ k ≠ 0 ∧ l.drop (p + skp false (l.drop p)) ≠ [] ∧ lexs (l.drop (p + skp false (l.drop p) + m)) (p + skp false (l.drop p) + m) = .ok us ∧ ts = ⟨k, (l.drop (p + skp false (l.drop p))).take m, p + skp false (l.drop p)⟩ :: us := by
  have hd : (l.drop p).drop (skp false (l.drop p)) = l.drop (p + skp false (l.drop p)) := List.drop_drop
  by_cases he : (l.drop p).drop (skp false (l.drop p)) = []
  · rw [lexs_end _ p he] at h
    exact .inl ⟨(Except.ok.inj h).symm, he⟩
  · rw [hd] at he
    obtain ⟨k, m, hkm⟩ : ∃ k m, cutL (l.drop (p + skp false (l.drop p))) = (k, m) := ⟨_, _, rfl⟩
    by_cases hk : k = 0
    · rw [lexs_bad _ _ p hd he (by rw [hkm]; exact hk)] at h; cases h
    · rw [lexs_tok _ _ p hd he (by rw [hkm]; exact hk), hkm] at h
      simp only [List.drop_drop] at h
      cases hr : lexs (l.drop (p + skp false (l.drop p) + m)) (p + skp false (l.drop p) + m) with
      | error q => rw [hr] at h; cases h
      | ok us =>
        rw [hr] at h
        exact .inr ⟨k, m, us, hkm, hk, he, hr, (Except.ok.inj h).symm⟩
theorem chain_of : ∀ (ts : List Tok) (l : List UInt8) (p : Nat), p ≤ l.length → lexs (l.drop p) p = .ok ts → Chain l p ts
  | [], l, p, hp, h => by
    have hs := skp_le false (l.drop p)
    rcases tok_inv l p [] h with ⟨_, he⟩ | ⟨k, m, us, _, _, _, _, hc⟩
    · have := congrArg List.length he
      rw [List.length_drop, List.length_nil] at this
      show skp false (l.drop p) = (l.drop p).length
      omega
    · cases hc
  | t :: ts, l, p, hp, h => by
    have hs := skp_le false (l.drop p)
    rw [List.length_drop] at hs
    rcases tok_inv l p (t :: ts) h with ⟨hc, _⟩ | ⟨k, m, us, hkm, hk, hne, hr, hc⟩
    · cases hc
    · obtain ⟨h1, h2⟩ := List.cons.inj hc
      have hb := cutL_bd (l.drop (p + skp false (l.drop p))) (by rw [hkm]; exact hk)
      rw [hkm, List.length_drop] at hb
      have h0 : skp false (l.drop (p + skp false (l.drop p))) = 0 := by
        have := skp_again false (l.drop p)
        rwa [List.drop_drop] at this
      have hg := good_of (l.drop (p + skp false (l.drop p))) (p + skp false (l.drop p)) hne h0 (by rw [hkm]; exact hk)
      rw [hkm] at hg
      have hlen : ((l.drop (p + skp false (l.drop p))).take m).length = m := by
        rw [List.length_take, List.length_drop]; omega
      subst h2
      subst h1
      refine ⟨rfl, hg, ?_, ?_, ?_⟩
      · simp only [hlen]; omega
      · simp only [hlen]
      · simp only [hlen]
        exact chain_of ts l _ (by omega) hr
/-- the texts again are the same tokens -/
theorem again_cons (t : Tok) (ts : List Tok) : again (t :: ts) = t.txt ++ 32 :: again ts := by simp [again]
theorem lexs_again : ∀ (ts : List Tok) (q : Nat), (∀ t ∈ ts, Good t) → ∃ us, lexs (again ts) q = .ok us ∧ us.map (fun t => (t.kind, t.txt)) = ts.map (fun t => (t.kind, t.txt))
  | [], q, _ => ⟨[], lexs_end _ q rfl, rfl⟩
  | t :: ts, q, h => by
    obtain ⟨g1, g2, g3, g4⟩ := h t (by simp)
    obtain ⟨us, h1, h2⟩ := lexs_again ts (q + t.txt.length + 1) (fun x hx => h x (by simp [hx]))
    have hc := cutL_app 32 (.inl rfl) t.txt (again ts) g4
    rw [g1] at hc
    have hsk : skp false (t.txt ++ 32 :: again ts) = 0 := by
      cases hx : t.txt with
      | nil => exact absurd hx g4
      | cons c r => rw [hx] at g3; exact skp_zero_head c r _ g3
    refine ⟨⟨t.kind, t.txt, q⟩ :: us, ?_, by simp [h2]⟩
    rw [again_cons, lexs_tok _ (t.txt ++ 32 :: again ts) q (by rw [hsk]; rfl) (by simp) (by rw [hc]; exact g2), hsk, hc]
    simp only [Nat.add_zero]
    rw [List.drop_left, List.take_left]
    have hp := lexs_passed [32] (again ts) (q + t.txt.length) (Passed.one (by decide))
    have e : [32] ++ again ts = 32 :: again ts := rfl
    rw [e] at hp
    rw [hp]
    simp only [List.length_singleton]
    rw [h1]
theorem chain_good (l : List UInt8) : ∀ (ts : List Tok) (p : Nat), Chain l p ts → ∀ t ∈ ts, Good t
  | [], _, _, t, ht => by simp at ht
  | x :: ts, p, h, t, ht => by
    rcases List.mem_cons.1 ht with rfl | ht
    · exact h.2.1
    · exact chain_good l ts _ h.2.2.2.2 t ht
theorem two_data (s t : ByteArray) : ((s ++ (⟨#[10]⟩ : ByteArray)) ++ t).data.toList = s.data.toList ++ 10 :: t.data.toList := by
  rw [app_any, app_any, List.append_assoc]; rfl
theorem two_size (s t : ByteArray) : ((s ++ (⟨#[10]⟩ : ByteArray)) ++ t).size = s.size + 1 + t.size := by
  rw [app_sz, app_sz]; exact Eq.refl _
theorem two_err (s t : ByteArray) (ts : List Tok) (q : Nat) (hl : s.size + 1 + t.size ≤ 65536) (h : lexs s.data.toList 0 = .ok ts) (ht : lexs t.data.toList 0 = .error q) : res ((s ++ (⟨#[10]⟩ : ByteArray)) ++ t).data.toList = ([], s.size + 1 + q, 63) := by
  have e := lexs_two s.data.toList.length s.data.toList t.data.toList 0 ts (Nat.le_refl _) h
  rw [show 0 + s.data.toList.length + 1 = 0 + (s.size + 1) by rw [Lib.size_eq]; omega, lexs_mov, ht] at e
  rw [two_data]
  refine res_err _ _ ?_ ?_
  · rw [← two_data, ← Lib.size_eq, two_size]; exact hl
  · rw [e]; show Except.error _ = Except.error _; congr 1; omega
theorem two_ok (s t : ByteArray) (ts ms : List Tok) (hl : s.size + 1 + t.size ≤ 65536) (h : lexs s.data.toList 0 = .ok ts) (ht : lexs t.data.toList 0 = .ok ms) : res ((s ++ (⟨#[10]⟩ : ByteArray)) ++ t).data.toList = (ts ++ ms.map (movT (s.size + 1)), 0, 0) := by
  have e := lexs_two s.data.toList.length s.data.toList t.data.toList 0 ts (Nat.le_refl _) h
  rw [show 0 + s.data.toList.length + 1 = 0 + (s.size + 1) by rw [Lib.size_eq]; omega, lexs_mov, ht] at e
  rw [two_data]
  refine res_ok _ _ ?_ ?_
  · rw [← two_data, ← Lib.size_eq, two_size]; exact hl
  · rw [e]; rfl
theorem again_step (ts : List Tok) (k : Nat) (t : Tok) (ht : ts[k]? = some t) : again (ts.take (k + 1)) = again (ts.take k) ++ (t.txt ++ [32]) := by
  rw [List.take_add_one, ht]; simp [again]
theorem again_app (a b : List Tok) : again (a ++ b) = again a ++ again b := by simp [again]
theorem again_take (ts : List Tok) (k : Nat) : (again (ts.take k)).length ≤ (again ts).length := by
  conv => rhs; rw [← List.take_append_drop k ts, again_app, List.length_append]
  omega
theorem lx_again : ∀ (f : Nat) (l : List UInt8) (p : Nat) (ts : List Tok), lx f l p = .ok ts → (again ts).length ≤ 2 * l.length
  | 0, l, p, ts, h => by unfold lx at h; cases h; simp [again]
  | f + 1, l, p, ts, h => by
    unfold lx at h
    by_cases h1 : l.drop (skp false l) = []
    · rw [if_pos h1] at h; cases h; simp [again]
    · rw [if_neg h1] at h
      by_cases h2 : (cutL (l.drop (skp false l))).1 = 0
      · rw [if_pos h2] at h; cases h
      · rw [if_neg h2] at h
        have hb := cutL_bd _ h2
        split at h
        · rename_i us hu
          have ih := lx_again f _ _ _ hu
          have hd : (l.drop (skp false l)).length = l.length - skp false l := List.length_drop
          have hd2 : ((l.drop (skp false l)).drop (cutL (l.drop (skp false l))).2).length = (l.drop (skp false l)).length - (cutL (l.drop (skp false l))).2 := List.length_drop
          cases h
          rw [again_cons, List.length_append, List.length_cons, List.length_take]
          omega
        · cases h
end Go.Proofs.YtfhmhplbkheojaaGreatDoor.Lx

namespace Go.Proofs.YtfhmhplbkheojaaGreatDoor.Pa
open Go Go.RowKit
open Go.Proofs.YtfhmhplbkheojaaGreatDoor.Lx Go.Proofs.YtfhmhplbkheojaaGreatDoor.Tr

theorem exL_g (g : Int → Int) (l : List Ex) : Ex.erL (egL g l) = Ex.erL l := by
  have key : ∀ n (l : List Ex), Ex.szL l ≤ n → Ex.erL (egL g l) = Ex.erL l := by
    intro n
    induction n with
    | zero =>
      intro l hl
      cases l with
      | nil => rw [egL_nil]
      | cons e r => obtain ⟨k, nm, m, a, cap, args, pos⟩ := e; rw [szEL_cons, szE_mk] at hl; omega
    | succ n ih =>
      intro l
      induction l with
      | nil => intro _; rw [egL_nil]
      | cons e r ihr =>
        intro hl
        obtain ⟨k, nm, m, a, cap, args, pos⟩ := e
        rw [szEL_cons, szE_mk] at hl
        rw [egL_cons, Ex.erL_cons, Ex.erL_cons, eg_eq, Ex.er_eq, Ex.er_eq, ih args (by omega), ihr (by omega)]
  exact key _ l (Nat.le_refl _)
theorem stL_g (g : Int → Int) (l : List St) : St.erL (sgL g l) = St.erL l := by
  have key : ∀ n (l : List St), St.szL l ≤ n → St.erL (sgL g l) = St.erL l := by
    intro n
    induction n with
    | zero =>
      intro l hl
      cases l with
      | nil => rw [sgL_nil]
      | cons e r => obtain ⟨k1, n1, t1, nw1, ea1, ec1, e1, ba1, bc1, b1, la1, lc1, l1, p1⟩ := e; rw [szSL_cons, szS_mk] at hl; omega
    | succ n ih =>
      intro l
      induction l with
      | nil => intro _; rw [sgL_nil]
      | cons e r ihr =>
        intro hl
        obtain ⟨k1, n1, t1, nw1, ea1, ec1, e1, ba1, bc1, b1, la1, lc1, l1, p1⟩ := e
        rw [szSL_cons, szS_mk] at hl
        rw [sgL_cons, St.erL_cons, St.erL_cons, sg_eq, St.er_eq, St.er_eq, exL_g, ih b1 (by omega), ih l1 (by omega), ihr (by omega)]
  exact key _ l (Nat.le_refl _)
theorem de_g (g : Int → Int) (d : De) : (dg g d).er = d.er := by
  unfold dg De.er
  simp only
  rw [stL_g]
theorem may_g (g : Int → Int) (l : List De) : mayP (l.map (dg g)) = mayP l := by
  refine mayP_of_er ?_
  unfold De.erL
  rw [List.map_map]
  exact List.map_congr_left fun d _ => de_g g d

def Tk.key (t : Tk) : Int × ByteArray := (t.kind, t.txt)
theorem tw_mk {g g' : Int → Int} {l l' : List Tk} (h1 : l'.map Tk.key = l.map Tk.key) (h2 : l'.map (fun t => g' t.pos) = l.map (fun t => g t.pos)) (h3 : ∀ i, l.length ≤ i + 1 → tx l i = ⟨#[]⟩ ∧ kd l i = 0) (h4 : ∀ i, kd l i = 2 → (tx l i).data.toList.head? ≠ some 45) : Tw g g' l l' := by
  have hx : ∀ (l : List Tk) i, tx l i = (((l.map Tk.key)[i]?).map Prod.snd).getD ⟨#[]⟩ := fun l i => by
    unfold tx; rw [List.getElem?_map, Option.map_map]; rfl
  have hk : ∀ (l : List Tk) i, kd l i = (((l.map Tk.key)[i]?).map Prod.fst).getD 0 := fun l i => by
    unfold kd; rw [List.getElem?_map, Option.map_map]; rfl
  have hl : l'.length = l.length := by have := congrArg List.length h1; simpa using this
  refine ⟨hl, fun i => by rw [hx, hx, h1], fun i => by rw [hk, hk, h1], fun i hi => ?_, h3, h4⟩
  have hi' : i < l'.length := by omega
  have e := congrArg (fun x => x[i]?) h2
  simp only [List.getElem?_map] at e
  unfold ps
  rw [List.getElem?_eq_getElem hi] at e ⊢
  rw [List.getElem?_eq_getElem hi'] at e ⊢
  simpa using e
theorem toks_last (ts : List Tok) (p : Nat) : ∀ i, (toks ts p).length ≤ i + 1 → tx (toks ts p) i = ⟨#[]⟩ ∧ kd (toks ts p) i = 0 := by
  intro i hi
  have hl : (toks ts p).length = ts.length + 1 := by unfold toks; simp
  unfold tx kd
  by_cases h : i = ts.length
  · have : (toks ts p)[i]? = some ⟨0, ⟨#[]⟩, (p : Int)⟩ := by
      unfold toks
      rw [List.getElem?_append_right (by rw [List.length_map]; omega), List.length_map, show i - ts.length = 0 by omega]; rfl
    rw [this]; exact ⟨rfl, rfl⟩
  · rw [List.getElem?_eq_none (by omega)]; exact ⟨rfl, rfl⟩
theorem good_num {t : Tok} (h : Lx.Good t) (hk : t.kind = 2) : t.txt.head? ≠ some 45 := by
  obtain ⟨h1, _, _, _⟩ := h
  intro e
  cases ht : t.txt with
  | nil => rw [ht] at e; cases e
  | cons c r =>
    rw [ht] at e h1
    cases e
    rw [hk, cutL_cons] at h1
    have b1 : bgn 45 = false := by decide
    have b2 : dgt 45 = false := by decide
    rw [b1, b2] at h1
    simp only [Bool.false_eq_true, if_false] at h1
    split at h1
    · cases h1
    · cases h1
theorem toks_num {ts : List Tok} (hg : ∀ t ∈ ts, Lx.Good t) (p : Nat) : ∀ i, kd (toks ts p) i = 2 → (tx (toks ts p) i).data.toList.head? ≠ some 45 := by
  intro i hk
  unfold kd at hk
  unfold tx
  cases hi : (toks ts p)[i]? with
  | none => rw [hi] at hk; cases hk
  | some t =>
    rw [hi] at hk
    simp only [Option.map_some, Option.getD_some] at hk ⊢
    have hm := List.mem_of_getElem? hi
    simp only [toks, List.mem_append, List.mem_map, List.mem_singleton] at hm
    rcases hm with ⟨u, hu, rfl⟩ | rfl
    · have : u.kind = 2 := by have : (u.kind : Int) = 2 := hk; omega
      have := good_num (hg u hu) this
      simpa [tkOf] using this
    · exact absurd (show (0 : Int) = 2 from hk) (by decide)
theorem toks_tw {g g' : Int → Int} {ts ts' : List Tok} {p p' : Nat} (hg : ∀ t ∈ ts, Lx.Good t) (h1 : ts'.map (fun t => (t.kind, t.txt)) = ts.map (fun t => (t.kind, t.txt))) (h2 : ts'.map (fun t => g' (t.pos : Int)) = ts.map (fun t => g (t.pos : Int))) (h3 : g' (p' : Int) = g (p : Int)) :
    Tw g g' (toks ts p) (toks ts' p') := by
  refine tw_mk ?_ ?_ (toks_last ts p) (toks_num hg p)
  · unfold toks
    rw [List.map_append, List.map_append, List.map_map, List.map_map]
    congr 1
    have e : ∀ us : List Tok, us.map (Tk.key ∘ tkOf) = (us.map (fun t => (t.kind, t.txt))).map (fun x : Nat × List UInt8 => ((x.1 : Int), (⟨x.2.toArray⟩ : ByteArray))) := fun us => by
      rw [List.map_map]; rfl
    rw [e, e, h1]
  · unfold toks
    rw [List.map_append, List.map_append, List.map_map, List.map_map]
    have e : ∀ (G : Int → Int) (us : List Tok), us.map ((fun t : Tk => G t.pos) ∘ tkOf) = us.map (fun t => G (t.pos : Int)) := fun G us => rfl
    rw [e, e, h2]
    simp only [List.map_cons, List.map_nil, h3]
theorem readR_lk {g g' : Int → Int} {ts ts' : List Tok} {p p' : Nat} (hg : ∀ t ∈ ts, Lx.Good t) (h1 : ts'.map (fun t => (t.kind, t.txt)) = ts.map (fun t => (t.kind, t.txt))) (h2 : ts'.map (fun t => g' (t.pos : Int)) = ts.map (fun t => g (t.pos : Int))) (h3 : g' (p' : Int) = g (p : Int)) :
    Lk g g' (toks ts p).length (XDL g g') (readR ts p) (readR ts' p') := by
  have H := toks_tw hg h1 h2 h3
  have hl : (toks ts p).length = ts.length + 1 := by unfold toks; simp
  unfold readR
  rw [H.len]
  exact declsR_lk H _ [] [] 0 (by omega) (by omega) ⟨rfl, fun x hx => by cases hx⟩

/-- two answers of Parse, alike but for places -/
def PLk (g g' : Int → Int) (r r' : List De × Int × Int) : Prop :=
  (∃ ds ds', r = (ds, 0, 0) ∧ r' = (ds', 0, 0) ∧ XDL g g' ds ds') ∨ (r = ([], 0, 40) ∧ r' = ([], 0, 40)) ∨ (∃ p p', r = ([], p, 63) ∧ r' = ([], p', 63) ∧ g' p' = g p)
theorem parseP_of {s : ByteArray} {ts : List Tok} (h : res s.data.toList = (ts, 0, 0)) : parseP s = match readR ts s.size with | .bad p => ([], p, 63) | .ok ds _ => if mayP ds = true then (ds, 0, 0) else ([], 0, 40) := by
  unfold parseP
  rw [h]
  simp only
  rw [if_pos trivial]
  cases readR ts s.size <;> rfl
theorem res_lexs {l : List UInt8} {ts : List Tok} {q : Nat} (h : res l = (ts, q, 0)) : lexs l 0 = .ok ts := by
  unfold res at h
  split at h
  · cases h
  · split at h
    · rename_i us hu; cases h; exact hu
    · cases h
theorem res_good {l : List UInt8} {ts : List Tok} {q : Nat} (h : res l = (ts, q, 0)) : ∀ t ∈ ts, Lx.Good t :=
  chain_good l ts 0 (chain_of ts l 0 (Nat.zero_le _) (by rw [List.drop_zero]; exact res_lexs h))
theorem parseP_lk {g g' : Int → Int} {s s' : ByteArray} {ts ts' : List Tok} (hs : res s.data.toList = (ts, 0, 0)) (hs' : res s'.data.toList = (ts', 0, 0))
    (h1 : ts'.map (fun t => (t.kind, t.txt)) = ts.map (fun t => (t.kind, t.txt))) (h2 : ts'.map (fun t => g' (t.pos : Int)) = ts.map (fun t => g (t.pos : Int))) (h3 : g' (s'.size : Int) = g (s.size : Int)) :
    PLk g g' (parseP s) (parseP s') := by
  rw [parseP_of hs, parseP_of hs']
  have q := readR_lk (res_good hs) h1 h2 h3
  revert q
  generalize readR ts s.size = r
  generalize readR ts' s'.size = r'
  intro q
  rcases r with ⟨e, j⟩ | p <;> rcases r' with ⟨e', j'⟩ | p' <;> first | exact q.elim | skip
  · obtain ⟨_, _, q2⟩ := q
    have hm : mayP e' = mayP e := by
      rw [← may_g g' e', ← may_g g e]
      rw [q2.1]
    simp only
    rw [hm]
    by_cases h : mayP e = true
    · rw [if_pos h, if_pos h]
      exact Or.inl ⟨e, e', rfl, rfl, q2⟩
    · rw [if_neg h, if_neg h]
      exact Or.inr (Or.inl ⟨rfl, rfl⟩)
  · exact Or.inr (Or.inr ⟨p, p', rfl, rfl, q⟩)
/-- a text's answer is that of the text behind what is passed, each place farther on -/
theorem parseP_ahead {I : List UInt8} (hI : Passed I) {s s' : ByteArray} (he : s'.data.toList = I ++ s.data.toList) (hl : I.length + s.size ≤ 65536) :
    PLk (fun x => x + (I.length : Int)) (fun x => x) (parseP s) (parseP s') := by
  have hsz : s'.size = I.length + s.size := by rw [Lib.size_eq, he, List.length_append, Lib.size_eq]
  have hl' : I.length + s.data.toList.length ≤ 65536 := by rw [← Lib.size_eq]; exact hl
  cases hx : lexs s.data.toList 0 with
  | ok ts =>
    have a := Lx.res_ok s.data.toList ts (by omega) hx
    have b := ahead_ok I s.data.toList ts hI hl' hx
    rw [← he] at b
    refine parseP_lk a b ?_ ?_ ?_
    · rw [List.map_map]; rfl
    · rw [List.map_map]
      refine List.map_congr_left fun t _ => ?_
      show ((t.pos + I.length : Nat) : Int) = (t.pos : Int) + (I.length : Int)
      omega
    · rw [hsz]; omega
  | error q =>
    have a := res_err s.data.toList q (by omega) hx
    have b := ahead_err I s.data.toList q hI hl' hx
    rw [← he] at b
    refine Or.inr (Or.inr ⟨(q : Int), ((q + I.length : Nat) : Int), ?_, ?_, by simp only; omega⟩)
    · unfold parseP; rw [a]; rfl
    · unfold parseP; rw [b]; rfl
/-- a text's tokens, a blank behind each, are the same program -/
theorem parseP_again {s s' : ByteArray} {ts : List Tok} (h : res s.data.toList = (ts, 0, 0)) (he : s'.data.toList = again ts) (hl : s'.size ≤ 65536) :
    PLk (fun _ => 0) (fun _ => 0) (parseP s) (parseP s') := by
  obtain ⟨us, hu, hk⟩ := lexs_again ts 0 (res_good h)
  rw [← he] at hu
  have b := Lx.res_ok s'.data.toList us (by rw [← Lib.size_eq]; exact hl) hu
  refine parseP_lk h b hk ?_ rfl
  have hlen : us.length = ts.length := by have := congrArg List.length hk; simpa using this
  rw [List.map_const', List.map_const', hlen]
end Go.Proofs.YtfhmhplbkheojaaGreatDoor.Pa
