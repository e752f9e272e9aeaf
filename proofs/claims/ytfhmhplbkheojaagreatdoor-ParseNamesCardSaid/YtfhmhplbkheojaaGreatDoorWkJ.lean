/- 2,000 brackets within one another are read. Conditions: none. -/
import Derived.Test.YtfhmhplbkheojaaGreatDoorWkG
namespace Go.Proofs.YtfhmhplbkheojaaGreatDoor.Pa
open Go Go.RowKit
open Go.Proofs.YtfhmhplbkheojaaGreatDoor.Lx Go.Proofs.YtfhmhplbkheojaaGreatDoor.Tr

def tksAt (c : UInt8) : Nat → Nat → List Tok
  | 0, _ => []
  | n + 1, p => ⟨3, [c], p⟩ :: tksAt c n (p + 1)
theorem repL_one (c : UInt8) : ∀ n, repL (n + 1) [c] = c :: repL n [c] := by
  intro n; unfold repL; rw [List.replicate_succ]; rfl
theorem pre_cons (t : Tok) (acc : List Tok) (x : Except Nat (List Tok)) : pre (t :: acc) x = (match pre acc x with | .ok ts => .ok (t :: ts) | .error q => .error q) := by
  cases x <;> rfl
theorem lexs_par (c : UInt8) (hc : c = 40 ∨ c = 41) (y : List UInt8) : ∀ n p, lexs (repL n [c] ++ y) p = pre (tksAt c n p) (lexs y (p + n))
  | 0, p => by
    have : repL 0 [c] = [] := rfl
    rw [this, List.nil_append, Nat.add_zero]
    cases lexs y p <;> rfl
  | n + 1, p => by
    rw [repL_one, List.cons_append]
    have h1 : (cutL (c :: (repL n [c] ++ y))) = (3, 1) := by rcases hc with rfl | rfl <;> rfl
    have h2 : skp false (c :: (repL n [c] ++ y)) = 0 := by rcases hc with rfl | rfl <;> rfl
    rw [lexs_tok _ (c :: (repL n [c] ++ y)) p (by rw [h2]; rfl) (by simp) (by rw [h1]; simp), h1, h2]
    have h3 : List.drop 1 (c :: (repL n [c] ++ y)) = repL n [c] ++ y := rfl
    simp only [h3, Nat.add_zero]
    rw [lexs_par c hc y n (p + 1), tksAt, pre_cons, show p + 1 + n = p + (n + 1) by omega]
    rfl
def T4 : List Tok := [⟨1, [116, 104, 114, 101, 97, 100], 0⟩, ⟨1, [116], 7⟩, ⟨3, [123], 8⟩, ⟨1, [112, 114, 105, 110, 116], 9⟩]
theorem lexs_one (l l1 : List UInt8) (p k m q : Nat) (h2 : skp false l = m) (h1 : l.drop m = l1) (h : l1 ≠ []) (hc : cutL l1 = (k, q)) (hk : k ≠ 0) :
    lexs l p = pre [⟨k, l1.take q, p + m⟩] (lexs (l1.drop q) (p + m + q)) := by
  rw [lexs_tok l l1 p (by rw [h2]; exact h1) h (by rw [hc]; exact hk), hc, h2]
  cases lexs (l1.drop q) (p + m + q) <;> rfl
theorem pre_pre (a b : List Tok) (x : Except Nat (List Tok)) : pre a (pre b x) = pre (a ++ b) x := by
  cases x with
  | ok t => simp [pre]
  | error q => rfl
theorem lexs_head (y : List UInt8) (hy : skp false (32 :: 40 :: y) = 1) : lexs (preL ++ (40 :: y)) 0 = pre T4 (lexs (40 :: y) 15) := by
  rw [lexs_one (preL ++ (40 :: y)) (preL ++ (40 :: y)) 0 1 0 6 (by rfl) rfl (by simp [preL]) (by rfl) (by decide)]
  rw [lexs_one (List.drop 6 (preL ++ (40 :: y))) (List.drop 7 (preL ++ (40 :: y))) _ 1 1 1 (by rfl) rfl (by simp [preL]) (by rfl) (by decide), pre_pre]
  rw [lexs_one (List.drop 1 (List.drop 7 (preL ++ (40 :: y)))) (List.drop 8 (preL ++ (40 :: y))) _ 3 0 1 (by rfl) rfl (by simp [preL]) (by rfl) (by decide), pre_pre]
  rw [lexs_one (List.drop 1 (List.drop 8 (preL ++ (40 :: y)))) (List.drop 9 (preL ++ (40 :: y))) _ 1 0 5 (by rfl) rfl (by simp [preL]) (by rfl) (by decide), pre_pre]
  rw [show List.drop 5 (List.drop 9 (preL ++ (40 :: y))) = 32 :: 40 :: y from rfl, ← lexs_skip, hy]
  rfl
theorem lexs_tail (p : Nat) : lexs [59, 125] p = .ok [⟨3, [59], p⟩, ⟨3, [125], p + 1⟩] := by
  rw [lexs_one [59, 125] [59, 125] p 3 0 1 (by rfl) rfl (by simp) (by rfl) (by decide)]
  rw [show List.drop 1 [59, 125] = ([125] : List UInt8) from rfl, lexs_one [125] [125] _ 3 0 1 (by rfl) rfl (by simp) (by rfl) (by decide), pre_pre]
  rw [lexs_end _ _ (by rfl)]
  rfl
theorem lexs_deep (n : Nat) : lexs (preL ++ repL (n + 1) [40] ++ [49] ++ repL (n + 1) [41] ++ [59, 125]) 0 = .ok (T4 ++ tksAt 40 (n + 1) 15 ++ [⟨2, [49], 15 + (n + 1)⟩] ++ tksAt 41 (n + 1) (15 + (n + 1) + 1) ++ [⟨3, [59], 15 + (n + 1) + 1 + (n + 1)⟩, ⟨3, [125], 15 + (n + 1) + 1 + (n + 1) + 1⟩]) := by
  have h0 : preL ++ repL (n + 1) [40] ++ [49] ++ repL (n + 1) [41] ++ [59, 125] = preL ++ (40 :: (repL n [40] ++ ([49] ++ (repL (n + 1) [41] ++ [59, 125])))) := by
    rw [repL_one 40]; simp
  rw [h0, lexs_head _ (by rfl), ← List.cons_append, ← repL_one, lexs_par 40 (Or.inl rfl), pre_pre]
  rw [lexs_one ([49] ++ (repL (n + 1) [41] ++ [59, 125])) ([49] ++ (repL (n + 1) [41] ++ [59, 125])) _ 2 0 1 (by rfl) rfl (by simp) (by rw [repL_one]; rfl) (by decide), pre_pre]
  rw [show List.drop 1 ([49] ++ (repL (n + 1) [41] ++ [59, 125])) = repL (n + 1) [41] ++ [59, 125] from rfl, lexs_par 41 (Or.inr rfl), pre_pre, lexs_tail]
  rfl

/-! ### the parser at so many brackets -/
theorem bracket_step (l : List Tk) (f i j : Nat) (e : Ex) (h1 : tx l i = ⟨#[40]⟩) (h2 : kd l i ≠ 2) (h3 : joinedP l f 1 (i + 1) = some (.ok e j)) (h4 : tx l j = ⟨#[41]⟩) (h5 : (opr (tx l (j + 1))).binds = 0) : joinedP l (f + 3) 1 i = some (.ok e (j + 1)) := by
  have ha : atomP l (f + 1) i = some (.ok e (j + 1)) := by
    unfold atomP
    rw [if_neg h2, if_neg (by rw [h1]; decide), if_neg (by rw [h1]; decide), if_pos h1, h3]
    simp only [h4, if_true]
  have hu : unaryP l (f + 2) i = some (.ok e (j + 1)) := by
    unfold unaryP
    rw [if_neg (by rw [h1]; decide), if_neg (by rw [h1]; decide), ha]
  unfold joinedP
  rw [hu]
  simp only []
  unfold loopP
  rw [if_pos (Or.inl (by rw [h5]; decide))]
theorem number_base (l : List Tk) (f i : Nat) (h1 : tx l i = ⟨#[49]⟩) (h2 : kd l i = 2) (h5 : (opr (tx l (i + 1))).binds = 0) : joinedP l (f + 3) 1 i = some (.ok (.mk 1 ⟨#[]⟩ 1 none 0 [] (ps l i)) (i + 1)) := by
  have hn : numR l i ⟨#[]⟩ = .ok 1 (i + 1) := by
    unfold numR
    rw [h1, show Lib.parseIntB 64 ((⟨#[]⟩ : ByteArray).data.toList ++ (⟨#[49]⟩ : ByteArray).data.toList) = .ok 1 from by rfl]
    simp only [h2, if_true]
  have ha : atomP l (f + 1) i = some (.ok (.mk 1 ⟨#[]⟩ 1 none 0 [] (ps l i)) (i + 1)) := by
    unfold atomP
    rw [if_pos h2, hn]
  have hu : unaryP l (f + 2) i = some (.ok (.mk 1 ⟨#[]⟩ 1 none 0 [] (ps l i)) (i + 1)) := by
    unfold unaryP
    rw [if_neg (by rw [h1]; decide), if_neg (by rw [h1]; decide), ha]
  unfold joinedP
  rw [hu]
  simp only []
  unfold loopP
  rw [if_pos (Or.inl (by rw [h5]; decide))]
theorem brackets (l : List Tk) (i0 N : Nat) (hA : ∀ k < N, tx l (i0 + k) = ⟨#[40]⟩ ∧ kd l (i0 + k) ≠ 2) (hB : tx l (i0 + N) = ⟨#[49]⟩ ∧ kd l (i0 + N) = 2) (hC : ∀ k < N, tx l (i0 + N + 1 + k) = ⟨#[41]⟩) (hD : tx l (i0 + N + 1 + N) = ⟨#[59]⟩) :
    ∀ x n, n ≤ N → joinedP l (3 * n + x + 3) 1 (i0 + N - n) = some (.ok (.mk 1 ⟨#[]⟩ 1 none 0 [] (ps l (i0 + N))) (i0 + N + 1 + n)) := by
  have hop : ∀ k ≤ N, (opr (tx l (i0 + N + 1 + k))).binds = 0 := by
    intro k hk
    by_cases h : k < N
    · rw [hC k h]; rfl
    · rw [show k = N by omega, hD]; rfl
  intro x n
  induction n with
  | zero => intro _; exact number_base l (3 * 0 + x) (i0 + N) hB.1 hB.2 (hop 0 (by omega))
  | succ m ih =>
    intro hm
    have h0 := ih (by omega)
    have hi : i0 + N - m = i0 + N - (m + 1) + 1 := by omega
    rw [hi] at h0
    have hk := hA (N - (m + 1)) (by omega)
    rw [show i0 + (N - (m + 1)) = i0 + N - (m + 1) by omega] at hk
    rw [show 3 * (m + 1) + x + 3 = 3 * m + x + 3 + 3 by omega]
    exact bracket_step l (3 * m + x + 3) (i0 + N - (m + 1)) (i0 + N + 1 + m) _ hk.1 hk.2 h0 (hC m (by omega)) (hop (m + 1) (by omega))

/-! ### the whole text -/
theorem tksAt_len (c : UInt8) : ∀ n p, (tksAt c n p).length = n
  | 0, _ => rfl
  | n + 1, p => by rw [tksAt, List.length_cons, tksAt_len c n]
theorem tksAt_get (c : UInt8) : ∀ n p k, k < n → (tksAt c n p)[k]? = some ⟨3, [c], p + k⟩
  | 0, _, _, h => by omega
  | n + 1, p, 0, _ => rfl
  | n + 1, p, k + 1, h => by
    rw [tksAt, List.getElem?_cons_succ, tksAt_get c n (p + 1) k (by omega), show p + 1 + k = p + (k + 1) by omega]
def deepTs (N : Nat) : List Tok := T4 ++ tksAt 40 N 15 ++ [⟨2, [49], 15 + N⟩] ++ tksAt 41 N (15 + N + 1) ++ [⟨3, [59], 15 + N + 1 + N⟩, ⟨3, [125], 15 + N + 1 + N + 1⟩]
theorem deepTs_len (N : Nat) : (deepTs N).length = 2 * N + 7 := by
  unfold deepTs T4; simp only [List.length_append, tksAt_len, List.length_cons, List.length_nil]; omega
theorem toks_get (ts : List Tok) (p i : Nat) (t : Tok) (h : ts[i]? = some t) : (toks ts p)[i]? = some (tkOf t) := by
  unfold toks
  have hl := (List.getElem?_eq_some_iff.1 h).1
  rw [List.getElem?_append_left (by rw [List.length_map]; exact hl), List.getElem?_map, h]; rfl
theorem get_mid (A : List Tok) (x : Tok) (Z : List Tok) (i : Nat) (h : i = A.length) : (A ++ x :: Z)[i]? = some x := by
  subst h; rw [List.getElem?_append_right (Nat.le_refl _), Nat.sub_self]; rfl
theorem deep_a (N i : Nat) (t : Tok) (h : T4[i]? = some t) : (deepTs N)[i]? = some t := by
  have hl := (List.getElem?_eq_some_iff.1 h).1
  unfold deepTs
  rw [List.append_assoc, List.append_assoc, List.append_assoc, List.getElem?_append_left hl, h]
theorem deep_b (N k : Nat) (h : k < N) : (deepTs N)[4 + k]? = some ⟨3, [40], 15 + k⟩ := by
  unfold deepTs
  rw [List.append_assoc, List.append_assoc, List.append_assoc, List.getElem?_append_right (by simp [T4]), show 4 + k - T4.length = k by simp [T4], List.getElem?_append_left (by rw [tksAt_len]; exact h), tksAt_get _ _ _ _ h]
theorem deep_c (N : Nat) : (deepTs N)[4 + N]? = some ⟨2, [49], 15 + N⟩ := by
  unfold deepTs
  rw [List.append_assoc, List.append_assoc, List.singleton_append]
  exact get_mid _ _ _ _ (by rw [List.length_append, tksAt_len]; rfl)
theorem deep_d (N k : Nat) (h : k < N) : (deepTs N)[4 + N + 1 + k]? = some ⟨3, [41], 15 + N + 1 + k⟩ := by
  unfold deepTs
  have hl : (T4 ++ tksAt 40 N 15 ++ [(⟨2, [49], 15 + N⟩ : Tok)]).length = 4 + N + 1 := by
    simp only [List.length_append, tksAt_len]; rfl
  rw [List.append_assoc (T4 ++ tksAt 40 N 15 ++ [_]), List.getElem?_append_right (by rw [hl]; omega), hl, show 4 + N + 1 + k - (4 + N + 1) = k by omega, List.getElem?_append_left (by rw [tksAt_len]; exact h), tksAt_get _ _ _ _ h]
theorem deep_e (N : Nat) : (deepTs N)[4 + N + 1 + N]? = some ⟨3, [59], 15 + N + 1 + N⟩ ∧ (deepTs N)[4 + N + 1 + N + 1]? = some ⟨3, [125], 15 + N + 1 + N + 1⟩ := by
  unfold deepTs
  have hl : (T4 ++ tksAt 40 N 15 ++ [(⟨2, [49], 15 + N⟩ : Tok)] ++ tksAt 41 N (15 + N + 1)).length = 4 + N + 1 + N := by
    simp only [List.length_append, tksAt_len]; rfl
  constructor
  · exact get_mid _ _ _ _ hl.symm
  · rw [List.getElem?_append_right (by rw [hl]; omega), hl, show 4 + N + 1 + N + 1 - (4 + N + 1 + N) = 1 by omega]; rfl
theorem may_one (p q r : Int) : mayP [deE 5 ⟨#[116]⟩ 0 [] [stAt r (stE 7 noB noB false [.mk 1 ⟨#[]⟩ 1 none 0 [] p] [] [])] q] = true := by
  rw [mayP_of_er (c := [deE 5 ⟨#[116]⟩ 0 [] [stAt 0 (stE 7 noB noB false [.mk 1 ⟨#[]⟩ 1 none 0 [] 0] [] [])] 0]) (by simp [De.erL, De.er, deE, stAt, stE, St.erL, St.er, Ex.erL, Ex.er])]
  kernel_rfl
theorem readDeep (N p : Nat) : ∃ a b c, readR (deepTs N) p = .ok [deE 5 ⟨#[116]⟩ 0 [] [stAt a (stE 7 noB noB false [.mk 1 ⟨#[]⟩ 1 none 0 [] b] [] [])] c] (2 * N + 7) := by
  have hlen : (toks (deepTs N) p).length = 2 * N + 8 := by unfold toks; rw [List.length_append, List.length_map, deepTs_len]; rfl
  have ht : ∀ i t, (deepTs N)[i]? = some t → tx (toks (deepTs N) p) i = (tkOf t).txt ∧ kd (toks (deepTs N) p) i = (tkOf t).kind := fun i t h => ⟨tx_of (toks_get _ p i t h), kd_of (toks_get _ p i t h)⟩
  have t0 := ht 0 _ (deep_a N 0 _ rfl)
  have t1 := ht 1 _ (deep_a N 1 _ rfl)
  have t2 := ht 2 _ (deep_a N 2 _ rfl)
  have t3 := ht 3 _ (deep_a N 3 _ rfl)
  have tA : ∀ k < N, tx (toks (deepTs N) p) (4 + k) = ⟨#[40]⟩ ∧ kd (toks (deepTs N) p) (4 + k) ≠ 2 := by
    intro k hk
    have := ht _ _ (deep_b N k hk)
    refine ⟨this.1, ?_⟩
    rw [this.2]; simp [tkOf]
  have tB := ht _ _ (deep_c N)
  have tC : ∀ k < N, tx (toks (deepTs N) p) (4 + N + 1 + k) = ⟨#[41]⟩ := fun k hk => (ht _ _ (deep_d N k hk)).1
  have tD := ht _ _ (deep_e N).1
  have tE := ht _ _ (deep_e N).2
  unfold readR
  generalize toks (deepTs N) p = l at *
  have hb := brackets l 4 N tA ⟨tB.1, tB.2⟩ tC tD.1 (5 * N + 33) N (Nat.le_refl _)
  rw [show 3 * N + (5 * N + 33) + 3 = FU l by unfold FU; omega, show 4 + N - N = 4 by omega] at hb
  have he : exprR l 4 = .ok (.mk 1 ⟨#[]⟩ 1 none 0 [] (ps l (4 + N))) (4 + N + 1 + N) := by unfold exprR; rw [hb]; rfl
  have h7 : toldR l 7 4 = .ok (stE 7 noB noB false [.mk 1 ⟨#[]⟩ 1 none 0 [] (ps l (4 + N))] [] []) (4 + N + 1 + N + 1) := by
    have hD : tx l (4 + N + 1 + N) = ⟨#[59]⟩ := tD.1
    have hk : takeR l (4 + N + 1 + N) ⟨#[59]⟩ = .ok () (4 + N + 1 + N + 1) := by
      unfold takeR
      rw [if_pos hD]
    unfold toldR
    rw [he]
    simp only [Res.bind]
    rw [hk]
  have hs : ∀ f, stmtR l (f + 1) 3 = .ok (stAt (ps l 3) (stE 7 noB noB false [.mk 1 ⟨#[]⟩ 1 none 0 [] (ps l (4 + N))] [] [])) (4 + N + 1 + N + 1) := by
    intro f
    have h3 : tx l 3 = wPrint := t3.1
    unfold stmtR
    rw [h3, if_neg (by decide), if_neg (by decide), if_neg (by decide), if_neg (by decide), if_pos rfl, h7]
    rfl
  have hss : ∀ f, stmtsR l (f + 2) [] 3 = .ok [stAt (ps l 3) (stE 7 noB noB false [.mk 1 ⟨#[]⟩ 1 none 0 [] (ps l (4 + N))] [] [])] (4 + N + 1 + N + 2) := by
    intro f
    have h3 : tx l 3 = wPrint := t3.1
    have hE : tx l (4 + N + 1 + N + 1) = ⟨#[125]⟩ := tE.1
    unfold stmtsR
    rw [if_neg (by rw [h3]; decide), hs f]
    simp only [Res.bind, List.nil_append]
    unfold stmtsR
    rw [if_pos hE]
  have hd : declR l 0 = .ok (deE 5 ⟨#[116]⟩ 0 [] [stAt (ps l 3) (stE 7 noB noB false [.mk 1 ⟨#[]⟩ 1 none 0 [] (ps l (4 + N))] [] [])] (ps l 0)) (4 + N + 1 + N + 2) := by
    have h0 : tx l 0 = wThread := t0.1
    have hn : nameR l (0 + 1) = .ok ⟨#[116]⟩ 2 := by
      unfold nameR
      rw [show tx l (0 + 1) = ⟨#[116]⟩ from t1.1, if_pos (by rfl)]
    have hk : takeR l 2 ⟨#[123]⟩ = .ok () 3 := by
      have h2 : tx l 2 = ⟨#[123]⟩ := t2.1
      unfold takeR
      rw [if_pos h2]
    unfold declR
    rw [h0, if_neg (by decide), if_neg (by decide), if_neg (by decide), if_neg (by decide), if_pos rfl, hn]
    simp only [Res.bind]
    unfold blockR
    rw [hk]
    simp only [Res.bind]
    rw [show SF l = 2 * l.length + 2 + 2 by unfold SF; omega, hss]
  refine ⟨ps l 3, ps l (4 + N), ps l 0, ?_⟩
  rw [hlen, show 2 * N + 8 + 1 = 2 * N + 7 + 1 + 1 by omega]
  unfold declsR
  rw [if_pos (by omega), hd]
  simp only [Res.bind, List.nil_append]
  unfold declsR
  rw [if_neg (by omega), show 4 + N + 1 + N + 2 = 2 * N + 7 by omega]
theorem deep_n (m n : Nat) (hm : m = n + 1) (hn : n ≤ 10000) : (parseP ⟨⟨preL ++ repL m [40] ++ [49] ++ repL m [41] ++ [59, 125]⟩⟩).2.2 = 0 := by
  subst hm
  have hl : lexs (preL ++ repL (n + 1) [40] ++ [49] ++ repL (n + 1) [41] ++ [59, 125]) 0 = .ok (deepTs (n + 1)) := lexs_deep n
  have hlen : ∀ c k, (repL k [c]).length = k := by
    intro c k
    induction k with
    | zero => rfl
    | succ k ih => rw [repL_one, List.length_cons, ih]
  have hp : preL.length = 15 := rfl
  have hz : (preL ++ repL (n + 1) [40] ++ [49] ++ repL (n + 1) [41] ++ [59, 125]).length ≤ 65536 := by
    simp only [List.length_append, hlen, hp, List.length_cons, List.length_nil]; omega
  generalize preL ++ repL (n + 1) [40] ++ [49] ++ repL (n + 1) [41] ++ [59, 125] = t at *
  have hr : res t = (deepTs (n + 1), 0, 0) := by unfold res; rw [if_neg (by omega), hl]
  obtain ⟨a, b, c, h⟩ := readDeep (n + 1) (⟨⟨t⟩⟩ : ByteArray).size
  unfold parseP
  rw [show (⟨⟨t⟩⟩ : ByteArray).data.toList = t from rfl, hr]
  simp only [if_true]
  rw [h]
  simp only []
  rw [if_pos (may_one b c a)]
theorem deep : Deep := deep_n 2000 1999 rfl (by decide)
end Go.Proofs.YtfhmhplbkheojaaGreatDoor.Pa
