/- What Parse answers of 'thread t{print e;}' and of 'thread t{print (e', a line's end, ');}'. Conditions: the text is not too long. -/
import Derived.Test.YtfhmhplbkheojaaGreatDoorGrAZ
namespace Go.Proofs.YtfhmhplbkheojaaGreatDoor.Pa
open Go Go.RowKit
open Go.Proofs.YtfhmhplbkheojaaGreatDoor.Lx Go.Proofs.YtfhmhplbkheojaaGreatDoor.Tr

def hdL : List UInt8 := [116, 104, 114, 101, 97, 100, 32, 116, 123, 112, 114, 105, 110, 116, 32]
theorem lex_one (l l1 : List UInt8) (p k m q : Nat) (h2 : skp false l = m) (h1 : l.drop m = l1) (h : l1 ≠ []) (hc : cutL l1 = (k, q)) (hk : k ≠ 0) :
    lexs l p = pre [⟨k, l1.take q, p + m⟩] (lexs (l1.drop q) (p + m + q)) := by
  rw [lexs_tok l l1 p (by rw [h2]; exact h1) h (by rw [hc]; exact hk), hc, h2]
  cases lexs (l1.drop q) (p + m + q) <;> rfl
theorem pre_two (a b : List Tok) (x : Except Nat (List Tok)) : pre a (pre b x) = pre (a ++ b) x := by
  cases x with
  | ok t => simp [pre]
  | error q => rfl
theorem lexs_hd (y : List UInt8) : lexs (hdL ++ y) 0 = pre H4 (lexs y 15) := by
  rw [lex_one (hdL ++ y) (hdL ++ y) 0 1 0 6 (by rfl) rfl (by simp [hdL]) (by rfl) (by decide)]
  rw [lex_one (List.drop 6 (hdL ++ y)) (List.drop 7 (hdL ++ y)) _ 1 1 1 (by rfl) rfl (by simp [hdL]) (by rfl) (by decide), pre_two]
  rw [lex_one (List.drop 1 (List.drop 7 (hdL ++ y))) (List.drop 8 (hdL ++ y)) _ 3 0 1 (by rfl) rfl (by simp [hdL]) (by rfl) (by decide), pre_two]
  rw [lex_one (List.drop 1 (List.drop 8 (hdL ++ y))) (List.drop 9 (hdL ++ y)) _ 1 0 5 (by rfl) rfl (by simp [hdL]) (by rfl) (by decide), pre_two]
  have e : List.drop 5 (List.drop 9 (hdL ++ y)) = [32] ++ y := rfl
  rw [e, lexs_passed [32] y _ (Passed.one (by decide))]
  rfl
theorem lexs_op (y : List UInt8) (p : Nat) : lexs (40 :: y) p = pre [op p] (lexs y (p + 1)) := by
  rw [lex_one (40 :: y) (40 :: y) p 3 0 1 (by rfl) rfl (by simp) (by rfl) (by decide)]
  rfl
theorem lexs_end3 (p : Nat) : lexs [41, 59, 125] p = .ok [cl p, sm (p + 1), cb (p + 2)] := by
  rw [lex_one [41, 59, 125] [41, 59, 125] p 3 0 1 (by rfl) rfl (by simp) (by rfl) (by decide)]
  have e : List.drop 1 [41, 59, 125] = ([59, 125] : List UInt8) := rfl
  rw [e, lexs_st]
  rfl
theorem one_may {l l' : List Tk} {e e' : Ex} (h : XG ZZ ZZ e e') : mayP [oneD l' e'] = mayP [oneD l e] := by
  rw [← may_g ZZ [oneD l' e'], ← may_g ZZ [oneD l e]]
  congr 1
  unfold XG at h
  simp only [List.map_cons, List.map_nil]
  unfold oneD dg deE stAt stE
  simp only [sgL_cons, sgL_nil, sg_eq, egL_cons, egL_nil, h]
  rfl
theorem brackets_p {e A B : ByteArray} (he : e.size ≤ 2000) (hA : A.data.toList = hdL ++ (e.data.toList ++ [59, 125])) (hB : B.data.toList = hdL ++ (40 :: (e.data.toList ++ 10 :: [41, 59, 125]))) {x : De} (hp : parseP A = ([x], 0, 0)) (hx : x.body.length = 1) :
    (∃ lA lB e1 e2, x = oneD lA e1 ∧ parseP B = ([oneD lB e2], 0, 0) ∧ XG ZZ ZZ e1 e2) ∨ (parseP B).2.2 ≠ 0 := by
  have hel : e.data.toList.length ≤ 2000 := by rw [← Lib.size_eq]; exact he
  have hlA : A.data.toList.length ≤ 65536 := by rw [hA]; simp [hdL]; omega
  have hlB : B.data.toList.length ≤ 65536 := by rw [hB]; simp [hdL]; omega
  have hLA : lexs A.data.toList 0 = pre H4 (lexs (e.data.toList ++ [59, 125]) 15) := by rw [hA, lexs_hd]
  have hmov := lexs_mov e.data.toList 15 1
  obtain ⟨s1, s2⟩ := lexs_semi _ e.data.toList 15 (Nat.le_refl _)
  cases hE : lexs e.data.toList 15 with
  | error q =>
    obtain ⟨q', hq'⟩ := s2 q hE
    rw [hq'] at hLA
    have hr := res_err A.data.toList q' hlA (by rw [hLA]; rfl)
    unfold parseP at hp
    rw [hr] at hp
    cases hp
  | ok ts =>
    rw [hE] at hmov
    have hts' : lexs e.data.toList 16 = .ok (ts.map (movT 1)) := hmov
    have hLB : lexs B.data.toList 0 = .ok (H4 ++ (op 15 :: (ts.map (movT 1) ++ [cl (16 + e.data.toList.length + 1), sm (16 + e.data.toList.length + 1 + 1), cb (16 + e.data.toList.length + 1 + 2)]))) := by
      rw [hB, lexs_hd, lexs_op, lexs_two _ e.data.toList [41, 59, 125] 16 _ (Nat.le_refl _) hts', lexs_end3]
      rfl
    have hrB := Lx.res_ok B.data.toList _ hlB hLB
    have hkey : (ts.map (movT 1)).map (fun t => (t.kind, t.txt)) = ts.map (fun t => (t.kind, t.txt)) := by rw [List.map_map]; rfl
    rw [parseP_of hrB]
    rcases s1 ts hE with hc | hc
    · rw [hc] at hLA
      have hrA := Lx.res_ok A.data.toList (H4 ++ (ts ++ [])) hlA (by rw [hLA, List.append_nil]; rfl)
      rw [parseP_of hrA] at hp
      right
      have hgood : ∀ t ∈ ts, Lx.Good t := fun t ht => res_good hrA t (by simp [ht])
      cases hd : readR (H4 ++ (ts ++ [])) A.size with
      | bad p => rw [hd] at hp; cases hp
      | ok ds J =>
        rw [hd] at hp
        simp only at hp
        by_cases hm : mayP ds = true
        · rw [if_pos hm] at hp
          cases hp
          obtain ⟨r, hr⟩ := br_no (q := 15) (c := 16 + e.data.toList.length + 1) (d := 16 + e.data.toList.length + 1 + 1) (f := 16 + e.data.toList.length + 1 + 2) (p' := B.size) hgood hkey hd hx
          have hr' : readR (H4 ++ (op 15 :: (ts.map (movT 1) ++ [cl (16 + e.data.toList.length + 1), sm (16 + e.data.toList.length + 1 + 1), cb (16 + e.data.toList.length + 1 + 2)]))) B.size = .bad r := hr
          rw [hr']
          simp
        · rw [if_neg hm] at hp
          cases hp
    · rw [hc, lexs_st] at hLA
      have hrA := Lx.res_ok A.data.toList (H4 ++ (ts ++ [sm (15 + e.data.toList.length), cb (15 + e.data.toList.length + 1)])) hlA (by rw [hLA]; rfl)
      rw [parseP_of hrA] at hp
      cases hd : readR (H4 ++ (ts ++ [sm (15 + e.data.toList.length), cb (15 + e.data.toList.length + 1)])) A.size with
      | bad p => rw [hd] at hp; cases hp
      | ok ds J =>
        rw [hd] at hp
        simp only at hp
        by_cases hm : mayP ds = true
        · rw [if_pos hm] at hp
          cases hp
          obtain ⟨e1, e2, h1, h2, h3⟩ := br_same (q := 15) (c := 16 + e.data.toList.length + 1) (d := 16 + e.data.toList.length + 1 + 1) (f := 16 + e.data.toList.length + 1 + 2) (p' := B.size) hkey hd hx
          left
          have h2' : readR (H4 ++ (op 15 :: (ts.map (movT 1) ++ [cl (16 + e.data.toList.length + 1), sm (16 + e.data.toList.length + 1 + 1), cb (16 + e.data.toList.length + 1 + 2)]))) B.size = .ok [oneD _ e2] (ts.length + 8) := h2
          rw [h2']
          refine ⟨_, toks (H4 ++ (op 15 :: (ts.map (movT 1) ++ [cl (16 + e.data.toList.length + 1), sm (16 + e.data.toList.length + 1 + 1), cb (16 + e.data.toList.length + 1 + 2)]))) B.size, e1, e2, h1, ?_, h3⟩
          simp only
          rw [if_pos (by rw [one_may h3, ← h1]; exact hm)]
        · rw [if_neg hm] at hp
          cases hp
end Go.Proofs.YtfhmhplbkheojaaGreatDoor.Pa
