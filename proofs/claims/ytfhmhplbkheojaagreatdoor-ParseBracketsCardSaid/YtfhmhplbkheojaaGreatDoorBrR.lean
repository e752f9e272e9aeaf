/- What the walk of ParseBrackets asks of memory: Exactly at two that differ; the row of two operators. Conditions: none. -/
import Derived.Test.YtfhmhplbkheojaaGreatDoorBrQ
import Derived.Test.YtfhmhplbkheojaaGreatDoorRfSs
import Derived.Test.YtfhmhplbkheojaaGreatDoorBrP
import Derived.Test.YtfhmhplbkheojaaGreatDoorWkA
import Derived.Laws.Concat
namespace Go.Proofs.YtfhmhplbkheojaaGreatDoor.Pa
open Go Go.RowKit
open Go.Proofs.YtfhmhplbkheojaaGreatDoor.Lx Go.Proofs.YtfhmhplbkheojaaGreatDoor.Tr

theorem exactly_apart (l r : List De) (h : apartE (l.map da) (r.map da) = true) (a a' : Option Addr) (cap cap' : Nat) (w : World)
    (h1 : RowAt w (fun _ => True) a cap l.length (deCells l)) (h2 : RowAt w (fun _ => True) a' cap' r.length (deCells r)) (i1 : De.InL w (fun _ => True) l) (i2 : De.InL w (fun _ => True) r) :
    Calls Tryz.prog 18 #[.slice a l.length cap, .slice a' r.length cap'] w fun x w' => x = .returned (.bool false) ∧ Below w.heap.size w w' := by
  unfold apartE at h
  cases hl : exOf (l.map da) with
  | none => rw [hl] at h; simp at h
  | some kp =>
    obtain ⟨k, p⟩ := kp
    cases hr : exOf (r.map da) with
    | none => rw [hl, hr] at h; simp at h
    | some kp' =>
      obtain ⟨k', p'⟩ := kp'
      rw [hl, hr] at h
      simp only [Bool.or_eq_true, decide_eq_true_eq] at h
      have hk : k ≠ k' ∨ (k = k' ∧ p ≠ p') := by
        by_cases he : k = k'
        · exact Or.inr ⟨he, h.resolve_left (fun g => g he)⟩
        · exact Or.inl he
      obtain ⟨pa, ba, ea, xa, ba2, la2, pc, bc, ec, xc, bc2, lc2, args, rfl⟩ := exOf_mem hl
      obtain ⟨pa', ba', ea', xa', ba2', la2', pc', bc', ec', xc', bc2', lc2', args', rfl⟩ := exOf_mem hr
      obtain ⟨_, _, _, _, _, _, rb1, ib1⟩ := i1 _ (List.mem_singleton.2 rfl)
      obtain ⟨_, _, _, _, _, _, rb2, ib2⟩ := i2 _ (List.mem_singleton.2 rfl)
      simp only at rb1 ib1 rb2 ib2
      obtain ⟨is1, _⟩ := ib1
      obtain ⟨is2, _⟩ := ib2
      obtain ⟨_, _, _, _, re1, ie1, _⟩ := is1
      obtain ⟨_, _, _, _, re2, ie2, _⟩ := is2
      refine exactly_no 5 ⟨#[116]⟩ 0 0 pa pa' ba ba' pc pc' bc bc' [] _ _ a a' cap cap' w h1 h2 (fun V hV => ?_)
      refine stmts_no 7 ⟨#[]⟩ ⟨#[]⟩ false 9 ea ea' ba2 ba2' la2 la2' ec ec' bc2 bc2' lc2 lc2' _ _ [] [] [] [] ba ba' bc bc' V (rb1.below (Kps.of_below hV)) (rb2.below (Kps.of_below hV)) (fun U hU => ?_)
      have hU' : Below w.heap.size w U := hV.trans (hU.mono hV.size)
      exact exprs_no k k' ⟨#[]⟩ 0 xa xa' xc xc' args args' p p' ea ea' ec ec' U (re1.below (Kps.of_below hU')) (re2.below (Kps.of_below hU')) hk
theorem br_at (p q : Nat) (hp : p < 7) (hq : q < 7) : ∃ dm pm dl pl dr pr, parseP (flatB p q) = (dm, pm, 0) ∧ parseP (leftB p q) = (dl, pl, 0) ∧ parseP (rightB p q) = (dr, pr, 0) ∧
    (stB p < stB q → sameDL dm dr = true ∧ sameDL dm dl = false) ∧ (¬ stB p < stB q → sameDL dm dl = true ∧ sameDL dm dr = false ∧ apartE dl dr = true) := by
  have h := br_row p q hp hq
  unfold brRow at h
  rcases hm : parseP (flatB p q) with ⟨dm, pm, em⟩
  rcases hl : parseP (leftB p q) with ⟨dl, pl, el⟩
  rcases hr : parseP (rightB p q) with ⟨dr, pr, er⟩
  rw [hm, hl, hr] at h
  simp only [Bool.and_eq_true, decide_eq_true_eq] at h
  obtain ⟨⟨⟨rfl, rfl⟩, rfl⟩, h⟩ := h
  refine ⟨dm, pm, dl, pl, dr, pr, rfl, rfl, rfl, fun hs => ?_, fun hs => ?_⟩
  · rw [if_pos hs] at h
    simpa using h
  · rw [if_neg hs] at h
    simp only [Bool.and_eq_true, Bool.not_eq_true'] at h
    exact ⟨h.1.1, h.1.2, h.2⟩
theorem u8_7 {x : Int} (h : 0 ≤ x ∧ x ≤ 255) : ∃ p : Nat, x.tmod 7 = (p : Int) ∧ p < 7 := by
  refine ⟨(x.tmod 7).toNat, ?_, ?_⟩
  · rw [Int.tmod_eq_emod_of_nonneg h.1]; omega
  · rw [Int.tmod_eq_emod_of_nonneg h.1]; omega
theorem same_mem {l r : List De} {dl dr : List De} (h1 : l.map da = dl) (h2 : r.map da = dr) : sameDL l r = sameDL dl dr := by rw [← h1, ← h2, same_da]
/-- the brackets around what is read -/
theorem brackets_mem {A B : ByteArray} {e : ByteArray} (he : e.size ≤ 2000) (hA : A.data.toList = hdL ++ (e.data.toList ++ [59, 125])) (hB : B.data.toList = hdL ++ (40 :: (e.data.toList ++ 10 :: [41, 59, 125]))) {d : De} {pa : Int} (hp : parseP A = ([da d], pa, 0)) (hb : d.body.length = 1) :
    (∃ dB pB, parseP B = (dB, pB, 0) ∧ sameDL [da d] dB = true) ∨ ∃ dB pB eB, parseP B = (dB, pB, eB) ∧ eB ≠ 0 := by
  have hp0 : pa = 0 := by
    unfold parseP at hp
    split at hp
    · split at hp
      · simp at hp
      · split at hp
        · simp only [Prod.mk.injEq] at hp
          exact hp.2.1.symm
        · simp at hp
    · simp at hp
  subst hp0
  have hx : (da d).body.length = 1 := by unfold da; simp only; rw [saL_map]; simpa using hb
  rcases brackets_p he hA hB hp hx with ⟨lA, lB, e1, e2, h1, h2, h3⟩ | h
  · refine Or.inl ⟨_, _, h2, ?_⟩
    rw [h1, sameDL_er]
    unfold XG at h3
    have hx2 : Ex.erL [e1] = Ex.erL [e2] := by rw [← exL_g ZZ [e1], ← exL_g ZZ [e2], egL_cons, egL_cons, egL_nil, h3]
    have hs : (oneD lA e1).er = (oneD lB e2).er := by
      unfold oneD deE stAt stE De.er
      simp only [St.erL_cons, St.er_eq, hx2]
    show [(oneD lA e1).er] = [(oneD lB e2).er]
    rw [hs]
  · exact Or.inr ⟨_, _, _, rfl, h⟩
end Go.Proofs.YtfhmhplbkheojaaGreatDoor.Pa
