/- Plain: an expression in a thread that prints it, and in two. Conditions: none. -/
import Derived.Test.YtolmhcdcfnoicaaDoorTrR
namespace Go.Proofs.YtolmhcdcfnoicaaDoor.Tr
open Go
open Go.Proofs.YtolmhcdcfnoicaaDoor.Lx

def Pt.up (c : Int) (p : Pt) : Pt := { p with d := p.d + c }
mutual
theorem ptsE_up (c b o d) : ∀ e, ptsE b o (d + c) e = (ptsE b o d e).map (Pt.up c)
  | .mk k nm n a cap args pos => by
    rw [ptsE_eq, ptsE_eq, List.map_cons, show d + c + 1 = (d + 1) + c by omega, ptsL_up c (adB a) (adO a) (d + 1) args]
    rfl
theorem ptsL_up (c b o d) : ∀ l, ptsL b o (d + c) l = (ptsL b o d l).map (Pt.up c)
  | [] => by unfold ptsL; rfl
  | e :: r => by
    unfold ptsL
    rw [List.map_append, ptsE_up c b o d e, ptsL_up c b (o + 5) d r]
end
mutual
theorem ptsE_len (b o d) : ∀ e, (ptsE b o d e).length = e.sz
  | .mk k nm n a cap args pos => by
    rw [ptsE_eq, List.length_cons, ptsL_len (adB a) (adO a) (d + 1) args]
    unfold Ex.sz
    omega
theorem ptsL_len (b o d) : ∀ l, (ptsL b o d l).length = Ex.szL l
  | [] => by unfold ptsL Ex.szL; rfl
  | e :: r => by
    unfold ptsL Ex.szL
    rw [List.length_append, ptsE_len b o d e, ptsL_len b (o + 5) d r]
end
mutual
theorem sameE_self : ∀ e, sameE e e = true
  | .mk k nm n a cap args pos => by
    rw [sameE_eq, sameEL_self args]
    simp
theorem sameEL_self : ∀ l, sameEL l l = true
  | [] => by unfold sameEL; rfl
  | e :: r => by unfold sameEL; show (sameE e e && sameEL r r) = true; rw [sameE_self e, sameEL_self r]; rfl
end
theorem fit_up (c : Int) (l : List Pt) : (l.map (Pt.up c)).all fitPt = l.all fitPt := by
  rw [List.all_map]; rfl
theorem fold_max (l : List Pt) : ∀ m : Int, l.foldl (fun m p => max m p.d) m = max m (l.foldl (fun m p => max m p.d) m) ∧ (∀ B : Int, l.foldl (fun m p => max m p.d) m ≤ B ↔ m ≤ B ∧ ∀ p ∈ l, p.d ≤ B) := by
  induction l with
  | nil => intro m; simp
  | cons x r ih =>
    intro m
    rw [List.foldl_cons]
    refine ⟨?_, fun B => ?_⟩
    · have := (ih (max m x.d)).1
      omega
    · rw [(ih (max m x.d)).2 B]
      simp only [List.mem_cons, forall_eq_or_imp]
      rw [Int.max_le, and_assoc]
theorem deepest_le (l : List Pt) (B : Int) : deepest l ≤ B ↔ 0 ≤ B ∧ ∀ p ∈ l, p.d ≤ B := (fold_max l 0).2 B
theorem deepest_ge (l : List Pt) (p : Pt) (h : p ∈ l) : p.d ≤ deepest l := ((deepest_le l (deepest l)).1 (Int.le_refl _)).2 p h
theorem hold_all (l : List Pt) : l.all holdPt = (l.all fitPt && decide (deepest l ≤ 60)) := by
  rw [Bool.eq_iff_iff, Bool.and_eq_true, List.all_eq_true, List.all_eq_true, decide_eq_true_eq, deepest_le]
  unfold holdPt
  simp only [Bool.and_eq_true, decide_eq_true_eq]
  constructor
  · intro h; exact ⟨fun p hp => (h p hp).2, by omega, fun p hp => (h p hp).1⟩
  · rintro ⟨h1, _, h2⟩ p hp; exact ⟨h2 p hp, h1 p hp⟩

/-- a thread of one statement of one expression -/
def sOne (k : Int) (b : Nat) (e : Ex) : St := .mk k ⟨#[]⟩ ⟨#[]⟩ false (some ⟨b, 0, none⟩) 1 [e] none 0 [] none 0 [] 0
def dOne (c : UInt8) (k : Int) (b1 b2 : Nat) (e : Ex) : De := ⟨5, ⟨#[c]⟩, 0, none, 0, [], some ⟨b1, 0, none⟩, 1, [sOne k b2 e], 0⟩
theorem pts_one (c : UInt8) (k : Int) (b1 b2 : Nat) (e : Ex) : ptsD [dOne c k b1 b2 e] = ⟨b1, 0, .inr (sOne k b2 e), 1⟩ :: ptsE b2 0 2 e := by
  unfold ptsD dOne
  simp only [List.flatMap_cons, List.flatMap_nil, List.append_nil]
  unfold ptsSL ptsSL sOne ptsS ptsSL
  rw [ptsL_one]
  simp [adB, adO]
theorem pts_two (c c' : UInt8) (k k' : Int) (b1 b2 b3 b4 : Nat) (e : Ex) : ptsD [dOne c k b1 b2 e, dOne c' k' b3 b4 e] = ptsD [dOne c k b1 b2 e] ++ ptsD [dOne c' k' b3 b4 e] := by
  unfold ptsD; simp
theorem mayE_two (b o : Nat) (e : Ex) : (ptsE b o 2 e).all fitPt = mayE e := by
  rw [show (2 : Int) = 1 + 1 from rfl, ptsE_up, fit_up, mayE_at]
/-- how deep the thread is -/
def kOne (e : Ex) : Int := max 1 (deepest (ptsE 0 0 2 e))
theorem ptsE_ds (b o b' o' : Nat) (d : Int) (e : Ex) : (ptsE b o d e).map Pt.d = (ptsE b' o' d e).map Pt.d := by
  obtain ⟨k, nm, n, a, cap, args, pos⟩ := e
  rw [ptsE_eq, ptsE_eq]; rfl
theorem deepest_map (l l' : List Pt) (h : l.map Pt.d = l'.map Pt.d) : deepest l = deepest l' := by
  have key : ∀ (x : List Pt) (m : Int), x.foldl (fun m p => max m p.d) m = (x.map Pt.d).foldl max m := by
    intro x
    induction x with
    | nil => intro m; rfl
    | cons y r ih => intro m; rw [List.foldl_cons, List.map_cons, List.foldl_cons, ih]
  unfold deepest
  rw [key, key, h]
theorem eq_of_le (a b : Int) (h : ∀ B : Int, a ≤ B ↔ b ≤ B) : a = b := by
  have h1 := (h a).1 (Int.le_refl _)
  have h2 := (h b).2 (Int.le_refl _)
  omega
theorem deep_one (c : UInt8) (k : Int) (b1 b2 : Nat) (e : Ex) : deepest (ptsD [dOne c k b1 b2 e]) = kOne e := by
  refine eq_of_le _ _ fun B => ?_
  unfold kOne
  rw [pts_one, deepest_le, ← deepest_map _ _ (ptsE_ds b2 0 0 0 2 e)]
  have h2 := deepest_le (ptsE b2 0 2 e) B
  simp only [List.mem_cons, forall_eq_or_imp]
  constructor
  · rintro ⟨h0, h1, h⟩
    have := h2.2 ⟨h0, h⟩
    omega
  · intro h
    have := h2.1 (by omega)
    exact ⟨this.1, by omega, this.2⟩
theorem deep_two (c c' : UInt8) (k k' : Int) (b1 b2 b3 b4 : Nat) (e : Ex) : deepest (ptsD [dOne c k b1 b2 e, dOne c' k' b3 b4 e]) = kOne e := by
  refine eq_of_le _ _ fun B => ?_
  rw [pts_two, deepest_le]
  have h1 := deepest_le (ptsD [dOne c k b1 b2 e]) B
  have h2 := deepest_le (ptsD [dOne c' k' b3 b4 e]) B
  rw [deep_one] at h1 h2
  simp only [List.mem_append]
  constructor
  · rintro ⟨h0, h⟩
    exact h1.2 ⟨h0, fun p hp => h p (.inl hp)⟩
  · intro h
    have h3 := h1.1 h
    have h4 := h2.1 h
    exact ⟨h3.1, fun p hp => hp.elim (h3.2 p) (h4.2 p)⟩
theorem may_one (c : UInt8) (hc : nme [c] = true) (k : Int) (hk : k = 7 ∨ k = 9) (b1 b2 : Nat) (e : Ex) : mayP [dOne c k b1 b2 e] = (mayE e && decide (kOne e ≤ 60)) := by
  have hf : fitS (sOne k b2 e) = true := by rcases hk with rfl | rfl <;> rfl
  have hd : fitD (dOne c k b1 b2 e) = true := by
    show (decide ((1 : Int) ≤ 5) && decide ((5 : Int) ≤ 5) && (nme [c] && decide (deLeast 5 ≤ 0) && decide (0 ≤ deMost 5) && decide ((0 : Int) ≤ deParams 5) && nmes [] && (deBody 5 || decide (1 = 0)))) = true
    rw [hc]; rfl
  unfold mayP
  rw [hold_all, deep_one, pts_one]
  simp only [List.all_cons, List.all_nil, hd, List.length_cons, List.length_nil]
  rw [mayE_two]
  have hp : fitPt ⟨b1, 0, .inr (sOne k b2 e), 1⟩ = true := hf
  rw [hp]
  simp
theorem may_two (c c' : UInt8) (hc : nme [c] = true) (hc' : nme [c'] = true) (k k' : Int) (hk : k = 7 ∨ k = 9) (hk' : k' = 7 ∨ k' = 9) (b1 b2 b3 b4 : Nat) (e : Ex) : mayP [dOne c k b1 b2 e, dOne c' k' b3 b4 e] = mayP [dOne c k b1 b2 e] := by
  have h1 := may_one c hc k hk b1 b2 e
  have h2 := may_one c' hc' k' hk' b3 b4 e
  rw [h1]
  unfold mayP at h1 h2 ⊢
  rw [hold_all, deep_one] at h1 h2
  rw [hold_all, deep_two, pts_two]
  simp only [List.all_cons, List.all_nil, List.length_cons, List.length_nil, List.all_append] at h1 h2 ⊢
  revert h1 h2
  generalize fitD (dOne c k b1 b2 e) = a1
  generalize fitD (dOne c' k' b3 b4 e) = a2
  generalize (ptsD [dOne c k b1 b2 e]).all fitPt = a3
  generalize (ptsD [dOne c' k' b3 b4 e]).all fitPt = a4
  generalize decide (kOne e ≤ 60) = a5
  generalize mayE e = a6
  cases a1 <;> cases a2 <;> cases a3 <;> cases a4 <;> cases a5 <;> cases a6 <;> simp
theorem len_one (c : UInt8) (k : Int) (b1 b2 : Nat) (e : Ex) : (ptsD [dOne c k b1 b2 e]).length = 1 + e.sz := by
  rw [pts_one, List.length_cons, ptsE_len]; omega
theorem len_two (c c' : UInt8) (k k' : Int) (b1 b2 b3 b4 : Nat) (e : Ex) : (ptsD [dOne c k b1 b2 e, dOne c' k' b3 b4 e]).length = 2 + 2 * e.sz := by
  rw [pts_two, List.length_append, len_one, len_one]; omega
theorem sz_pos (e : Ex) : 1 ≤ e.sz := by obtain ⟨k, nm, n, a, cap, args, pos⟩ := e; unfold Ex.sz; omega
theorem kOne_two (e : Ex) : 2 ≤ kOne e := by
  obtain ⟨k, nm, n, a, cap, args, pos⟩ := e
  have h := deepest_ge (ptsE 0 0 2 (.mk k nm n a cap args pos)) ⟨0, 0, .inl (.mk k nm n a cap args pos), 2⟩ (by rw [ptsE_eq]; exact List.mem_cons_self)
  unfold kOne
  simp only at h
  omega
theorem szL_one (c : UInt8) (k : Int) (b1 b2 : Nat) (e : Ex) : De.szL [dOne c k b1 b2 e] = 1 + e.sz := by
  unfold De.szL De.szL dOne sOne St.szL St.szL St.sz Ex.szL Ex.szL St.szL
  omega
theorem szL_two (c c' : UInt8) (k k' : Int) (b1 b2 b3 b4 : Nat) (e : Ex) : De.szL [dOne c k b1 b2 e, dOne c' k' b3 b4 e] = 2 + 2 * e.sz := by
  have h1 := szL_one c k b1 b2 e
  have h2 := szL_one c' k' b3 b4 e
  simp only [De.szL] at h1 h2 ⊢
  omega
end Go.Proofs.YtolmhcdcfnoicaaDoor.Tr
