/- The tree that grow makes: places, ends, kids (plain; no memory). Conditions: none. -/
import Derived.Test.YtiaecobjbckhoaaDnA
set_option linter.unusedVariables false
set_option linter.unusedSimpArgs false
namespace Go.Proofs.Ytiaecobjbckhoaa.Db
open Go

section
variable {n : Nat} {next : Nat → Int} {ht : Nat → Nat}
theorem Hn.sp (H : Hn n next ht) : Sp n next ⟨[], fun _ => -1, fun _ => 0⟩ (Db.stand (kidsP next n) (n + 1) ⟨[], fun _ => -1, fun _ => 0⟩ 0) (lst n next 0) := H.stand (n + 1) _ 0 (by have := H.le 0; omega)
theorem Hn.order (H : Hn n next ht) : (growP n next).order = lst n next 0 := by
  have := H.sp.order
  rw [List.nil_append] at this
  exact this
theorem Hn.un_lt (H : Hn n next ht) {a b : Nat} (h : Un n next a b) (ha : a < n) : b < n := by
  cases h with
  | here => exact ha
  | step hc _ _ => exact hc
theorem Hn.place (H : Hn n next ht) {k y : Nat} (h : (lst n next 0)[k]? = some (y : Int)) : (growP n next).place y = k ∧ (growP n next).end_ y = ((k + (lst n next y).length : Nat) : Int) := by
  obtain ⟨h1, h2⟩ := H.sp.at_ (H.nodup 0) k y h
  simp only [List.length_nil, Nat.zero_add] at h1 h2
  exact ⟨h1, h2⟩
theorem Hn.noplace (H : Hn n next ht) {y : Nat} (h : ¬Un n next 0 y) : (growP n next).place y = -1 := by
  refine (H.sp.not y fun hm => ?_).1
  obtain ⟨z, hz, hu⟩ := (H.mem 0 _).1 hm
  have : z = y := by omega
  subst this
  exact h hu
theorem Hn.find (H : Hn n next ht) {y : Nat} (h : Un n next 0 y) : ∃ k : Nat, (lst n next 0)[k]? = some (y : Int) := List.mem_iff_getElem?.1 ((H.mem 0 _).2 ⟨y, rfl, h⟩)
theorem Hn.reach (H : Hn n next ht) (y : Nat) : (growP n next).reach (y : Int) = true ↔ Un n next 0 y := by
  unfold Tp.reach
  simp only [Bool.and_eq_true, decide_eq_true_eq, Int.toNat_natCast]
  show (0 : Int) ≤ y ∧ (y : Int) < (n : Int) ∧ _ ↔ _
  constructor
  · rintro ⟨_, _, h⟩
    apply Classical.byContradiction
    intro hc
    rw [H.noplace hc] at h
    omega
  · intro h
    obtain ⟨k, hk⟩ := H.find h
    have := H.un_lt h H.pos
    rw [(H.place hk).1]
    omega
theorem Hn.len (H : Hn n next ht) : (growP n next).order.length ≤ n := by
  have h : ((List.range n).map fun (k : Nat) => (k : Int)).length = n := by simp
  rw [H.order]
  refine Nat.le_trans (?_ : _ ≤ ((List.range n).map fun (k : Nat) => (k : Int)).length) (Nat.le_of_eq h)
  refine List.Nodup.length_le_of_subset (H.nodup 0) fun x hx => ?_
  obtain ⟨y, rfl, hu⟩ := (H.mem 0 x).1 hx
  exact List.mem_map.2 ⟨y, List.mem_range.2 (H.un_lt hu H.pos), rfl⟩
theorem Hn.ok (H : Hn n next ht) : (growP n next).ok := by
  refine ⟨fun k x hk => ?_, fun y hy h0 => ?_, fun y hy h0 => ?_⟩
  · rw [H.order] at hk
    obtain ⟨y, rfl, hu⟩ := (H.mem 0 x).1 (List.mem_of_getElem? hk)
    exact ⟨y, rfl, H.un_lt hu H.pos, (H.place hk).1⟩
  · have hu : Un n next 0 y := by
      apply Classical.byContradiction
      intro hc
      rw [H.noplace hc] at h0
      omega
    obtain ⟨k, hk⟩ := H.find hu
    exact ⟨k, (H.place hk).1, by rw [H.order]; exact hk⟩
  · have hu : Un n next 0 y := by
      apply Classical.byContradiction
      intro hc
      rw [H.noplace hc] at h0
      omega
    obtain ⟨k, hk⟩ := H.find hu
    obtain ⟨A, C, h1, h2⟩ := H.at_ 0 k y hk
    refine ⟨_, (H.place hk).2, ?_, ?_⟩
    · rw [(H.place hk).1, H.eq y, List.length_cons]; omega
    · rw [H.order, h1, List.length_append, List.length_append]; omega
/-- a is above b -/
theorem Hn.above (H : Hn n next ht) (a b : Nat) : (growP n next).above (a : Int) (b : Int) = true ↔ Un n next 0 a ∧ Un n next 0 b ∧ Un n next a b := by
  unfold Tp.above
  simp only [Bool.and_eq_true, decide_eq_true_eq, Int.toNat_natCast, H.reach]
  constructor
  · rintro ⟨ha, hb, h1, h2⟩
    refine ⟨ha, hb, ?_⟩
    obtain ⟨k, hk⟩ := H.find ha
    obtain ⟨j, hj⟩ := H.find hb
    rw [(H.place hk).1, (H.place hj).1] at h1
    rw [(H.place hk).2, (H.place hj).1] at h2
    obtain ⟨A, C, e1, e2⟩ := H.at_ 0 k a hk
    rw [e1, List.getElem?_append_right (by omega), List.getElem?_append_left (by omega)] at hj
    obtain ⟨z, hz, hu⟩ := (H.mem a _).1 (List.mem_of_getElem? hj)
    have : z = b := by omega
    subst this
    exact hu
  · rintro ⟨ha, hb, hu⟩
    refine ⟨ha, hb, ?_⟩
    obtain ⟨k, hk⟩ := H.find ha
    obtain ⟨A, C, e1, e2⟩ := H.at_ 0 k a hk
    obtain ⟨j, hj⟩ := List.mem_iff_getElem?.1 ((H.mem a _).2 ⟨b, rfl, hu⟩)
    have hjl := (List.getElem?_eq_some_iff.1 hj).1
    have hj2 : (lst n next 0)[k + j]? = some (b : Int) := by
      rw [e1, List.getElem?_append_right (by omega), List.getElem?_append_left (by omega), ← e2, Nat.add_sub_cancel_left]
      exact hj
    rw [(H.place hk).1, (H.place hk).2, (H.place hj2).1]
    omega
theorem Hn.kidsF (H : Hn n next ht) (stop : Nat) : ∀ (l : List Int) (q : Nat) (A C : List Int), (∀ x ∈ l, ∃ y : Nat, x = y) → lst n next 0 = A ++ ((l.flatMap fun k => lst n next k.toNat) ++ C) → stop = A.length + (l.flatMap fun k => lst n next k.toNat).length → l.length ≤ q →
    (growP n next).kidsF stop q A.length = l := by
  intro l
  induction l with
  | nil => intro q A C _ _ hs _; exact Tp.kidsF_zero _ _ _ _ (by simp at hs; omega)
  | cons x r ih =>
    intro q A C hl hA hs hq
    cases q with
    | zero => simp at hq
    | succ q =>
      obtain ⟨y, rfl⟩ := hl x List.mem_cons_self
      rw [List.flatMap_cons, Int.toNat_natCast] at hA hs
      have hlen := hs
      rw [List.length_append] at hlen
      have hy : (lst n next y).length = ((kidsP next n y).flatMap fun k => lst n next k.toNat).length + 1 := by rw [H.eq y]; rfl
      have hat : (lst n next 0)[A.length]? = some (y : Int) := by
        rw [hA, List.getElem?_append_right (Nat.le_refl _), Nat.sub_self, H.eq y]
        rfl
      unfold Tp.kidsF
      rw [if_pos (by omega), H.order, List.getD_eq_getElem?_getD, hat]
      show (y : Int) :: (growP n next).kidsF stop q ((growP n next).end_ ((y : Int)).toNat).toNat = _
      rw [Int.toNat_natCast, (H.place hat).2, Int.toNat_natCast]
      have h2 := ih q (A ++ lst n next y) C (fun z hz => hl z (List.mem_cons_of_mem _ hz)) (by rw [hA]; simp) (by rw [List.length_append]; omega) (by simp at hq; omega)
      rw [List.length_append] at h2
      rw [h2]
theorem Hn.kids_len (H : Hn n next ht) (b : Nat) : (kidsP next n b).length ≤ n := kidsP_len next b n
/-- who stands right below -/
theorem Hn.kids (H : Hn n next ht) (b : Nat) : (growP n next).kids (b : Int) = if (growP n next).reach (b : Int) = true then kidsP next n b else [] := by
  unfold Tp.kids
  split
  · rename_i hr
    obtain ⟨k, hk⟩ := H.find ((H.reach b).1 hr)
    obtain ⟨A, C, e1, e2⟩ := H.at_ 0 k b hk
    rw [Int.toNat_natCast, (H.place hk).1, (H.place hk).2, Int.toNat_natCast, Int.toNat_natCast]
    have hq := H.eq b
    have hlen : (lst n next b).length = ((kidsP next n b).flatMap fun k => lst n next k.toNat).length + 1 := by rw [hq]; rfl
    have hne : ∀ l : List Int, (∀ x ∈ l, ∃ y : Nat, x = y) → l.length ≤ (l.flatMap fun k => lst n next k.toNat).length := by
      intro l
      induction l with
      | nil => intro _; exact Nat.le_refl _
      | cons x r ih =>
        intro hl
        obtain ⟨y, rfl⟩ := hl x List.mem_cons_self
        have h1 := ih fun z hz => hl z (List.mem_cons_of_mem _ hz)
        rw [List.flatMap_cons, List.length_append, Int.toNat_natCast, H.eq y, List.length_cons, List.length_cons]
        omega
    have hnat : ∀ x ∈ kidsP next n b, ∃ y : Nat, x = y := fun x hx => by
      obtain ⟨y, h, _⟩ := kidsP_in next b n x hx
      exact ⟨y, h⟩
    have h3 := hne _ hnat
    have := H.kidsF (k + (lst n next b).length) (kidsP next n b) (growP n next).order.length (A ++ [(b : Int)]) C hnat (by rw [e1, hq]; simp) (by rw [List.length_append, List.length_singleton]; omega) (by
      rw [H.order, e1, List.length_append, List.length_append]; omega)
    rw [List.length_append, List.length_singleton, e2] at this
    exact this
  · rfl
end
end Go.Proofs.Ytiaecobjbckhoaa.Db
