/- What a memory answers while steps are done to it: a cell and a lock are looked at. Conditions: the memory lies in the world. -/
import Derived.Test.YtimbhdekbceajaaMeO
namespace Go.Proofs.Ytimbhdekbceajaa.Me
open Go Go.RowKit

theorem modify_get {α : Type} (f : α → α) : ∀ (l : List α) (k j : Nat), (l.modify k f)[j]? = if k = j then (l[j]?).map f else l[j]? := by
  intro l k j
  rw [List.getElem?_modify]
  by_cases h : k = j
  · simp [h]
  · simp [h]
theorem setC_len (C : List (List Int)) (a i v : Int) : (setC C a i v).length = C.length := by
  unfold setC
  split <;> simp
theorem getP_same {C : List (List Int)} {a i v : Int} (h : (getP C a i).2 = 0) : getP (setC C a i v) a i = (v, 0) := by
  have hs : setC C a i v = C.modify a.toNat (fun l => l.set i.toNat v) := by unfold setC; rw [if_pos h]
  unfold getP at h
  split at h
  · simp at h
  · rename_i ha
    split at h
    · simp at h
    · rename_i l hl
      split at h
      · simp at h
      · rename_i hi
        unfold getP
        rw [setC_len, if_neg ha, hs, modify_get, if_pos rfl, hl]
        simp only [Option.map_some]
        rw [List.length_set, if_neg hi, List.getD_eq_getElem?_getD, List.getElem?_set]
        rw [if_pos rfl, if_pos (by omega)]
        rfl
theorem getP_err {C : List (List Int)} {A I a i v : Int} (h : (getP C a i).2 ≠ 0) : getP (setC C A I v) a i = getP C a i := by
  unfold setC
  split
  · rename_i h0
    by_cases hA : A.toNat = a.toNat ∧ 0 ≤ A
    · obtain ⟨hA, hA0⟩ := hA
      unfold getP at h ⊢
      rw [List.length_modify]
      by_cases ha : a < 0 ∨ (C.length : Int) ≤ a
      · rw [if_pos ha, if_pos ha]
      · rw [if_neg ha] at h
        rw [if_neg ha, if_neg ha, modify_get, if_pos hA]
        cases hl : C[a.toNat]? with
        | none => rfl
        | some l =>
          simp only [Option.map_some]
          rw [hl] at h
          simp only at h
          by_cases hi : i < 0 ∨ (l.length : Int) ≤ i
          · rw [List.length_set, if_pos hi, if_pos hi]
          · rw [if_neg hi] at h
            simp at h
    · unfold getP
      rw [List.length_modify, modify_get]
      by_cases ha : a < 0 ∨ (C.length : Int) ≤ a
      · rw [if_pos ha, if_pos ha]
      · rw [if_neg ha, if_neg ha]
        have h1 : ¬ (A < 0 ∨ (C.length : Int) ≤ A) := fun hx => by
          unfold getP at h0
          rw [if_pos hx] at h0
          simp at h0
        rw [if_neg (by omega)]
  · rfl
theorem getP_other {C : List (List Int)} {A I a i v : Int} (h : ¬ (A = a ∧ I = i)) : getP (setC C A I v) a i = getP C a i := by
  by_cases he : (getP C a i).2 = 0
  · unfold setC
    split
    · rename_i h0
      have hA : ¬ (A < 0 ∨ (C.length : Int) ≤ A) := fun hx => by
        unfold getP at h0
        rw [if_pos hx] at h0
        simp at h0
      unfold getP at he h0 ⊢
      rw [if_neg hA] at h0
      rw [List.length_modify, modify_get]
      by_cases ha : a < 0 ∨ (C.length : Int) ≤ a
      · rw [if_pos ha, if_pos ha]
      · rw [if_neg ha] at he
        rw [if_neg ha, if_neg ha]
        by_cases hAa : A.toNat = a.toNat
        · have hAe : A = a := by omega
          subst hAe
          rw [if_pos rfl]
          cases hl : C[A.toNat]? with
          | none => rfl
          | some l =>
            rw [hl] at he h0
            simp only at he h0
            simp only [Option.map_some]
            have hi : ¬ (i < 0 ∨ (l.length : Int) ≤ i) := fun hx => by rw [if_pos hx] at he; simp at he
            have hI : ¬ (I < 0 ∨ (l.length : Int) ≤ I) := fun hx => by rw [if_pos hx] at h0; simp at h0
            rw [List.length_set, if_neg hi, if_neg hi, List.getD_eq_getElem?_getD, List.getD_eq_getElem?_getD, List.getElem?_set_ne (by omega)]
        · rw [if_neg hAa]
    · rfl
  · exact getP_err he
theorem takeE_zero {locks : Int} {h : Int → Option Int} {k : Int} : takeE locks h k = 0 ↔ ¬ (k < 0 ∨ locks ≤ k) ∧ h k = none := by
  unfold takeE
  by_cases h1 : k < 0 ∨ locks ≤ k
  · rw [if_pos h1]
    exact ⟨fun e => by simp at e, fun e => absurd h1 e.1⟩
  · rw [if_neg h1]
    cases h k <;> simp [h1]
theorem giveE_zero {locks : Int} {h : Int → Option Int} {k who : Int} : giveE locks h k who = 0 ↔ ¬ (k < 0 ∨ locks ≤ k) ∧ h k = some who := by
  unfold giveE
  by_cases h1 : k < 0 ∨ locks ≤ k
  · rw [if_pos h1]
    exact ⟨fun e => by simp at e, fun e => absurd h1 e.1⟩
  · rw [if_neg h1]
    by_cases h2 : h k = some who
    · simp [h2, h1]
    · simp [h2]
theorem takeH_eq (m : Mm) (A I j : Int) : takeH m A I j = if (¬ (A < 0 ∨ m.locks ≤ A) ∧ m.h A = none) ∧ j = A then some I else m.h j := by
  unfold takeH
  by_cases h1 : takeE m.locks m.h A = 0
  · rw [if_pos h1]
    have h2 := takeE_zero.1 h1
    by_cases h3 : j = A
    · rw [if_pos h3, if_pos ⟨h2, h3⟩]
    · rw [if_neg h3, if_neg (fun x => h3 x.2)]
  · rw [if_neg h1, if_neg (fun x => h1 (takeE_zero.2 x.1))]
theorem giveH_eq (m : Mm) (A I j : Int) : giveH m A I j = if (¬ (A < 0 ∨ m.locks ≤ A) ∧ m.h A = some I) ∧ j = A then none else m.h j := by
  unfold giveH
  by_cases h1 : giveE m.locks m.h A I = 0
  · rw [if_pos h1]
    have h2 := giveE_zero.1 h1
    by_cases h3 : j = A
    · rw [if_pos h3, if_pos ⟨h2, h3⟩]
    · rw [if_neg h3, if_neg (fun x => h3 x.2)]
  · rw [if_neg h1, if_neg (fun x => h1 (giveE_zero.2 x.1))]
/-- after k steps -/
structure Lp (w : World) (N mb : Nat) (at_ here lock : Int) (ee : Int) (k : Nat) (want : Int) (held : Bool) (who : Int) (wr : World) : Prop where
  ex : ∃ m : Mm, m.mb = mb ∧ m.In wr ∧ m.locks = 4 ∧ m.n ≤ k ∧ (∀ b, m.foot b → w.heap.size ≤ b ∧ b < N) ∧ getP m.C at_ here = (want, ee) ∧ held = (m.h lock).isSome ∧ (∀ u, m.h lock = some u → who = u) ∧ ∀ j, (j < 0 ∨ 4 ≤ j) → m.h j = none
  bl : Below w.heap.size w wr
variable {w : World} {N mb k : Nat} {at_ here lock ee want who : Int} {held : Bool} {wr : World}
theorem Lp.below {V : World} (h : Lp w N mb at_ here lock ee k want held who wr) (hb : Below wr.heap.size wr V) : Lp w N mb at_ here lock ee k want held who V := by
  obtain ⟨⟨m, h1, h2, h3⟩, h4⟩ := h
  exact ⟨⟨m, h1, h2.below hb, h3⟩, h4.trans (hb.mono h4.size)⟩
theorem Lp.next (h : Lp w N mb at_ here lock ee k want held who wr) : Lp w N mb at_ here lock ee (k + 1) want held who wr := by
  obtain ⟨⟨m, h1, h2, h3, h4, h5⟩, h6⟩ := h
  exact ⟨⟨m, h1, h2, h3, Nat.le_succ_of_le h4, h5⟩, h6⟩
theorem Lp.wide {N' : Nat} (h : Lp w N mb at_ here lock ee k want held who wr) (hN : N ≤ N') : Lp w N' mb at_ here lock ee k want held who wr := by
  obtain ⟨⟨m, h1, h2, h3, h4, h5, h6⟩, h7⟩ := h
  exact ⟨⟨m, h1, h2, h3, h4, fun b hb => ⟨(h5 b hb).1, Nat.lt_of_lt_of_le (h5 b hb).2 hN⟩, h6⟩, h7⟩
theorem Lp.now (h : Lp w N mb at_ here lock ee k want held who wr) : Lp w wr.heap.size mb at_ here lock ee k want held who wr := by
  obtain ⟨⟨m, h1, h2, h3, h4, h5, h6⟩, h7⟩ := h
  exact ⟨⟨m, h1, h2, h3, h4, fun b hb => ⟨(h5 b hb).1, h2.foot_lt hb⟩, h6⟩, h7⟩
theorem lp_set (h : Lp w N mb at_ here lock ee k want held who wr) (A I v : Int) :
    Calls Try.prog 26 #[.pointer (some ⟨mb, 0, none⟩), .int .i64 A, .int .i64 I, .int .i64 v] wr fun e w' => ∃ er, e = .returned (.int .i64 er) ∧ (A = at_ → I = here → er = ee) ∧ Lp w N mb at_ here lock ee k (if A = at_ ∧ I = here ∧ ee = 0 then v else want) held who w' ∧ ∀ b, N ≤ b → w'.heap[b]? = wr.heap[b]? := by
  obtain ⟨⟨m, rfl, h2, h3, h4, h5, h6, h7, h8, h9⟩, hb⟩ := h
  refine (Set_c h2 A I v).mono ?_
  rintro e w' ⟨rfl, m', q1, q2, q3, q4, q5, q6, q7, q8, q9⟩
  refine ⟨_, rfl, fun e1 e2 => by rw [e1, e2, h6], ⟨⟨m', q6, q1, q4.trans h3, by rw [q5]; exact h4, fun b hb' => h5 b ((q7 b).1 hb'), ?_, by rw [q3]; exact h7, by rw [q3]; exact h8, by rw [q3]; exact h9⟩, hb.trans (q9 _ fun b hb' => (h5 b hb').1)⟩, fun b hb' => q8 b fun hf => by have := (h5 b hf).2; omega⟩
  rw [q2]
  by_cases hc : A = at_ ∧ I = here ∧ ee = 0
  · obtain ⟨rfl, rfl, rfl⟩ := hc
    rw [if_pos ⟨rfl, rfl, rfl⟩]
    exact getP_same (by rw [h6])
  · rw [if_neg hc]
    by_cases hx : A = at_ ∧ I = here
    · exact (getP_err (by rw [h6]; exact fun e => hc ⟨hx.1, hx.2, e⟩)).trans h6
    · exact (getP_other hx).trans h6
theorem lp_take (h : Lp w N mb at_ here lock ee k want held who wr) (hk : k < 1000000) (A I : Int) (hI : I64 I) :
    Calls Try.prog 27 #[.pointer (some ⟨mb, 0, none⟩), .int .i64 A, .int .i64 I] wr fun e w' => ∃ er, e = .returned (.int .i64 er) ∧ (A = lock → 0 ≤ lock → lock < 4 → er = if held then 6 else 0) ∧ Lp w N mb at_ here lock ee (k + 1) want (if A = lock ∧ 0 ≤ lock ∧ lock < 4 then true else held) (if A = lock ∧ 0 ≤ lock ∧ lock < 4 ∧ held = false then I else who) w' ∧ ∀ b, N ≤ b → w'.heap[b]? = wr.heap[b]? := by
  obtain ⟨⟨m, rfl, h2, h3, h4, h5, h6, h7, h8, h9⟩, hb⟩ := h
  refine (Take_c h2 (by omega) A I hI).mono ?_
  rintro e w' ⟨rfl, m', q1, q2, q3, q4, q5, q6, q7, q8, q9⟩
  refine ⟨_, rfl, ?_, ⟨⟨m', q6, q1, q4.trans h3, by omega, fun b hb' => h5 b ((q7 b).1 hb'), by rw [q2]; exact h6, ?_, ?_, ?_⟩, hb.trans (q9 _ fun b hb' => (h5 b hb').1)⟩, fun b hb' => q8 b fun hf => by have := (h5 b hf).2; omega⟩
  · rintro rfl e1 e2
    unfold takeE
    rw [h3, if_neg (by omega : ¬ (A < 0 ∨ (4 : Int) ≤ A)), h7]
  · rw [q3, takeH_eq, h3]
    by_cases hc : A = lock ∧ 0 ≤ lock ∧ lock < 4
    · obtain ⟨rfl, e1, e2⟩ := hc
      rw [if_pos ⟨rfl, e1, e2⟩]
      cases hs : m.h A with
      | none => rw [if_pos ⟨⟨by omega, rfl⟩, rfl⟩]; rfl
      | some u => rw [if_neg (fun x => by cases x.1.2)]; rfl
    · rw [if_neg hc, if_neg (fun x => hc ⟨x.2.symm, by omega, by omega⟩)]
      exact h7
  · intro u hu
    rw [q3, takeH_eq, h3] at hu
    by_cases hx : (¬ (A < 0 ∨ (4 : Int) ≤ A) ∧ m.h A = none) ∧ lock = A
    · rw [if_pos hx] at hu
      obtain ⟨⟨x1, x2⟩, rfl⟩ := hx
      rw [if_pos ⟨rfl, by omega, by omega, by rw [h7, x2]; rfl⟩]
      exact Option.some.inj hu
    · rw [if_neg hx] at hu
      rw [if_neg (fun y => ?_)]
      · exact h8 u hu
      · obtain ⟨rfl, y1, y2, y3⟩ := y
        rw [h7, hu] at y3
        cases y3
  · intro j hj
    rw [q3, takeH_eq, h3, if_neg (fun x => by omega)]
    exact h9 j hj
theorem lp_give (h : Lp w N mb at_ here lock ee k want held who wr) (A I : Int) :
    Calls Try.prog 28 #[.pointer (some ⟨mb, 0, none⟩), .int .i64 A, .int .i64 I] wr fun e w' => ∃ er, e = .returned (.int .i64 er) ∧ (A = lock → 0 ≤ lock → lock < 4 → er = if held = true ∧ who = I then 0 else 69) ∧ Lp w N mb at_ here lock ee (k + 1) want (if A = lock ∧ 0 ≤ lock ∧ lock < 4 ∧ held = true ∧ who = I then false else held) who w' ∧ ∀ b, N ≤ b → w'.heap[b]? = wr.heap[b]? := by
  obtain ⟨⟨m, rfl, h2, h3, h4, h5, h6, h7, h8, h9⟩, hb⟩ := h
  refine (Give_c h2 A I).mono ?_
  rintro e w' ⟨rfl, m', q1, q2, q3, q4, q5, q6, q7, q8, q9⟩
  have hiff : m.h lock = some I ↔ held = true ∧ who = I := by
    constructor
    · intro hm
      exact ⟨by rw [h7, hm]; rfl, h8 _ hm⟩
    · rintro ⟨e1, rfl⟩
      rw [h7, Option.isSome_iff_exists] at e1
      obtain ⟨u, hu⟩ := e1
      rw [hu, h8 u hu]
  refine ⟨_, rfl, ?_, ⟨⟨m', q6, q1, q4.trans h3, by omega, fun b hb' => h5 b ((q7 b).1 hb'), by rw [q2]; exact h6, ?_, ?_, ?_⟩, hb.trans (q9 _ fun b hb' => (h5 b hb').1)⟩, fun b hb' => q8 b fun hf => by have := (h5 b hf).2; omega⟩
  · rintro rfl e1 e2
    unfold giveE
    rw [h3, if_neg (by omega : ¬ (A < 0 ∨ (4 : Int) ≤ A))]
    by_cases hm : m.h A = some I
    · rw [if_pos hm, if_pos (hiff.1 hm)]
    · rw [if_neg hm, if_neg (fun x => hm (hiff.2 x))]
  · rw [q3, giveH_eq, h3]
    by_cases hc : A = lock ∧ 0 ≤ lock ∧ lock < 4 ∧ held = true ∧ who = I
    · rw [if_pos hc]
      obtain ⟨rfl, e1, e2, e3⟩ := hc
      rw [if_pos ⟨⟨by omega, hiff.2 e3⟩, rfl⟩]
      rfl
    · rw [if_neg hc, if_neg (fun x => hc ⟨x.2.symm, by omega, by omega, hiff.1 (by rw [x.2]; exact x.1.2)⟩)]
      exact h7
  · intro u hu
    rw [q3, giveH_eq] at hu
    split at hu
    · cases hu
    · exact h8 u hu
  · intro j hj
    rw [q3, giveH_eq]
    split
    · rfl
    · exact h9 j hj
theorem lp_set_yes (h : Lp w N mb at_ here lock ee k want held who wr) (A I v : Int) (hA : A = at_) (hI : I = here) (he : ee = 0) :
    Calls Try.prog 26 #[.pointer (some ⟨mb, 0, none⟩), .int .i64 A, .int .i64 I, .int .i64 v] wr fun e w' => e = .returned (.int .i64 0) ∧ Hid (Lp w N mb at_ here lock ee (k + 1) v held who w') ∧ Hid (∀ b, N ≤ b → w'.heap[b]? = wr.heap[b]?) :=
  (lp_set h A I v).mono fun e w' ⟨er, h1, h2, h3, h4⟩ => ⟨by rw [h1, h2 hA hI, he], Lib.hid (by have := h3.next; rwa [if_pos ⟨hA, hI, he⟩] at this), Lib.hid h4⟩
theorem lp_set_no (h : Lp w N mb at_ here lock ee k want held who wr) (A I v : Int) (hn : ¬ (A = at_ ∧ I = here ∧ ee = 0)) :
    Calls Try.prog 26 #[.pointer (some ⟨mb, 0, none⟩), .int .i64 A, .int .i64 I, .int .i64 v] wr fun e w' => (∃ er, e = .returned (.int .i64 er)) ∧ Hid (Lp w N mb at_ here lock ee (k + 1) want held who w') ∧ Hid (∀ b, N ≤ b → w'.heap[b]? = wr.heap[b]?) :=
  (lp_set h A I v).mono fun e w' ⟨er, h1, h2, h3, h4⟩ => ⟨⟨er, h1⟩, Lib.hid (by have := h3.next; rwa [if_neg hn] at this), Lib.hid h4⟩
theorem lp_take_held (h : Lp w N mb at_ here lock ee k want true who wr) (hk : k < 1000000) (A I : Int) (hI : I64 I) (hA : A = lock) (hm : 0 ≤ lock ∧ lock < 4) :
    Calls Try.prog 27 #[.pointer (some ⟨mb, 0, none⟩), .int .i64 A, .int .i64 I] wr fun e w' => e = .returned (.int .i64 6) ∧ Hid (Lp w N mb at_ here lock ee (k + 1) want true who w') ∧ Hid (∀ b, N ≤ b → w'.heap[b]? = wr.heap[b]?) :=
  (lp_take h hk A I hI).mono fun e w' ⟨er, h1, h2, h3, h4⟩ => ⟨by rw [h1, h2 hA hm.1 hm.2]; rfl, Lib.hid (by rwa [if_pos ⟨hA, hm.1, hm.2⟩, if_neg (fun x => by cases x.2.2.2)] at h3), Lib.hid h4⟩
theorem lp_take_free (h : Lp w N mb at_ here lock ee k want false who wr) (hk : k < 1000000) (A I : Int) (hI : I64 I) (hA : A = lock) (hm : 0 ≤ lock ∧ lock < 4) :
    Calls Try.prog 27 #[.pointer (some ⟨mb, 0, none⟩), .int .i64 A, .int .i64 I] wr fun e w' => e = .returned (.int .i64 0) ∧ Hid (Lp w N mb at_ here lock ee (k + 1) want true I w') ∧ Hid (∀ b, N ≤ b → w'.heap[b]? = wr.heap[b]?) :=
  (lp_take h hk A I hI).mono fun e w' ⟨er, h1, h2, h3, h4⟩ => ⟨by rw [h1, h2 hA hm.1 hm.2]; rfl, Lib.hid (by rwa [if_pos ⟨hA, hm.1, hm.2⟩, if_pos ⟨hA, hm.1, hm.2, rfl⟩] at h3), Lib.hid h4⟩
theorem lp_take_no (h : Lp w N mb at_ here lock ee k want held who wr) (hk : k < 1000000) (A I : Int) (hI : I64 I) (hn : ¬ (A = lock ∧ 0 ≤ lock ∧ lock < 4)) :
    Calls Try.prog 27 #[.pointer (some ⟨mb, 0, none⟩), .int .i64 A, .int .i64 I] wr fun e w' => (∃ er, e = .returned (.int .i64 er)) ∧ Hid (Lp w N mb at_ here lock ee (k + 1) want held who w') ∧ Hid (∀ b, N ≤ b → w'.heap[b]? = wr.heap[b]?) :=
  (lp_take h hk A I hI).mono fun e w' ⟨er, h1, h2, h3, h4⟩ => ⟨⟨er, h1⟩, Lib.hid (by rwa [if_neg hn, if_neg (fun x => hn ⟨x.1, x.2.1, x.2.2.1⟩)] at h3), Lib.hid h4⟩
theorem lp_give_yes (h : Lp w N mb at_ here lock ee k want true who wr) (A I : Int) (hA : A = lock) (hm : 0 ≤ lock ∧ lock < 4) (hw : who = I) :
    Calls Try.prog 28 #[.pointer (some ⟨mb, 0, none⟩), .int .i64 A, .int .i64 I] wr fun e w' => e = .returned (.int .i64 0) ∧ Hid (Lp w N mb at_ here lock ee (k + 1) want false who w') ∧ Hid (∀ b, N ≤ b → w'.heap[b]? = wr.heap[b]?) :=
  (lp_give h A I).mono fun e w' ⟨er, h1, h2, h3, h4⟩ => ⟨by rw [h1, h2 hA hm.1 hm.2, if_pos ⟨rfl, hw⟩], Lib.hid (by rwa [if_pos ⟨hA, hm.1, hm.2, rfl, hw⟩] at h3), Lib.hid h4⟩
theorem lp_give_not (h : Lp w N mb at_ here lock ee k want held who wr) (A I : Int) (hA : A = lock) (hm : 0 ≤ lock ∧ lock < 4) (hw : ¬ (held = true ∧ who = I)) :
    Calls Try.prog 28 #[.pointer (some ⟨mb, 0, none⟩), .int .i64 A, .int .i64 I] wr fun e w' => e = .returned (.int .i64 69) ∧ Hid (Lp w N mb at_ here lock ee (k + 1) want held who w') ∧ Hid (∀ b, N ≤ b → w'.heap[b]? = wr.heap[b]?) :=
  (lp_give h A I).mono fun e w' ⟨er, h1, h2, h3, h4⟩ => ⟨by rw [h1, h2 hA hm.1 hm.2, if_neg hw], Lib.hid (by rwa [if_neg (fun x => hw x.2.2.2)] at h3), Lib.hid h4⟩
theorem lp_give_no (h : Lp w N mb at_ here lock ee k want held who wr) (A I : Int) (hn : ¬ (A = lock ∧ 0 ≤ lock ∧ lock < 4)) :
    Calls Try.prog 28 #[.pointer (some ⟨mb, 0, none⟩), .int .i64 A, .int .i64 I] wr fun e w' => (∃ er, e = .returned (.int .i64 er)) ∧ Hid (Lp w N mb at_ here lock ee (k + 1) want held who w') ∧ Hid (∀ b, N ≤ b → w'.heap[b]? = wr.heap[b]?) :=
  (lp_give h A I).mono fun e w' ⟨er, h1, h2, h3, h4⟩ => ⟨⟨er, h1⟩, Lib.hid (by rwa [if_neg (fun x => hn ⟨x.1, x.2.1, x.2.2.1⟩)] at h3), Lib.hid h4⟩
theorem lp_get (h : Lp w N mb at_ here lock ee k want held who wr) : Calls Try.prog 24 #[.pointer (some ⟨mb, 0, none⟩), .int .i64 at_, .int .i64 here] wr fun e w' => e = .returned (.tuple #[.int .i64 want, .int .i64 ee]) ∧ w' = wr := by
  obtain ⟨⟨m, rfl, h2, h3, h4, h5, h6, h7⟩, hb⟩ := h
  have := Get_c h2 at_ here
  unfold gets at this
  rw [h6] at this
  exact this
theorem lp_holder (h : Lp w N mb at_ here lock ee k want held who wr) (hl : I64 lock) : Calls Try.prog 25 #[.pointer (some ⟨mb, 0, none⟩), .int .i64 lock] wr fun e w' => e = .returned (.tuple #[.int .i64 (if held then who else 0), .bool held]) ∧ w' = wr := by
  obtain ⟨⟨m, rfl, h2, h3, h4, h5, h6, h7, h8, h9⟩, hb⟩ := h
  refine (Holder_c h2 lock hl).mono ?_
  rintro e w' ⟨rfl, rfl⟩
  refine ⟨?_, rfl⟩
  unfold holds
  rw [h7]
  cases hs : m.h lock with
  | none => rfl
  | some u => rw [h8 u hs]; rfl
end Go.Proofs.Ytimbhdekbceajaa.Me
