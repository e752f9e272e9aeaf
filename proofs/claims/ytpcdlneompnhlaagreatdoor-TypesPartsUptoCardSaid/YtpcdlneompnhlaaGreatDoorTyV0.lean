/- The search for circles: it finds one just if there is one; plain. Conditions: none. -/
import Derived.Test.YtpcdlneompnhlaaGreatDoorTyP1
namespace Go.Proofs.YtpcdlneompnhlaaGreatDoor.Ty
open Go Go.RowKit
open Go.Proofs.YtpcdlneompnhlaaGreatDoor.Lx Go.Proofs.YtpcdlneompnhlaaGreatDoor.Tr

/-- one comes from a to b by one call or more -/
inductive Way (calls : List (List Nat)) (a : Nat) : Nat → Prop
  | one {b : Nat} : b ∈ calls.getD a [] → Way calls a b
  | more {b c : Nat} : Way calls a b → c ∈ calls.getD b [] → Way calls a c
theorem rowK_none {start : Nat} : ∀ {r met left : List Nat}, rowK start r met left = none → start ∈ r
  | t :: r, met, left, h => by
    unfold rowK at h
    by_cases h1 : t = start
    · rw [h1]; simp
    · rw [if_neg h1] at h
      by_cases h2 : t ∈ met
      · rw [if_pos h2] at h; exact List.mem_cons_of_mem _ (rowK_none h)
      · rw [if_neg h2] at h; exact List.mem_cons_of_mem _ (rowK_none h)
theorem rowK_some {start n : Nat} : ∀ {r met left m l : List Nat}, rowK start r met left = some (m, l) → met.Nodup → (∀ x ∈ met, x < n) → (∀ x ∈ r, x < n) →
    start ∉ r ∧ m.Nodup ∧ (∀ x ∈ m, x < n) ∧ ∃ new : List Nat, m.length = met.length + new.length ∧ l = left ++ new ∧ (∀ x, x ∈ m ↔ x ∈ met ∨ x ∈ new) ∧ (∀ x ∈ new, x ∈ r) ∧ ∀ x ∈ r, x ∈ m
  | [], met, left, m, l, h, h1, h2, _ => by
    unfold rowK at h
    cases h
    exact ⟨by simp, h1, h2, [], by simp, by simp, by simp, by simp, by simp⟩
  | t :: r, met, left, m, l, h, h1, h2, h3 => by
    unfold rowK at h
    by_cases hs : t = start
    · rw [if_pos hs] at h; cases h
    · rw [if_neg hs] at h
      by_cases hm : t ∈ met
      · rw [if_pos hm] at h
        obtain ⟨k1, k2, k3, new, k4, k5, k6, k7, k8⟩ := rowK_some h h1 h2 (fun x hx => h3 x (List.mem_cons_of_mem _ hx))
        refine ⟨by simp only [List.mem_cons, not_or]; exact ⟨fun e => hs e.symm, k1⟩, k2, k3, new, k4, k5, k6, fun x hx => List.mem_cons_of_mem _ (k7 x hx), fun x hx => ?_⟩
        rcases List.mem_cons.1 hx with rfl | hx
        · exact (k6 _).2 (Or.inl hm)
        · exact k8 x hx
      · rw [if_neg hm] at h
        obtain ⟨k1, k2, k3, new, k4, k5, k6, k7, k8⟩ := rowK_some h (List.nodup_cons.2 ⟨hm, h1⟩) (fun x hx => by
          rcases List.mem_cons.1 hx with rfl | hx
          · exact h3 _ (by simp)
          · exact h2 x hx) (fun x hx => h3 x (List.mem_cons_of_mem _ hx))
        refine ⟨by simp only [List.mem_cons, not_or]; exact ⟨fun e => hs e.symm, k1⟩, k2, k3, t :: new, by rw [k4]; simp; omega, by rw [k5]; simp, fun x => by rw [k6, List.mem_cons, List.mem_cons]; exact ⟨fun h => by rcases h with (h | h) | h <;> simp [h], fun h => by rcases h with h | h | h <;> simp [h]⟩, fun x hx => ?_, fun x hx => ?_⟩
        · rcases List.mem_cons.1 hx with rfl | hx
          · simp
          · exact List.mem_cons_of_mem _ (k7 x hx)
        · rcases List.mem_cons.1 hx with rfl | hx
          · exact (k6 _).2 (Or.inl (by simp))
          · exact k8 x hx
theorem lt_len {n : Nat} : ∀ {l : List Nat}, l.Nodup → (∀ x ∈ l, x < n) → l.length ≤ n := by
  induction n with
  | zero => intro l _ h; cases l with
    | nil => simp
    | cons x r => exact absurd (h x (by simp)) (by omega)
  | succ n ih =>
    intro l hn h
    have h1 := ih (hn.filter (fun x => decide (x ≠ n))) (fun x hx => by
      have := List.mem_filter.1 hx
      have h2 := h x this.1
      have h3 : x ≠ n := of_decide_eq_true this.2
      omega)
    have h2 : l.count n ≤ 1 := List.nodup_iff_count.1 hn n
    have h3 : l.length = (l.filter (fun x => decide (x ≠ n))).length + l.count n := by
      rw [← List.countP_eq_length_filter, List.count, List.length_eq_countP_add_countP (fun x => decide (x ≠ n)) (l := l)]
      congr 1
      refine List.countP_congr fun x _ => ?_
      by_cases hx : x = n <;> simp [hx]
    omega
/-- what the search keeps -/
structure DfI (calls : List (List Nat)) (start : Nat) (met left : List Nat) : Prop where
  nd : met.Nodup
  lt : ∀ x ∈ met, x < calls.length
  llt : ∀ x ∈ left, x < calls.length
  sub : ∀ x ∈ left, x = start ∨ x ∈ met
  way : ∀ x ∈ met, Way calls start x
  shut : ∀ x, (x = start ∨ x ∈ met) → x ∉ left → ∀ t ∈ calls.getD x [], t ≠ start ∧ t ∈ met
theorem dfs_iff (calls : List (List Nat)) (start : Nat) (hall : ∀ a, ∀ b ∈ calls.getD a [], b < calls.length) : ∀ (f : Nat) (met left : List Nat), DfI calls start met left → left.length + 2 * (calls.length - met.length) + 1 ≤ f → (dfsK calls start f met left = true ↔ Way calls start start)
  | 0, met, left, _, hf => by omega
  | f + 1, met, left, h, hf => by
    have hml := lt_len h.nd h.lt
    unfold dfsK
    cases hl : left.getLast? with
    | none =>
      have : left = [] := List.getLast?_eq_none_iff.1 hl
      subst this
      simp only [Bool.false_eq_true, false_iff]
      intro hw
      have key : ∀ b, Way calls start b → b ≠ start ∧ b ∈ met := by
        intro b hb
        induction hb with
        | one hb => exact h.shut start (Or.inl rfl) (by simp) _ hb
        | more _ hc ih => exact h.shut _ (Or.inr ih.2) (by simp) _ hc
      exact (key start hw).1 rfl
    | some t =>
      have hle : left = left.dropLast ++ [t] := by
        have := List.getLast?_eq_some_iff.1 hl
        obtain ⟨ys, hy⟩ := this
        rw [hy]; simp
      have htl : t ∈ left := by rw [hle]; simp
      have hlen : left.length = left.dropLast.length + 1 := by
        have := congrArg List.length hle
        simpa using this
      have hwt : ∀ b ∈ calls.getD t [], Way calls start b := fun b hb => by
        rcases h.sub t htl with e | hm
        · rw [e] at hb; exact .one hb
        · exact .more (h.way t hm) hb
      simp only
      cases hr : rowK start (calls.getD t []) met left.dropLast with
      | none => 
        simp only [true_iff]
        exact hwt _ (rowK_none hr)
      | some q =>
        obtain ⟨m, l⟩ := q
        simp only
        obtain ⟨k1, k2, k3, new, k4, k5, k6, k7, k8⟩ := rowK_some hr h.nd h.lt (hall t)
        have hml2 := lt_len k2 k3
        refine dfs_iff calls start hall f m l ⟨k2, k3, fun x hx => ?_, fun x hx => ?_, fun x hx => ?_, fun x hx hn y hy => ?_⟩ ?_
        · rw [k5] at hx
          rcases List.mem_append.1 hx with hx | hx
          · exact h.llt x (by rw [hle]; exact List.mem_append_left _ hx)
          · exact k3 x ((k6 x).2 (Or.inr hx))
        · rw [k5] at hx
          rcases List.mem_append.1 hx with hx | hx
          · rcases h.sub x (by rw [hle]; exact List.mem_append_left _ hx) with e | e
            · exact Or.inl e
            · exact Or.inr ((k6 x).2 (Or.inl e))
          · exact Or.inr ((k6 x).2 (Or.inr hx))
        · rcases (k6 x).1 hx with hx | hx
          · exact h.way x hx
          · exact hwt x (k7 x hx)
        · rw [k5, List.mem_append, not_or] at hn
          by_cases hxt : x = t
          · rw [hxt] at hy
            exact ⟨fun e => k1 (e ▸ hy), k8 y hy⟩
          · have hxl : x ∉ left := by
              rw [hle]; simp only [List.mem_append, List.mem_singleton, not_or]
              exact ⟨hn.1, hxt⟩
            have hx2 : x = start ∨ x ∈ met := by
              rcases hx with e | e
              · exact Or.inl e
              · rcases (k6 x).1 e with e | e
                · exact Or.inr e
                · exact absurd e hn.2
            have := h.shut x hx2 hxl y hy
            exact ⟨this.1, (k6 y).2 (Or.inl this.2)⟩
        · rw [k5, List.length_append, k4] 
          rw [k4] at hml2
          omega
theorem back_iff (calls : List (List Nat)) (start : Nat) (hs : start < calls.length) (hall : ∀ a, ∀ b ∈ calls.getD a [], b < calls.length) : backK calls start = true ↔ Way calls start start :=
  dfs_iff calls start hall _ _ _ ⟨by simp, by simp, by simp; exact hs, by simp, by simp, fun x hx hn => by
    rcases hx with e | e
    · exact absurd (by rw [e]; simp) hn
    · cases e⟩ (by simp; omega)
end Go.Proofs.YtpcdlneompnhlaaGreatDoor.Ty
