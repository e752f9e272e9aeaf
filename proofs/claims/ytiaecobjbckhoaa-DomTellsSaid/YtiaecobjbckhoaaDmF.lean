/- The walk's ranks are such a tree; what goes leaves is what the lowest ones begin with (plain; no memory). Conditions: none. -/
import Derived.Test.YtiaecobjbckhoaaDmE
import Derived.Test.YtiaecobjbckhoaaDmB
set_option linter.unusedVariables false
set_option linter.unusedSimpArgs false
namespace Go.Proofs.Ytiaecobjbckhoaa.Dm

/-- who goes to whom, by ranks -/
def Ed (S : Nat → List Int) (s : Th) (x y : Nat) : Prop := ∃ b : Nat, s.met[x]? = some (b : Int) ∧ ∃ t ∈ S b, s.rank t.toNat = (y : Int)
theorem gone_dfs {n : Nat} {S : Nat → List Int} {s0 s : Th} (G : Gone n S s0 s) (h0 : s0.met = []) (hp : 0 < s.met.length) : Dfs s.met.length (parS s) (Ed S s) := by
  have hz : s0.met.length = 0 := by rw [h0]; rfl
  refine ⟨hp, fun y h1 h2 => G.wk.par_lt y h1 h2, fun y h1 h2 => ?_, fun y h1 h2 => ?_, fun x y he hxy => ?_, fun x y he => ?_⟩
  · obtain ⟨v, hv⟩ : ∃ v, s.over[y]? = some v := ⟨_, List.getElem?_eq_getElem (by rw [G.wk.lo]; exact h2)⟩
    obtain ⟨p, rfl, q1, q2, b, c, q3, q4, q5⟩ := G.wk.ov y v h1 hv
    obtain ⟨c', hc, _, hr⟩ := G.wk.mt y _ q4
    have hcc : c' = c := by omega
    subst hcc
    refine ⟨b, ?_, (c' : Int), q5, by simpa using hr⟩
    have : parS s y = p := by unfold parS; rw [List.getD_eq_getElem?_getD, hv]; simp
    rw [this]; exact q3
  · obtain ⟨v, hv⟩ : ∃ v, s.over[y]? = some v := ⟨_, List.getElem?_eq_getElem (by rw [G.wk.lo]; exact h2)⟩
    obtain ⟨p, rfl, q1, q2, _⟩ := G.wk.ov y v h1 hv
    have : parS s y = p := by unfold parS; rw [List.getD_eq_getElem?_getD, hv]; simp
    rw [this]; exact q2
  · obtain ⟨b, hb, t, ht, hr⟩ := he
    obtain ⟨y', h1, h2, h3⟩ := G.cl x b (by omega) hb t ht
    have : y' = y := by omega
    subst this
    exact h3 hxy
  · obtain ⟨b, hb, t, ht, hr⟩ := he
    obtain ⟨y', h1, h2, _⟩ := G.cl x b (by omega) hb t ht
    have hx := (List.getElem?_eq_some_iff.1 hb).1
    exact ⟨hx, by omega⟩

/-- that one goes from one rank to another one -/
def goesP (s : (Nat → Int) × (Nat → List Int)) (f t : Nat) : (Nat → Int) × (Nat → List Int) :=
  if f < t then (upd s.1 t (min (s.1 t) f), s.2) else if t < f ∧ 0 < s.1 t then (s.1, upd s.2 t (s.2 t ++ [(f : Int)])) else s
structure Gi (m : Nat) (P : Nat → Nat → Prop) (s : (Nat → Int) × (Nat → List Int)) : Prop where
  nn : ∀ y, 0 ≤ s.1 y
  le : ∀ y, s.1 y ≤ y
  is : ∀ y, y < m → s.1 y = y ∨ ∃ x : Nat, s.1 y = x ∧ x < y ∧ P x y
  low : ∀ x y, P x y → x < y → s.1 y ≤ x
  in_ : ∀ y, ∀ f ∈ s.2 y, ∃ x : Nat, f = x ∧ y < x ∧ P x y
  all : ∀ x y, P x y → y < x → (x : Int) ∈ s.2 y ∨ s.1 y = 0
theorem goes_gi {m : Nat} {P : Nat → Nat → Prop} {s : (Nat → Int) × (Nat → List Int)} (h : Gi m P s) (f t : Nat) : Gi m (fun x y => P x y ∨ (x = f ∧ y = t)) (goesP s f t) := by
  unfold goesP
  split
  · rename_i hft
    have hle : ∀ y, upd s.1 t (min (s.1 t) f) y ≤ s.1 y := fun y => by
      by_cases e : y = t
      · subst e; rw [upd_at]; exact Int.min_le_left _ _
      · rw [upd_ne _ _ e]; exact Int.le_refl _
    have hnn : ∀ y, 0 ≤ upd s.1 t (min (s.1 t) f) y := fun y => by
      by_cases e : y = t
      · subst e; rw [upd_at]; have := h.nn y; omega
      · rw [upd_ne _ _ e]; exact h.nn y
    refine ⟨hnn, fun y => Int.le_trans (hle y) (h.le y), fun y hy => ?_, fun x y hp hxy => ?_, fun y g hg => ?_, fun x y hp hxy => ?_⟩
    · show upd s.1 t (min (s.1 t) f) y = y ∨ _
      by_cases e : y = t
      · subst e
        refine .inr ?_
        show ∃ x : Nat, upd s.1 y (min (s.1 y) f) y = x ∧ _
        rw [upd_at]
        by_cases hc : s.1 y ≤ f
        · rw [Int.min_eq_left hc]
          rcases h.is y hy with h1 | ⟨x, h1, h2, h3⟩
          · omega
          · exact ⟨x, h1, h2, .inl h3⟩
        · rw [Int.min_eq_right (by omega)]
          exact ⟨f, rfl, hft, .inr ⟨rfl, rfl⟩⟩
      · rw [upd_ne _ _ e]
        rcases h.is y hy with h1 | ⟨x, h1, h2, h3⟩
        · exact .inl h1
        · refine .inr ⟨x, ?_, h2, .inl h3⟩
          show upd s.1 t (min (s.1 t) f) y = x
          rw [upd_ne _ _ e]; exact h1
    · rcases hp with hp | ⟨rfl, rfl⟩
      · exact Int.le_trans (hle y) (h.low x y hp hxy)
      · show upd s.1 y (min (s.1 y) x) y ≤ x
        rw [upd_at]; exact Int.min_le_right _ _
    · obtain ⟨x, h1, h2, h3⟩ := h.in_ y g hg
      exact ⟨x, h1, h2, .inl h3⟩
    · rcases hp with hp | ⟨rfl, rfl⟩
      · rcases h.all x y hp hxy with h1 | h1
        · exact .inl h1
        · refine .inr ?_
          have h2 := hle y
          have h3 := hnn y
          show upd s.1 t (min (s.1 t) f) y = 0
          omega
      · omega
  · split
    · rename_i hft hc
      refine ⟨h.nn, h.le, fun y hy => ?_, fun x y hp hxy => ?_, fun y g hg => ?_, fun x y hp hxy => ?_⟩
      · rcases h.is y hy with h1 | ⟨x, h1, h2, h3⟩
        · exact .inl h1
        · exact .inr ⟨x, h1, h2, .inl h3⟩
      · rcases hp with hp | ⟨rfl, rfl⟩
        · exact h.low x y hp hxy
        · omega
      · change g ∈ upd s.2 t (s.2 t ++ [(f : Int)]) y at hg
        by_cases e : y = t
        · subst e
          rw [upd_at, List.mem_append, List.mem_singleton] at hg
          rcases hg with hg | hg
          · obtain ⟨x, h1, h2, h3⟩ := h.in_ y g hg
            exact ⟨x, h1, h2, .inl h3⟩
          · exact ⟨f, hg, hc.1, .inr ⟨rfl, rfl⟩⟩
        · rw [upd_ne _ _ e] at hg
          obtain ⟨x, h1, h2, h3⟩ := h.in_ y g hg
          exact ⟨x, h1, h2, .inl h3⟩
      · show (x : Int) ∈ upd s.2 t (s.2 t ++ [(f : Int)]) y ∨ s.1 y = 0
        rcases hp with hp | ⟨rfl, rfl⟩
        · rcases h.all x y hp hxy with h1 | h1
          · refine .inl ?_
            by_cases e : y = t
            · subst e; rw [upd_at]; simp [h1]
            · rw [upd_ne _ _ e]; exact h1
          · exact .inr h1
        · exact .inl (by rw [upd_at]; simp)
    · rename_i hft hc
      refine ⟨h.nn, h.le, fun y hy => ?_, fun x y hp hxy => ?_, fun y g hg => ?_, fun x y hp hxy => ?_⟩
      · rcases h.is y hy with h1 | ⟨x, h1, h2, h3⟩
        · exact .inl h1
        · exact .inr ⟨x, h1, h2, .inl h3⟩
      · rcases hp with hp | ⟨rfl, rfl⟩
        · exact h.low x y hp hxy
        · omega
      · obtain ⟨x, h1, h2, h3⟩ := h.in_ y g hg
        exact ⟨x, h1, h2, .inl h3⟩
      · rcases hp with hp | ⟨rfl, rfl⟩
        · exact h.all x y hp hxy
        · refine .inr ?_
          have := h.nn y
          have h1 : ¬ 0 < s.1 y := fun h2 => hc ⟨hxy, h2⟩
          omega
theorem Gi.cong {m : Nat} {P P' : Nat → Nat → Prop} {s : (Nat → Int) × (Nat → List Int)} (h : Gi m P s) (e : ∀ x y, P x y ↔ P' x y) : Gi m P' s :=
  ⟨h.nn, h.le, fun y hy => (h.is y hy).imp id fun ⟨x, a, b, c⟩ => ⟨x, a, b, (e x y).1 c⟩, fun x y p => h.low x y ((e x y).2 p), fun y f hf => by obtain ⟨x, a, b, c⟩ := h.in_ y f hf; exact ⟨x, a, b, (e x y).1 c⟩, fun x y p => h.all x y ((e x y).2 p)⟩
theorem gis {m : Nat} (rank : Nat → Int) (f : Nat) (hr : ∀ t : Int, 0 ≤ rank t.toNat → True) : ∀ (l done : List Int) (P : Nat → Nat → Prop) (s : (Nat → Int) × (Nat → List Int)), (∀ t ∈ l, 0 ≤ rank t.toNat) → Gi m (fun x y => P x y ∨ (x = f ∧ ∃ t ∈ done, rank t.toNat = (y : Int))) s →
    Gi m (fun x y => P x y ∨ (x = f ∧ ∃ t ∈ done ++ l, rank t.toNat = (y : Int))) (l.foldl (fun s x => goesP s f (rank x.toNat).toNat) s) := by
  intro l
  induction l with
  | nil => intro done P s _ h; simpa using h
  | cons a r ih =>
    intro done P s hl h
    have h1 := goes_gi h f (rank a.toNat).toNat
    have ha := hl a (by simp)
    have h2 := ih (done ++ [a]) P _ (fun t ht => hl t (by simp [ht])) (h1.cong fun x y => by
      constructor
      · rintro ((h | ⟨h, t, ht, e⟩) | ⟨h, e⟩)
        · exact .inl h
        · exact .inr ⟨h, t, by simp [ht], e⟩
        · exact .inr ⟨h, a, by simp, by omega⟩
      · rintro (h | ⟨h, t, ht, e⟩)
        · exact .inl (.inl h)
        · rw [List.mem_append, List.mem_singleton] at ht
          rcases ht with ht | rfl
          · exact .inl (.inr ⟨h, t, ht, e⟩)
          · exact .inr ⟨h, by omega⟩)
    rw [List.append_assoc] at h2
    exact h2
/-- what all of it leaves -/
def gAllP (S : Nat → List Int) (s : Th) (low : Nat → Int) (k : Nat) : (Nat → Int) × (Nat → List Int) :=
  (List.range k).foldl (fun g f => (S (s.met.getD f 0).toNat).foldl (fun g x => goesP g f (s.rank x.toNat).toNat) g) (low, fun _ => [])
theorem gall_gi {n : Nat} {S : Nat → List Int} {s0 s : Th} (G : Gone n S s0 s) (h0 : s0.met = []) (low : Nat → Int) (hlow : ∀ y, y < s.met.length → low y = y) (hlow2 : ∀ y, s.met.length ≤ y → low y = 0) : ∀ k, k ≤ s.met.length → Gi s.met.length (fun x y => x < k ∧ Ed S s x y) (gAllP S s low k) := by
  intro k
  induction k with
  | zero =>
    intro _
    refine ⟨fun y => ?_, fun y => ?_, fun y hy => .inl (hlow y hy), fun x y h => by omega, fun y f hf => (by cases hf), fun x y h => by omega⟩
    · show 0 ≤ low y
      by_cases h : y < s.met.length
      · rw [hlow y h]; omega
      · rw [hlow2 y (by omega)]; exact Int.le_refl _
    · show low y ≤ y
      by_cases h : y < s.met.length
      · rw [hlow y h]; exact Int.le_refl _
      · rw [hlow2 y (by omega)]; omega
  | succ k ih =>
    intro hk
    unfold gAllP at ih ⊢
    rw [List.range_succ, List.foldl_append]
    obtain ⟨v, hv⟩ : ∃ v, s.met[k]? = some v := ⟨_, List.getElem?_eq_getElem (by omega)⟩
    obtain ⟨b, rfl, hb, hr⟩ := G.wk.mt k v hv
    have hgd : (s.met.getD k 0).toNat = b := by rw [List.getD_eq_getElem?_getD, hv]; simp
    have hS : ∀ t ∈ S b, 0 ≤ s.rank t.toNat := fun t ht => by
      obtain ⟨y, h1, _⟩ := G.cl k b (by rw [h0]; exact Nat.zero_le _) hv t ht
      omega
    have h1 := gis (m := s.met.length) s.rank k (fun _ _ => trivial) (S b) [] (fun x y => x < k ∧ Ed S s x y) _ hS ((ih (by omega)).cong fun x y => by simp)
    show Gi _ _ ((S (s.met.getD k 0).toNat).foldl _ _)
    rw [hgd]
    refine h1.cong fun x y => ?_
    rw [List.nil_append]
    constructor
    · rintro (⟨h2, h3⟩ | ⟨rfl, t, ht, e⟩)
      · exact ⟨by omega, h3⟩
      · exact ⟨by omega, b, hv, t, ht, e⟩
    · rintro ⟨h2, b', h3, t, ht, e⟩
      by_cases hx : x = k
      · subst hx
        rw [hv] at h3
        have : b = b' := by have := Option.some.inj h3; omega
        subst this
        exact .inr ⟨rfl, t, ht, e⟩
      · exact .inl ⟨by omega, b', h3, t, ht, e⟩
/-- the lowest ones' beginning -/
theorem gall_low {n : Nat} {S : Nat → List Int} {s0 s : Th} (G : Gone n S s0 s) (h0 : s0.met = []) (hp : 0 < s.met.length) (low : Nat → Int) (hlow : ∀ y, y < s.met.length → low y = y) (hlow2 : ∀ y, s.met.length ≤ y → low y = 0) :
    Low0 s.met.length (Ed S s) (gAllP S s low s.met.length).1 ∧ Late s.met.length (Ed S s) (gAllP S s low s.met.length).1 (gAllP S s low s.met.length).2 ∧ ∀ y, 0 ≤ (gAllP S s low s.met.length).1 y := by
  have D := gone_dfs G h0 hp
  have H := gall_gi G h0 low hlow hlow2 s.met.length (Nat.le_refl _)
  refine ⟨⟨fun x y he hxy => H.low x y ⟨(D.inn x y he).1, he⟩ hxy, fun y h1 h2 => ?_, ?_⟩, ⟨fun y hy f hf => ?_, fun x y he hxy _ => H.all x y ⟨(D.inn x y he).1, he⟩ hxy⟩, H.nn⟩
  · have h3 := H.low _ y ⟨by have := D.low y h1 h2; omega, D.tree y h1 h2⟩ (D.low y h1 h2)
    have h4 := D.low y h1 h2
    rcases H.is y h2 with h5 | ⟨x, h5, h6, h7⟩
    · omega
    · exact ⟨x, h5, h6, h7.2⟩
  · have h1 := H.nn 0
    have h2 := H.le 0
    omega
  · obtain ⟨x, h1, h2, h3⟩ := H.in_ y f hf
    exact ⟨x, h1, h3.1, h2, h3.2⟩
end Go.Proofs.Ytiaecobjbckhoaa.Dm
