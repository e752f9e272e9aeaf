/- The lowest ones and the next ones above, as they are found from the last rank to the first one (plain; no memory). Conditions: none. -/
import Derived.Test.YtiaecobjbckhoaaDmC
set_option linter.unusedVariables false
set_option linter.unusedSimpArgs false
namespace Go.Proofs.Ytiaecobjbckhoaa.Dm
variable {m : Nat} {par : Nat → Nat} {E : Nat → Nat → Prop}

theorem Ch.turn {low low' : Nat → Int} {k : Nat} {c : (Nat → Int) × (Nat → Int)} (D : Dfs m par E) (h : Ch m par low k c) (hl : ∀ z, k ≤ z → low' z = low z) : Ch m par low' k c :=
  ⟨h.no, fun x h1 h2 => by
    obtain ⟨u, b, A⟩ := h.at_ x h1 h2
    have hb := A.lb
    refine ⟨u, b, A.up, A.ub, A.lt, A.an, A.bx, A.ua, A.lb, A.ge, fun z z1 z2 z3 => ?_⟩
    rw [hl z (A.ge z z1 z2 z3), hl b (A.ge b A.ua (by omega) A.bx)]
    exact A.mn z z1 z2 z3⟩
/-- what the walk left -/
structure Late (m : Nat) (E : Nat → Nat → Prop) (low0 : Nat → Int) (late : Nat → List Int) : Prop where
  in_ : ∀ y, y < m → ∀ f ∈ late y, ∃ x : Nat, f = x ∧ x < m ∧ y < x ∧ E x y
  all : ∀ x y, E x y → y < x → 0 < y → (x : Int) ∈ late y ∨ low0 y = 0
/-- low as it is to begin with -/
structure Low0 (m : Nat) (E : Nat → Nat → Prop) (low0 : Nat → Int) : Prop where
  l1 : ∀ x y, E x y → x < y → low0 y ≤ x
  is : ∀ y, 0 < y → y < m → ∃ x : Nat, low0 y = x ∧ x < y ∧ E x y
  z : low0 0 = 0
/-- the lowest of those strictly between low and it, and it -/
structure Nx (par : Nat → Nat) (low : Nat → Int) (k b u : Nat) : Prop where
  an : Anc par (low b).toNat u
  ne : (low b).toNat < u
  up : Anc par u b
  mn : ∀ z, Anc par (low b).toNat z → z ≠ (low b).toNat → Anc par z b → low u ≤ low z
  ge : ∀ z, Anc par (low b).toNat z → z ≠ (low b).toNat → Anc par z b → k ≤ z
structure Tn (m : Nat) (par : Nat → Nat) (E : Nat → Nat → Prop) (low0 : Nat → Int) (k : Nat) (s : Ab) : Prop where
  ch : Ch m par s.low k (s.up, s.best)
  old : ∀ y, y < k → s.low y = low0 y
  nn : ∀ y, 0 ≤ s.low y
  le : ∀ y, s.low y ≤ low0 y
  l2 : ∀ x y z, E x y → y < x → 0 < y → k ≤ y → Anc par z x → y < z → s.low y ≤ s.low z
  u : ∀ y, 0 < y → y < m → Sd E (s.low y).toNat y
  a : ∀ y, 0 < y → y < m → Anc par (s.low y).toNat y ∧ s.low y < y
  bk : ∀ o, ∀ b ∈ s.below o, ∃ n : Nat, b = n ∧ s.low n = (o : Int) ∧ k ≤ n ∧ n < m ∧ ∀ c, 0 < c → par c = o → k ≤ c → ¬Anc par c n
  nx : ∀ b, k ≤ b → b < m → (b : Int) ∈ s.below (s.low b).toNat ∨ ∃ u : Nat, s.next b = u ∧ Nx par s.low k b u
theorem Dfs.hi (D : Dfs m par E) {v b k : Nat} (h1 : Hi E k v b) : ∀ f, Anc par b f → f < m → k < b → Hi E k v f := by
  intro f ha
  induction ha with
  | here => intro _ _; exact h1
  | @up y h0 a ih =>
    intro hf hk
    have h2 := D.low _ h0 hf
    have h3 := D.le a (by omega)
    exact (ih (by omega) hk).go (D.tree _ h0 hf) (by omega)
theorem Sd.chain (D : Dfs m par E) {v b f k : Nat} (h : Sd E v b) (hb : k < b) (ha : Anc par b f) (hf : f < m) (he : E f k) : Sd E v k := by
  have h1 : Hi E k v b := by
    rcases h with e | ⟨x, hx, e⟩
    · exact .one e hb
    · exact (hx.weak (by omega)).go e hb
  exact .inr ⟨f, D.hi h1 f ha hf hb, he⟩
/-- what one late one after the other leaves -/
structure Lt (m : Nat) (par : Nat → Nat) (E : Nat → Nat → Prop) (s0 : Ab) (k : Nat) (done : List Int) (s : Ab) : Prop where
  ch : Ch m par s.low (k + 1) (s.up, s.best)
  oth : ∀ y, y ≠ k → s.low y = s0.low y
  le : s.low k ≤ s0.low k
  nn : 0 ≤ s.low k
  l2 : ∀ x : Nat, (x : Int) ∈ done → ∀ z, Anc par z x → k < z → s.low k ≤ s.low z
  u : Sd E (s.low k).toNat k
  a : Anc par (s.low k).toNat k ∧ s.low k < k
  bk : s.best k = k
  nx : s.next = s0.next
  bl : s.below = s0.below
theorem ask_lt (D : Dfs m par E) {low0 : Nat → Int} {q k : Nat} {s0 s : Ab} {done : List Int} (hk0 : 0 < k) (hkm : k < m) (hq : m ≤ q + 1) (T : Tn m par E low0 (k + 1) s0) (L : Lt m par E s0 k done s) {f : Nat} (hf : f < m) (hkf : k < f) (he : E f k) : Lt m par E s0 k (done ++ [(f : Int)]) (ask q k s f) := by
  obtain ⟨c1, ⟨u, b, A, hu⟩, hfr⟩ := shorten_ch D q (s.up, s.best) f L.ch (by omega) hf (by omega)
  have hft : ((f : Int)).toNat = f := by simp
  have hbt : ((shorten q s.low (s.up, s.best) f).2 f).toNat = b := by rw [A.ub]; simp
  have hbk : k < b := by
    have := A.ge b A.ua (by have := A.lb; omega) A.bx
    omega
  have hbm : b ≤ f := D.le A.bx hf
  have hlb : s.low b = s0.low b := L.oth b (by omega)
  have hall : ∀ z, Anc par z f → k < z → s.low b ≤ s.low z := fun z h1 h2 => A.low_all D hf (by omega) z h1 (by omega)
  have hb0 : 0 < b := by omega
  have hbu := T.u b hb0 (by omega)
  have hba := T.a b hb0 (by omega)
  have hnb := T.nn b
  unfold ask
  rw [hft]
  simp only
  rw [hbt]
  have hch : ∀ v, Ch m par (upd s.low k v) (k + 1) (shorten q s.low (s.up, s.best) f) := fun v => c1.turn D fun z hz => upd_ne _ _ (by omega)
  have hmin : min (s.low k) (s.low b) ≤ s.low k ∧ min (s.low k) (s.low b) ≤ s.low b := ⟨Int.min_le_left _ _, Int.min_le_right _ _⟩
  generalize hv : min (s.low k) (s.low b) = v at *
  have e1 : upd s.low k v k = v := upd_at _ _ _
  have e2 : ∀ y, y ≠ k → upd s.low k v y = s.low y := fun y hy => upd_ne _ _ hy
  have hcase : v = s.low k ∨ (v = s.low b ∧ s.low b < s.low k) := by
    by_cases h : s.low k ≤ s.low b
    · exact .inl (by rw [← hv, Int.min_eq_left h])
    · exact .inr ⟨by rw [← hv, Int.min_eq_right (by omega)], by omega⟩
  refine ⟨hch _, fun y hy => (e2 y hy).trans (L.oth y hy), ?_, ?_, ?_, ?_, ?_, ?_, L.nx, L.bl⟩
  · show upd s.low k v k ≤ _
    rw [e1]; exact Int.le_trans hmin.1 L.le
  · show 0 ≤ upd s.low k v k
    rw [e1]
    have := L.nn
    rw [hlb] at hcase
    omega
  · intro x hx z hz hkz
    show upd s.low k v k ≤ upd s.low k v z
    rw [e1, e2 z (by omega)]
    rw [List.mem_append, List.mem_singleton] at hx
    rcases hx with hx | hx
    · exact Int.le_trans hmin.1 (L.l2 x hx z hz hkz)
    · have : x = f := by omega
      subst this
      exact Int.le_trans hmin.2 (hall z hz hkz)
  · show Sd E (upd s.low k v k).toNat k
    rw [e1]
    rcases hcase with h | ⟨h, _⟩
    · rw [h]; exact L.u
    · rw [h, hlb]
      exact hbu.chain D hbk A.bx hf he
  · show Anc par (upd s.low k v k).toNat k ∧ upd s.low k v k < k
    rw [e1]
    rcases hcase with h | ⟨h, h'⟩
    · rw [h]; exact L.a
    · rw [h, hlb]
      have h1 := L.a.2
      have h2 := hba.2
      rw [hlb] at h'
      exact ⟨D.mid hba.1 (by omega) (by omega) (by omega), by omega⟩
  · show (shorten q s.low (s.up, s.best) f).2 k = k
    rw [(hfr k (.inr (by omega))).2]
    exact L.bk
end Go.Proofs.Ytiaecobjbckhoaa.Dm
