/- Who is above whom in a graph: ranks, the tree of the walk, and the lowest ones (plain; no memory). Conditions: none. -/
set_option linter.unusedVariables false
set_option linter.unusedSimpArgs false
namespace Go.Proofs.Ytiaecobjbckhoaa.Dm

/-- who stands over whom: a tree on ranks, each one's over is below it -/
inductive Anc (par : Nat → Nat) : Nat → Nat → Prop where
  | here (x : Nat) : Anc par x x
  | up {x y : Nat} (h : 0 < y) (a : Anc par x (par y)) : Anc par x y

structure Dfs (m : Nat) (par : Nat → Nat) (E : Nat → Nat → Prop) : Prop where
  pos : 0 < m
  low : ∀ y, 0 < y → y < m → par y < y
  tree : ∀ y, 0 < y → y < m → E (par y) y
  row : ∀ y, 0 < y → y < m → Anc par (par y) (y - 1)
  fwd : ∀ x y, E x y → x < y → Anc par x y
  inn : ∀ x y, E x y → x < m ∧ y < m

theorem Anc.trans {par : Nat → Nat} {x y z : Nat} (h : Anc par x y) (k : Anc par y z) : Anc par x z := by
  induction k with
  | here => exact h
  | up h0 _ ih => exact .up h0 ih
variable {m : Nat} {par : Nat → Nat} {E : Nat → Nat → Prop}
theorem Dfs.le (D : Dfs m par E) {x y : Nat} (h : Anc par x y) (hy : y < m) : x ≤ y := by
  induction h with
  | here => exact Nat.le_refl _
  | up h0 _ ih => have := D.low _ h0 hy; have := ih (by omega); omega
theorem Dfs.root (D : Dfs m par E) : ∀ y, y < m → Anc par 0 y := by
  intro y
  induction y using Nat.strongRecOn with
  | _ y ih =>
    intro hy
    by_cases h : y = 0
    · subst h; exact .here _
    · have := D.low y (by omega) hy
      exact .up (by omega) (ih _ this (by omega))
/-- of two over one, one is over the other -/
theorem Dfs.both (D : Dfs m par E) {x z y : Nat} (hx : Anc par x y) (hz : Anc par z y) (hy : y < m) (hl : x ≤ z) : Anc par x z := by
  induction hz with
  | here => exact hx
  | @up y h0 a ih =>
    cases hx with
    | here =>
      have := D.low _ h0 hy
      have := D.le a (by omega)
      omega
    | up _ b => have := D.low _ h0 hy; exact ih b (by omega)
theorem Dfs.pred (D : Dfs m par E) {x y : Nat} (h : Anc par x y) (hy : y < m) (hl : x < y) : Anc par x (y - 1) := by
  cases h with
  | here => omega
  | up h0 a => exact a.trans (D.row _ h0 hy)
/-- what is between one and what it is over, it is over, too -/
theorem Dfs.mid (D : Dfs m par E) {x y z : Nat} (h : Anc par x y) (hy : y < m) (h1 : x ≤ z) (h2 : z ≤ y) : Anc par x z := by
  induction y using Nat.strongRecOn with
  | _ y ih =>
    by_cases e : z = y
    · subst e; exact h
    · exact ih (y - 1) (by omega) (D.pred h hy (by omega)) (by omega) (by omega)
theorem Dfs.strict (D : Dfs m par E) {x y : Nat} (h : Anc par x y) (hne : x ≠ y) (hy : y < m) : 0 < y ∧ Anc par x (par y) := by
  cases h with
  | here => exact absurd rfl hne
  | up h0 a => exact ⟨h0, a⟩

/-- one comes from 0 to it without d -/
inductive Av (E : Nat → Nat → Prop) (d : Nat) : Nat → Prop where
  | start (h : d ≠ 0) : Av E d 0
  | go {x y : Nat} (a : Av E d x) (e : E x y) (h : y ≠ d) : Av E d y
/-- one comes from v to it over such as are above k -/
inductive Hi (E : Nat → Nat → Prop) (k v : Nat) : Nat → Prop where
  | one {x : Nat} (e : E v x) (h : k < x) : Hi E k v x
  | go {x y : Nat} (a : Hi E k v x) (e : E x y) (h : k < y) : Hi E k v y
/-- one comes from v to y over higher ones alone -/
def Sd (E : Nat → Nat → Prop) (v y : Nat) : Prop := E v y ∨ ∃ x, Hi E y v x ∧ E x y

theorem Hi.av {k v x d : Nat} (h : Hi E k v x) (hd : d ≤ k) (hv : Av E d v) : Av E d x := by
  induction h with
  | one e h => exact hv.go e (by omega)
  | go _ e h ih => exact ih.go e (by omega)
theorem Sd.av {v y d : Nat} (h : Sd E v y) (hd : d < y) (hv : Av E d v) : Av E d y := by
  rcases h with e | ⟨x, hx, e⟩
  · exact hv.go e (by omega)
  · exact (hx.av (by omega) hv).go e (by omega)
theorem Hi.weak {k k' v x : Nat} (h : Hi E k v x) (hk : k' ≤ k) : Hi E k' v x := by
  induction h with
  | one e h => exact .one e (by omega)
  | go _ e h ih => exact ih.go e (by omega)
/-- down the tree one comes without what is not over it -/
theorem Dfs.down (D : Dfs m par E) {d u w : Nat} (ha : Anc par u w) (hw : w < m) (hu : Av E d u) (hd : ∀ z, Anc par u z → Anc par z w → z ≠ u → z ≠ d) : Av E d w := by
  induction ha with
  | here => exact hu
  | @up y h0 a ih =>
    have hlt := D.low _ h0 hw
    have h1 := ih (by omega) (fun z h1 h2 => hd z h1 (.up h0 h2))
    exact h1.go (D.tree _ h0 hw) (hd _ (.up h0 a) (.here _) (by have := D.le a (by omega); omega))
/-- what is not gone round stands over it -/
theorem Dfs.over (D : Dfs m par E) {d w : Nat} (hw : w < m) (h : ¬Av E d w) : Anc par d w := by
  apply Classical.byContradiction
  intro hn
  apply h
  have h0 : d ≠ 0 := by intro e; subst e; exact hn (D.root w hw)
  exact D.down (D.root w hw) hw (.start h0) (fun z _ hz _ e => hn (e ▸ hz))

/-- what the lowest ones keep to -/
structure Lows (m : Nat) (par : Nat → Nat) (E : Nat → Nat → Prop) (low : Nat → Nat) : Prop where
  l1 : ∀ x y, E x y → x < y → low y ≤ x
  l2 : ∀ x y z, E x y → y < x → 0 < y → Anc par z x → y < z → low y ≤ low z
  u : ∀ y, 0 < y → y < m → Sd E (low y) y
  a : ∀ y, 0 < y → y < m → Anc par (low y) y ∧ low y < y
variable {low : Nat → Nat}
theorem Lows.l0 (D : Dfs m par E) (L : Lows m par E low) {y : Nat} (h0 : 0 < y) (hy : y < m) : low y ≤ par y := L.l1 _ _ (D.tree y h0 hy) (D.low y h0 hy)
/-- what is strictly between low and it is gone round -/
theorem Lows.round (D : Dfs m par E) (L : Lows m par E low) {d y : Nat} (h0 : 0 < y) (hy : y < m) (h1 : low y < d) (h2 : d < y) : Av E d y := by
  refine (L.u y h0 hy).av h2 ?_
  have := L.a y h0 hy
  exact D.down (D.root _ (by omega)) (by omega) (.start (by omega)) (fun z _ hz _ e => by have := D.le hz (by omega); omega)
/-- if none between them has a lower one, it is not gone round -/
theorem Lows.hold (D : Dfs m par E) (L : Lows m par E low) {s w : Nat} (hs : Anc par s w) (hw : w < m) (hne : s ≠ w) (hz : ∀ z, Anc par s z → s ≠ z → Anc par z w → s ≤ low z) : ¬Av E s w := by
  have inv : ∀ x, Av E s x → x < m ∧ (Anc par s x → ∃ z, Anc par s z ∧ s ≠ z ∧ Anc par z x ∧ low z < s) := by
    intro x hx
    induction hx with
    | start h => exact ⟨D.pos, fun h1 => by have := D.le h1 D.pos; omega⟩
    | @go x y _ e hy ih =>
      obtain ⟨hxm, ih⟩ := ih
      obtain ⟨_, hym⟩ := D.inn x y e
      refine ⟨hym, fun hsy => ?_⟩
      have hsy' := D.le hsy hym
      by_cases hsx : Anc par s x
      · obtain ⟨z, h1, h2, h3, h4⟩ := ih hsx
        by_cases hzy : Anc par z y
        · exact ⟨z, h1, h2, hzy, h4⟩
        · have hxy : ¬x < y := fun h => hzy (h3.trans (D.fwd x y e h))
          have hzx := D.le h3 hxm
          have hyz : y < z := by
            apply Classical.byContradiction
            intro hn
            exact hzy (D.mid h3 hxm (by omega) (by omega))
          refine ⟨y, hsy, fun e => hy e.symm, .here _, ?_⟩
          have := L.l2 x y z e (by omega) (by omega) h3 hyz
          omega
      · refine ⟨y, hsy, fun e => hy e.symm, .here _, ?_⟩
        by_cases hxy : x < y
        · have hxa := D.fwd x y e hxy
          have hlt : x < s := by
            apply Classical.byContradiction
            intro hn
            exact hsx (D.both hsy hxa hym (by omega))
          have := L.l1 x y e hxy
          omega
        · by_cases hxe : x = y
          · subst hxe; exact absurd hsy hsx
          · -- the highest one over x that is behind y
            have key : ∀ t, Anc par t x → y < t → ∃ z, Anc par z x ∧ y < z ∧ par z ≤ y := by
              intro t
              induction t using Nat.strongRecOn with
              | _ t iht =>
                intro h1 h2
                by_cases hp : par t ≤ y
                · exact ⟨t, h1, h2, hp⟩
                · have htm : t < m := by have := D.le h1 hxm; omega
                  have := D.low t (by omega) htm
                  exact iht (par t) this ((Anc.up (by omega) (.here _)).trans h1) (by omega)
            obtain ⟨z, k1, k2, k3⟩ := key x (.here _) (by omega)
            have hzm : z < m := by have := D.le k1 hxm; omega
            have hpa : Anc par (par z) x := (Anc.up (by omega) (.here _)).trans k1
            have hps : par z < s := by
              apply Classical.byContradiction
              intro hn
              exact hsx ((D.mid hsy hym (by omega) k3).trans hpa)
            have e1 := L.l2 x y z e (by omega) (by omega) k1 k2
            have e2 := L.l0 D (y := z) (by omega) hzm
            omega
  intro hav
  obtain ⟨z, h1, h2, h3, h4⟩ := (inv w hav).2 hs
  have := hz z h1 h2 h3
  omega

/-- next is the next one above: no way goes round it, and what else is not gone round, is not gone round on the way to it -/
structure Idom (E : Nat → Nat → Prop) (k w : Nat) : Prop where
  lt : k < w
  dom : ¬Av E k w
  least : ∀ d, d ≠ w → ¬Av E d w → d = k ∨ ¬Av E d k
theorem Lows.own (D : Dfs m par E) (L : Lows m par E low) {w : Nat} (h0 : 0 < w) (hw : w < m) (hz : ∀ z, Anc par (low w) z → low w ≠ z → Anc par z w → low w ≤ low z) : Idom E (low w) w := by
  obtain ⟨ha, hl⟩ := L.a w h0 hw
  refine ⟨hl, L.hold D ha hw (by omega) hz, fun d hd hn => ?_⟩
  apply Classical.byContradiction
  intro hc
  have hne : d ≠ low w := fun e => hc (.inl e)
  have hav : Av E d (low w) := Classical.byContradiction fun h => hc (.inr h)
  have hda := D.over hw hn
  have hdl := D.le hda hw
  exact hn ((L.u w h0 hw).av (by omega) hav)
theorem Lows.other (D : Dfs m par E) (L : Lows m par E low) {w u k : Nat} (h0 : 0 < w) (hw : w < m) (hu1 : Anc par (low w) u) (hu2 : low w ≠ u) (hu3 : Anc par u w) (hlt : low u < low w)
    (hmin : ∀ z, Anc par (low w) z → low w ≠ z → Anc par z w → low u ≤ low z) (I : Idom E k u) : Idom E k w := by
  obtain ⟨ha, hl⟩ := L.a w h0 hw
  have hum : u ≤ w := D.le hu3 hw
  have hlu : low w < u := by have := D.le hu1 (by omega); omega
  have hka : Anc par k u := D.over (by omega) I.dom
  have hkz : ∀ z, Anc par k z → k ≠ z → Anc par z u → k ≤ low z := by
    intro z h1 h2 h3
    apply Classical.byContradiction
    intro hn
    have hzu := D.le h3 (by omega)
    have hkz := D.le h1 (by omega)
    apply I.dom
    exact D.down h3 (by omega) (L.round D (by omega) (by omega) (by omega) (by omega)) (fun y y1 _ _ e => by have := D.le y1 (by have := D.le ‹Anc par y u› (by omega); omega); omega)
  have hku := I.lt
  have hklow := hkz u hka (by omega) (.here _)
  refine ⟨by omega, L.hold D (hka.trans hu3) hw (by omega) (fun z h1 h2 h3 => ?_), fun d hd hn => ?_⟩
  · by_cases hc : z ≤ u
    · exact hkz z h1 h2 (D.both h3 hu3 hw hc)
    · have := hmin z (D.both (ha) h3 hw (by omega)) (by omega) h3
      omega
  · have hda := D.over hw hn
    have hdw := D.le hda hw
    have hdl : d ≤ low w := by
      apply Classical.byContradiction
      intro hc
      exact hn (L.round D h0 hw (by omega) (by omega))
    refine I.least d (by omega) (fun hav => hn ?_)
    exact D.down hu3 hw hav (fun y y1 y2 _ e => by have := D.le y1 (by have := D.le y2 hw; omega); omega)
end Go.Proofs.Ytiaecobjbckhoaa.Dm
