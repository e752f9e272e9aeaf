/- What Lengauer and Tarjan's way makes of the lowest ones: chains that are shortened, and the next one above (plain; no memory). Conditions: none. -/
import Derived.Test.YtiaecobjbckhoaaDmA
set_option linter.unusedVariables false
set_option linter.unusedSimpArgs false
namespace Go.Proofs.Ytiaecobjbckhoaa.Dm

def upd {α : Type} (f : Nat → α) (i : Nat) (v : α) : Nat → α := fun j => if j = i then v else f j
theorem upd_at {α : Type} (f : Nat → α) (i : Nat) (v : α) : upd f i v i = v := by simp [upd]
theorem upd_ne {α : Type} (f : Nat → α) {i j : Nat} (v : α) (h : j ≠ i) : upd f i v j = f j := by simp [upd, h]

def shorten : Nat → (Nat → Int) → (Nat → Int) × (Nat → Int) → Nat → (Nat → Int) × (Nat → Int)
  | 0, _, c, _ => c
  | q + 1, low, c, x =>
    if c.1 x < 0 then c else if c.1 (c.1 x).toNat < 0 then c else
      let c1 := shorten q low c (c.1 x).toNat
      let b1 := if low (c1.2 (c.1 x).toNat).toNat < low (c1.2 x).toNat then upd c1.2 x (c1.2 (c.1 x).toNat) else c1.2
      (upd c1.1 x (c1.1 (c.1 x).toNat), b1)

variable {m : Nat} {par : Nat → Nat} {E : Nat → Nat → Prop}
/-- what stands at one that is tied -/
structure At (par : Nat → Nat) (low : Nat → Int) (k : Nat) (c : (Nat → Int) × (Nat → Int)) (x u b : Nat) : Prop where
  up : c.1 x = u
  ub : c.2 x = b
  lt : u < x
  an : Anc par u x
  bx : Anc par b x
  ua : Anc par u b
  lb : u < b
  ge : ∀ z, Anc par u z → z ≠ u → Anc par z x → k ≤ z
  mn : ∀ z, Anc par u z → z ≠ u → Anc par z x → low b ≤ low z
structure Ch (m : Nat) (par : Nat → Nat) (low : Nat → Int) (k : Nat) (c : (Nat → Int) × (Nat → Int)) : Prop where
  no : ∀ x, x < k → c.1 x = -1
  at_ : ∀ x, k ≤ x → x < m → ∃ u b, At par low k c x u b
theorem Dfs.split (D : Dfs m par E) {u z y x : Nat} (hx : x < m) (h1 : Anc par z x) (h2 : Anc par y x) (_ : Anc par u y) : Anc par z y ∨ (Anc par y z ∧ z ≠ y) := by
  by_cases h : z ≤ y
  · exact .inl (D.both h1 h2 hx h)
  · exact .inr ⟨D.both h2 h1 hx (by omega), by omega⟩
theorem shorten_ch (D : Dfs m par E) {low : Nat → Int} {k : Nat} : ∀ (q : Nat) (c : (Nat → Int) × (Nat → Int)) (x : Nat), Ch m par low k c → k ≤ x → x < m → x ≤ q →
    Ch m par low k (shorten q low c x) ∧ (∃ u b, At par low k (shorten q low c x) x u b ∧ u < k) ∧ ∀ y, (x < y ∨ y < k) → (shorten q low c x).1 y = c.1 y ∧ (shorten q low c x).2 y = c.2 y := by
  intro q
  induction q with
  | zero =>
    intro c x h h1 h2 h3
    obtain ⟨u, b, A⟩ := h.at_ x h1 h2
    have := A.lt; omega
  | succ q ih =>
    intro c x h h1 h2 h3
    obtain ⟨u, b, A⟩ := h.at_ x h1 h2
    have hup : ¬c.1 x < 0 := by rw [A.up]; omega
    have hut : (c.1 x).toNat = u := by rw [A.up]; simp
    by_cases hu : c.1 u < 0
    · have huk : u < k := by
        apply Classical.byContradiction
        intro hn
        obtain ⟨u', b', A'⟩ := h.at_ u (by omega) (by have := A.lt; omega)
        rw [A'.up] at hu; omega
      unfold shorten
      rw [if_neg hup, hut, if_pos hu]
      exact ⟨h, ⟨u, b, A, huk⟩, fun _ _ => ⟨rfl, rfl⟩⟩
    · have huk : k ≤ u := by
        apply Classical.byContradiction
        intro hn
        rw [h.no u (by omega)] at hu; omega
      have hlt := A.lt
      obtain ⟨h', ⟨u', b', A', hk'⟩, hfr⟩ := ih c u h huk (by omega) (by omega)
      unfold shorten
      rw [if_neg hup, hut, if_neg hu]
      generalize shorten q low c u = c1 at *
      have hux : Anc par u x := A.an
      have huu : Anc par u' u := A'.an
      simp only
      have hbx : c1.2 x = b := by rw [(hfr x (.inl hlt)).2, A.ub]
      have key : ∀ (e : Nat), (∀ z, Anc par u' z → z ≠ u' → Anc par z x → low e ≤ low z) → Anc par u' e → u' < e → Anc par e x → ∀ c2 : (Nat → Int) × (Nat → Int), c2.1 = upd c1.1 x (c1.1 u) → (∀ y, y ≠ x → c2.2 y = c1.2 y) → c2.2 x = e →
          Ch m par low k c2 ∧ (∃ u b, At par low k c2 x u b ∧ u < k) ∧ ∀ y, (x < y ∨ y < k) → c2.1 y = c.1 y ∧ c2.2 y = c.2 y := by
        intro e e1 e2 e3 e4 c2 f1 f2 f3
        have hAt : At par low k c2 x u' e := ⟨by rw [f1, upd_at, A'.up], f3, by have := A'.lt; omega, huu.trans hux, e4, e2, e3, fun z z1 z2 z3 => by
          rcases D.split h2 z3 hux huu with hz | ⟨hz, hz'⟩
          · exact A'.ge z z1 z2 hz
          · exact A.ge z hz (by omega) z3, e1⟩
        refine ⟨⟨fun y hy => by rw [f1, upd_ne _ _ (by omega)]; exact h'.no y hy, fun y hy1 hy2 => ?_⟩, ⟨u', e, hAt, hk'⟩, fun y hy => ⟨by rw [f1, upd_ne _ _ (by omega)]; exact (hfr y (by omega)).1, by rw [f2 y (by omega)]; exact (hfr y (by omega)).2⟩⟩
        by_cases hy : y = x
        · subst hy; exact ⟨u', e, hAt⟩
        · obtain ⟨p, r, C⟩ := h'.at_ y hy1 hy2
          exact ⟨p, r, by rw [f1, upd_ne _ _ hy]; exact C.up, by rw [f2 y hy]; exact C.ub, C.lt, C.an, C.bx, C.ua, C.lb, C.ge, C.mn⟩
      have hb' : (c1.2 u).toNat = b' := by rw [A'.ub]; simp
      have hd : (c1.2 x).toNat = b := by rw [hbx]; simp
      have all : ∀ z, Anc par u' z → z ≠ u' → Anc par z x → low b' ≤ low z ∨ low b ≤ low z := by
        intro z z1 z2 z3
        rcases D.split h2 z3 hux huu with hz | ⟨hz, hz'⟩
        · exact .inl (A'.mn z z1 z2 hz)
        · exact .inr (A.mn z hz (by omega) z3)
      have hult := A'.lt
      rw [hb', hd]
      split
      · rename_i hc
        refine key b' (fun z z1 z2 z3 => ?_) A'.ua A'.lb (A'.bx.trans hux) _ rfl (fun y hy => upd_ne _ _ hy) (by show upd _ _ _ _ = _; rw [upd_at, A'.ub])
        rcases all z z1 z2 z3 with h | h <;> omega
      · rename_i hc
        refine key b (fun z z1 z2 z3 => ?_) (huu.trans A.ua) (by have := A.lb; omega) A.bx _ rfl (fun y hy => rfl) hbx
        rcases all z z1 z2 z3 with h | h <;> omega
/-- all that are behind k on the way to x, of which the lowest is asked -/
theorem At.low_all (D : Dfs m par E) {low : Nat → Int} {k : Nat} {c : (Nat → Int) × (Nat → Int)} {x u b : Nat} (A : At par low k c x u b) (hx : x < m) (hu : u < k) (z : Nat) (hz : Anc par z x) (hk : k ≤ z) : low b ≤ low z :=
  A.mn z (D.both A.an hz hx (by omega)) (by omega) hz

/-! the lowest ones -/
structure Ab where
  low : Nat → Int
  up : Nat → Int
  best : Nat → Int
  next : Nat → Int
  below : Nat → List Int
/-- a late one is asked -/
def ask (q : Nat) (k : Nat) (s : Ab) (f : Int) : Ab :=
  let c := shorten q s.low (s.up, s.best) f.toNat
  { s with up := c.1, best := c.2, low := upd s.low k (min (s.low k) (s.low (c.2 f.toNat).toNat)) }
def tell (q : Nat) (s : Ab) (b : Int) : Ab :=
  let c := shorten q s.low (s.up, s.best) b.toNat
  { s with up := c.1, best := c.2, next := upd s.next b.toNat (c.2 b.toNat) }
def turn (q : Nat) (late : Nat → List Int) (over : Nat → Int) (s : Ab) (k : Nat) : Ab :=
  let s1 := (late k).foldl (ask q k) { s with best := upd s.best k k }
  let l := (s1.low k).toNat
  let o := (over k).toNat
  let s2 := { s1 with below := upd s1.below l (s1.below l ++ [(k : Int)]), up := upd s1.up k (over k) }
  let s3 := (s2.below o).foldl (tell q) s2
  { s3 with below := upd s3.below o [] }
/-- from the last one to the first one -/
def turns (q : Nat) (late : Nat → List Int) (over : Nat → Int) : Nat → Ab → Ab
  | 0, s => s
  | j + 1, s => turns q late over j (turn q late over s (j + 1))
def fin (low : Nat → Int) (next : Nat → Int) (k : Nat) : Nat → Int :=
  if 0 < k then (if low (next k).toNat < low k then upd next k (next (next k).toNat) else upd next k (low k)) else next
def fins (low : Nat → Int) (next : Nat → Int) (m : Nat) : Nat → Int := (List.range m).foldl (fin low) next
end Go.Proofs.Ytiaecobjbckhoaa.Dm
