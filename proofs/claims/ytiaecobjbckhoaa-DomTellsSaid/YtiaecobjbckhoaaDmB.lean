/- Going through a graph deep ahead of wide: what is met, in which row, and over what (plain; no memory). Conditions: none. -/
import Derived.Test.YtiaecobjbckhoaaDmA
set_option linter.unusedVariables false
set_option linter.unusedSimpArgs false
namespace Go.Proofs.Ytiaecobjbckhoaa.Dm

structure Th where
  rank : Nat → Int
  met : List Int
  over : List Int
  low : List Int
def Th.on (s : Th) (b : Nat) (o : Int) : Th := ⟨fun i => if i = b then (s.met.length : Int) else s.rank i, s.met ++ [(b : Int)], s.over ++ [o], s.low ++ [(s.met.length : Int)]⟩
/-- the closure of through -/
def come : Nat → (Nat → List Int) → Th → Nat → Int → Th
  | 0, _, s, _, _ => s
  | q + 1, S, s, b, o => if 0 ≤ s.rank b then s else (S b).foldl (fun s t => come q S s t.toNat (s.rank b)) (s.on b o)
def left (n : Nat) (s : Th) : Nat := (List.range n).countP fun i => decide (s.rank i < 0)
def parS (s : Th) (k : Nat) : Nat := (s.over.getD k 0).toNat

theorem Anc.turn {par par' : Nat → Nat} {m : Nat} (hp : ∀ y, 0 < y → y < m → par y < y) (he : ∀ y, y < m → par' y = par y) {x y : Nat} (h : Anc par x y) (hy : y < m) : Anc par' x y := by
  induction h with
  | here => exact .here _
  | up h0 _ ih => have := hp _ h0 hy; exact .up h0 (by rw [he _ hy]; exact ih (by omega))

structure Ext (s s' : Th) : Prop where
  met : ∃ l, s'.met = s.met ++ l
  over : ∃ l, s'.over = s.over ++ l
  rank : ∀ i, 0 ≤ s.rank i → s'.rank i = s.rank i
theorem Ext.refl (s : Th) : Ext s s := ⟨⟨[], by simp⟩, ⟨[], by simp⟩, fun _ _ => rfl⟩
theorem Ext.trans {a b c : Th} (h : Ext a b) (k : Ext b c) : Ext a c := by
  obtain ⟨⟨l, e⟩, ⟨l', e'⟩, r⟩ := h
  obtain ⟨⟨m, f⟩, ⟨m', f'⟩, t⟩ := k
  exact ⟨⟨l ++ m, by rw [f, e, List.append_assoc]⟩, ⟨l' ++ m', by rw [f', e', List.append_assoc]⟩, fun i hi => by rw [t i (by rw [r i hi]; exact hi), r i hi]⟩
structure Wk (n : Nat) (S : Nat → List Int) (s : Th) : Prop where
  lo : s.over.length = s.met.length
  ll : s.low = (List.range s.met.length).map fun (k : Nat) => (k : Int)
  rk : ∀ b, b < n → s.rank b = -1 ∨ ∃ k : Nat, s.rank b = k ∧ s.met[k]? = some (b : Int)
  mt : ∀ (k : Nat) (x : Int), s.met[k]? = some x → ∃ b : Nat, x = b ∧ b < n ∧ s.rank b = k
  o0 : ∀ v, s.over[0]? = some v → v = -1
  ov : ∀ (k : Nat) (v : Int), 0 < k → s.over[k]? = some v → ∃ p : Nat, v = p ∧ p < k ∧ Anc (parS s) p (k - 1) ∧ ∃ b c : Nat, s.met[p]? = some (b : Int) ∧ s.met[k]? = some (c : Int) ∧ (c : Int) ∈ S b
variable {n : Nat} {S : Nat → List Int}
theorem Wk.par_lt {s : Th} (h : Wk n S s) (y : Nat) (h0 : 0 < y) (hy : y < s.met.length) : parS s y < y := by
  obtain ⟨v, hv⟩ : ∃ v, s.over[y]? = some v := ⟨_, List.getElem?_eq_getElem (by rw [h.lo]; exact hy)⟩
  obtain ⟨p, rfl, hp, _⟩ := h.ov y v h0 hv
  unfold parS
  rw [List.getD_eq_getElem?_getD, hv]
  simpa using hp
theorem Ext.par {s s' : Th} (h : Ext s s') (hw : s.over.length = s.met.length) (y : Nat) (hy : y < s.met.length) : parS s' y = parS s y := by
  obtain ⟨_, ⟨l, e⟩, _⟩ := h
  unfold parS
  rw [List.getD_eq_getElem?_getD, List.getD_eq_getElem?_getD, e, List.getElem?_append_left (by omega)]
theorem Ext.anc {s s' : Th} (h : Ext s s') (hw : Wk n S s) {x y : Nat} (ha : Anc (parS s) x y) (hy : y < s.met.length) : Anc (parS s') x y :=
  ha.turn hw.par_lt (fun y hy => h.par hw.lo y hy) hy
theorem Ext.len {s s' : Th} (h : Ext s s') : s.met.length ≤ s'.met.length := by
  obtain ⟨⟨l, e⟩, _, _⟩ := h
  rw [e, List.length_append]; omega
theorem Ext.at_ {s s' : Th} (h : Ext s s') {k : Nat} {x : Int} (hk : s.met[k]? = some x) : s'.met[k]? = some x := by
  obtain ⟨⟨l, e⟩, _, _⟩ := h
  have := (List.getElem?_eq_some_iff.1 hk).1
  rw [e, List.getElem?_append_left this]; exact hk
theorem Wk.rank_lt {s : Th} (h : Wk n S s) {b : Nat} (hb : b < n) (h0 : 0 ≤ s.rank b) : ∃ k : Nat, s.rank b = k ∧ k < s.met.length ∧ s.met[k]? = some (b : Int) := by
  rcases h.rk b hb with e | ⟨k, e, hk⟩
  · omega
  · exact ⟨k, e, (List.getElem?_eq_some_iff.1 hk).1, hk⟩
theorem left_ext {s s' : Th} (h : Ext s s') (n : Nat) : left n s' ≤ left n s := by
  unfold left
  refine List.countP_mono_left fun i _ hi => ?_
  simp only [decide_eq_true_eq] at hi ⊢
  apply Classical.byContradiction
  intro hc
  have := h.rank i (by omega)
  omega
theorem left_on {s : Th} {n b : Nat} {o : Int} (hb : b < n) (h : s.rank b < 0) : left n (s.on b o) + 1 ≤ left n s := by
  show (List.range n).countP (fun i => decide ((if i = b then (s.met.length : Int) else s.rank i) < 0)) + 1 ≤ (List.range n).countP fun i => decide (s.rank i < 0)
  induction n with
  | zero => omega
  | succ n ih =>
    rw [List.range_succ, List.countP_append, List.countP_append]
    by_cases e : b = n
    · subst e
      have h1 : List.countP (fun i => decide ((if i = b then (s.met.length : Int) else s.rank i) < 0)) (List.range b) ≤ List.countP (fun i => decide (s.rank i < 0)) (List.range b) := by
        refine List.countP_mono_left fun i hm hi => ?_
        have hm := List.mem_range.1 hm
        simp only [decide_eq_true_eq] at hi ⊢
        rw [if_neg (by omega)] at hi
        exact hi
      have h2 : List.countP (fun i => decide (s.rank i < 0)) [b] = 1 := by simp [h]
      have h3 : List.countP (fun i => decide ((if i = b then (s.met.length : Int) else s.rank i) < 0)) [b] = 0 := by
        simp
      omega
    · have h2 := ih (by omega)
      have h3 : List.countP (fun i => decide ((if i = b then (s.met.length : Int) else s.rank i) < 0)) [n] = List.countP (fun i => decide (s.rank i < 0)) [n] := by
        have hne : ¬ n = b := fun h => e h.symm
        simp [hne]
      omega
theorem on_ext {s : Th} {b : Nat} {o : Int} (h : s.rank b < 0) : Ext s (s.on b o) :=
  ⟨⟨_, rfl⟩, ⟨_, rfl⟩, fun i hi => by
    show (if i = b then _ else _) = _
    rw [if_neg (by intro e; subst e; omega)]⟩
/-- the one from which one comes stands over what was met last -/
structure Stk (S : Nat → List Int) (s : Th) (b : Nat) (o : Int) : Prop where
  none : s.met = [] → o = -1
  some : s.met ≠ [] → ∃ p c : Nat, o = p ∧ p < s.met.length ∧ Anc (parS s) p (s.met.length - 1) ∧ s.met[p]? = some (c : Int) ∧ (b : Int) ∈ S c
theorem on_wk {s : Th} {b : Nat} {o : Int} (h : Wk n S s) (hb : b < n) (hr : s.rank b < 0) (hs : Stk S s b o) : Wk n S (s.on b o) := by
  have hx : Ext s (s.on b o) := on_ext hr
  have hlen : (s.on b o).met.length = s.met.length + 1 := by simp [Th.on]
  refine ⟨?_, ?_, ?_, ?_, ?_, ?_⟩
  · simp [Th.on, h.lo]
  · simp only [Th.on, h.ll, List.length_append, List.length_cons, List.length_nil, Nat.zero_add]
    rw [List.range_succ, List.map_append]; rfl
  · intro i hi
    by_cases e : i = b
    · subst e
      refine .inr ⟨s.met.length, ?_, ?_⟩
      · simp [Th.on]
      · simp [Th.on]
    · rcases h.rk i hi with h1 | ⟨k, h1, h2⟩
      · exact .inl (by simp [Th.on, e, h1])
      · exact .inr ⟨k, by simp [Th.on, e, h1], hx.at_ h2⟩
  · intro k x hk
    by_cases e : k < s.met.length
    · have : (s.on b o).met[k]? = s.met[k]? := by simp [Th.on, List.getElem?_append_left e]
      rw [this] at hk
      obtain ⟨c, h1, h2, h3⟩ := h.mt k x hk
      exact ⟨c, h1, h2, by rw [hx.rank c (by omega), h3]⟩
    · have h1 := (List.getElem?_eq_some_iff.1 hk).1
      have h2 : k = s.met.length := by omega
      subst h2
      have : (s.on b o).met[s.met.length]? = some (b : Int) := by simp [Th.on]
      rw [this] at hk
      cases hk
      exact ⟨b, rfl, hb, by simp [Th.on]⟩
  · intro v hv
    by_cases e : s.met = []
    · have h0 : s.over = [] := List.eq_nil_of_length_eq_zero (by rw [h.lo, e]; rfl)
      have := hs.none e
      simp [Th.on, h0] at hv
      omega
    · have h0 : 0 < s.over.length := by rw [h.lo]; exact List.length_pos_iff.2 e
      refine h.o0 v ?_
      have e2 : (s.on b o).over[0]? = s.over[0]? := by unfold Th.on; exact List.getElem?_append_left h0
      rw [← e2]; exact hv
  · intro k v h0 hv
    by_cases e : k < s.over.length
    · have : (s.on b o).over[k]? = s.over[k]? := by simp [Th.on, List.getElem?_append_left e]
      rw [this] at hv
      obtain ⟨p, h1, h2, h3, c, d, h4, h5, h6⟩ := h.ov k v h0 hv
      have := h.lo
      exact ⟨p, h1, h2, hx.anc h h3 (by omega), c, d, hx.at_ h4, hx.at_ h5, h6⟩
    · have h1 := (List.getElem?_eq_some_iff.1 hv).1
      have h2 : k = s.over.length := by simp [Th.on] at h1; omega
      subst h2
      have : (s.on b o).over[s.over.length]? = some o := by simp [Th.on]
      rw [this] at hv
      cases hv
      have hlo := h.lo
      have hne : s.met ≠ [] := by intro e; rw [e] at hlo; simp at hlo; rw [hlo] at h0; simp at h0
      obtain ⟨p, c, q1, q2, q3, q4, q5⟩ := hs.some hne
      rw [hlo]
      exact ⟨p, q1, q2, hx.anc h q3 (by omega), c, b, hx.at_ q4, by simp [Th.on], q5⟩
/-- what comes of going on from a block -/
structure Gone (n : Nat) (S : Nat → List Int) (s s' : Th) : Prop where
  wk : Wk n S s'
  ext : Ext s s'
  sub : ∀ k, s.met.length ≤ k → k < s'.met.length → Anc (parS s') s.met.length k
  cl : ∀ (k : Nat) (b : Nat), s.met.length ≤ k → s'.met[k]? = some (b : Int) → ∀ t ∈ S b, ∃ y : Nat, s'.rank t.toNat = y ∧ y < s'.met.length ∧ (k < y → Anc (parS s') k y)
theorem come_gone (hS : ∀ b, b < n → ∀ t ∈ S b, 0 ≤ t ∧ t < (n : Int)) : ∀ (q : Nat) (s : Th) (b : Nat) (o : Int), Wk n S s → b < n → left n s ≤ q → (s.rank b < 0 → Stk S s b o) → Gone n S s (come q S s b o) ∧ 0 ≤ (come q S s b o).rank b := by
  intro q
  induction q with
  | zero =>
    intro s b o hw hb hq _
    have hr : 0 ≤ s.rank b := by
      apply Classical.byContradiction
      intro hc
      have := left_on (o := 0) hb (show s.rank b < 0 by omega)
      omega
    exact ⟨⟨hw, .refl _, fun k h1 h2 => by unfold come at h2; omega, fun k c h1 h2 => by unfold come at h2; have := (List.getElem?_eq_some_iff.1 h2).1; omega⟩, hr⟩
  | succ q ih =>
    intro s b o hw hb hq hs
    unfold come
    by_cases hr : 0 ≤ s.rank b
    · rw [if_pos hr]
      exact ⟨⟨hw, .refl _, fun k h1 h2 => by omega, fun k c h1 h2 => by have := (List.getElem?_eq_some_iff.1 h2).1; omega⟩, hr⟩
    · rw [if_neg hr]
      have hr' : s.rank b < 0 := by omega
      have hx0 : Ext s (s.on b o) := on_ext hr'
      have hw0 : Wk n S (s.on b o) := on_wk hw hb hr' (hs hr')
      have hq0 : left n (s.on b o) ≤ q := by have := left_on (o := o) hb hr'; omega
      have hr0 : (s.on b o).rank b = s.met.length := by simp [Th.on]
      have hm0 : (s.on b o).met[s.met.length]? = some (b : Int) := by simp [Th.on]
      have hl0 : (s.on b o).met.length = s.met.length + 1 := by simp [Th.on]
      -- the loop
      have loop : ∀ (l done : List Int) (s1 : Th), S b = done ++ l → Wk n S s1 → Ext (s.on b o) s1 → (∀ k, s.met.length ≤ k → k < s1.met.length → Anc (parS s1) s.met.length k) →
          (∀ (k : Nat) (c : Nat), s.met.length < k → s1.met[k]? = some (c : Int) → ∀ t ∈ S c, ∃ y : Nat, s1.rank t.toNat = y ∧ y < s1.met.length ∧ (k < y → Anc (parS s1) k y)) →
          (∀ t ∈ done, 0 ≤ s1.rank t.toNat) →
          let s2 := l.foldl (fun s t => come q S s t.toNat (s.rank b)) s1
          Wk n S s2 ∧ Ext (s.on b o) s2 ∧ (∀ k, s.met.length ≤ k → k < s2.met.length → Anc (parS s2) s.met.length k) ∧
          (∀ (k : Nat) (c : Nat), s.met.length < k → s2.met[k]? = some (c : Int) → ∀ t ∈ S c, ∃ y : Nat, s2.rank t.toNat = y ∧ y < s2.met.length ∧ (k < y → Anc (parS s2) k y)) ∧
          (∀ t ∈ S b, 0 ≤ s2.rank t.toNat) := by
        intro l
        induction l with
        | nil =>
          intro done s1 hl h1 h2 h3 h4 h5
          rw [List.append_nil] at hl
          exact ⟨h1, h2, h3, h4, by rw [hl]; exact h5⟩
        | cons t r ihl =>
          intro done s1 hl h1 h2 h3 h4 h5
          have htS : t ∈ S b := by rw [hl]; simp
          obtain ⟨t0, t1⟩ := hS b hb t htS
          have hrk : s1.rank b = s.met.length := by rw [h2.rank b (by rw [hr0]; omega), hr0]
          have hlen1 : s.met.length + 1 ≤ s1.met.length := by have := h2.len; omega
          have hstk : Stk S s1 t.toNat (s1.rank b) := ⟨fun e => by rw [e] at hlen1; simp at hlen1, fun _ => ⟨s.met.length, b, hrk, by omega, h3 _ (by omega) (by omega), h2.at_ hm0, by rw [Int.toNat_of_nonneg t0]; exact htS⟩⟩
          obtain ⟨G, g0⟩ := ih s1 t.toNat (s1.rank b) h1 (by omega) (by have := left_ext h2 n; omega) (fun _ => hstk)
          have hx2 := h2.trans G.ext
          refine ihl (done ++ [t]) _ (by rw [hl]; simp) G.wk hx2 ?_ ?_ ?_
          · intro k k1 k2
            by_cases e : k < s1.met.length
            · exact G.ext.anc h1 (h3 k k1 e) e
            · have hk := G.sub k (by omega) k2
              refine Anc.trans ?_ hk
              -- the first new one's over is b's rank
              have hlt : s1.met.length < (come q S s1 t.toNat (s1.rank b)).met.length := Nat.lt_of_le_of_lt (Nat.le_of_not_lt e) k2
              have hlo := G.wk.lo
              obtain ⟨v, hv⟩ : ∃ v, (come q S s1 t.toNat (s1.rank b)).over[s1.met.length]? = some v := ⟨_, List.getElem?_eq_getElem (by omega)⟩
              obtain ⟨p, hp, hpl, hpa, _⟩ := G.wk.ov _ v (by omega) hv
              by_cases hps : s.met.length ≤ p
              · refine (G.ext.anc h1 (h3 p hps (by omega)) (by omega)).trans ?_
                refine Anc.up (by omega) ?_
                unfold parS
                rw [List.getD_eq_getElem?_getD, hv, hp]
                exact .here _
              · -- else p is below: it stands over the last one; but so does b's rank, and the first new one's over is b's rank
                exfalso
                have hnew : (come q S s1 t.toNat (s1.rank b)).met ≠ s1.met := by intro e; rw [e] at hlt; omega
                cases q with
                | zero => exact hnew rfl
                | succ q =>
                  rw [come] at hv hnew
                  by_cases hrt : 0 ≤ s1.rank t.toNat
                  · rw [if_pos hrt] at hnew; exact hnew rfl
                  · rw [if_neg hrt] at hv
                    have hpre : ∀ (l : List Int) (a : Th), ∃ z, (l.foldl (fun s u => come q S s u.toNat (s.rank t.toNat)) a).over = a.over ++ z := by
                      have hc : ∀ (q : Nat) (s : Th) (b : Nat) (o : Int), ∃ z, (come q S s b o).over = s.over ++ z := by
                        intro q
                        induction q with
                        | zero => intro s b o; exact ⟨[], by simp [come]⟩
                        | succ q ihq =>
                          intro s b o
                          unfold come
                          split
                          · exact ⟨[], by simp⟩
                          · have : ∀ (l : List Int) (a : Th), ∃ z, (l.foldl (fun s u => come q S s u.toNat (s.rank b)) a).over = a.over ++ z := by
                              intro l
                              induction l with
                              | nil => intro a; exact ⟨[], by simp⟩
                              | cons x r ihr =>
                                intro a
                                obtain ⟨z, hz⟩ := ihq a x.toNat (a.rank b)
                                obtain ⟨y, hy⟩ := ihr (come q S a x.toNat (a.rank b))
                                exact ⟨z ++ y, by rw [List.foldl_cons, hy, hz, List.append_assoc]⟩
                            obtain ⟨z, hz⟩ := this (S b) (s.on b o)
                            exact ⟨[o] ++ z, by rw [hz]; simp [Th.on]⟩
                      intro l
                      induction l with
                      | nil => intro a; exact ⟨[], by simp⟩
                      | cons x r ihr =>
                        intro a
                        obtain ⟨z, hz⟩ := hc q a x.toNat (a.rank t.toNat)
                        obtain ⟨y, hy⟩ := ihr (come q S a x.toNat (a.rank t.toNat))
                        exact ⟨z ++ y, by rw [List.foldl_cons, hy, hz, List.append_assoc]⟩
                    obtain ⟨z, hz⟩ := hpre (S t.toNat) (s1.on t.toNat (s1.rank b))
                    rw [hz] at hv
                    have : ((s1.on t.toNat (s1.rank b)).over ++ z)[s1.met.length]? = some (s1.rank b) := by
                      have hh := h1.lo
                      simp [Th.on, ← hh]
                    rw [this, hrk] at hv
                    cases hv
                    omega
          · intro k c k1 k2 u hu
            by_cases e : k < s1.met.length
            · obtain ⟨x, hx⟩ : ∃ x, s1.met[k]? = some x := ⟨_, List.getElem?_eq_getElem e⟩
              have := G.ext.at_ hx
              rw [k2] at this
              cases this
              obtain ⟨y, y1, y2, y3⟩ := h4 k c k1 hx u hu
              exact ⟨y, by rw [G.ext.rank _ (by omega)]; exact y1, Nat.lt_of_lt_of_le y2 G.ext.len, fun h => G.ext.anc h1 (y3 h) y2⟩
            · exact G.cl k c (by omega) k2 u hu
          · intro u hu
            rw [List.mem_append, List.mem_singleton] at hu
            rcases hu with hu | rfl
            · have := h5 u hu
              rw [G.ext.rank _ this]; exact this
            · exact g0
      obtain ⟨l1, l2, l3, l4, l5⟩ := loop (S b) [] (s.on b o) rfl hw0 (.refl _) (fun k k1 k2 => by
        have e : k = s.met.length := by omega
        rw [e]; exact .here _) (fun k c k1 k2 => by have := (List.getElem?_eq_some_iff.1 k2).1; omega) (fun t ht => by cases ht)
      refine ⟨⟨l1, hx0.trans l2, l3, fun k c k1 k2 t ht => ?_⟩, by rw [l2.rank b (by rw [hr0]; omega), hr0]; omega⟩
      by_cases e : k = s.met.length
      · subst e
        have := l2.at_ hm0
        rw [k2] at this
        cases this
        have h5 := l5 t ht
        obtain ⟨t0, t1⟩ := hS b hb t ht
        obtain ⟨y, y1, y2, _⟩ := l1.rank_lt (b := t.toNat) (by omega) h5
        exact ⟨y, y1, y2, fun h => l3 y (by omega) y2⟩
      · exact l4 k c (by omega) k2 t ht
end Go.Proofs.Ytiaecobjbckhoaa.Dm
