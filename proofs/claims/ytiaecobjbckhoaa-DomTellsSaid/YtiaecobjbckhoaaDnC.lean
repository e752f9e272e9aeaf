/- Who is above whom, by blocks: what the walk through a graph, and the lowest ones, come to (plain; no memory). Conditions: the graph may be. -/
import Derived.Test.YtiaecobjbckhoaaDnB
import Derived.Test.YtiaecobjbckhoaaDbI
import Derived.Test.YtiaecobjbckhoaaDbP
import Derived.Test.YtiaecobjbckhoaaDmE
import Derived.Test.YtiaecobjbckhoaaDmF
set_option linter.unusedVariables false
set_option linter.unusedSimpArgs false
namespace Go.Proofs.Ytiaecobjbckhoaa.Db
open Go Dm

/-- one comes to a block, over such as are allowed -/
inductive Cm (S : Nat → List Int) (ok : Nat → Prop) : Nat → Prop where
  | start (h : ok 0) : Cm S ok 0
  | go {x y : Nat} (a : Cm S ok x) (e : (y : Int) ∈ S x) (h : ok y) : Cm S ok y
theorem Cm.ok {S : Nat → List Int} {ok : Nat → Prop} {b : Nat} (h : Cm S ok b) : ok b := by
  cases h with
  | start h => exact h
  | go _ _ h => exact h
theorem Cm.mono {S S' : Nat → List Int} {ok ok' : Nat → Prop} {b : Nat} (h : Cm S ok b) (hs : ∀ x, ∀ t ∈ S x, t ∈ S' x) (ho : ∀ x, ok x → ok' x) : Cm S' ok' b := by
  induction h with
  | start h => exact .start (ho _ h)
  | go _ e h ih => exact .go ih (hs _ _ e) (ho _ h)
theorem come_ext : ∀ (q : Nat) (S : Nat → List Int) (s : Th) (b : Nat) (o : Int), Ext s (come q S s b o) := by
  intro q
  induction q with
  | zero => intro S s b o; exact Ext.refl s
  | succ q ih =>
    intro S s b o
    unfold come
    split
    · exact Ext.refl s
    · rename_i hr
      have : ∀ (l : List Int) (u : Th), Ext u (l.foldl (fun u t => come q S u t.toNat (u.rank b)) u) := by
        intro l
        induction l with
        | nil => intro u; exact Ext.refl u
        | cons t r ihl => intro u; exact (ih S u t.toNat (u.rank b)).trans (ihl _)
      exact (on_ext (by omega)).trans (this (S b) (s.on b o))
/-- a graph that may be -/
structure Gf (n : Nat) (T : List Tl) : Prop where
  pos : 0 < n
  len : T.length = n
  in_ : ∀ b, b < n → ∀ t ∈ tos T b, 0 ≤ t ∧ t < (n : Int)
section
variable {n : Nat} {T : List Tl}
theorem Gf.g (H : Gf n T) : Gone n (tos T) th0 (thr n T) := (thr_gone H.pos H.in_).1
theorem Gf.met0 (H : Gf n T) : (thr n T).met[0]? = some ((0 : Nat) : Int) := by
  obtain ⟨q, rfl⟩ : ∃ q, n = q + 1 := ⟨n - 1, by have := H.pos; omega⟩
  have e : thr (q + 1) T = ((tos T 0).foldl (fun s t => come q (tos T) s t.toNat (s.rank 0)) (th0.on 0 (-1))) := by
    show (if 0 ≤ th0.rank 0 then th0 else (tos T 0).foldl (fun s t => come q (tos T) s t.toNat (s.rank 0)) (th0.on 0 (-1))) = _
    rw [if_neg (by show ¬(0 : Int) ≤ -1; omega)]
  have : ∀ (l : List Int) (u : Th), Ext u (l.foldl (fun u t => come q (tos T) u t.toNat (u.rank 0)) u) := by
    intro l
    induction l with
    | nil => intro u; exact Ext.refl u
    | cons t r ihl => intro u; exact (come_ext q (tos T) u t.toNat (u.rank 0)).trans (ihl _)
  rw [e]
  exact (this (tos T 0) (th0.on 0 (-1))).at_ rfl
theorem Gf.m0 (H : Gf n T) : 0 < (thr n T).met.length := (List.getElem?_eq_some_iff.1 H.met0).1
theorem Gf.dfs (H : Gf n T) : Dfs (thr n T).met.length (parS (thr n T)) (Ed (tos T) (thr n T)) := gone_dfs H.g rfl H.m0
theorem Gf.met (H : Gf n T) {k : Nat} (hk : k < (thr n T).met.length) : ∃ b : Nat, (thr n T).met[k]? = some (b : Int) ∧ b < n ∧ (thr n T).rank b = k := by
  obtain ⟨x, hx⟩ : ∃ x, (thr n T).met[k]? = some x := ⟨_, List.getElem?_eq_getElem hk⟩
  obtain ⟨b, rfl, h1, h2⟩ := H.g.wk.mt k x hx
  exact ⟨b, hx, h1, h2⟩
theorem Gf.rank (H : Gf n T) {k b : Nat} (h : (thr n T).met[k]? = some (b : Int)) : (thr n T).rank b = k ∧ b < n ∧ k < (thr n T).met.length := by
  obtain ⟨c, hc, h1, h2⟩ := H.g.wk.mt k _ h
  have : c = b := by omega
  subst this
  exact ⟨h2, h1, (List.getElem?_eq_some_iff.1 h).1⟩
theorem Gf.inj (H : Gf n T) {k j b : Nat} (h : (thr n T).met[k]? = some (b : Int)) (h' : (thr n T).met[j]? = some (b : Int)) : k = j := by
  have h1 := (H.rank h).1
  have h2 := (H.rank h').1
  omega
theorem Gf.cl (H : Gf n T) {k b : Nat} (h : (thr n T).met[k]? = some (b : Int)) {y : Nat} (hy : (y : Int) ∈ tos T b) : ∃ r, (thr n T).met[r]? = some (y : Int) ∧ Ed (tos T) (thr n T) k r := by
  obtain ⟨r, h1, h2, _⟩ := H.g.cl k b (Nat.zero_le _) h _ hy
  have hb := H.in_ b (H.rank h).2.1 _ hy
  rw [Int.toNat_natCast] at h1
  rcases H.g.wk.rk y (by omega) with h3 | ⟨j, h3, h4⟩
  · omega
  · have : j = r := by omega
    subst this
    exact ⟨j, h4, b, h, _, hy, by rw [Int.toNat_natCast]; exact h1⟩
theorem Gf.ed (H : Gf n T) {x y : Nat} (h : Ed (tos T) (thr n T) x y) : ∃ b c : Nat, (thr n T).met[x]? = some (b : Int) ∧ (thr n T).met[y]? = some (c : Int) ∧ (c : Int) ∈ tos T b := by
  obtain ⟨b, hb, t, ht, hr⟩ := h
  have hbn := (H.rank hb).2.1
  have ht2 := H.in_ b hbn t ht
  obtain ⟨c, rfl⟩ : ∃ c : Nat, t = c := ⟨t.toNat, by omega⟩
  rw [Int.toNat_natCast] at hr
  rcases H.g.wk.rk c (by omega) with h3 | ⟨j, h3, h4⟩
  · omega
  · have : j = y := by omega
    subst this
    exact ⟨b, c, hb, h4, ht⟩
theorem Gf.all (H : Gf n T) (b : Nat) : Cm (tos T) (fun _ => True) b ↔ ∃ x : Nat, (thr n T).met[x]? = some (b : Int) := by
  constructor
  · intro h
    induction h with
    | start => exact ⟨0, H.met0⟩
    | go _ e _ ih =>
      obtain ⟨k, hk⟩ := ih
      obtain ⟨r, hr, _⟩ := H.cl hk e
      exact ⟨r, hr⟩
  · rintro ⟨x, hx⟩
    have : ∀ x : Nat, ∀ b : Nat, (thr n T).met[x]? = some (b : Int) → Cm (tos T) (fun _ => True) b := by
      intro x
      induction x using Nat.strongRecOn with
      | _ x ih =>
        intro b hb
        have hm := (H.rank hb).2.2
        by_cases e : x = 0
        · subst e
          have : b = 0 := by have := H.met0.symm.trans hb; have := Option.some.inj this; omega
          subst this
          exact .start trivial
        · obtain ⟨c, d, h1, h2, h3⟩ := H.ed (H.dfs.tree x (by omega) hm)
          have : d = b := by have := h2.symm.trans hb; have := Option.some.inj this; omega
          subst this
          exact .go (ih _ (H.dfs.low x (by omega) hm) c h1) h3 trivial
    exact this x b hx
theorem Gf.av (H : Gf n T) {d c : Nat} (hd : (thr n T).met[d]? = some (c : Int)) (b : Nat) : Cm (tos T) (fun y => y ≠ c) b ↔ ∃ x : Nat, (thr n T).met[x]? = some (b : Int) ∧ Av (Ed (tos T) (thr n T)) d x := by
  constructor
  · intro h
    induction h with
    | start h =>
      refine ⟨0, H.met0, .start fun e => h ?_⟩
      subst e
      have := H.met0.symm.trans hd; have := Option.some.inj this; omega
    | go _ e hok ih =>
      obtain ⟨k, hk, hav⟩ := ih
      obtain ⟨r, hr, he⟩ := H.cl hk e
      refine ⟨r, hr, .go hav he fun e' => hok ?_⟩
      subst e'
      have := hr.symm.trans hd; have := Option.some.inj this; omega
  · rintro ⟨x, hx, hav⟩
    induction hav generalizing b with
    | start h =>
      have : b = 0 := by have := H.met0.symm.trans hx; have := Option.some.inj this; omega
      subst this
      refine .start fun e => h ?_
      exact H.inj hd (by rw [← e]; exact H.met0)
    | @go x y a e hne ih =>
      obtain ⟨u, v, h1, h2, h3⟩ := H.ed e
      have : v = b := by have := h2.symm.trans hx; have := Option.some.inj this; omega
      subst this
      refine .go (ih u h1) h3 fun e' => hne ?_
      subst e'
      exact H.inj hx hd
/-! what is known by rank -/
def gAl (n : Nat) (T : List Tl) : (Nat → Int) × (Nat → List Int) := gAll T (thr n T).rank (thr n T).met (fn (thr n T).low) (thr n T).met.length
def tAb (n : Nat) (T : List Tl) : Ab := turns (thr n T).met.length (gAl n T).2 (fn (thr n T).over) ((thr n T).met.length - 1) (ab0 (gAl n T).1)
def nxr (n : Nat) (T : List Tl) : Nat → Int := fins (tAb n T).low (tAb n T).next (thr n T).met.length
theorem Gf.lows (H : Gf n T) : Low0 (thr n T).met.length (Ed (tos T) (thr n T)) (gAl n T).1 ∧ Late (thr n T).met.length (Ed (tos T) (thr n T)) (gAl n T).1 (gAl n T).2 ∧ ∀ y, 0 ≤ (gAl n T).1 y := by
  refine gall_low H.g rfl H.m0 (fn (thr n T).low) (fun y hy => ?_) (fun y hy => ?_)
  · unfold fn
    rw [H.g.wk.ll, List.getD_eq_getElem?_getD, List.getElem?_map, List.getElem?_range hy]
    rfl
  · unfold fn
    rw [H.g.wk.ll, List.getD_eq_getElem?_getD, List.getElem?_eq_none (by simp; exact hy)]
    rfl
theorem Gf.over (H : Gf n T) {k : Nat} (h0 : 0 < k) (hk : k < (thr n T).met.length) : fn (thr n T).over k = (parS (thr n T) k : Int) ∧ parS (thr n T) k < k := by
  obtain ⟨v, hv⟩ : ∃ v, (thr n T).over[k]? = some v := ⟨_, List.getElem?_eq_getElem (by rw [H.g.wk.lo]; exact hk)⟩
  obtain ⟨p, rfl, h1, _⟩ := H.g.wk.ov k v h0 hv
  have : fn (thr n T).over k = (p : Int) := fn_get hv
  unfold parS
  unfold fn at this ⊢
  rw [this]
  simp [h1]
theorem Gf.tn (H : Gf n T) : Tn (thr n T).met.length (parS (thr n T)) (Ed (tos T) (thr n T)) (gAl n T).1 1 (tAb n T) := by
  obtain ⟨h1, h2, h3⟩ := H.lows
  have hm := H.m0
  refine turns_tn H.dfs (Nat.le_succ _) (fun k h0 hk => (H.over h0 hk).1) h2 _ _ (by omega) ?_
  have e : (thr n T).met.length - 1 + 1 = (thr n T).met.length := by omega
  rw [e]
  exact ab0_tn H.dfs h3 h1
theorem Gf.nx1 (H : Gf n T) {b : Nat} (h0 : 0 < b) (hb : b < (thr n T).met.length) : ∃ u : Nat, (tAb n T).next b = u ∧ u < (thr n T).met.length := by
  have Tq := H.tn
  rcases Tq.nx b (by omega) hb with h | ⟨u, hu, N⟩
  · exfalso
    obtain ⟨k, hn, h1, h2, h3, h4⟩ := Tq.bk _ _ h
    have e : k = b := by omega
    subst e
    obtain ⟨ha, hlt⟩ := Tq.a k h0 hb
    have hnn := Tq.nn k
    obtain ⟨c, c1, c2, c3⟩ := H.dfs.child ha hb (by omega)
    exact h4 c c1 c2 (by omega) c3
  · exact ⟨u, hu, by have := H.dfs.le N.up hb; omega⟩
theorem Gf.idom (H : Gf n T) {b : Nat} (h0 : 0 < b) (hb : b < (thr n T).met.length) : ∃ d : Nat, nxr n T b = d ∧ Idom (Ed (tos T) (thr n T)) d b := fins_idom H.dfs H.lows.1 H.tn b h0 hb
/-- of rank 0 there is none -/
structure Zr (s : Ab) : Prop where
  nx : s.next 0 = -1
  bl : ∀ o, ∀ x ∈ s.below o, 0 < x
theorem zr_ask (q k : Nat) {s : Ab} (h : Zr s) (f : Int) : Zr (Dm.ask q k s f) := ⟨h.nx, h.bl⟩
theorem zr_tell (q : Nat) {s : Ab} (h : Zr s) {b : Int} (hb : 0 < b) : Zr (tell q s b) := ⟨by
  show upd s.next b.toNat _ 0 = -1
  rw [upd_ne _ _ (by omega)]; exact h.nx, h.bl⟩
theorem zr_turn (q : Nat) (late : Nat → List Int) (over : Nat → Int) {s : Ab} (h : Zr s) {k : Nat} (hk : 0 < k) : Zr (turn q late over s k) := by
  have h1 : ∀ (l : List Int) (u : Ab), Zr u → Zr (l.foldl (Dm.ask q k) u) := by
    intro l
    induction l with
    | nil => intro u hu; exact hu
    | cons x r ih => intro u hu; exact ih _ (zr_ask q k hu x)
  have h2 : ∀ (l : List Int) (u : Ab), (∀ x ∈ l, 0 < x) → Zr u → Zr (l.foldl (tell q) u) := by
    intro l
    induction l with
    | nil => intro u _ hu; exact hu
    | cons x r ih => intro u hl hu; exact ih _ (fun y hy => hl y (List.mem_cons_of_mem _ hy)) (zr_tell q hu (hl x List.mem_cons_self))
  have h3 := h1 (late k) { s with best := upd s.best k k } ⟨h.nx, h.bl⟩
  unfold turn
  dsimp only
  generalize (late k).foldl (Dm.ask q k) { s with best := upd s.best k k } = s1 at h3
  have h4 : Zr { s1 with below := upd s1.below (s1.low k).toNat (s1.below (s1.low k).toNat ++ [(k : Int)]), up := upd s1.up k (over k) } := ⟨h3.nx, fun o x hx => by
    by_cases e : o = (s1.low k).toNat
    · subst e
      have hx' : x ∈ upd s1.below (s1.low k).toNat (s1.below (s1.low k).toNat ++ [(k : Int)]) (s1.low k).toNat := hx
      rw [upd_at, List.mem_append, List.mem_singleton] at hx'
      rcases hx' with h | h
      · exact h3.bl _ x h
      · omega
    · have hx' : x ∈ upd s1.below (s1.low k).toNat (s1.below (s1.low k).toNat ++ [(k : Int)]) o := hx
      rw [upd_ne _ _ e] at hx'
      exact h3.bl _ x hx'⟩
  have h5 := h2 _ _ (fun x hx => h4.bl (over k).toNat x hx) h4
  refine ⟨h5.nx, fun o x hx => ?_⟩
  by_cases e : o = (over k).toNat
  · subst e
    have hx' := hx
    simp only [upd_at] at hx'
    cases hx'
  · have hx' := hx
    simp only [upd_ne _ _ e] at hx'
    exact h5.bl _ x hx'
theorem zr_turns (q : Nat) (late : Nat → List Int) (over : Nat → Int) : ∀ (j : Nat) (s : Ab), Zr s → Zr (turns q late over j s)
  | 0, s, h => h
  | j + 1, s, h => zr_turns q late over j _ (zr_turn q late over h (by omega))
theorem fins_0 (low next : Nat → Int) (m : Nat) : fins low next m 0 = next 0 := by
  unfold fins
  induction m with
  | zero => rfl
  | succ m ih =>
    rw [List.range_succ, List.foldl_append]
    show fin low _ m 0 = _
    unfold fin
    split
    · split
      · rw [upd_ne _ _ (by omega)]; exact ih
      · rw [upd_ne _ _ (by omega)]; exact ih
    · exact ih
theorem nxr_0 (n : Nat) (T : List Tl) : nxr n T 0 = -1 := by
  unfold nxr
  rw [fins_0]
  exact (zr_turns _ _ _ _ _ (⟨rfl, fun o x h => (by cases h)⟩ : Zr (ab0 (gAl n T).1))).nx
/-! by block -/
def nxt (n : Nat) (T : List Tl) : Nat → Int := nextsP (fn (thr n T).met) (nxr n T) (thr n T).met.length
def hgt (n : Nat) (T : List Tl) (b : Nat) : Nat := n - ((thr n T).rank b).toNat
theorem Gf.nxt_all (H : Gf n T) : ∀ k, k ≤ (thr n T).met.length →
    (∀ b : Nat, (∃ j : Nat, 0 < j ∧ j < k ∧ (thr n T).met[j]? = some (b : Int)) → ∃ j p c : Nat, (thr n T).met[j]? = some (b : Int) ∧ nxr n T j = p ∧ (thr n T).met[p]? = some (c : Int) ∧ nextsP (fn (thr n T).met) (nxr n T) k b = c) ∧
    (∀ b : Nat, (∀ j : Nat, 0 < j → j < k → (thr n T).met[j]? ≠ some (b : Int)) → nextsP (fn (thr n T).met) (nxr n T) k b = -1) := by
  intro k
  induction k with
  | zero => intro _; exact ⟨fun b ⟨j, _, h, _⟩ => by omega, fun b _ => rfl⟩
  | succ k ih =>
    intro hk
    obtain ⟨i1, i2⟩ := ih (by omega)
    unfold nextsP
    by_cases h0 : k = 0
    · subst h0
      rw [nxr_0, if_neg (by omega)]
      exact ⟨fun b ⟨j, h1, h2, _⟩ => by omega, fun b h => i2 b fun j h1 h2 => by omega⟩
    · obtain ⟨d, hd, I⟩ := H.idom (by omega : 0 < k) (by omega)
      obtain ⟨b0, hb0, hb1, hb2⟩ := H.met (by omega : k < _)
      have hdk := I.lt
      obtain ⟨c0, hc0, hc1, hc2⟩ := H.met (by omega : d < _)
      rw [if_pos (by omega), fn_get hb0, hd, Int.toNat_natCast, Int.toNat_natCast, fn_get hc0]
      refine ⟨fun b ⟨j, h1, h2, h3⟩ => ?_, fun b h => ?_⟩
      · by_cases e : b = b0
        · subst e
          exact ⟨k, d, c0, hb0, hd, hc0, by rw [upd_at]⟩
        · rw [upd_ne _ _ e]
          refine i1 b ⟨j, h1, ?_, h3⟩
          have : j ≠ k := fun e' => e (by subst e'; have := h3.symm.trans hb0; have := Option.some.inj this; omega)
          omega
      · have e : b ≠ b0 := fun e => h k (by omega) (by omega) (by subst e; exact hb0)
        rw [upd_ne _ _ e]
        exact i2 b fun j h1 h2 => h j h1 (by omega)
/-- the next one above: of a block to which one comes -/
theorem Gf.nxt_some (H : Gf n T) {b : Nat} (hc : Cm (tos T) (fun _ => True) b) (h0 : b ≠ 0) : ∃ p : Nat, nxt n T b = p ∧ p < n ∧ hgt n T b < hgt n T p ∧ Cm (tos T) (fun _ => True) p ∧ ¬Cm (tos T) (fun y => y ≠ p) b ∧ ∀ a, a ≠ b → ¬Cm (tos T) (fun y => y ≠ a) b → a = p ∨ ¬Cm (tos T) (fun y => y ≠ a) p := by
  obtain ⟨x, hx⟩ := (H.all b).1 hc
  have hx0 : x ≠ 0 := fun e => h0 (by subst e; have := H.met0.symm.trans hx; have := Option.some.inj this; omega)
  obtain ⟨hr, hbn, hxm⟩ := H.rank hx
  obtain ⟨j, p, c, h1, h2, h3, h4⟩ := (H.nxt_all _ (Nat.le_refl _)).1 b ⟨x, by omega, hxm, hx⟩
  have hjx := H.inj h1 hx
  subst hjx
  obtain ⟨d, hd, I⟩ := H.idom (by omega : 0 < j) hxm
  have hdp : d = p := by omega
  subst hdp
  obtain ⟨hr2, hcn, _⟩ := H.rank h3
  have hlt := I.lt
  have hmn : (thr n T).met.length ≤ n := by
    have h : ((List.range n).map fun (k : Nat) => (k : Int)).length = n := by simp
    refine Nat.le_trans (?_ : _ ≤ ((List.range n).map fun (k : Nat) => (k : Int)).length) (Nat.le_of_eq h)
    refine List.Nodup.length_le_of_subset ?_ fun y hy => ?_
    · unfold List.Nodup
      rw [List.pairwise_iff_getElem]
      intro i k hi hk hik e
      obtain ⟨b1, hb1, _⟩ := H.met hi
      obtain ⟨b2, hb2, _⟩ := H.met hk
      rw [List.getElem?_eq_getElem hi] at hb1
      rw [List.getElem?_eq_getElem hk, ← e, Option.some.inj hb1] at hb2
      have : b1 = b2 := by have := Option.some.inj hb2; omega
      subst this
      have h1 := H.inj (k := i) (j := k) (b := b1) (by rw [List.getElem?_eq_getElem hi, hb1]) (by rw [List.getElem?_eq_getElem hk, ← e, Option.some.inj hb1])
      omega
    · obtain ⟨k, hk⟩ := List.mem_iff_getElem?.1 hy
      obtain ⟨b1, hb1, hb2, _⟩ := H.met (List.getElem?_eq_some_iff.1 hk).1
      rw [hb1] at hk
      cases hk
      exact List.mem_map.2 ⟨b1, List.mem_range.2 hb2, rfl⟩
  refine ⟨c, h4, hcn, by unfold hgt; rw [hr, hr2]; simp; omega, (H.all c).2 ⟨d, h3⟩, fun h => ?_, fun a hab hna => ?_⟩
  · obtain ⟨y, hy, hav⟩ := (H.av h3 b).1 h
    have := H.inj hy hx
    subst this
    exact I.dom hav
  · have hra : ∃ e : Nat, (thr n T).met[e]? = some (a : Int) := by
      apply Classical.byContradiction
      intro hne
      refine hna ?_
      have : ∀ y, Cm (tos T) (fun _ => True) y → Cm (tos T) (fun y => y ≠ a) y := by
        intro y hy
        induction hy with
        | start => exact .start fun e => hne ⟨0, by rw [← e]; exact H.met0⟩
        | go a' e _ ih => exact .go ih e fun e' => hne ((H.all a).1 (by rw [← e']; exact .go a' e trivial))
      exact this b hc
    obtain ⟨e, he⟩ := hra
    have hav : ¬Av (Ed (tos T) (thr n T)) e j := fun h => hna ((H.av he b).2 ⟨j, hx, h⟩)
    have hej : e ≠ j := fun h => hab (by subst h; have := he.symm.trans hx; have := Option.some.inj this; omega)
    rcases I.least e hej hav with h | h
    · subst h
      exact .inl (by have := he.symm.trans h3; have := Option.some.inj this; omega)
    · refine .inr fun hc' => h ?_
      obtain ⟨y, hy, h5⟩ := (H.av he c).1 hc'
      have := H.inj hy h3
      subst this
      exact h5
theorem Gf.nxt_none (H : Gf n T) {b : Nat} (h : b = 0 ∨ ¬Cm (tos T) (fun _ => True) b) : nxt n T b = -1 := by
  refine (H.nxt_all _ (Nat.le_refl _)).2 b fun j h1 h2 h3 => ?_
  rcases h with rfl | h
  · have := H.inj h3 H.met0; omega
  · exact h ((H.all b).2 ⟨j, h3⟩)
theorem Gf.hn (H : Gf n T) : Hn n (nxt n T) (hgt n T) := by
  refine ⟨fun b hb => ?_, fun b => by unfold hgt; omega, H.nxt_none (.inl rfl), H.pos⟩
  by_cases h : b = 0 ∨ ¬Cm (tos T) (fun _ => True) b
  · exact .inl (H.nxt_none h)
  · obtain ⟨p, h1, h2, h3, _⟩ := H.nxt_some (b := b) (Classical.byContradiction fun e => h (.inr e)) fun e => h (.inl e)
    exact .inr ⟨p, h1, h2, h3⟩
/-- the tree of a graph -/
def tre (n : Nat) (T : List Tl) : Tp := growP n (nxt n T)
theorem Gf.un (H : Gf n T) {b : Nat} (hb : Cm (tos T) (fun _ => True) b) (a : Nat) : Un n (nxt n T) a b ↔ ¬Cm (tos T) (fun y => y ≠ a) b := by
  constructor
  · intro h
    induction h with
    | here => exact fun h => h.ok rfl
    | @step c p hc he hu ih =>
      intro hcm
      have h0 : c ≠ 0 := fun e => by subst e; rw [H.nxt_none (.inl rfl)] at he; omega
      obtain ⟨q, h1, h2, h3, h4, h5, h6⟩ := H.nxt_some hb h0
      have : q = p := by omega
      subst this
      have key : ∀ y, Cm (tos T) (fun y => y ≠ a) y → Cm (tos T) (fun y => y ≠ q) y ∨ Cm (tos T) (fun y => y ≠ a) q := by
        intro y hy
        induction hy with
        | start h =>
          by_cases e : q = 0
          · exact .inr (by rw [e]; exact .start h)
          · exact .inl (.start fun e' => e e'.symm)
        | @go x y a' e h ih =>
          rcases ih with h7 | h7
          · by_cases e' : y = q
            · exact .inr (by rw [← e']; exact .go a' e h)
            · exact .inl (.go h7 e e')
          · exact .inr h7
      rcases key c hcm with h7 | h7
      · exact h5 h7
      · exact ih h4 h7
  · have : ∀ q b, hgt n T b + q = n → Cm (tos T) (fun _ => True) b → ¬Cm (tos T) (fun y => y ≠ a) b → Un n (nxt n T) a b := by
      intro q
      induction q using Nat.strongRecOn with
      | _ q ih =>
        intro b hq hb h
        by_cases e : a = b
        · subst e; exact .here
        · have h0 : b ≠ 0 := fun e' => h (by subst e'; exact .start fun e'' => e e''.symm)
          obtain ⟨p, h1, h2, h3, h4, h5, h6⟩ := H.nxt_some hb h0
          obtain ⟨x, hx⟩ := (H.all b).1 hb
          refine .step (H.rank hx).2.1 h1 ?_
          rcases h6 a e h with h7 | h7
          · subst h7; exact .here
          · have h8 : hgt n T p ≤ n := by unfold hgt; omega
            exact ih (n - hgt n T p) (by omega) p (by omega) h4 h7
    exact this (n - hgt n T b) b (by have : hgt n T b ≤ n := by unfold hgt; omega
                                     omega) hb
theorem Gf.reach (H : Gf n T) (b : Nat) : (tre n T).reach (b : Int) = true ↔ Cm (tos T) (fun _ => True) b := by
  unfold tre
  rw [H.hn.reach]
  constructor
  · intro h
    cases h with
    | here => exact .start trivial
    | @step _ p hc he hu =>
      apply Classical.byContradiction
      intro hn
      rw [H.nxt_none (.inr hn)] at he
      omega
  · intro h
    exact (H.un h 0).2 fun hc => by
      have : ∀ y, ¬Cm (tos T) (fun y => y ≠ 0) y := by
        intro y hy
        induction hy with
        | start h => exact h rfl
        | go _ _ _ ih => exact ih
      exact this b hc
/-- above is: no way goes round it -/
theorem Gf.above (H : Gf n T) (a b : Nat) : (tre n T).above (a : Int) (b : Int) = true ↔ Cm (tos T) (fun _ => True) b ∧ ¬Cm (tos T) (fun y => y ≠ a) b := by
  unfold tre
  rw [H.hn.above]
  have hr := H.reach b
  unfold tre at hr
  rw [H.hn.reach] at hr
  constructor
  · rintro ⟨_, h2, h3⟩
    exact ⟨hr.1 h2, (H.un (hr.1 h2) a).1 h3⟩
  · rintro ⟨h1, h2⟩
    have h3 := (H.un h1 a).2 h2
    refine ⟨?_, hr.2 h1, h3⟩
    rcases (hr.2 h1).linear h3 with h | h
    · exact h
    · have := h.root H.hn
      subst this
      exact .here
end
end Go.Proofs.Ytiaecobjbckhoaa.Db
