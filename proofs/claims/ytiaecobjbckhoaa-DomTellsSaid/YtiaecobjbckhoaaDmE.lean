/- One rank after the other, from the last one: the lowest ones, and the lowest of those between; then the next ones above (plain; no memory). Conditions: none. -/
import Derived.Test.YtiaecobjbckhoaaDmD
set_option linter.unusedVariables false
set_option linter.unusedSimpArgs false
namespace Go.Proofs.Ytiaecobjbckhoaa.Dm
variable {m : Nat} {par : Nat → Nat} {E : Nat → Nat → Prop}

theorem lates (D : Dfs m par E) {low0 : Nat → Int} {q k : Nat} {s0 : Ab} (hk0 : 0 < k) (hkm : k < m) (hq : m ≤ q + 1) (T : Tn m par E low0 (k + 1) s0) : ∀ (l done : List Int) (s : Ab), (∀ f ∈ l, ∃ x : Nat, f = x ∧ x < m ∧ k < x ∧ E x k) → Lt m par E s0 k done s → Lt m par E s0 k (done ++ l) (l.foldl (ask q k) s) := by
  intro l
  induction l with
  | nil => intro done s _ h; rw [List.append_nil]; exact h
  | cons f r ih =>
    intro done s hl h
    obtain ⟨x, rfl, h1, h2, h3⟩ := hl f (by simp)
    have := ih (done ++ [(x : Int)]) (ask q k s x) (fun g hg => hl g (by simp [hg])) (ask_lt D hk0 hkm hq T h h1 h2 h3)
    rw [List.append_assoc] at this
    exact this
theorem lt_start (D : Dfs m par E) {low0 : Nat → Int} {k : Nat} {s0 : Ab} (hk0 : 0 < k) (hkm : k < m) (T : Tn m par E low0 (k + 1) s0) : Lt m par E s0 k [] { s0 with best := upd s0.best k k } := by
  refine ⟨⟨T.ch.no, fun x h1 h2 => ?_⟩, fun _ _ => rfl, Int.le_refl _, T.nn k, fun x hx => (by cases hx), T.u k hk0 hkm, T.a k hk0 hkm, upd_at _ _ _, rfl, rfl⟩
  obtain ⟨u, b, A⟩ := T.ch.at_ x h1 h2
  exact ⟨u, b, A.up, by show upd s0.best k k x = _; rw [upd_ne _ _ (by omega)]; exact A.ub, A.lt, A.an, A.bx, A.ua, A.lb, A.ge, A.mn⟩
theorem Dfs.child (D : Dfs m par E) {o n : Nat} (h : Anc par o n) (hn : n < m) (hl : o < n) : ∃ c, 0 < c ∧ par c = o ∧ Anc par c n := by
  induction h with
  | here => omega
  | @up y h0 a ih =>
    have h1 := D.low _ h0 hn
    by_cases e : par y = o
    · exact ⟨y, h0, e, .here _⟩
    · have h2 := D.le a (by omega)
      obtain ⟨c, c1, c2, c3⟩ := ih (by omega) (by omega)
      exact ⟨c, c1, c2, .up h0 c3⟩
/-- what the loop over those of a block leaves -/
structure Te (m : Nat) (par : Nat → Nat) (k : Nat) (s2 : Ab) (done : List Int) (s : Ab) : Prop where
  ch : Ch m par s2.low k (s.up, s.best)
  low : s.low = s2.low
  bl : s.below = s2.below
  old : ∀ b, (∃ u : Nat, s2.next b = u ∧ Nx par s2.low k b u) → ∃ u : Nat, s.next b = u ∧ Nx par s2.low k b u
  new : ∀ n : Nat, (n : Int) ∈ done → ∃ u : Nat, s.next n = u ∧ Nx par s2.low k n u
theorem tell_te (D : Dfs m par E) {q k : Nat} {s2 s : Ab} {done : List Int} (hk0 : 0 < k) (hkm : k < m) (hq : m ≤ q + 1) (L : Te m par k s2 done s) {n : Nat} (hn : n < m) (hkn : k ≤ n) (hlow : s2.low n = (par k : Int)) (ho : Anc par (par k) n) (hkn' : Anc par k n) : Te m par k s2 (done ++ [(n : Int)]) (tell q s n) := by
  obtain ⟨c1, ⟨u, e, A, hu⟩, hfr⟩ := shorten_ch D q (s.up, s.best) n L.ch hkn hn (by omega)
  have hnt : ((n : Int)).toNat = n := by simp
  have hpk := D.low k hk0 hkm
  have huo : u = par k := by
    have h1 : Anc par u k := D.both A.an hkn' hn (by omega)
    have h2 := (D.strict h1 (by omega) hkm).2
    have h3 := D.le h2 (by omega)
    by_cases h4 : u = par k
    · exact h4
    · have := A.ge (par k) h2 (by omega) ho
      omega
  subst huo
  have hNx : Nx par s2.low k n e := by
    have hl : (s2.low n).toNat = par k := by rw [hlow]; simp
    exact ⟨by rw [hl]; exact A.ua, by rw [hl]; exact A.lb, A.bx, fun z z1 z2 z3 => by rw [hl] at z1 z2; exact A.mn z z1 z2 z3, fun z z1 z2 z3 => by rw [hl] at z1 z2; exact A.ge z z1 z2 z3⟩
  have hten : tell q s n = { s with up := (shorten q s2.low (s.up, s.best) n).1, best := (shorten q s2.low (s.up, s.best) n).2, next := upd s.next n ((shorten q s2.low (s.up, s.best) n).2 n) } := by
    unfold tell
    rw [hnt, L.low]
  rw [hten]
  refine ⟨c1, L.low, L.bl, fun b hb => ?_, fun x hx => ?_⟩
  · show ∃ u : Nat, upd s.next n ((shorten q s2.low (s.up, s.best) n).2 n) b = u ∧ _
    by_cases h : b = n
    · subst h
      exact ⟨e, by rw [upd_at]; exact A.ub, hNx⟩
    · rw [upd_ne _ _ h]
      exact L.old b hb
  · show ∃ u : Nat, upd s.next n ((shorten q s2.low (s.up, s.best) n).2 n) x = u ∧ _
    by_cases h : x = n
    · subst h
      exact ⟨e, by rw [upd_at]; exact A.ub, hNx⟩
    · rw [upd_ne _ _ h]
      rw [List.mem_append, List.mem_singleton] at hx
      rcases hx with hx | hx
      · exact L.new x hx
      · omega
theorem tells (D : Dfs m par E) {q k : Nat} {s2 : Ab} (hk0 : 0 < k) (hkm : k < m) (hq : m ≤ q + 1) : ∀ (l done : List Int) (s : Ab), (∀ b ∈ l, ∃ n : Nat, b = n ∧ n < m ∧ k ≤ n ∧ s2.low n = (par k : Int) ∧ Anc par (par k) n ∧ Anc par k n) → Te m par k s2 done s → Te m par k s2 (done ++ l) (l.foldl (tell q) s) := by
  intro l
  induction l with
  | nil => intro done s _ h; rw [List.append_nil]; exact h
  | cons b r ih =>
    intro done s hl h
    obtain ⟨n, rfl, h1, h2, h3, h4, h5⟩ := hl b (by simp)
    have := ih (done ++ [(n : Int)]) (tell q s n) (fun g hg => hl g (by simp [hg])) (tell_te D hk0 hkm hq h h1 h2 h3 h4 h5)
    rw [List.append_assoc] at this
    exact this
theorem turn_tn (D : Dfs m par E) {low0 : Nat → Int} {late : Nat → List Int} {over : Nat → Int} {q k : Nat} {s0 : Ab} (hk0 : 0 < k) (hkm : k < m) (hq : m ≤ q + 1) (hov : over k = (par k : Int)) (hl : Late m E low0 late) (T : Tn m par E low0 (k + 1) s0) : Tn m par E low0 k (turn q late over s0 k) := by
  have L := lates D hk0 hkm hq T (late k) [] _ (fun f hf => hl.in_ k hkm f hf) (lt_start D hk0 hkm T)
  rw [List.nil_append] at L
  unfold turn
  generalize (late k).foldl (ask q k) { s0 with best := upd s0.best k k } = s1 at *
  have hpk := D.low k hk0 hkm
  have ho : (over k).toNat = par k := by rw [hov]; simp
  obtain ⟨l, hll⟩ : ∃ l : Nat, s1.low k = l := ⟨(s1.low k).toNat, by have := L.nn; omega⟩
  have hlt : (s1.low k).toNat = l := by rw [hll]; simp
  have hLa := L.a
  rw [hlt] at hLa
  simp only [ho, hlt]
  -- tied
  have hch : Ch m par s1.low k (upd s1.up k (over k), s1.best) := by
    refine ⟨fun x hx => by show upd _ _ _ x = _; rw [upd_ne _ _ (by omega)]; exact L.ch.no x (by omega), fun x h1 h2 => ?_⟩
    by_cases e : x = k
    · subst e
      refine ⟨par x, x, by show upd _ _ _ x = _; rw [upd_at]; exact hov, L.bk, hpk, .up hk0 (.here _), .here _, .up hk0 (.here _), hpk, fun z z1 z2 z3 => ?_, fun z z1 z2 z3 => ?_⟩
      · by_cases h : z = x
        · omega
        · have := D.le (D.strict z3 h hkm).2 (by omega)
          have := D.le z1 (by have := D.le z3 hkm; omega)
          omega
      · by_cases h : z = x
        · subst h; exact Int.le_refl _
        · have := D.le (D.strict z3 h hkm).2 (by omega)
          have := D.le z1 (by have := D.le z3 hkm; omega)
          omega
    · obtain ⟨u, b, A⟩ := L.ch.at_ x (by omega) h2
      exact ⟨u, b, by show upd _ _ _ x = _; rw [upd_ne _ _ e]; exact A.up, A.ub, A.lt, A.an, A.bx, A.ua, A.lb, fun z z1 z2 z3 => by have := A.ge z z1 z2 z3; omega, A.mn⟩
  generalize hs2 : ({ s1 with below := upd s1.below l (s1.below l ++ [(k : Int)]), up := upd s1.up k (over k) } : Ab) = s2
  have hsb : upd s1.below l (s1.below l ++ [(k : Int)]) (par k) = s2.below (par k) := by rw [← hs2]
  rw [hsb]
  have e1 : s2.low = s1.low := by rw [← hs2]
  have e2 : s2.next = s0.next := by rw [← hs2]; exact L.nx
  have e3 : s2.below = upd s0.below l (s0.below l ++ [(k : Int)]) := by rw [← hs2]; show upd s1.below _ _ = _; rw [L.bl]
  have e4 : Ch m par s2.low k (s2.up, s2.best) := by rw [← hs2]; exact hch
  have hlow : ∀ y, y ≠ k → s2.low y = s0.low y := fun y hy => by rw [e1]; exact L.oth y hy
  have hlk : s2.low k = l := by rw [e1, hll]
  have mem : ∀ o b, b ∈ s2.below o → b ∈ s0.below o ∨ (b = (k : Int) ∧ o = l) := fun o b hb => by
    rw [e3] at hb
    by_cases h : o = l
    · subst h
      rw [upd_at, List.mem_append, List.mem_singleton] at hb
      exact hb.imp id (fun e => ⟨e, rfl⟩)
    · rw [upd_ne _ _ h] at hb; exact .inl hb
  have mem' : ∀ o b, b ∈ s0.below o → b ∈ s2.below o := fun o b hb => by
    rw [e3]
    by_cases h : o = l
    · subst h; rw [upd_at]; simp [hb]
    · rw [upd_ne _ _ h]; exact hb
  have memk : (k : Int) ∈ s2.below l := by rw [e3, upd_at]; simp
  have hin : ∀ b ∈ s2.below (par k), ∃ n : Nat, b = n ∧ n < m ∧ k ≤ n ∧ s2.low n = (par k : Int) ∧ Anc par (par k) n ∧ Anc par k n := by
    intro b hb
    rcases mem _ b hb with h | ⟨h, h'⟩
    · obtain ⟨n, rfl, n1, n2, n3, n4⟩ := T.bk _ b h
      have hla := T.a n (by omega) n3
      rw [n1] at hla
      have hla1 : Anc par (par k) n := by simpa using hla.1
      refine ⟨n, rfl, n3, by omega, by rw [hlow n (by omega)]; exact n1, hla1, ?_⟩
      obtain ⟨c, c1, c2, c3⟩ := D.child hla1 n3 (by omega)
      have hck : c ≤ k := by
        apply Classical.byContradiction
        intro h
        exact n4 c c1 c2 (by omega) c3
      by_cases e : c = k
      · subst e; exact c3
      · have h1 := D.mid c3 n3 hck (by omega)
        have h2 := D.le (D.strict h1 e hkm).2 (by omega)
        have h3 := D.low c c1 (by omega)
        omega
    · exact ⟨k, h, hkm, Nat.le_refl _, by rw [hlk, h'], .up hk0 (.here _), .here _⟩
  have Te := tells D hk0 hkm hq (s2.below (par k)) [] s2 hin ⟨e4, rfl, rfl, fun _ h => h, fun _ h => (by cases h)⟩
  rw [List.nil_append] at Te
  generalize (s2.below (par k)).foldl (tell q) s2 = s3 at *
  have e5 : s3.low = s2.low := Te.low
  have e6 : s3.below = s2.below := Te.bl
  refine ⟨?_, fun y hy => ?_, fun y => ?_, fun y => ?_, fun x y z h1 h2 h3 h4 h5 h6 => ?_, fun y h1 h2 => ?_, fun y h1 h2 => ?_, fun o b hb => ?_, fun b h1 h2 => ?_⟩
  · show Ch m par s3.low k (s3.up, s3.best)
    rw [e5]; exact Te.ch
  · show s3.low y = _
    rw [e5, hlow y (by omega)]; exact T.old y (by omega)
  · show 0 ≤ s3.low y
    rw [e5]
    by_cases h : y = k
    · subst h; rw [hlk]; omega
    · rw [hlow y h]; exact T.nn y
  · show s3.low y ≤ _
    rw [e5]
    by_cases h : y = k
    · subst h; rw [e1]; exact Int.le_trans L.le (T.le y)
    · rw [hlow y h]; exact T.le y
  · show s3.low y ≤ s3.low z
    rw [e5]
    by_cases h : y = k
    · subst h
      rcases hl.all x y h1 h2 h3 with hx | hx
      · rw [e1]; exact L.l2 x hx z h5 h6
      · have h7 : s2.low y ≤ 0 := by rw [e1, ← hx]; exact Int.le_trans L.le (T.le y)
        have h8 : 0 ≤ s2.low z := by rw [hlow z (by omega)]; exact T.nn z
        omega
    · rw [hlow y h, hlow z (by omega)]
      exact T.l2 x y z h1 h2 h3 (by omega) h5 h6
  · show Sd E (s3.low y).toNat y
    rw [e5]
    by_cases h : y = k
    · subst h; rw [e1]; exact L.u
    · rw [hlow y h]; exact T.u y h1 h2
  · show Anc par (s3.low y).toNat y ∧ s3.low y < y
    rw [e5]
    by_cases h : y = k
    · subst h; rw [e1]; exact L.a
    · rw [hlow y h]; exact T.a y h1 h2
  · change b ∈ upd s3.below (par k) [] o at hb
    by_cases ho' : o = par k
    · subst ho'; rw [upd_at] at hb; cases hb
    · rw [upd_ne _ _ ho', e6] at hb
      show ∃ n : Nat, b = n ∧ s3.low n = (o : Int) ∧ _
      rw [e5]
      rcases mem _ b hb with h | ⟨h, h'⟩
      · obtain ⟨n, rfl, n1, n2, n3, n4⟩ := T.bk _ b h
        refine ⟨n, rfl, by rw [hlow n (by omega)]; exact n1, by omega, n3, fun c c1 c2 c3 c4 => ?_⟩
        by_cases e : c = k
        · subst e; exact ho' c2.symm
        · exact n4 c c1 c2 (by omega) c4
      · refine ⟨k, h, by rw [hlk, h'], Nat.le_refl _, hkm, fun c c1 c2 c3 c4 => ?_⟩
        have := D.le c4 hkm
        have e : c = k := by omega
        subst e; exact ho' c2.symm
  · show (b : Int) ∈ upd s3.below (par k) [] (s3.low b).toNat ∨ ∃ u : Nat, s3.next b = u ∧ Nx par s3.low k b u
    rw [e5]
    have go : (b : Int) ∈ s2.below (s2.low b).toNat → (b : Int) ∈ upd s3.below (par k) [] (s2.low b).toNat ∨ ∃ u : Nat, s3.next b = u ∧ Nx par s2.low k b u := fun h => by
      by_cases e : (s2.low b).toNat = par k
      · rw [e] at h
        exact .inr (Te.new b h)
      · rw [upd_ne _ _ e, e6]; exact .inl h
    by_cases h : b = k
    · subst h
      exact go (by rw [hlk]; simpa using memk)
    · rcases T.nx b (by omega) h2 with h3 | ⟨u, h3, h4⟩
      · exact go (by rw [hlow b h]; exact mem' _ _ h3)
      · refine .inr (Te.old b ⟨u, by rw [e2]; exact h3, ?_⟩)
        have hbl : s2.low b = s0.low b := hlow b h
        have hla := T.a b (by omega) h2
        have hge := h4.ge u h4.an (by have := h4.ne; omega) h4.up
        refine ⟨by rw [hbl]; exact h4.an, by rw [hbl]; exact h4.ne, h4.up, fun z z1 z2 z3 => ?_, fun z z1 z2 z3 => ?_⟩
        · rw [hbl] at z1 z2
          have := h4.ge z z1 z2 z3
          rw [hlow u (by omega), hlow z (by omega)]
          exact h4.mn z z1 z2 z3
        · rw [hbl] at z1 z2
          have := h4.ge z z1 z2 z3
          omega
/-- at the beginning -/
def ab0 (low0 : Nat → Int) : Ab := ⟨low0, fun _ => -1, fun _ => 0, fun _ => -1, fun _ => []⟩
theorem ab0_tn (D : Dfs m par E) {low0 : Nat → Int} (h0 : ∀ y, 0 ≤ low0 y) (hL : Low0 m E low0) : Tn m par E low0 m (ab0 low0) := by
  refine ⟨⟨fun _ _ => rfl, fun x h1 h2 => by omega⟩, fun _ _ => rfl, h0, fun _ => Int.le_refl _, fun x y z h1 h2 h3 h4 _ _ => by have := (D.inn x y h1).2; omega, fun y h1 h2 => ?_, fun y h1 h2 => ?_, fun o b hb => (by cases hb), fun b h1 h2 => by omega⟩
  · obtain ⟨x, hx, hxy, he⟩ := hL.is y h1 h2
    show Sd E (low0 y).toNat y
    rw [hx, Int.toNat_natCast]
    exact .inl he
  · obtain ⟨x, hx, hxy, he⟩ := hL.is y h1 h2
    show Anc par (low0 y).toNat y ∧ low0 y < y
    rw [hx, Int.toNat_natCast]
    exact ⟨D.fwd x y he hxy, by omega⟩
theorem turns_tn (D : Dfs m par E) {low0 : Nat → Int} {late : Nat → List Int} {over : Nat → Int} {q : Nat} (hq : m ≤ q + 1) (hov : ∀ k, 0 < k → k < m → over k = (par k : Int)) (hl : Late m E low0 late) : ∀ (j : Nat) (s : Ab), j < m → Tn m par E low0 (j + 1) s → Tn m par E low0 1 (turns q late over j s) := by
  intro j
  induction j with
  | zero => intro s _ h; exact h
  | succ j ih =>
    intro s hj h
    exact ih _ (by omega) (turn_tn D (by omega) hj hq (hov _ (by omega) hj) hl h)
/-- each one's next one above -/
theorem fins_idom (D : Dfs m par E) {low0 : Nat → Int} {s : Ab} (hL : Low0 m E low0) (T : Tn m par E low0 1 s) : ∀ b, 0 < b → b < m → ∃ d : Nat, fins s.low s.next m b = d ∧ Idom E d b := by
  have L : Lows m par E fun y => (s.low y).toNat := by
    refine ⟨fun x y he hxy => ?_, fun x y z h1 h2 h3 h4 h5 => ?_, fun y h1 h2 => T.u y h1 h2, fun y h1 h2 => ?_⟩
    · have h1 := hL.l1 x y he hxy
      have h2 := T.le y
      have h3 := T.nn y
      show (s.low y).toNat ≤ x
      omega
    · have := T.l2 x y z h1 h2 h3 (by omega) h4 h5
      have h6 := T.nn y
      show (s.low y).toNat ≤ (s.low z).toNat
      omega
    · obtain ⟨h3, h4⟩ := T.a y h1 h2
      have := T.nn y
      exact ⟨h3, by show (s.low y).toNat < y; omega⟩
  have hset : ∀ b, 0 < b → b < m → ∃ u : Nat, s.next b = u ∧ Nx par s.low 1 b u := by
    intro b h0 hb
    rcases T.nx b (by omega) hb with h | h
    · exfalso
      obtain ⟨n, hn, h1, h2, h3, h4⟩ := T.bk _ _ h
      have e : n = b := by omega
      subst e
      obtain ⟨ha, hlt⟩ := T.a n h0 hb
      have hnn := T.nn n
      obtain ⟨c, c1, c2, c3⟩ := D.child ha hb (by omega)
      exact h4 c c1 c2 (by omega) c3
    · exact h
  -- one after the other
  have key : ∀ k, k ≤ m → (∀ b, 0 < b → b < k → ∃ d : Nat, (List.range k).foldl (fin s.low) s.next b = d ∧ Idom E d b) ∧ ∀ b, k ≤ b → (List.range k).foldl (fin s.low) s.next b = s.next b := by
    intro k
    induction k with
    | zero => intro _; exact ⟨fun b _ h => by omega, fun _ _ => rfl⟩
    | succ k ih =>
      intro hk
      obtain ⟨i1, i2⟩ := ih (by omega)
      rw [List.range_succ, List.foldl_append]
      generalize (List.range k).foldl (fin s.low) s.next = f at *
      show (∀ b, 0 < b → b < k + 1 → ∃ d : Nat, fin s.low f k b = d ∧ _) ∧ ∀ b, k + 1 ≤ b → fin s.low f k b = s.next b
      by_cases hk0 : k = 0
      · subst hk0
        have e : fin s.low f 0 = f := by unfold fin; rw [if_neg (by omega)]
        rw [e]
        exact ⟨fun b h1 h2 => by omega, fun b hb => i2 b (by omega)⟩
      · obtain ⟨u, hu, N⟩ := hset k (by omega) (by omega)
        have hfk : f k = u := by rw [i2 k (Nat.le_refl _), hu]
        have hut : (f k).toNat = u := by rw [hfk]; simp
        obtain ⟨ha, hlt⟩ := T.a k (by omega) (by omega)
        have hnk := T.nn k
        have hnu := T.nn u
        have huk := D.le N.up (by omega)
        have main : ∀ v : Int, (∃ d : Nat, v = d ∧ Idom E d k) → (∀ b, 0 < b → b < k + 1 → ∃ d : Nat, upd f k v b = d ∧ Idom E d b) ∧ ∀ b, k + 1 ≤ b → upd f k v b = s.next b := by
          intro v hv
          refine ⟨fun b h1 h2 => ?_, fun b hb => by rw [upd_ne _ _ (by omega)]; exact i2 b (by omega)⟩
          by_cases e : b = k
          · subst e; rw [upd_at]; exact hv
          · rw [upd_ne _ _ e]; exact i1 b h1 (by omega)
        unfold fin
        rw [if_pos (by omega), hut]
        split
        · rename_i hc
          have hne : u ≠ k := fun e => by subst e; omega
          have hgu : 0 < u := by have := N.ne; omega
          obtain ⟨d, hd, I⟩ := i1 u hgu (by omega)
          refine main _ ⟨d, hd, L.other D (u := u) (by omega) (by omega) N.an (by have := N.ne; show (s.low k).toNat ≠ u; omega) N.up (by show (s.low u).toNat < (s.low k).toNat; omega) (fun z z1 z2 z3 => ?_) I⟩
          have := N.mn z z1 (fun e => z2 e.symm) z3
          show (s.low u).toNat ≤ (s.low z).toNat
          omega
        · rename_i hc
          refine main _ ⟨(s.low k).toNat, by omega, L.own D (by omega) (by omega) (fun z z1 z2 z3 => ?_)⟩
          have := N.mn z z1 (fun e => z2 e.symm) z3
          show (s.low k).toNat ≤ (s.low z).toNat
          omega
  intro b h0 hb
  exact (key m (Nat.le_refl _)).1 b h0 hb
end Go.Proofs.Ytiaecobjbckhoaa.Dm
