/- A tree of which each one's next one above is known: its row, places and ends (plain; no memory). Conditions: none. -/
import Derived.Test.YtiaecobjbckhoaaDbO
set_option linter.unusedVariables false
set_option linter.unusedSimpArgs false
namespace Go.Proofs.Ytiaecobjbckhoaa.Db
open Go

/-- a tree: higher ones have a greater number -/
structure Hn (n : Nat) (next : Nat → Int) (ht : Nat → Nat) : Prop where
  up : ∀ b, b < n → next b = -1 ∨ ∃ p : Nat, next b = p ∧ p < n ∧ ht b < ht p
  le : ∀ b, ht b ≤ n
  z : next 0 = -1
  pos : 0 < n
/-- all that stands below, in the tree's row -/
def sub (kids : Nat → List Int) : Nat → Nat → List Int
  | 0, _ => []
  | q + 1, b => (b : Int) :: (kids b).flatMap fun k => sub kids q k.toNat
theorem flat_congr {α β : Type} {f g : α → List β} : ∀ (l : List α), (∀ x ∈ l, f x = g x) → l.flatMap f = l.flatMap g
  | [], _ => rfl
  | x :: r, h => by rw [List.flatMap_cons, List.flatMap_cons, h x List.mem_cons_self, flat_congr r fun y hy => h y (List.mem_cons_of_mem _ hy)]
theorem kidsP_mem (next : Nat → Int) (b : Nat) : ∀ k y : Nat, y < k → next y = (b : Int) → (y : Int) ∈ kidsP next k b
  | 0, y, h, _ => by omega
  | k + 1, y, h, he => by
    unfold kidsP
    rw [List.mem_append]
    by_cases e : y = k
    · subst e; rw [if_pos he]; exact .inr (by simp)
    · exact .inl (kidsP_mem next b k y (by omega) he)
theorem kidsP_rise (next : Nat → Int) (b : Nat) : ∀ k, (kidsP next k b).Pairwise (· < ·)
  | 0 => List.Pairwise.nil
  | k + 1 => by
    unfold kidsP
    rw [List.pairwise_append]
    refine ⟨kidsP_rise next b k, by split <;> simp, fun x hx y hy => ?_⟩
    obtain ⟨z, rfl, hz, _⟩ := kidsP_in next b k x hx
    split at hy
    · rw [List.mem_singleton] at hy; omega
    · cases hy
section
variable {n : Nat} {next : Nat → Int} {ht : Nat → Nat}
theorem Hn.kid (H : Hn n next ht) {b : Nat} {x : Int} (hx : x ∈ kidsP next n b) : ∃ y : Nat, x = y ∧ y < n ∧ next y = (b : Int) ∧ ht y < ht b := by
  obtain ⟨y, h1, h2, h3⟩ := kidsP_in next b n x hx
  refine ⟨y, h1, h2, h3, ?_⟩
  rcases H.up y h2 with h | ⟨p, h4, _, h5⟩
  · omega
  · have : p = b := by omega
    subst this; exact h5
theorem Hn.fuel (H : Hn n next ht) : ∀ (q q' b : Nat), ht b < q → ht b < q' → sub (kidsP next n) q b = sub (kidsP next n) q' b := by
  intro q
  induction q with
  | zero => intro q' b h; omega
  | succ q ih =>
    intro q' b h h'
    cases q' with
    | zero => omega
    | succ q' =>
      unfold sub
      refine congrArg _ (flat_congr _ fun x hx => ?_)
      obtain ⟨y, rfl, _, _, h4⟩ := H.kid hx
      exact ih q' _ (by rw [Int.toNat_natCast]; omega) (by rw [Int.toNat_natCast]; omega)
/-- all that stands below a block -/
def lst (n : Nat) (next : Nat → Int) (b : Nat) : List Int := sub (kidsP next n) (n + 1) b
theorem Hn.eq (H : Hn n next ht) (b : Nat) : lst n next b = (b : Int) :: (kidsP next n b).flatMap fun k => lst n next k.toNat := by
  unfold lst
  rw [H.fuel (n + 1) (n + 2) b (by have := H.le b; omega) (by have := H.le b; omega)]
  rfl
theorem Hn.rec_ (H : Hn n next ht) {P : Nat → Prop} (h : ∀ b : Nat, (∀ y : Nat, y < n → next y = (b : Int) → P y) → P b) : ∀ b, P b := by
  have : ∀ q b, ht b < q → P b := by
    intro q
    induction q with
    | zero => intro b hb; omega
    | succ q ih =>
      intro b hb
      refine h b fun y hy he => ih y ?_
      rcases H.up y hy with h | ⟨p, h4, _, h5⟩
      · omega
      · have : p = b := by omega
        subst this; omega
  exact fun b => this _ b (Nat.lt_succ_self _)
/-- what stands below -/
inductive Un (n : Nat) (next : Nat → Int) (a : Nat) : Nat → Prop where
  | here : Un n next a a
  | step {c p : Nat} (hc : c < n) (he : next c = (p : Int)) (h : Un n next a p) : Un n next a c
theorem Un.trans {a b c : Nat} (h : Un n next a b) (k : Un n next b c) : Un n next a c := by
  induction k with
  | here => exact h
  | step hc he _ ih => exact .step hc he ih
theorem Un.ht_le (H : Hn n next ht) {a b : Nat} (h : Un n next a b) : ht b ≤ ht a := by
  induction h with
  | here => exact Nat.le_refl _
  | @step c p hc he _ ih =>
    rcases H.up c hc with h | ⟨q, h4, _, h5⟩
    · omega
    · have : q = p := by omega
      subst this; omega
theorem Un.linear {a b c : Nat} (h : Un n next a c) (k : Un n next b c) : Un n next a b ∨ Un n next b a := by
  induction h with
  | here => exact .inr k
  | @step c p hc he h ih =>
    cases k with
    | here => exact .inl (.step hc he h)
    | @step _ q _ he' k' =>
      have : q = p := by omega
      subst this
      exact ih k'
theorem Un.root (H : Hn n next ht) {a : Nat} (h : Un n next a 0) : a = 0 := by
  cases h with
  | here => rfl
  | step _ he _ => have := H.z; omega
theorem Hn.mem (H : Hn n next ht) (b : Nat) : ∀ x, x ∈ lst n next b ↔ ∃ y : Nat, x = y ∧ Un n next b y := by
  have h1 : ∀ b, ∀ x ∈ lst n next b, ∃ y : Nat, x = y ∧ Un n next b y := H.rec_ fun b ih x hx => by
    rw [H.eq, List.mem_cons] at hx
    rcases hx with rfl | hx
    · exact ⟨b, rfl, .here⟩
    · obtain ⟨k, hk, hxk⟩ := List.mem_flatMap.1 hx
      obtain ⟨y, rfl, h2, h3, _⟩ := H.kid hk
      rw [Int.toNat_natCast] at hxk
      obtain ⟨z, hz, hu⟩ := ih y h2 h3 x hxk
      exact ⟨z, hz, Un.trans (.step h2 h3 .here) hu⟩
  have hd : ∀ b, (b : Int) ∈ lst n next b := fun b => by rw [H.eq]; exact List.mem_cons_self
  have h2 : ∀ b, ∀ p c : Nat, (p : Int) ∈ lst n next b → c < n → next c = (p : Int) → (c : Int) ∈ lst n next b := H.rec_ fun b ih p c hp hc he => by
    rw [H.eq, List.mem_cons] at hp ⊢
    right
    rw [List.mem_flatMap]
    rcases hp with hp | hp
    · have : p = b := by omega
      subst this
      exact ⟨c, kidsP_mem next p n c hc he, by rw [Int.toNat_natCast]; exact hd c⟩
    · obtain ⟨k, hk, hxk⟩ := List.mem_flatMap.1 hp
      obtain ⟨y, rfl, h2, h3, _⟩ := H.kid hk
      rw [Int.toNat_natCast] at hxk
      exact ⟨y, hk, by rw [Int.toNat_natCast]; exact ih y h2 h3 p c hxk hc he⟩
  intro x
  have h3 : ∀ y, Un n next b y → (y : Int) ∈ lst n next b := fun y hu => by
    induction hu with
    | here => exact hd b
    | step hc he _ ih => exact h2 b _ _ ih hc he
  exact ⟨h1 b x, fun ⟨y, hx, hu⟩ => by subst hx; exact h3 y hu⟩
theorem Hn.nodup (H : Hn n next ht) : ∀ b, (lst n next b).Nodup := H.rec_ fun b ih => by
  rw [H.eq, List.nodup_cons]
  have hlt : ∀ y : Nat, y < n → next y = (b : Int) → ht y < ht b := fun y hy he => by
    rcases H.up y hy with h | ⟨p, h4, _, h5⟩
    · omega
    · have : p = b := by omega
      subst this; exact h5
  refine ⟨fun hc => ?_, ?_⟩
  · obtain ⟨k, hk, hxk⟩ := List.mem_flatMap.1 hc
    obtain ⟨y, rfl, h2, h3, h4⟩ := H.kid hk
    rw [Int.toNat_natCast] at hxk
    obtain ⟨z, hz, hu⟩ := (H.mem y _).1 hxk
    have : z = b := by omega
    subst this
    have := hu.ht_le H
    omega
  · unfold List.Nodup
    rw [List.pairwise_flatMap]
    refine ⟨fun k hk => ?_, (kidsP_rise next b n).imp_of_mem fun {k k'} hk hk' hlt' x hx y hy e => ?_⟩
    · obtain ⟨y, rfl, h2, h3, h4⟩ := H.kid hk
      rw [Int.toNat_natCast]
      exact ih y h2 h3
    · subst e
      obtain ⟨y, rfl, h2, h3, h4⟩ := H.kid hk
      obtain ⟨y', rfl, h2', h3', h4'⟩ := H.kid hk'
      rw [Int.toNat_natCast] at hx hy
      obtain ⟨z, rfl, hu⟩ := (H.mem y _).1 hx
      obtain ⟨z', hz, hu'⟩ := (H.mem y' _).1 hy
      have : z' = z := by omega
      subst this
      rcases hu.linear hu' with h | h
      · cases h with
        | here => omega
        | step _ he h =>
          have := h.ht_le H
          rename_i p _
          have : p = b := by omega
          subst this; omega
      · cases h with
        | here => omega
        | step _ he h =>
          have := h.ht_le H
          rename_i p _
          have : p = b := by omega
          subst this; omega
theorem flat_at' {α β : Type} (f : α → List β) : ∀ (l : List α) (k : Nat) (x : β), (l.flatMap f)[k]? = some x → ∃ l1 a l2 j, l = l1 ++ a :: l2 ∧ (f a)[j]? = some x ∧ k = (l1.flatMap f).length + j
  | [], k, x, h => by simp at h
  | a :: r, k, x, h => by
    rw [List.flatMap_cons] at h
    by_cases e : k < (f a).length
    · rw [List.getElem?_append_left e] at h
      exact ⟨[], a, r, k, rfl, h, by simp⟩
    · rw [List.getElem?_append_right (by omega)] at h
      obtain ⟨l1, c, l2, j, h1, h2, h3⟩ := flat_at' f r _ x h
      exact ⟨a :: l1, c, l2, j, by rw [h1]; rfl, h2, by rw [List.flatMap_cons, List.length_append]; omega⟩
theorem Hn.at_ (H : Hn n next ht) : ∀ b, ∀ k y : Nat, (lst n next b)[k]? = some (y : Int) → ∃ A C, lst n next b = A ++ (lst n next y ++ C) ∧ A.length = k := H.rec_ fun b ih k y hk => by
  cases k with
  | zero =>
    rw [H.eq, List.getElem?_cons_zero] at hk
    have : b = y := by have := Option.some.inj hk; omega
    subst this
    exact ⟨[], [], by simp, rfl⟩
  | succ k =>
    rw [H.eq, List.getElem?_cons_succ] at hk
    obtain ⟨l1, a, l2, j, h1, h2, h3⟩ := flat_at' _ _ k _ hk
    obtain ⟨c, rfl, c2, c3, _⟩ := H.kid (b := b) (x := a) (by rw [h1]; simp)
    rw [Int.toNat_natCast] at h2
    obtain ⟨A, C, h4, h5⟩ := ih c c2 c3 j y h2
    refine ⟨(b : Int) :: (l1.flatMap fun k => lst n next k.toNat) ++ A, C ++ l2.flatMap fun k => lst n next k.toNat, ?_, ?_⟩
    · rw [H.eq b, h1, List.flatMap_append, List.flatMap_cons, Int.toNat_natCast, h4]
      simp
    · rw [List.length_append, List.length_cons]; omega
/-- what standing does -/
structure Sp (n : Nat) (next : Nat → Int) (s s' : Gs) (L : List Int) : Prop where
  order : s'.order = s.order ++ L
  at_ : L.Nodup → ∀ k y : Nat, L[k]? = some (y : Int) → s'.place y = ((s.order.length + k : Nat) : Int) ∧ s'.end_ y = ((s.order.length + k + (lst n next y).length : Nat) : Int)
  not : ∀ y : Nat, (y : Int) ∉ L → s'.place y = s.place y ∧ s'.end_ y = s.end_ y
theorem Sp.nil (s : Gs) : Sp n next s s [] := ⟨by simp, fun _ k y h => by simp at h, fun _ _ => ⟨rfl, rfl⟩⟩
theorem Sp.trans {s s1 s2 : Gs} {L L' : List Int} (h : Sp n next s s1 L) (k : Sp n next s1 s2 L') : Sp n next s s2 (L ++ L') := by
  refine ⟨by rw [k.order, h.order, List.append_assoc], fun hd j y hj => ?_, fun y hy => ?_⟩
  · obtain ⟨d1, d2, d3⟩ := List.nodup_append.1 hd
    by_cases e : j < L.length
    · rw [List.getElem?_append_left e] at hj
      have hn : (y : Int) ∉ L' := fun hm => d3 _ (List.mem_of_getElem? hj) _ hm rfl
      rw [(k.not y hn).1, (k.not y hn).2]
      exact h.at_ d1 j y hj
    · rw [List.getElem?_append_right (by omega)] at hj
      obtain ⟨e1, e2⟩ := k.at_ d2 _ y hj
      rw [e1, e2, h.order, List.length_append]
      exact ⟨by congr 1; omega, by congr 1; omega⟩
  · rw [List.mem_append] at hy
    rw [(k.not y fun e => hy (.inr e)).1, (k.not y fun e => hy (.inr e)).2]
    exact h.not y fun e => hy (.inl e)
theorem Hn.stand (H : Hn n next ht) : ∀ (q : Nat) (s : Gs) (b : Nat), ht b < q → Sp n next s (stand (kidsP next n) q s b) (lst n next b) := by
  intro q
  induction q with
  | zero => intro s b h; omega
  | succ q ih =>
    intro s b hb
    have hf : ∀ (l : List Int) (u : Gs), (∀ x ∈ l, ∃ y : Nat, x = y ∧ ht y < q) → Sp n next u (l.foldl (fun u k => Db.stand (kidsP next n) q u k.toNat) u) (l.flatMap fun k => lst n next k.toNat) := by
      intro l
      induction l with
      | nil => intro u _; exact Sp.nil u
      | cons x r ihr =>
        intro u hl
        obtain ⟨y, rfl, hy⟩ := hl x List.mem_cons_self
        exact (ih u _ (by rw [Int.toNat_natCast]; exact hy)).trans (ihr _ fun z hz => hl z (List.mem_cons_of_mem _ hz))
    have h1 := hf (kidsP next n b) (s.on b) (fun x hx => by
      obtain ⟨y, h1, _, _, h4⟩ := H.kid hx
      exact ⟨y, h1, by omega⟩)
    unfold Db.stand
    generalize (kidsP next n b).foldl (fun u k => Db.stand (kidsP next n) q u k.toNat) (s.on b) = u at h1 ⊢
    have ho : (s.on b).order = s.order ++ [(b : Int)] := rfl
    have hq := H.eq b
    generalize hF : (kidsP next n b).flatMap (fun k => lst n next k.toNat) = F at h1 hq
    have hlen : (lst n next b).length = F.length + 1 := by rw [hq]; rfl
    refine ⟨by show u.order = _; rw [h1.order, ho, hq]; simp, fun hd k y hk => ?_, fun y hy => ?_⟩
    · rw [hq, List.nodup_cons] at hd
      obtain ⟨d1, d2⟩ := hd
      have hul : u.order.length = s.order.length + (F.length + 1) := by rw [h1.order, ho]; simp [Nat.add_assoc, Nat.add_comm]
      rw [hq] at hk
      cases k with
      | zero =>
        rw [List.getElem?_cons_zero] at hk
        have : b = y := by have := Option.some.inj hk; omega
        subst this
        refine ⟨?_, ?_⟩
        · show u.place b = _
          rw [(h1.not b d1).1]
          show upI s.place b s.order.length b = _
          simp [upI]
        · show upI u.end_ b u.order.length b = _
          rw [hlen]
          simp only [upI, if_true]
          rw [hul]
          congr 1
      | succ k =>
        rw [List.getElem?_cons_succ] at hk
        have hne : y ≠ b := fun e => d1 (by subst e; exact List.mem_of_getElem? hk)
        obtain ⟨e1, e2⟩ := h1.at_ d2 k y hk
        refine ⟨?_, ?_⟩
        · show u.place y = _
          rw [e1, ho, List.length_append]
          congr 1; simp; omega
        · show upI u.end_ b u.order.length y = _
          simp only [upI, if_neg hne]
          rw [e2, ho, List.length_append]
          congr 1; simp; omega
    · rw [hq, List.mem_cons] at hy
      have hne : y ≠ b := fun e => hy (.inl (by omega))
      obtain ⟨e1, e2⟩ := h1.not y fun e => hy (.inr e)
      refine ⟨?_, ?_⟩
      · show u.place y = _
        rw [e1]
        show upI s.place b s.order.length y = _
        simp [upI, hne]
      · show upI u.end_ b u.order.length y = _
        simp only [upI, if_neg hne]
        exact e2
end
end Go.Proofs.Ytiaecobjbckhoaa.Db
