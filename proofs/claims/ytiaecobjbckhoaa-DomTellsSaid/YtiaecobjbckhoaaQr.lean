/- A region that draws its order, where what an operation leaves is told by a condition on its value and the world: for operations that make memory in whatever order. Conditions: none. -/
import Derived.Orders
import Derived.Deep.Draws
namespace Go.Proofs.Ytiaecobjbckhoaa.Qr
open Go

def dstOf (ops : Array Oper) (i : Nat) : Option Tmp := (ops[i]?).bind (·.dst)

/-- the frame in which the listed operations have left their values -/
def fillL (ops : Array Oper) (σ : Nat → Value) (L : Nat → Bool) : List Nat → Act → Act
  | [], a => a
  | i :: r, a => fillL ops σ L r (if L i = true then a.put (dstOf ops i) (σ i) else a)

theorem put_fill {ops : Array Oper} {σ : Nat → Value} {L : Nat → Bool} {d : Option Tmp} {v : Value} : ∀ (l : List Nat) (a : Act), (∀ i ∈ l, ∀ t, d = some t → dstOf ops i ≠ some t) →
    fillL ops σ L l (a.put d v) = (fillL ops σ L l a).put d v
  | [], _, _ => rfl
  | i :: r, a, h => by
    unfold fillL
    by_cases hL : L i = true
    · rw [if_pos hL, if_pos hL, Act.put_comm a v (σ i) (h i (by simp))]
      exact put_fill r _ (fun k hk => h k (by simp [hk]))
    · rw [if_neg hL, if_neg hL]
      exact put_fill r _ (fun k hk => h k (by simp [hk]))

theorem fill_congr {ops : Array Oper} {σ σ' : Nat → Value} {L L' : Nat → Bool} : ∀ (l : List Nat) (a : Act), (∀ i ∈ l, L i = L' i ∧ (L i = true → σ i = σ' i)) → fillL ops σ L l a = fillL ops σ' L' l a
  | [], _, _ => rfl
  | i :: r, a, h => by
    unfold fillL
    have h1 := h i (by simp)
    have h2 := fun a => fill_congr (ops := ops) (σ := σ) (σ' := σ') (L := L) (L' := L') r a (fun k hk => h k (by simp [hk]))
    by_cases hL : L i = true
    · have hL' : L' i = true := by rw [← h1.1]; exact hL
      rw [if_pos hL, if_pos hL', h1.2 hL]; exact h2 _
    · have hL' : ¬ L' i = true := by rw [← h1.1]; exact hL
      rw [if_neg hL, if_neg hL']; exact h2 _

def upd (σ : Nat → Value) (j : Nat) (v : Value) (i : Nat) : Value := if i = j then v else σ i
def updB (L : Nat → Bool) (j : Nat) (i : Nat) : Bool := if i = j then true else L i

theorem fill_add {ops : Array Oper} {σ : Nat → Value} {L : Nat → Bool} {j : Nat} {v : Value} (hj : L j = false) : ∀ (l : List Nat) (a : Act), j ∈ l → l.Nodup →
    (∀ i ∈ l, i ≠ j → ∀ t, dstOf ops j = some t → dstOf ops i ≠ some t) →
    fillL ops (upd σ j v) (updB L j) l a = (fillL ops σ L l a).put (dstOf ops j) v
  | [], _, h, _, _ => by cases h
  | i :: r, a, h, hn, hd => by
    unfold fillL
    have hn' := List.nodup_cons.1 hn
    by_cases hij : i = j
    · subst hij
      have e1 : updB L i i = true := by simp [updB]
      have e2 : upd σ i v i = v := by simp [upd]
      rw [if_pos e1, e2, if_neg (by rw [hj]; simp)]
      rw [fill_congr (σ' := σ) (L' := L) r _ (fun k hk => by
        have hki : k ≠ i := fun e => hn'.1 (e ▸ hk)
        exact ⟨by simp [updB, hki], fun _ => by simp [upd, hki]⟩)]
      exact put_fill r a (fun k hk => hd k (by simp [hk]) (fun e => hn'.1 (e ▸ hk)))
    · have hjr : j ∈ r := by
        rcases List.mem_cons.1 h with e | e
        · exact absurd e.symm hij
        · exact e
      have e1 : updB L j i = L i := by simp [updB, hij]
      have e2 : upd σ j v i = σ i := by simp [upd, hij]
      rw [e1, e2]
      exact fill_add hj r _ hjr hn'.2 (fun k hk => hd k (by simp [hk]))

theorem put_size (a : Act) (d : Option Tmp) (v : Value) : (a.put d v).tmps.size = a.tmps.size := by
  cases d <;> simp [Act.put]
theorem fill_size {ops : Array Oper} {σ : Nat → Value} {L : Nat → Bool} : ∀ (l : List Nat) (a : Act), (fillL ops σ L l a).tmps.size = a.tmps.size
  | [], _ => rfl
  | i :: r, a => by
    unfold fillL
    rw [fill_size r]
    split
    · exact put_size _ _ _
    · rfl
theorem fill_keep {ops : Array Oper} {σ : Nat → Value} {L : Nat → Bool} {t : Nat} : ∀ (l : List Nat) (a : Act), (∀ i ∈ l, dstOf ops i ≠ some t) → (fillL ops σ L l a).tmps[t]? = a.tmps[t]?
  | [], _, _ => rfl
  | i :: r, a, h => by
    unfold fillL
    rw [fill_keep r _ (fun k hk => h k (by simp [hk]))]
    split
    · cases hd : dstOf ops i with
      | none => rfl
      | some d =>
        have hne : d ≠ t := fun e => h i (by simp) (by rw [hd, e])
        simp [Act.put, Array.getElem?_setIfInBounds_ne hne]
    · rfl
theorem fill_get {ops : Array Oper} {σ : Nat → Value} {L : Nat → Bool} {j t : Nat} (hj : L j = true) (hd : dstOf ops j = some t) : ∀ (l : List Nat) (a : Act), j ∈ l → l.Nodup → t < a.tmps.size →
    (∀ i ∈ l, i ≠ j → dstOf ops i ≠ some t) → (fillL ops σ L l a).tmps[t]? = some (σ j)
  | [], _, h, _, _, _ => by cases h
  | i :: r, a, h, hn, ht, hx => by
    unfold fillL
    have hn' := List.nodup_cons.1 hn
    by_cases hij : i = j
    · subst hij
      rw [if_pos hj, fill_keep r _ (fun k hk => hx k (by simp [hk]) (fun e => hn'.1 (e ▸ hk))), hd]
      simp [Act.put, ht]
    · have hjr : j ∈ r := by
        rcases List.mem_cons.1 h with e | e
        · exact absurd e.symm hij
        · exact e
      exact fill_get hj hd r _ hjr hn'.2 (by split <;> simp [put_size, ht]) (fun k hk => hx k (by simp [hk]))
theorem fill_defers {ops : Array Oper} {σ : Nat → Value} {L : Nat → Bool} : ∀ (l : List Nat) (a : Act), (fillL ops σ L l a).defers = a.defers
  | [], _ => rfl
  | i :: r, a => by
    unfold fillL
    rw [fill_defers r]
    split
    · cases dstOf ops i <;> rfl
    · rfl

/-- the static look: temporaries are apart, all edges lead back, each temporary that is looked at and written in the region is written by one of those that are waited for -/
def relB (ops : Array Oper) (size : Nat) : Bool :=
  (List.range ops.size).all fun j => match ops[j]? with
    | none => false
    | some o => (o.after.all fun e => !Region.binds .any e || decide (e.on < j)) &&
      (match o.dst with | none => true | some d => decide (d < size)) &&
      (List.range ops.size).all fun i => i == j || match dstOf ops i with
        | none => true
        | some d => (o.dst != some d) && (!(o.looksAt ops).contains d || o.after.any fun e => Region.binds .any e && e.on == i)

/-- what an operation is shown of the frame: those that it waits for have left what they leave, and all that nobody here writes is as it was -/
structure Seen (ops : Array Oper) (R : Nat → Value → World → Prop) (a0 : Act) (o : Oper) (a : Act) (w : World) : Prop where
  got : ∀ i d, (o.after.any fun e => Region.binds .any e && e.on == i) = true → dstOf ops i = some d → ∃ v, a.tmps[d]? = some v ∧ R i v w
  old : ∀ t, (∀ i, dstOf ops i ≠ some t) → a.tmps[t]? = a0.tmps[t]?

def Inv (ops : Array Oper) (R : Nat → Value → World → Prop) (C : World → Prop) (a0 : Act) (listed : Array Bool) (a : Act) (w : World) : Prop :=
  C w ∧ ∃ σ : Nat → Value, a = fillL ops σ (fun i => listed.getD i false) (List.range ops.size) a0 ∧ ∀ i, i < ops.size → listed.getD i false = true → R i (σ i) w

section
variable {P : Program} {ops : Array Oper} {Q : Exit → Act → World → Prop} {C : World → Prop} {E : World → World → Prop} {R : Nat → Value → World → Prop} {a0 : Act}

theorem relB_spec {size : Nat} (h : relB ops size = true) {j : Nat} {o : Oper} (ho : ops[j]? = some o) :
    (∀ e ∈ o.after, Region.binds .any e = true → e.on < j) ∧ (∀ d, o.dst = some d → d < size) ∧
    ∀ i, i ≠ j → ∀ d, dstOf ops i = some d → o.dst ≠ some d ∧ (d ∈ o.looksAt ops → (o.after.any fun e => Region.binds .any e && e.on == i) = true) := by
  have hj : j < ops.size := (Array.getElem?_eq_some_iff.1 ho).1
  unfold relB at h
  have h1 := List.all_eq_true.1 h j (List.mem_range.2 hj)
  simp only [ho, Bool.and_eq_true] at h1
  obtain ⟨⟨h2, h3⟩, h4⟩ := h1
  refine ⟨fun e he hb => ?_, fun d hd => ?_, fun i hij d hd => ?_⟩
  · have := Array.all_eq_true_iff_forall_mem.1 h2 e he
    simpa [hb] using this
  · rw [hd] at h3; simpa using h3
  · have hi : i < ops.size := by
      unfold dstOf at hd
      cases hq : ops[i]? with
      | none => rw [hq] at hd; cases hd
      | some x => exact (Array.getElem?_eq_some_iff.1 hq).1
    have h5 := List.all_eq_true.1 h4 i (List.mem_range.2 hi)
    have hb : (i == j) = false := by simpa using hij
    simp only [hb, Bool.false_or, hd, Bool.and_eq_true, bne_iff_ne, ne_eq, Bool.or_eq_true, Bool.not_eq_true'] at h5
    refine ⟨h5.1, fun hm => ?_⟩
    rcases h5.2 with h6 | h6
    · have : (o.looksAt ops).contains d = true := by simpa using hm
      rw [this] at h6; cases h6
    · exact h6

theorem all_listed {listed : Array Bool} {size : Nat} (hB : relB ops size = true) (hs : listed.size = ops.size) (hr : Region.ready .any ops listed = []) : ∀ n i, i < n → i < ops.size → listed.getD i false = true
  | 0, _, h, _ => by omega
  | n + 1, i, h, hi => by
    rcases Nat.lt_or_ge i n with h' | h'
    · exact all_listed hB hs hr n i h' hi
    · obtain rfl : i = n := by omega
      cases hl : listed.getD i false with
      | true => rfl
      | false =>
        exfalso
        have hm : i ∈ Region.ready .any ops listed := by
          rw [mem_ready]
          refine ⟨?_, ops[i], by simp [hi], fun e he hb => ?_⟩
          · have : i < listed.size := by omega
            simp [this] at hl ⊢
            exact hl
          · have he' := (relB_spec hB (o := ops[i]) (j := i) (by simp [hi])).1 e he hb
            exact all_listed hB hs hr i e.on he' (by omega)
        rw [hr] at hm
        cases hm

theorem step_rel (hB : relB ops a0.tmps.size = true)
    (hmono : ∀ i v w w', C w → E w w' → R i v w → R i v w')
    (hstep : ∀ j o, ops[j]? = some o → ∀ (a : Act) (w : World), C w → Seen ops R a0 o a w →
      (Region.wanted o (yielded ops a.tmps) = true → o.wp P a w (fun a' w' => C w' ∧ E w w' ∧ ∃ v, a' = a.put o.dst v ∧ R j v w') Q) ∧
      (Region.wanted o (yielded ops a.tmps) = false → E w w ∧ R j undef w))
    {listed : Array Bool} {a : Act} {w : World} {j : Nat} {o : Oper} {K : Act → World → Prop} (hs : listed.size = ops.size) (ho : ops[j]? = some o) (hLj : listed.getD j false = false)
    (hafter : ∀ e ∈ o.after, Region.binds .any e = true → listed.getD e.on false = true) (hI : Inv ops R C a0 listed a w)
    (hK : ∀ a' w', Inv ops R C a0 (listed.setIfInBounds j true) a' w' → K a' w') : wpOp P ops Q j K a w := by
  have hjs : j < ops.size := (Array.getElem?_eq_some_iff.1 ho).1
  have hjl : j < listed.size := by omega
  obtain ⟨hC, σ, rfl, hR⟩ := hI
  have hsp := relB_spec hB ho
  have hdj : dstOf ops j = o.dst := by unfold dstOf; rw [ho]; rfl
  have hnd : (List.range ops.size).Nodup := List.nodup_range
  have hseen : Seen ops R a0 o (fillL ops σ (fun i => listed.getD i false) (List.range ops.size) a0) w := by
    refine ⟨fun i d hi hd => ?_, fun t ht => fill_keep _ _ (fun i _ => ht i)⟩
    obtain ⟨e, he, hb⟩ := Array.any_eq_true'.1 hi
    simp only [Bool.and_eq_true, beq_iff_eq] at hb
    obtain ⟨hb1, rfl⟩ := hb
    have hl := hafter e he hb1
    have hin : e.on < ops.size := by have := hsp.1 e he hb1; omega
    obtain ⟨oi, hoi⟩ : ∃ oi, ops[e.on]? = some oi := ⟨ops[e.on], by simp [hin]⟩
    have hspi := relB_spec hB hoi
    have hdi : dstOf ops e.on = oi.dst := by unfold dstOf; rw [hoi]; rfl
    refine ⟨σ e.on, fill_get hl hd _ _ (List.mem_range.2 hin) hnd (hspi.2.1 d (by rw [← hdi]; exact hd)) (fun k _ hk => fun hkd => (hspi.2.2 k hk d hkd).1 (by rw [← hdi]; exact hd)), hR _ hin hl⟩
  have hLu : (fun i => (listed.setIfInBounds j true).getD i false) = updB (fun i => listed.getD i false) j := by
    funext i
    unfold updB
    by_cases hij : i = j
    · subst hij; simp [hjl]
    · rw [if_neg hij, getD_set_ne false (Ne.symm hij)]
  have hnext : ∀ (v : Value) (w' : World), C w' → E w w' → R j v w' → Inv ops R C a0 (listed.setIfInBounds j true) ((fillL ops σ (fun i => listed.getD i false) (List.range ops.size) a0).put o.dst v) w' := fun v w' hC' hE hRv => by
    refine ⟨hC', upd σ j v, ?_, fun i hi hl => ?_⟩
    · rw [hLu, fill_add (L := fun i => listed.getD i false) hLj _ _ (List.mem_range.2 hjs) hnd (fun i _ hij t ht hit => (hsp.2.2 i hij t hit).1 (by rw [← hdj]; exact ht)), hdj]
    · by_cases hij : i = j
      · subst hij; simpa [upd] using hRv
      · have h1 : listed.getD i false = true := by rw [getD_set_ne false (Ne.symm hij)] at hl; exact hl
        have : upd σ j v i = σ i := by simp [upd, hij]
        rw [this]
        exact hmono i _ w w' hC hE (hR i hi h1)
  obtain ⟨hw1, hw0⟩ := hstep j o ho _ w hC hseen
  unfold wpOp
  simp only [ho]
  by_cases hw : Region.wanted o (yielded ops (fillL ops σ (fun i => listed.getD i false) (List.range ops.size) a0).tmps) = true
  · rw [if_pos hw]
    left
    refine Oper.wp_mono (fun a' w' ⟨hC', hE, v, ha, hRv⟩ => ?_) (hw1 hw)
    subst ha
    exact hK _ w' (hnext v w' hC' hE hRv)
  · rw [if_neg hw]
    obtain ⟨hE, hRu⟩ := hw0 (by simpa using hw)
    exact hK _ w (hnext undef w hC hE hRu)

theorem fin_rel (hend : ∀ (σ : Nat → Value) (w : World), C w → (∀ i, i < ops.size → R i (σ i) w) → Q .normal (fillL ops σ (fun _ => true) (List.range ops.size) a0) w) (listed : Array Bool) (a : Act) (w : World) (hI : Inv ops R C a0 listed a w) (hall : ∀ i, i < ops.size → listed.getD i false = true) : Q .normal a w := by
  obtain ⟨hC, σ, rfl, hR⟩ := hI
  have h1 := hend σ w hC (fun i hi => hR i hi (hall i hi))
  rwa [fill_congr (σ' := σ) (L' := fun i => listed.getD i false) _ _ (fun i hi => ⟨by rw [hall i (List.mem_range.1 hi)], fun _ => rfl⟩)] at h1

theorem wpAny_rel (hB : relB ops a0.tmps.size = true)
    (hmono : ∀ i v w w', C w → E w w' → R i v w → R i v w')
    (hstep : ∀ j o, ops[j]? = some o → ∀ (a : Act) (w : World), C w → Seen ops R a0 o a w →
      (Region.wanted o (yielded ops a.tmps) = true → o.wp P a w (fun a' w' => C w' ∧ E w w' ∧ ∃ v, a' = a.put o.dst v ∧ R j v w') Q) ∧
      (Region.wanted o (yielded ops a.tmps) = false → E w w ∧ R j undef w))
    (hend : ∀ (σ : Nat → Value) (w : World), C w → (∀ i, i < ops.size → R i (σ i) w) → Q .normal (fillL ops σ (fun _ => true) (List.range ops.size) a0) w) :
    ∀ (fuel : Nat) (listed : Array Bool) (a : Act) (w : World), listed.size = ops.size → (listed.toList.filter (· == false)).length ≤ fuel → Inv ops R C a0 listed a w → wpAny P .any ops Q fuel listed a w := by
  intro fuel
  induction fuel with
  | zero =>
    intro listed a w hs hf hI
    have hall : ∀ i, i < ops.size → listed.getD i false = true := fun i hi => by
      have h0 : listed.toList.filter (· == false) = [] := List.length_eq_zero_iff.1 (by omega)
      have hi' : i < listed.size := by omega
      have h1 := List.filter_eq_nil_iff.1 h0 listed[i] (by simp)
      simp [hi']
      simpa using h1
    refine ⟨?_, fin_rel hend listed a w hI hall⟩
    cases hr : Region.ready .any ops listed with
    | nil => rfl
    | cons x xs =>
      exfalso
      have hx : x ∈ Region.ready .any ops listed := by rw [hr]; simp
      rw [mem_ready] at hx
      obtain ⟨h1, o, ho, _⟩ := hx
      have hlt : x < ops.size := (Array.getElem?_eq_some_iff.1 ho).1
      have h2 := hall x hlt
      have h3 : x < listed.size := by omega
      simp [h3] at h1 h2
      rw [h1] at h2
      cases h2
  | succ fuel ih =>
    intro listed a w hs hf hI
    refine ⟨fun hr => fin_rel hend listed a w hI (fun i hi => all_listed hB hs hr (i + 1) i (by omega) hi), fun j hj => ?_⟩
    obtain ⟨hun, o, ho, hafter⟩ := mem_ready.1 hj
    have hjs : j < ops.size := (Array.getElem?_eq_some_iff.1 ho).1
    have hjl : j < listed.size := by omega
    have hLj : listed.getD j false = false := by simp [hjl] at hun ⊢; exact hun
    have hs' : (listed.setIfInBounds j true).size = ops.size := by simp [hs]
    have hf' : ((listed.setIfInBounds j true).toList.filter (· == false)).length ≤ fuel := by
      have hlen : ∀ (l : List Bool) (j : Nat), l[j]? = some false → ((l.set j true).filter (· == false)).length + 1 = (l.filter (· == false)).length := by
        intro l
        induction l with
        | nil => intro j h; simp at h
        | cons b r ihl =>
          intro j h
          cases j with
          | zero => simp at h; subst h; simp
          | succ j =>
            simp at h
            have := ihl j h
            cases b
            · rw [List.set_cons_succ, List.filter_cons_of_pos (by rfl), List.filter_cons_of_pos (by rfl), List.length_cons, List.length_cons, this]
            · rw [List.set_cons_succ, List.filter_cons_of_neg (by simp), List.filter_cons_of_neg (by simp), this]
      have h1 := hlen listed.toList j (by
        have : listed.toList[j]? = listed[j]? := by simp
        rw [this]
        simp [hjl] at hLj ⊢
        exact hLj)
      simp only [Array.toList_setIfInBounds]
      omega
    exact step_rel hB hmono hstep hs ho hLj hafter hI (fun a' w' hI' => ih _ a' w' hs' hf' hI')

/-- the operations one behind the other -/
theorem wpOps_rel (hB : relB ops a0.tmps.size = true)
    (hmono : ∀ i v w w', C w → E w w' → R i v w → R i v w')
    (hstep : ∀ j o, ops[j]? = some o → ∀ (a : Act) (w : World), C w → Seen ops R a0 o a w →
      (Region.wanted o (yielded ops a.tmps) = true → o.wp P a w (fun a' w' => C w' ∧ E w w' ∧ ∃ v, a' = a.put o.dst v ∧ R j v w') Q) ∧
      (Region.wanted o (yielded ops a.tmps) = false → E w w ∧ R j undef w))
    (hend : ∀ (σ : Nat → Value) (w : World), C w → (∀ i, i < ops.size → R i (σ i) w) → Q .normal (fillL ops σ (fun _ => true) (List.range ops.size) a0) w) :
    ∀ (m k : Nat) (listed : Array Bool) (a : Act) (w : World), k + m = ops.size → listed.size = ops.size → (∀ i, i < ops.size → listed.getD i false = decide (i < k)) → Inv ops R C a0 listed a w →
      wpOps P ops Q (List.range' k m) a w
  | 0, k, listed, a, w, hk, hs, hl, hI => by
    simpa [wpOps] using fin_rel hend listed a w hI (fun i hi => by rw [hl i hi]; simp; omega)
  | m + 1, k, listed, a, w, hk, hs, hl, hI => by
    rw [List.range'_succ, wpOps_cons]
    obtain ⟨o, ho⟩ : ∃ o, ops[k]? = some o := ⟨ops[k]'(by omega), by simp⟩
    refine step_rel hB hmono hstep hs ho (by rw [hl k (by omega)]; simp) (fun e he hb => ?_) hI (fun a' w' hI' => ?_)
    · have h1 := (relB_spec hB ho).1 e he hb
      rw [hl e.on (by omega)]
      simpa using h1
    · refine wpOps_rel hB hmono hstep hend m (k + 1) _ a' w' (by omega) (by simp [hs]) (fun i hi => ?_) hI'
      by_cases hik : i = k
      · subst hik
        have : i < listed.size := by omega
        simp [this]
      · rw [getD_set_ne false (Ne.symm hik), hl i hi]
        have : (i < k) ↔ (i < k + 1) := by omega
        simp [this]

theorem inv0 {w : World} (hC : C w) : Inv ops R C a0 (Array.replicate ops.size false) a0 w := by
  refine ⟨hC, fun _ => undef, ?_, fun i hi h => ?_⟩
  · have hz : ∀ (l : List Nat) (a : Act), fillL ops (fun _ => undef) (fun i => (Array.replicate ops.size false).getD i false) l a = a := by
      intro l
      induction l with
      | nil => intro a; rfl
      | cons i r ih =>
        intro a
        unfold fillL
        have : (Array.replicate ops.size false).getD i false = false := by
          simp [Array.getElem?_replicate]
          split <;> rfl
        rw [this, if_neg (by simp)]
        exact ih a
    exact (hz _ _).symm
  · exfalso
    simp [hi] at h

/-- a region that draws its order -/
theorem wp_region_rel {id : Nat} {w : World} (hm : P.follows .mixedOrders = true) (hC : C w.drew) (hB : relB ops a0.tmps.size = true)
    (hmono : ∀ i v w w', C w → E w w' → R i v w → R i v w')
    (hstep : ∀ j o, ops[j]? = some o → ∀ (a : Act) (w : World), C w → Seen ops R a0 o a w →
      (Region.wanted o (yielded ops a.tmps) = true → o.wp P a w (fun a' w' => C w' ∧ E w w' ∧ ∃ v, a' = a.put o.dst v ∧ R j v w') Q) ∧
      (Region.wanted o (yielded ops a.tmps) = false → E w w ∧ R j undef w))
    (hend : ∀ (σ : Nat → Value) (w : World), C w → (∀ i, i < ops.size → R i (σ i) w) → Q .normal (fillL ops σ (fun _ => true) (List.range ops.size) a0) w) :
    (Code.region id ops true).wp P Q a0 w :=
  wp_region_any hm (wpAny_rel (C := C) (E := E) (R := R) (a0 := a0) hB hmono hstep hend _ _ _ _ (by simp) (Nat.le_trans (List.length_filter_le _ _) (by simp)) (inv0 hC))
/-- a region that goes in the order of the text -/
theorem wp_region_rel_text {id : Nat} {w : World} (hC : C w) (hB : relB ops a0.tmps.size = true)
    (hmono : ∀ i v w w', C w → E w w' → R i v w → R i v w')
    (hstep : ∀ j o, ops[j]? = some o → ∀ (a : Act) (w : World), C w → Seen ops R a0 o a w →
      (Region.wanted o (yielded ops a.tmps) = true → o.wp P a w (fun a' w' => C w' ∧ E w w' ∧ ∃ v, a' = a.put o.dst v ∧ R j v w') Q) ∧
      (Region.wanted o (yielded ops a.tmps) = false → E w w ∧ R j undef w))
    (hend : ∀ (σ : Nat → Value) (w : World), C w → (∀ i, i < ops.size → R i (σ i) w) → Q .normal (fillL ops σ (fun _ => true) (List.range ops.size) a0) w) :
    (Code.region id ops false).wp P Q a0 w := by
  refine wp_region ?_
  have h := wpOps_rel (C := C) (E := E) (R := R) (a0 := a0) hB hmono hstep hend ops.size 0 (Array.replicate ops.size false) a0 w (by omega) (by simp) (fun i hi => by simp [hi]) (inv0 hC)
  rwa [← List.range_eq_range'] at h
end
end Go.Proofs.Ytiaecobjbckhoaa.Qr
