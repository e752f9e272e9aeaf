/- A region that draws its order: what is held while it is gone through hangs on which operations are done, and on what they left. Conditions: none. -/
import Derived.Test.YtiaecobjbckhoaaVq
set_option linter.unusedVariables false
namespace Go.Proofs.Ytiaecobjbckhoaa.QrS
open Go
open Go.Proofs.Ytiaecobjbckhoaa.Qr
section
variable {P : Program} {ops : Array Oper} {Q : Exit → Act → World → Prop} {a0 : Act} {I : (Nat → Bool) → (Nat → Value) → World → Prop}
def waits (o : Oper) (i : Nat) : Bool := o.after.any fun e => Region.binds .any e && e.on == i
/-- what an operation is shown of the frame -/
structure Sv (ops : Array Oper) (σ : Nat → Value) (a0 : Act) (o : Oper) (a : Act) : Prop where
  got : ∀ i d, waits o i = true → dstOf ops i = some d → a.tmps[d]? = some (σ i)
  old : ∀ t, (∀ i, dstOf ops i ≠ some t) → a.tmps[t]? = a0.tmps[t]?
/-- what an operation that is done waits for is done -/
def Shut (ops : Array Oper) (L : Nat → Bool) : Prop := ∀ k o, ops[k]? = some o → L k = true → ∀ i, waits o i = true → L i = true
theorem Shut.upd {ops : Array Oper} {L : Nat → Bool} {j : Nat} {o : Oper} (h : Shut ops L) (ho : ops[j]? = some o) (hw : ∀ i, waits o i = true → L i = true) : Shut ops (updB L j) := by
  intro k ok hk hL i hi
  have up : ∀ i, L i = true → updB L j i = true := fun i h => by unfold updB; split <;> simp [h]
  by_cases e : k = j
  · subst e
    rw [ho] at hk
    cases hk
    exact up i (hw i hi)
  · refine up i (h k ok hk ?_ i hi)
    unfold updB at hL
    rwa [if_neg e] at hL
theorem Shut.not {ops : Array Oper} {L : Nat → Bool} (h : Shut ops L) (k i : Nat) {o : Oper} (ho : ops[k]? = some o) (hw : waits o i = true) (hL : L i = false) : L k = false := by
  cases hk : L k with
  | false => rfl
  | true => have := h k o ho hk i hw; rw [hL] at this; cases this
/-- one operation -/
def StepI (P : Program) (ops : Array Oper) (Q : Exit → Act → World → Prop) (I : (Nat → Bool) → (Nat → Value) → World → Prop) (a0 : Act) (j : Nat) (o : Oper) : Prop :=
  ∀ (L : Nat → Bool) (σ : Nat → Value) (a : Act) (w : World), L j = false → (∀ i, waits o i = true → L i = true) → Shut ops L → I L σ w → Sv ops σ a0 o a →
    Region.wanted o (yielded ops a.tmps) = true ∧ o.wp P a w (fun a' w' => ∃ v, a' = a.put o.dst v ∧ I (updB L j) (upd σ j v) w') Q
theorem done_all {listed : Array Bool} {a : Act} {w : World} (hs : listed.size = ops.size) (hall : ∀ i, i < ops.size → listed.getD i false = true) (h : Q .normal a w) : ∀ fuel, wpAny P .any ops Q fuel listed a w := by
  have hr : Region.ready .any ops listed = [] := by
    cases hr : Region.ready .any ops listed with
    | nil => rfl
    | cons x xs =>
      exfalso
      have hx : x ∈ Region.ready .any ops listed := by rw [hr]; simp
      rw [mem_ready] at hx
      obtain ⟨h1, o, ho, _⟩ := hx
      have hlt : x < ops.size := (Array.getElem?_eq_some_iff.1 ho).1
      have h2 := hall x hlt
      have h3 : x < listed.size := by omega
      simp [h3] at h1 h2
      rw [h1] at h2
      cases h2
  intro fuel
  cases fuel with
  | zero => exact ⟨hr, h⟩
  | succ n => exact ⟨fun _ => h, fun j hj => by rw [hr] at hj; cases hj⟩
theorem wpAny_set (hB : relB ops a0.tmps.size = true) (hstep : ∀ j o, ops[j]? = some o → StepI P ops Q I a0 j o)
    (hend : ∀ σ w, I (fun i => decide (i < ops.size)) σ w → Q .normal (fillL ops σ (fun i => decide (i < ops.size)) (List.range ops.size) a0) w) :
    ∀ (fuel : Nat) (listed : Array Bool) (σ : Nat → Value) (w : World), listed.size = ops.size → (listed.toList.filter (· == false)).length ≤ fuel → Shut ops (fun i => listed.getD i false) → I (fun i => listed.getD i false) σ w →
      wpAny P .any ops Q fuel listed (fillL ops σ (fun i => listed.getD i false) (List.range ops.size) a0) w := by
  have fin : ∀ (fuel : Nat) (listed : Array Bool) (σ : Nat → Value) (w : World), listed.size = ops.size → (∀ i, i < ops.size → listed.getD i false = true) → I (fun i => listed.getD i false) σ w →
      wpAny P .any ops Q fuel listed (fillL ops σ (fun i => listed.getD i false) (List.range ops.size) a0) w := by
    intro fuel listed σ w hs hall hI
    have hL : (fun i => listed.getD i false) = fun i => decide (i < ops.size) := by
      funext i
      by_cases h : i < ops.size
      · rw [decide_eq_true h]; exact hall i h
      · rw [decide_eq_false h]
        simp [show ¬ i < listed.size by omega]
    refine done_all hs hall ?_ fuel
    rw [hL] at hI ⊢
    exact hend σ w hI
  intro fuel
  induction fuel with
  | zero =>
    intro listed σ w hs hf hS hI
    refine fin 0 listed σ w hs (fun i hi => ?_) hI
    have h0 : listed.toList.filter (· == false) = [] := List.length_eq_zero_iff.1 (by omega)
    have hi' : i < listed.size := by omega
    have h1 := List.filter_eq_nil_iff.1 h0 listed[i] (by simp)
    simp [hi']
    simpa using h1
  | succ fuel ih =>
    intro listed σ w hs hf hS hI
    by_cases hr : Region.ready .any ops listed = []
    · exact fin _ listed σ w hs (fun i hi => all_listed hB hs hr (i + 1) i (by omega) hi) hI
    refine ⟨fun h => absurd h hr, fun j hj => ?_⟩
    obtain ⟨hun, o, ho, hafter⟩ := mem_ready.1 hj
    have hjs : j < ops.size := (Array.getElem?_eq_some_iff.1 ho).1
    have hjl : j < listed.size := by omega
    have hLj : listed.getD j false = false := by simp [hjl] at hun ⊢; exact hun
    have hs' : (listed.setIfInBounds j true).size = ops.size := by simp [hs]
    have hf' : ((listed.setIfInBounds j true).toList.filter (· == false)).length ≤ fuel := by
      have hlen : ∀ (l : List Bool) (j : Nat), l[j]? = some false → ((l.set j true).filter (· == false)).length + 1 = (l.filter (· == false)).length := by
        intro l
        induction l with
        | nil => intro j h; simp at h
        | cons b r ihl =>
          intro j h
          cases j with
          | zero => simp at h; subst h; simp
          | succ j =>
            simp at h
            have := ihl j h
            cases b
            · rw [List.set_cons_succ, List.filter_cons_of_pos (by rfl), List.filter_cons_of_pos (by rfl), List.length_cons, List.length_cons, this]
            · rw [List.set_cons_succ, List.filter_cons_of_neg (by simp), List.filter_cons_of_neg (by simp), this]
      have h1 := hlen listed.toList j (by
        have : listed.toList[j]? = listed[j]? := by simp
        rw [this]
        simp [hjl] at hLj ⊢
        exact hLj)
      simp only [Array.toList_setIfInBounds]
      omega
    have hsp := relB_spec hB ho
    have hdj : dstOf ops j = o.dst := by unfold dstOf; rw [ho]; rfl
    have hnd : (List.range ops.size).Nodup := List.nodup_range
    have hsv : Sv ops σ a0 o (fillL ops σ (fun i => listed.getD i false) (List.range ops.size) a0) := by
      refine ⟨fun i d hi hd => ?_, fun t ht => fill_keep _ _ (fun i _ => ht i)⟩
      obtain ⟨e, he, hb⟩ := Array.any_eq_true'.1 hi
      simp only [Bool.and_eq_true, beq_iff_eq] at hb
      obtain ⟨hb1, rfl⟩ := hb
      have hl := hafter e he hb1
      have hin : e.on < ops.size := by have := hsp.1 e he hb1; omega
      obtain ⟨oi, hoi⟩ : ∃ oi, ops[e.on]? = some oi := ⟨ops[e.on], by simp [hin]⟩
      have hspi := relB_spec hB hoi
      have hdi : dstOf ops e.on = oi.dst := by unfold dstOf; rw [hoi]; rfl
      exact fill_get hl hd _ _ (List.mem_range.2 hin) hnd (hspi.2.1 d (by rw [← hdi]; exact hd)) (fun k _ hk => fun hkd => (hspi.2.2 k hk d hkd).1 (by rw [← hdi]; exact hd))
    have hLu : (fun i => (listed.setIfInBounds j true).getD i false) = updB (fun i => listed.getD i false) j := by
      funext i
      unfold updB
      by_cases hij : i = j
      · subst hij; simp [hjl]
      · rw [if_neg hij, getD_set_ne false (Ne.symm hij)]
    obtain ⟨hw, hwp⟩ := hstep j o ho (fun i => listed.getD i false) σ _ w hLj (fun i hi => by
      obtain ⟨e, he, hb⟩ := Array.any_eq_true'.1 hi
      simp only [Bool.and_eq_true, beq_iff_eq] at hb
      obtain ⟨hb1, rfl⟩ := hb
      exact hafter e he hb1) hS hI hsv
    unfold wpOp
    simp only [ho]
    rw [if_pos hw]
    left
    refine Oper.wp_mono (fun a' w' ⟨v, ha, hI'⟩ => ?_) hwp
    subst ha
    have h1 := ih (listed.setIfInBounds j true) (upd σ j v) w' hs' hf' (by
      rw [hLu]
      refine hS.upd ho fun i hi => ?_
      obtain ⟨e, he, hb⟩ := Array.any_eq_true'.1 hi
      simp only [Bool.and_eq_true, beq_iff_eq] at hb
      obtain ⟨hb1, rfl⟩ := hb
      exact hafter e he hb1) (by rw [hLu]; exact hI')
    rw [hLu, fill_add (L := fun i => listed.getD i false) hLj _ _ (List.mem_range.2 hjs) hnd (fun i _ hij t ht hit => (hsp.2.2 i hij t hit).1 (by rw [← hdj]; exact ht)), hdj] at h1
    exact h1
/-- a region that draws its order -/
theorem wp_region_set {id : Nat} {w : World} (hm0 : P.follows .mixedOrders = true) (hI : I (fun _ => false) (fun _ => undef) w.drew) (hB : relB ops a0.tmps.size = true) (hstep : ∀ j o, ops[j]? = some o → StepI P ops Q I a0 j o)
    (hend : ∀ σ w, I (fun i => decide (i < ops.size)) σ w → Q .normal (fillL ops σ (fun i => decide (i < ops.size)) (List.range ops.size) a0) w) :
    (Code.region id ops true).wp P Q a0 w := by
  refine wp_region_any hm0 ?_
  have h := wpAny_set (a0 := a0) hB hstep hend ops.size (Array.replicate ops.size false) (fun _ => undef) w.drew (by simp) (Nat.le_trans (List.length_filter_le _ _) (by simp)) (fun k o _ hk => by
    by_cases h : k < ops.size <;> simp [h] at hk) (by
    have e : (fun i => (Array.replicate ops.size false).getD i false) = fun _ => false := by
      funext i
      by_cases h : i < ops.size <;> simp [h]
    rw [e]; exact hI)
  have e : fillL ops (fun _ => undef) (fun i => (Array.replicate ops.size false).getD i false) (List.range ops.size) a0 = a0 := by
    have : ∀ (l : List Nat) (a : Act), fillL ops (fun _ => undef) (fun i => (Array.replicate ops.size false).getD i false) l a = a := by
      intro l
      induction l with
      | nil => intro a; rfl
      | cons i r ih =>
        intro a
        unfold fillL
        rw [if_neg (by by_cases h : i < ops.size <;> simp [h])]
        exact ih a
    exact this _ _
  rw [e] at h
  exact h
theorem Sv.ev {σ : Nat → Value} {o : Oper} {a : Act} (h : Sv ops σ a0 o a) (i d : Nat) {v : Value} (hw : waits o i = true) (hd : dstOf ops i = some d) (hv : σ i = v) : a.eval (.tmp d) = v := by
  have := h.got i d hw hd
  simp [Act.eval, this, hv]
theorem Sv.ev0 {σ : Nat → Value} {o : Oper} {a : Act} (h : Sv ops σ a0 o a) (t : Nat) {v : Value} (hB : (ops.all fun o => o.dst != some t) = true) (h0 : a0.tmps[t]? = some v) : a.eval (.tmp t) = v := by
  have := h.old t (fun i hi => by
    unfold dstOf at hi
    cases ho : ops[i]? with
    | none => rw [ho] at hi; cases hi
    | some o =>
      rw [ho] at hi
      obtain ⟨hlt, he⟩ := Array.getElem?_eq_some_iff.1 ho
      have h1 := Array.all_eq_true.1 hB i hlt
      rw [he] at h1
      have h2 : o.dst = some t := hi
      rw [h2] at h1
      simp at h1)
  rw [h0] at this
  simp [Act.eval, this]
def StepsI (P : Program) (ops : Array Oper) (Q : Exit → Act → World → Prop) (I : (Nat → Bool) → (Nat → Value) → World → Prop) (a0 : Act) : Nat → List Oper → Prop
  | _, [] => True
  | k, o :: r => StepI P ops Q I a0 k o ∧ StepsI P ops Q I a0 (k + 1) r
theorem stepsI_get : ∀ (l : List Oper) (k j : Nat) (o : Oper), StepsI P ops Q I a0 k l → l[j]? = some o → StepI P ops Q I a0 (k + j) o
  | [], _, _, _, _, h => by simp at h
  | x :: r, k, 0, o, hs, h => by
    simp at h; subst h
    exact hs.1
  | x :: r, k, j + 1, o, hs, h => by
    have := stepsI_get r (k + 1) j o hs.2 (by simpa using h)
    have e : k + 1 + j = k + (j + 1) := by omega
    rwa [e] at this
theorem stepsI_all {l : List Oper} (h : StepsI P l.toArray Q I a0 0 l) : ∀ j o, l.toArray[j]? = some o → StepI P l.toArray Q I a0 j o := fun j o ho => by
  have := stepsI_get l 0 j o h (by simpa using ho)
  rwa [Nat.zero_add] at this
theorem stepsI_cons {k : Nat} {o : Oper} {r : List Oper} (h : StepI P ops Q I a0 k o) (h' : StepsI P ops Q I a0 (k + 1) r) : StepsI P ops Q I a0 k (o :: r) := ⟨h, h'⟩
theorem wp_val {a : Act} {o : Oper} {v : Value} {w w' : World} {K : Act → World → Prop} (hr : (execOp a.eval o).run P w = .ok (.value v) w') (h : K (a.put o.dst v) w') : o.wp P a w K Q := by
  unfold Oper.wp
  rw [hr]
  exact h
end
end Go.Proofs.Ytiaecobjbckhoaa.QrS
