/- A region that draws its order, in a round of a loop over a function. Conditions: none. -/
import Derived.Test.YtiaecobjbckhoaaDbE
import Derived.OrdersIn
import Derived.RangeFuncNested
import Derived.RangeFuncCalls
set_option linter.unusedVariables false
set_option linter.unusedSimpArgs false
namespace Go.Proofs.Ytiaecobjbckhoaa.QrS
open Go
open Go.Proofs.Ytiaecobjbckhoaa.Qr
section
variable {P : Program} {ops : Array Oper} {Q : Exit → Act → World → Prop} {a0 : Act} {I : (Nat → Bool) → (Nat → Value) → World → Prop} {l n : Nat}
def noDefer (ops : Array Oper) : Bool := ops.all fun o => match o.op with | .defer _ => false | _ => true
theorem noDefer_spec {j : Nat} {o : Oper} (h : noDefer ops = true) (ho : ops[j]? = some o) : ∀ c, o.op ≠ .defer c := fun c e => by
  obtain ⟨hlt, he⟩ := Array.getElem?_eq_some_iff.1 ho
  have h1 := Array.all_eq_true.1 h j hlt
  rw [he, e] at h1
  cases h1
theorem opIn_of {o : Oper} {a : Act} {w : World} {K : Act → World → Prop} (hd : ∀ c, o.op ≠ .defer c) (h : o.wp P a w K Q) : o.wpIn (Fence.wide.inRound l) n P a w K Q := by
  refine ⟨fun _ _ => trivial, ?_⟩
  rw [Oper.semAt_eq _ _ _ hd]
  unfold Oper.wp at h
  generalize (execOp a.eval o).run P w = r at *
  cases r with
  | ok x w' =>
    cases x <;> first | exact h | exact h.elim | exact ⟨fun e => (by cases e), callsIn_wide.2 h⟩ | exact ⟨fun e => (by cases e), fun c cs _ => (let ⟨v, w', r, s⟩ := h c cs; ⟨v, w', r, stepsIn_wide.2 s⟩)⟩
  | halt x w' => cases x <;> first | exact h | exact h.elim
theorem done_allIn {listed : Array Bool} {a : Act} {w : World} (hs : listed.size = ops.size) (hall : ∀ i, i < ops.size → listed.getD i false = true) (h : Q .normal a w) : ∀ fuel, wpAnyIn (Fence.wide.inRound l) n P .any ops Q fuel listed a w := by
  have hr : Region.ready .any ops listed = [] := by
    cases hr : Region.ready .any ops listed with
    | nil => rfl
    | cons x xs =>
      exfalso
      have hx : x ∈ Region.ready .any ops listed := by rw [hr]; simp
      rw [mem_ready] at hx
      obtain ⟨h1, o, ho, _⟩ := hx
      have hlt : x < ops.size := (Array.getElem?_eq_some_iff.1 ho).1
      have h2 := hall x hlt
      have h3 : x < listed.size := by omega
      simp [h3] at h1 h2
      rw [h1] at h2
      cases h2
  intro fuel
  cases fuel with
  | zero => exact ⟨hr, h⟩
  | succ n => exact ⟨fun _ => h, fun j hj => by rw [hr] at hj; cases hj⟩
theorem wpAnyIn_set (hd : noDefer ops = true) (hB : relB ops a0.tmps.size = true) (hstep : ∀ j o, ops[j]? = some o → StepI P ops Q I a0 j o)
    (hend : ∀ σ w, I (fun i => decide (i < ops.size)) σ w → Q .normal (fillL ops σ (fun i => decide (i < ops.size)) (List.range ops.size) a0) w) :
    ∀ (fuel : Nat) (listed : Array Bool) (σ : Nat → Value) (w : World), listed.size = ops.size → (listed.toList.filter (· == false)).length ≤ fuel → Shut ops (fun i => listed.getD i false) → I (fun i => listed.getD i false) σ w →
      wpAnyIn (Fence.wide.inRound l) n P .any ops Q fuel listed (fillL ops σ (fun i => listed.getD i false) (List.range ops.size) a0) w := by
  have fin : ∀ (fuel : Nat) (listed : Array Bool) (σ : Nat → Value) (w : World), listed.size = ops.size → (∀ i, i < ops.size → listed.getD i false = true) → I (fun i => listed.getD i false) σ w →
      wpAnyIn (Fence.wide.inRound l) n P .any ops Q fuel listed (fillL ops σ (fun i => listed.getD i false) (List.range ops.size) a0) w := by
    intro fuel listed σ w hs hall hI
    have hL : (fun i => listed.getD i false) = fun i => decide (i < ops.size) := by
      funext i
      by_cases h : i < ops.size
      · rw [decide_eq_true h]; exact hall i h
      · rw [decide_eq_false h]
        simp [show ¬ i < listed.size by omega]
    refine done_allIn hs hall ?_ fuel
    rw [hL] at hI ⊢
    exact hend σ w hI
  intro fuel
  induction fuel with
  | zero =>
    intro listed σ w hs hf hS hI
    refine fin 0 listed σ w hs (fun i hi => ?_) hI
    have h0 : listed.toList.filter (· == false) = [] := List.length_eq_zero_iff.1 (by omega)
    have hi' : i < listed.size := by omega
    have h1 := List.filter_eq_nil_iff.1 h0 listed[i] (by simp)
    simp [hi']
    simpa using h1
  | succ fuel ih =>
    intro listed σ w hs hf hS hI
    by_cases hr : Region.ready .any ops listed = []
    · exact fin _ listed σ w hs (fun i hi => all_listed hB hs hr (i + 1) i (by omega) hi) hI
    refine ⟨fun h => absurd h hr, fun j hj => ?_⟩
    obtain ⟨hun, o, ho, hafter⟩ := mem_ready.1 hj
    have hjs : j < ops.size := (Array.getElem?_eq_some_iff.1 ho).1
    have hjl : j < listed.size := by omega
    have hLj : listed.getD j false = false := by simp [hjl] at hun ⊢; exact hun
    have hs' : (listed.setIfInBounds j true).size = ops.size := by simp [hs]
    have hf' : ((listed.setIfInBounds j true).toList.filter (· == false)).length ≤ fuel := by
      have hlen : ∀ (l : List Bool) (j : Nat), l[j]? = some false → ((l.set j true).filter (· == false)).length + 1 = (l.filter (· == false)).length := by
        intro l
        induction l with
        | nil => intro j h; simp at h
        | cons b r ihl =>
          intro j h
          cases j with
          | zero => simp at h; subst h; simp
          | succ j =>
            simp at h
            have := ihl j h
            cases b
            · rw [List.set_cons_succ, List.filter_cons_of_pos (by rfl), List.filter_cons_of_pos (by rfl), List.length_cons, List.length_cons, this]
            · rw [List.set_cons_succ, List.filter_cons_of_neg (by simp), List.filter_cons_of_neg (by simp), this]
      have h1 := hlen listed.toList j (by
        have : listed.toList[j]? = listed[j]? := by simp
        rw [this]
        simp [hjl] at hLj ⊢
        exact hLj)
      simp only [Array.toList_setIfInBounds]
      omega
    have hsp := relB_spec hB ho
    have hdj : dstOf ops j = o.dst := by unfold dstOf; rw [ho]; rfl
    have hnd : (List.range ops.size).Nodup := List.nodup_range
    have hsv : Sv ops σ a0 o (fillL ops σ (fun i => listed.getD i false) (List.range ops.size) a0) := by
      refine ⟨fun i d hi hd => ?_, fun t ht => fill_keep _ _ (fun i _ => ht i)⟩
      obtain ⟨e, he, hb⟩ := Array.any_eq_true'.1 hi
      simp only [Bool.and_eq_true, beq_iff_eq] at hb
      obtain ⟨hb1, rfl⟩ := hb
      have hl := hafter e he hb1
      have hin : e.on < ops.size := by have := hsp.1 e he hb1; omega
      obtain ⟨oi, hoi⟩ : ∃ oi, ops[e.on]? = some oi := ⟨ops[e.on], by simp [hin]⟩
      have hspi := relB_spec hB hoi
      have hdi : dstOf ops e.on = oi.dst := by unfold dstOf; rw [hoi]; rfl
      exact fill_get hl hd _ _ (List.mem_range.2 hin) hnd (hspi.2.1 d (by rw [← hdi]; exact hd)) (fun k _ hk => fun hkd => (hspi.2.2 k hk d hkd).1 (by rw [← hdi]; exact hd))
    have hLu : (fun i => (listed.setIfInBounds j true).getD i false) = updB (fun i => listed.getD i false) j := by
      funext i
      unfold updB
      by_cases hij : i = j
      · subst hij; simp [hjl]
      · rw [if_neg hij, getD_set_ne false (Ne.symm hij)]
    obtain ⟨hw, hwp⟩ := hstep j o ho (fun i => listed.getD i false) σ _ w hLj (fun i hi => by
      obtain ⟨e, he, hb⟩ := Array.any_eq_true'.1 hi
      simp only [Bool.and_eq_true, beq_iff_eq] at hb
      obtain ⟨hb1, rfl⟩ := hb
      exact hafter e he hb1) hS hI hsv
    unfold wpOpIn
    simp only [ho]
    rw [if_pos hw]
    refine Oper.wpIn_mono (fun a' w' ⟨v, ha, hI'⟩ => ?_) (opIn_of (noDefer_spec hd ho) hwp)
    subst ha
    have h1 := ih (listed.setIfInBounds j true) (upd σ j v) w' hs' hf' (by
      rw [hLu]
      refine hS.upd ho fun i hi => ?_
      obtain ⟨e, he, hb⟩ := Array.any_eq_true'.1 hi
      simp only [Bool.and_eq_true, beq_iff_eq] at hb
      obtain ⟨hb1, rfl⟩ := hb
      exact hafter e he hb1) (by rw [hLu]; exact hI')
    rw [hLu, fill_add (L := fun i => listed.getD i false) hLj _ _ (List.mem_range.2 hjs) hnd (fun i _ hij t ht hit => (hsp.2.2 i hij t hit).1 (by rw [← hdj]; exact ht)), hdj] at h1
    exact h1
/-- a region that draws its order -/
theorem wpIn_region_set {id : Nat} {w : World} (hm0 : P.follows .mixedOrders = true) (hI : I (fun _ => false) (fun _ => undef) w.drew) (hd : noDefer ops = true) (hB : relB ops a0.tmps.size = true) (hstep : ∀ j o, ops[j]? = some o → StepI P ops Q I a0 j o)
    (hend : ∀ σ w, I (fun i => decide (i < ops.size)) σ w → Q .normal (fillL ops σ (fun i => decide (i < ops.size)) (List.range ops.size) a0) w) :
    (Code.region id ops true).wpIn (Fence.wide.inRound l) n P Q a0 w := by
  refine wpIn_region_any hm0 ?_
  have h := wpAnyIn_set (l := l) (n := n) (a0 := a0) hd hB hstep hend ops.size (Array.replicate ops.size false) (fun _ => undef) w.drew (by simp) (Nat.le_trans (List.length_filter_le _ _) (by simp)) (fun k o _ hk => by
    by_cases h : k < ops.size <;> simp [h] at hk) (by
    have e : (fun i => (Array.replicate ops.size false).getD i false) = fun _ => false := by
      funext i
      by_cases h : i < ops.size <;> simp [h]
    rw [e]; exact hI)
  have e : fillL ops (fun _ => undef) (fun i => (Array.replicate ops.size false).getD i false) (List.range ops.size) a0 = a0 := by
    have : ∀ (l : List Nat) (a : Act), fillL ops (fun _ => undef) (fun i => (Array.replicate ops.size false).getD i false) l a = a := by
      intro l
      induction l with
      | nil => intro a; rfl
      | cons i r ih =>
        intro a
        unfold fillL
        rw [if_neg (by by_cases h : i < ops.size <;> simp [h])]
        exact ih a
    exact this _ _
  rw [e] at h
  exact h
end
end Go.Proofs.Ytiaecobjbckhoaa.QrS
