/- A region that draws its order, where what an operation leaves is told by a condition on its value and the world: for operations that make memory in whatever order. Conditions: none. The steps of a region by Qr's law: what each operation comes to. Conditions: none. A region that draws its order, walked once in the order of the text, where a guard may be a Bool that is not decided. Conditions: none. -/
import Derived.Orders
import Derived.Deep.Draws
import Derived.Test.YthiiahlgncngoaaDoorRRJaA
import Derived.Below
import Derived.Carry
import Derived.Deep.Quiet
set_option maxHeartbeats 16000000
set_option maxRecDepth 100000
namespace Go.Proofs.YthiiahlgncngoaaDoorRR.Qr
open Go
def dstOf (ops : Array Oper) (i : Nat) : Option Tmp := (ops[i]?).bind (·.dst)
/-- the frame in which the listed operations have left their values -/
def Q6 (ops : Array Oper) (σ : Nat → Value) (L : Nat → Bool) : List Nat → Act → Act
 | [], a => a
 | i :: r, a => Q6 ops σ L r (if L i = true then a.put (dstOf ops i) (σ i) else a)
theorem put_fill {ops : Array Oper} {σ : Nat → Value} {L : Nat → Bool} {d : Option Tmp} {v : Value} : ∀ (l : List Nat) (a : Act), (∀ i ∈ l, ∀ t, d = some t → dstOf ops i ≠ some t) →
 Q6 ops σ L l (a.put d v) = (Q6 ops σ L l a).put d v
 | [], _, _ => rfl
 | i :: r, a, h => by
   unfold Q6
   by_cases hL : L i = true
   · rw [if_pos hL, if_pos hL, Act.put_comm a v (σ i) (h i (by simp))]
     exact put_fill r _ (fun k hk => h k (by simp [hk]))
   · rw [if_neg hL, if_neg hL]
     exact put_fill r _ (fun k hk => h k (by simp [hk]))
theorem fill_congr {ops : Array Oper} {σ σ' : Nat → Value} {L L' : Nat → Bool} : ∀ (l : List Nat) (a : Act), (∀ i ∈ l, L i = L' i ∧ (L i = true → σ i = σ' i)) → Q6 ops σ L l a = Q6 ops σ' L' l a
 | [], _, _ => rfl
 | i :: r, a, h => by
   unfold Q6
   have h1 := h i (by simp)
   have h2 := fun a => fill_congr (ops := ops) (σ := σ) (σ' := σ') (L := L) (L' := L') r a (fun k hk => h k (by simp [hk]))
   by_cases hL : L i = true
   · have hL' : L' i = true := by rw [← h1.1]; exact hL
     rw [if_pos hL, if_pos hL', h1.2 hL]; exact h2 _
   · have hL' : ¬ L' i = true := by rw [← h1.1]; exact hL
     rw [if_neg hL, if_neg hL']; exact h2 _
def upd (σ : Nat → Value) (j : Nat) (v : Value) (i : Nat) : Value := if i = j then v else σ i
def updB (L : Nat → Bool) (j : Nat) (i : Nat) : Bool := if i = j then true else L i
theorem fill_add {ops : Array Oper} {σ : Nat → Value} {L : Nat → Bool} {j : Nat} {v : Value} (hj : L j = false) : ∀ (l : List Nat) (a : Act), j ∈ l → l.Nodup →
 (∀ i ∈ l, i ≠ j → ∀ t, dstOf ops j = some t → dstOf ops i ≠ some t) →
 Q6 ops (upd σ j v) (updB L j) l a = (Q6 ops σ L l a).put (dstOf ops j) v
 | [], _, h, _, _ => by cases h
 | i :: r, a, h, hn, hd => by
   unfold Q6
   have hn' := List.nodup_cons.1 hn
   by_cases hij : i = j
   · subst hij
     have e1 : updB L i i = true := by simp [updB]
     have e2 : upd σ i v i = v := by simp [upd]
     rw [if_pos e1, e2, if_neg (by rw [hj]; simp)]
     rw [fill_congr (σ' := σ) (L' := L) r _ (fun k hk => by
      have hki : k ≠ i := fun e => hn'.1 (e ▸ hk)
      exact ⟨by simp [updB, hki], fun _ => by simp [upd, hki]⟩)]
     exact put_fill r a (fun k hk => hd k (by simp [hk]) (fun e => hn'.1 (e ▸ hk)))
   · have hjr : j ∈ r := by
      rcases List.mem_cons.1 h with e | e
      · exact absurd e.symm hij
      · exact e
     have e1 : updB L j i = L i := by simp [updB, hij]
     have e2 : upd σ j v i = σ i := by simp [upd, hij]
     rw [e1, e2]
     exact fill_add hj r _ hjr hn'.2 (fun k hk => hd k (by simp [hk]))
theorem put_size (a : Act) (d : Option Tmp) (v : Value) : (a.put d v).tmps.size = a.tmps.size := by
 cases d <;> simp [Act.put]
theorem fill_keep {ops : Array Oper} {σ : Nat → Value} {L : Nat → Bool} {t : Nat} : ∀ (l : List Nat) (a : Act), (∀ i ∈ l, dstOf ops i ≠ some t) → (Q6 ops σ L l a).tmps[t]? = a.tmps[t]?
 | [], _, _ => rfl
 | i :: r, a, h => by
   unfold Q6
   rw [fill_keep r _ (fun k hk => h k (by simp [hk]))]
   split
   · cases hd : dstOf ops i with
     | none => rfl
     | some d =>
       have hne : d ≠ t := fun e => h i (by simp) (by rw [hd, e])
       simp [Act.put, Array.getElem?_setIfInBounds_ne hne]
   · rfl
theorem fill_get {ops : Array Oper} {σ : Nat → Value} {L : Nat → Bool} {j t : Nat} (hj : L j = true) (hd : dstOf ops j = some t) : ∀ (l : List Nat) (a : Act), j ∈ l → l.Nodup → t < a.tmps.size →
 (∀ i ∈ l, i ≠ j → dstOf ops i ≠ some t) → (Q6 ops σ L l a).tmps[t]? = some (σ j)
 | [], _, h, _, _, _ => by cases h
 | i :: r, a, h, hn, ht, hx => by
   unfold Q6
   have hn' := List.nodup_cons.1 hn
   by_cases hij : i = j
   · subst hij
     rw [if_pos hj, fill_keep r _ (fun k hk => hx k (by simp [hk]) (fun e => hn'.1 (e ▸ hk))), hd]
     simp [Act.put, ht]
   · have hjr : j ∈ r := by
      rcases List.mem_cons.1 h with e | e
      · exact absurd e.symm hij
      · exact e
     exact fill_get hj hd r _ hjr hn'.2 (by split <;> simp [put_size, ht]) (fun k hk => hx k (by simp [hk]))
/-- the static look: temporaries are apart, all edges lead back, each temporary that is looked at and written in the region is written by one of those that are waited for -/
def relB (ops : Array Oper) (size : Nat) : Bool :=
 (List.range ops.size).all fun j => match ops[j]? with
  | none => false
  | some o => (o.after.all fun e => !Region.binds .any e || decide (e.on < j)) &&
    (match o.dst with | none => true | some d => decide (d < size)) &&
    (List.range ops.size).all fun i => i == j || match dstOf ops i with
     | none => true
     | some d => (o.dst != some d) && (!(o.looksAt ops).contains d || o.after.any fun e => Region.binds .any e && e.on == i)
/-- what an operation is shown of the frame: those that it waits for have left what they leave, and all that nobody here writes is as it was -/
structure Seen (ops : Array Oper) (R : Nat → Value → World → Prop) (a0 : Act) (o : Oper) (a : Act) (w : World) : Prop where
 got : ∀ i d, (o.after.any fun e => Region.binds .any e && e.on == i) = true → dstOf ops i = some d → ∃ v, a.tmps[d]? = some v ∧ R i v w
 old : ∀ t, (∀ i, dstOf ops i ≠ some t) → a.tmps[t]? = a0.tmps[t]?
def Inv (ops : Array Oper) (R : Nat → Value → World → Prop) (C : World → Prop) (a0 : Act) (listed : Array Bool) (a : Act) (w : World) : Prop :=
 C w ∧ ∃ σ : Nat → Value, a = Q6 ops σ (fun i => listed.getD i false) (List.range ops.size) a0 ∧ ∀ i, i < ops.size → listed.getD i false = true → R i (σ i) w
section
variable {P : Program} {ops : Array Oper} {Q : Exit → Act → World → Prop} {C : World → Prop} {E : World → World → Prop} {R : Nat → Value → World → Prop} {a0 : Act}
theorem relB_spec {size : Nat} (h : relB ops size = true) {j : Nat} {o : Oper} (ho : ops[j]? = some o) :
 (∀ e ∈ o.after, Region.binds .any e = true → e.on < j) ∧ (∀ d, o.dst = some d → d < size) ∧
 ∀ i, i ≠ j → ∀ d, dstOf ops i = some d → o.dst ≠ some d ∧ (d ∈ o.looksAt ops → (o.after.any fun e => Region.binds .any e && e.on == i) = true) := by
 have hj : j < ops.size := (Array.getElem?_eq_some_iff.1 ho).1
 unfold relB at h
 have h1 := List.all_eq_true.1 h j (List.mem_range.2 hj)
 simp only [ho, Bool.and_eq_true] at h1
 obtain ⟨⟨h2, h3⟩, h4⟩ := h1
 refine ⟨fun e he hb => ?_, fun d hd => ?_, fun i hij d hd => ?_⟩
 · have := Array.all_eq_true_iff_forall_mem.1 h2 e he
   simpa [hb] using this
 · rw [hd] at h3; simpa using h3
 · have hi : i < ops.size := by
    unfold dstOf at hd
    cases hq : ops[i]? with
    | none => rw [hq] at hd; cases hd
    | some x => exact (Array.getElem?_eq_some_iff.1 hq).1
   have h5 := List.all_eq_true.1 h4 i (List.mem_range.2 hi)
   have hb : (i == j) = false := by simpa using hij
   simp only [hb, Bool.false_or, hd, Bool.and_eq_true, bne_iff_ne, ne_eq, Bool.or_eq_true, Bool.not_eq_true'] at h5
   refine ⟨h5.1, fun hm => ?_⟩
   rcases h5.2 with h6 | h6
   · have : (o.looksAt ops).contains d = true := by simpa using hm
     rw [this] at h6; cases h6
   · exact h6
theorem all_listed {listed : Array Bool} {size : Nat} (hB : relB ops size = true) (hs : listed.size = ops.size) (hr : Region.ready .any ops listed = []) : ∀ n i, i < n → i < ops.size → listed.getD i false = true
 | 0, _, h, _ => by omega
 | n + 1, i, h, hi => by
   rcases Nat.lt_or_ge i n with h' | h'
   · exact all_listed hB hs hr n i h' hi
   · obtain rfl : i = n := by omega
     cases hl : listed.getD i false with
     | true => rfl
     | false =>
       exfalso
       have hm : i ∈ Region.ready .any ops listed := by
        rw [mem_ready]
        refine ⟨?_, ops[i], by simp [hi], fun e he hb => ?_⟩
        · have : i < listed.size := by omega
          simp [this] at hl ⊢
          exact hl
        · have he' := (relB_spec hB (o := ops[i]) (j := i) (by simp [hi])).1 e he hb
          exact all_listed hB hs hr i e.on he' (by omega)
       rw [hr] at hm
       cases hm
theorem step_rel (hB : relB ops a0.tmps.size = true)
 (hmono : ∀ i v w w', C w → E w w' → R i v w → R i v w')
 (hstep : ∀ j o, ops[j]? = some o → ∀ (a : Act) (w : World), C w → Seen ops R a0 o a w →
  (Region.wanted o (yielded ops a.tmps) = true → o.wp P a w (fun a' w' => C w' ∧ E w w' ∧ ∃ v, a' = a.put o.dst v ∧ R j v w') Q) ∧
  (Region.wanted o (yielded ops a.tmps) = false → E w w ∧ R j undef w))
 {listed : Array Bool} {a : Act} {w : World} {j : Nat} {o : Oper} {K : Act → World → Prop} (hs : listed.size = ops.size) (ho : ops[j]? = some o) (hLj : listed.getD j false = false)
 (hafter : ∀ e ∈ o.after, Region.binds .any e = true → listed.getD e.on false = true) (hI : Inv ops R C a0 listed a w)
 (hK : ∀ a' w', Inv ops R C a0 (listed.setIfInBounds j true) a' w' → K a' w') : wpOp P ops Q j K a w := by
 have hjs : j < ops.size := (Array.getElem?_eq_some_iff.1 ho).1
 have hjl : j < listed.size := by omega
 obtain ⟨hC, σ, rfl, hR⟩ := hI
 have hsp := relB_spec hB ho
 have hdj : dstOf ops j = o.dst := by unfold dstOf; rw [ho]; rfl
 have hnd : (List.range ops.size).Nodup := List.nodup_range
 have hseen : Seen ops R a0 o (Q6 ops σ (fun i => listed.getD i false) (List.range ops.size) a0) w := by
  refine ⟨fun i d hi hd => ?_, fun t ht => fill_keep _ _ (fun i _ => ht i)⟩
  obtain ⟨e, he, hb⟩ := Array.any_eq_true'.1 hi
  simp only [Bool.and_eq_true, beq_iff_eq] at hb
  obtain ⟨hb1, rfl⟩ := hb
  have hl := hafter e he hb1
  have hin : e.on < ops.size := by have := hsp.1 e he hb1; omega
  obtain ⟨oi, hoi⟩ : ∃ oi, ops[e.on]? = some oi := ⟨ops[e.on], by simp [hin]⟩
  have hspi := relB_spec hB hoi
  have hdi : dstOf ops e.on = oi.dst := by unfold dstOf; rw [hoi]; rfl
  refine ⟨σ e.on, fill_get hl hd _ _ (List.mem_range.2 hin) hnd (hspi.2.1 d (by rw [← hdi]; exact hd)) (fun k _ hk => fun hkd => (hspi.2.2 k hk d hkd).1 (by rw [← hdi]; exact hd)), hR _ hin hl⟩
 have hLu : (fun i => (listed.setIfInBounds j true).getD i false) = updB (fun i => listed.getD i false) j := by
  funext i
  unfold updB
  by_cases hij : i = j
  · subst hij; simp [hjl]
  · rw [if_neg hij, getD_set_ne false (Ne.symm hij)]
 have hnext : ∀ (v : Value) (w' : World), C w' → E w w' → R j v w' → Inv ops R C a0 (listed.setIfInBounds j true) ((Q6 ops σ (fun i => listed.getD i false) (List.range ops.size) a0).put o.dst v) w' := fun v w' hC' hE hRv => by
  refine ⟨hC', upd σ j v, ?_, fun i hi hl => ?_⟩
  · rw [hLu, fill_add (L := fun i => listed.getD i false) hLj _ _ (List.mem_range.2 hjs) hnd (fun i _ hij t ht hit => (hsp.2.2 i hij t hit).1 (by rw [← hdj]; exact ht)), hdj]
  · by_cases hij : i = j
    · subst hij; simpa [upd] using hRv
    · have h1 : listed.getD i false = true := by rw [getD_set_ne false (Ne.symm hij)] at hl; exact hl
      have : upd σ j v i = σ i := by simp [upd, hij]
      rw [this]
      exact hmono i _ w w' hC hE (hR i hi h1)
 obtain ⟨hw1, hw0⟩ := hstep j o ho _ w hC hseen
 unfold wpOp
 simp only [ho]
 by_cases hw : Region.wanted o (yielded ops (Q6 ops σ (fun i => listed.getD i false) (List.range ops.size) a0).tmps) = true
 · rw [if_pos hw]
   left
   refine Oper.wp_mono (fun a' w' ⟨hC', hE, v, ha, hRv⟩ => ?_) (hw1 hw)
   subst ha
   exact hK _ w' (hnext v w' hC' hE hRv)
 · rw [if_neg hw]
   obtain ⟨hE, hRu⟩ := hw0 (by simpa using hw)
   exact hK _ w (hnext undef w hC hE hRu)
theorem fin_rel (hend : ∀ (σ : Nat → Value) (w : World), C w → (∀ i, i < ops.size → R i (σ i) w) → Q .normal (Q6 ops σ (fun _ => true) (List.range ops.size) a0) w) (listed : Array Bool) (a : Act) (w : World) (hI : Inv ops R C a0 listed a w) (hall : ∀ i, i < ops.size → listed.getD i false = true) : Q .normal a w := by
 obtain ⟨hC, σ, rfl, hR⟩ := hI
 have h1 := hend σ w hC (fun i hi => hR i hi (hall i hi))
 rwa [fill_congr (σ' := σ) (L' := fun i => listed.getD i false) _ _ (fun i hi => ⟨by rw [hall i (List.mem_range.1 hi)], fun _ => rfl⟩)] at h1
theorem wpAny_rel (hB : relB ops a0.tmps.size = true)
 (hmono : ∀ i v w w', C w → E w w' → R i v w → R i v w')
 (hstep : ∀ j o, ops[j]? = some o → ∀ (a : Act) (w : World), C w → Seen ops R a0 o a w →
  (Region.wanted o (yielded ops a.tmps) = true → o.wp P a w (fun a' w' => C w' ∧ E w w' ∧ ∃ v, a' = a.put o.dst v ∧ R j v w') Q) ∧
  (Region.wanted o (yielded ops a.tmps) = false → E w w ∧ R j undef w))
 (hend : ∀ (σ : Nat → Value) (w : World), C w → (∀ i, i < ops.size → R i (σ i) w) → Q .normal (Q6 ops σ (fun _ => true) (List.range ops.size) a0) w) :
 ∀ (fuel : Nat) (listed : Array Bool) (a : Act) (w : World), listed.size = ops.size → (listed.toList.filter (· == false)).length ≤ fuel → Inv ops R C a0 listed a w → wpAny P .any ops Q fuel listed a w := by
 intro fuel
 induction fuel with
 | zero =>
   intro listed a w hs hf hI
   have hall : ∀ i, i < ops.size → listed.getD i false = true := fun i hi => by
    have h0 : listed.toList.filter (· == false) = [] := List.length_eq_zero_iff.1 (by omega)
    have hi' : i < listed.size := by omega
    have h1 := List.filter_eq_nil_iff.1 h0 listed[i] (by simp)
    simp [hi']
    simpa using h1
   refine ⟨?_, fin_rel hend listed a w hI hall⟩
   cases hr : Region.ready .any ops listed with
   | nil => rfl
   | cons x xs =>
     exfalso
     have hx : x ∈ Region.ready .any ops listed := by rw [hr]; simp
     rw [mem_ready] at hx
     obtain ⟨h1, o, ho, _⟩ := hx
     have hlt : x < ops.size := (Array.getElem?_eq_some_iff.1 ho).1
     have h2 := hall x hlt
     have h3 : x < listed.size := by omega
     simp [h3] at h1 h2
     rw [h1] at h2
     cases h2
 | succ fuel ih =>
   intro listed a w hs hf hI
   refine ⟨fun hr => fin_rel hend listed a w hI (fun i hi => all_listed hB hs hr (i + 1) i (by omega) hi), fun j hj => ?_⟩
   obtain ⟨hun, o, ho, hafter⟩ := mem_ready.1 hj
   have hjs : j < ops.size := (Array.getElem?_eq_some_iff.1 ho).1
   have hjl : j < listed.size := by omega
   have hLj : listed.getD j false = false := by simp [hjl] at hun ⊢; exact hun
   have hs' : (listed.setIfInBounds j true).size = ops.size := by simp [hs]
   have hf' : ((listed.setIfInBounds j true).toList.filter (· == false)).length ≤ fuel := by
    have hlen : ∀ (l : List Bool) (j : Nat), l[j]? = some false → ((l.set j true).filter (· == false)).length + 1 = (l.filter (· == false)).length := by
     intro l
     induction l with
     | nil => intro j h; simp at h
     | cons b r ihl =>
       intro j h
       cases j with
       | zero => simp at h; subst h; simp
       | succ j =>
         simp at h
         have := ihl j h
         cases b
         · rw [List.set_cons_succ, List.filter_cons_of_pos (by rfl), List.filter_cons_of_pos (by rfl), List.length_cons, List.length_cons, this]
         · rw [List.set_cons_succ, List.filter_cons_of_neg (by simp), List.filter_cons_of_neg (by simp), this]
    have h1 := hlen listed.toList j (by
     have : listed.toList[j]? = listed[j]? := by simp
     rw [this]
     simp [hjl] at hLj ⊢
     exact hLj)
    simp only [Array.toList_setIfInBounds]
    omega
   exact step_rel hB hmono hstep hs ho hLj hafter hI (fun a' w' hI' => ih _ a' w' hs' hf' hI')
theorem inv0 {w : World} (hC : C w) : Inv ops R C a0 (Array.replicate ops.size false) a0 w := by
 refine ⟨hC, fun _ => undef, ?_, fun i hi h => ?_⟩
 · have hz : ∀ (l : List Nat) (a : Act), Q6 ops (fun _ => undef) (fun i => (Array.replicate ops.size false).getD i false) l a = a := by
    intro l
    induction l with
    | nil => intro a; rfl
    | cons i r ih =>
      intro a
      unfold Q6
      have : (Array.replicate ops.size false).getD i false = false := by
       simp [Array.getElem?_replicate]
       split <;> rfl
      rw [this, if_neg (by simp)]
      exact ih a
   exact (hz _ _).symm
 · exfalso
   simp [hi] at h
/-- a region that draws its order -/
theorem Xv {id : Nat} {w : World} (hm : P.follows .mixedOrders = true) (hC : C w.drew) (hB : relB ops a0.tmps.size = true)
 (hmono : ∀ i v w w', C w → E w w' → R i v w → R i v w')
 (hstep : ∀ j o, ops[j]? = some o → ∀ (a : Act) (w : World), C w → Seen ops R a0 o a w →
  (Region.wanted o (yielded ops a.tmps) = true → o.wp P a w (fun a' w' => C w' ∧ E w w' ∧ ∃ v, a' = a.put o.dst v ∧ R j v w') Q) ∧
  (Region.wanted o (yielded ops a.tmps) = false → E w w ∧ R j undef w))
 (hend : ∀ (σ : Nat → Value) (w : World), C w → (∀ i, i < ops.size → R i (σ i) w) → Q .normal (Q6 ops σ (fun _ => true) (List.range ops.size) a0) w) :
 (Code.region id ops true).wp P Q a0 w :=
 wp_region_any hm (wpAny_rel (C := C) (E := E) (R := R) (a0 := a0) hB hmono hstep hend _ _ _ _ (by simp) (Nat.le_trans (List.length_filter_le _ _) (by simp)) (inv0 hC))
end
end Go.Proofs.YthiiahlgncngoaaDoorRR.Qr
namespace Go.Proofs.YthiiahlgncngoaaDoorRR.Vq
open Go Go.RowKit
open Go.Proofs.YthiiahlgncngoaaDoorRR.Qr
/-- just this value -/
def VK (u : Value) (v : Value) (_ : World) : Prop := v = u
def VT (_ : Value) (_ : World) : Prop := True
abbrev Ext (w w' : World) : Prop := Below w.heap.size w w'
def Mono (p : Value → World → Prop) : Prop := ∀ v w w', Ext w w' → p v w → p v w'
theorem VK.mono {u : Value} : Mono (VK u) := fun _ _ _ _ h => h
theorem VT.mono : Mono VT := fun _ _ _ _ h => h
/-! ### the steps -/
section
variable {P : Program} {ops : Array Oper} {Q : Exit → Act → World → Prop} {C : World → Prop} {R : Nat → Value → World → Prop} {a0 : Act}
/-- one operation is shown -/
def Step (P : Program) (ops : Array Oper) (Q : Exit → Act → World → Prop) (C : World → Prop) (R : Nat → Value → World → Prop) (a0 : Act) (j : Nat) (o : Oper) : Prop :=
 ∀ (a : Act) (w : World), C w → Seen ops R a0 o a w →
  (Region.wanted o (yielded ops a.tmps) = true → o.wp P a w (fun a' w' => C w' ∧ Ext w w' ∧ ∃ v, a' = a.put o.dst v ∧ R j v w') Q) ∧
  (Region.wanted o (yielded ops a.tmps) = false → Ext w w ∧ R j undef w)
def StepsL (P : Program) (ops : Array Oper) (Q : Exit → Act → World → Prop) (C : World → Prop) (R : Nat → Value → World → Prop) (a0 : Act) : Nat → List Oper → Prop
 | _, [] => True
 | k, o :: r => Step P ops Q C R a0 k o ∧ StepsL P ops Q C R a0 (k + 1) r
theorem stepsL_get : ∀ (l : List Oper) (k j : Nat) (o : Oper), StepsL P ops Q C R a0 k l → l[j]? = some o → Step P ops Q C R a0 (k + j) o
 | [], _, _, _, _, h => by simp at h
 | x :: r, k, 0, o, hs, h => by
   simp at h; subst h
   exact hs.1
 | x :: r, k, j + 1, o, hs, h => by
   have := stepsL_get r (k + 1) j o hs.2 (by simpa using h)
   have e : k + 1 + j = k + (j + 1) := by omega
   rwa [e] at this
theorem steps_all {l : List Oper} (h : StepsL P l.toArray Q C R a0 0 l) : ∀ j o, l.toArray[j]? = some o → Step P l.toArray Q C R a0 j o := fun j o ho => by
 have := stepsL_get l 0 j o h (by simpa using ho)
 rwa [Nat.zero_add] at this
def MonoL : List (Value → World → Prop) → Prop
 | [] => True
 | p :: r => Mono p ∧ MonoL r
theorem Zr : ∀ (l : List (Value → World → Prop)) (i : Nat), MonoL l → Mono (l.getD i VT)
 | [], _, _ => by simpa using VT.mono
 | p :: r, 0, h => by simpa using h.1
 | p :: r, i + 1, h => by simpa using Zr r i h.2
theorem ev {a : Act} {t : Nat} {v : Value} (h : a.tmps[t]? = some v) : a.eval (.tmp t) = v := by simp [Act.eval, h]
theorem Qo {o : Oper} {a : Act} {w : World} (hs : Seen ops R a0 o a w) (t : Nat) {v : Value} (hB : (ops.all fun o => o.dst != some t) = true) (h0 : a0.tmps[t]? = some v) : a.tmps[t]? = some v := by
 rw [hs.old t (fun i hd => ?_), h0]
 unfold dstOf at hd
 cases hq : ops[i]? with
 | none => rw [hq] at hd; cases hd
 | some x =>
   rw [hq] at hd
   have h1 := Array.all_eq_true_iff_forall_mem.1 hB x (Array.mem_of_getElem? hq)
   have h2 : x.dst = some t := hd
   simp [h2] at h1
theorem Qf {o : Oper} {a : Act} {w : World} (hs : Seen ops R a0 o a w) (i d : Nat) (hi : (o.after.any fun e => Region.binds .any e && e.on == i) = true) (hd : dstOf ops i = some d) : ∃ v, a.tmps[d]? = some v ∧ R i v w := hs.got i d hi hd
theorem Qb {o : Oper} {a : Act} (hg : o.guard = none) : Region.wanted o (yielded ops a.tmps) = true := by unfold Region.wanted; rw [hg]
/-- an operation that leaves a value, and perhaps makes memory -/
theorem s_new {j : Nat} {o : Oper} (h : ∀ a w, C w → Seen ops R a0 o a w → Region.wanted o (yielded ops a.tmps) = true ∧ ∃ v w', (execOp a.eval o).run P w = .ok (.value v) w' ∧ C w' ∧ Ext w w' ∧ R j v w') : Step P ops Q C R a0 j o := fun a w hC hs => by
 obtain ⟨hw, v, w', hr, hC', hE, hR⟩ := h a w hC hs
 refine ⟨fun _ => ?_, fun hn => (by rw [hw] at hn; cases hn)⟩
 unfold Oper.wp
 rw [hr]
 exact ⟨hC', hE, v, rfl, hR⟩
theorem Ql {j : Nat} {o : Oper} (h : ∀ a w, C w → Seen ops R a0 o a w → Region.wanted o (yielded ops a.tmps) = true ∧ ∃ v, (execOp a.eval o).run P w = .ok (.value v) w ∧ R j v w) : Step P ops Q C R a0 j o :=
 s_new fun a w hC hs => by
  obtain ⟨hw, v, hr, hR⟩ := h a w hC hs
  exact ⟨hw, v, w, hr, hC, Below.refl _ _, hR⟩
theorem s_call {j : Nat} {o : Oper} (h : ∀ a w, C w → Seen ops R a0 o a w → Region.wanted o (yielded ops a.tmps) = true ∧ ∃ f args, (execOp a.eval o).run P w = .ok (.enter f args) w ∧
 Calls P f args w (fun e w' => ∃ v, e = .returned v ∧ C w' ∧ Ext w w' ∧ R j v w')) : Step P ops Q C R a0 j o := fun a w hC hs => by
 obtain ⟨hw, f, args, hr, hc⟩ := h a w hC hs
 refine ⟨fun _ => ?_, fun hn => (by rw [hw] at hn; cases hn)⟩
 unfold Oper.wp
 rw [hr]
 exact hc.mono fun e w' ⟨v, he, hC', hE, hR⟩ => by subst he; exact ⟨hC', hE, v, rfl, hR⟩
theorem run_bs {a : Act} {o : Oper} {t n : Nat} {ps : Array (Nat × Operand)} {qs : Array (Nat × Value)} {v : Value} {w w' : World} (ho : o.op = .buildSlice t n ps) (hp : ps.map (fun p => (p.1, a.eval p.2)) = qs)
 (hr : (Instr.buildSlice t n qs).run P w = .ok v w') : (execOp a.eval o).run P w = .ok (.value v) w' := by
 subst hp
 unfold execOp
 simp [ho, hr]
theorem run_b {a : Act} {o : Oper} {t : Nat} {ps : Array (Nat × Operand)} {qs : Array (Nat × Value)} {v : Value} {w w' : World} (ho : o.op = .build t ps) (hp : ps.map (fun p => (p.1, a.eval p.2)) = qs)
 (hr : (Instr.build t qs).run P w = .ok v w') : (execOp a.eval o).run P w = .ok (.value v) w' := by
 subst hp
 unfold execOp
 simp [ho, hr]
theorem Qw {a : Act} {o : Oper} {x : Operand} {v : Value} {w : World} (ho : o.op = .move x ∨ o.op = .assign x) (hx : a.eval x = v) : (execOp a.eval o).run P w = .ok (.value v) w := by
 subst hx
 unfold execOp
 rcases ho with h | h <;> simp [h]
theorem Qz {a : Act} {o : Oper} {t : Nat} {x : Operand} {u v : Value} {w : World} (ho : o.op = .load t x) (hx : a.eval x = u) (hr : (Instr.loadAt t u).run P w = .ok v w) : (execOp a.eval o).run P w = .ok (.value v) w := by
 subst hx
 unfold execOp
 simp [ho, hr]
theorem run_pk {a : Act} {o : Oper} {c x y : Operand} {b : Bool} {v : Value} {w : World} (ho : o.op = .pick c x y) (hc : a.eval c = .bool b) (hx : (if b = true then a.eval x else a.eval y) = v) : (execOp a.eval o).run P w = .ok (.value v) w := by
 subst hx
 unfold execOp
 simp [ho, hc, asBool]
theorem Qa {k : Nat} {o : Oper} {r : List Oper} (h : Step P ops Q C R a0 k o) (h' : StepsL P ops Q C R a0 (k + 1) r) : StepsL P ops Q C R a0 k (o :: r) := ⟨h, h'⟩
theorem Qx {k : Nat} : StepsL P ops Q C R a0 k [] := trivial
theorem ev_const {a : Act} (v : Value) : a.eval (.const v) = v := rfl
theorem run_ms {a : Act} {o : Oper} {t : TypeId} {x y : Operand} {u v r : Value} {w w' : World} (ho : o.op = .makeSlice t x y) (hx : a.eval x = u) (hy : a.eval y = v) (hr : (Instr.makeSlice t u v).run P w = .ok r w') : (execOp a.eval o).run P w = .ok (.value r) w' := by
 subst hx hy
 unfold execOp
 simp [ho, hr]
end
theorem Ext.al (w : World) (o : Obj) : Ext w (w.alloc o) := (Below.refl _ _).alloc (Nat.le_refl _) _
end Go.Proofs.YthiiahlgncngoaaDoorRR.Vq
namespace Go.Proofs.YthiiahlgncngoaaDoorRR.Qg
open Go
section
variable {P : Program} {ops : Array Oper} {C : World → Prop} {Q : Act → Prop} {a : Act} {o : Oper} {rest : List Oper}
/-- a call of a function by its name is entered -/
theorem run_call {P : Program} {a : Act} {o : Oper} {f : FuncId} {xs : Array Operand} {ts : Array TypeId} {args : Array Value} {w : World}
 (ho : o.op = .call { callee := .value (.func f), args := xs, argTypes := ts }) (hx : xs.map a.eval = args) (hf : ∀ (ys : Array Value) (w : World), (callFunc f ys).run P w = .ok (.enter f ys) w) :
 (execOp a.eval o).run P w = .ok (.enter f args) w := by
 have h1 : a.eval (.func f) = Value.func (.func f) #[] #[] := rfl
 subst hx
 unfold execOp
 simp only [ho, resolve, h1, Deferred.ofValue, Sem.run_bind, Sem.run_pure, Result.andThen, invoke]
 simp [hf]
theorem Z5 {P : Program} {a : Act} {o : Oper} {f : FuncId} {x : Operand} {ts : Array TypeId} {u : Value} {w : World}
 (ho : o.op = .call { callee := .value (.func f), args := #[x], argTypes := ts }) (hx : a.eval x = u) (hf : ∀ (xs : Array Value) (w : World), (callFunc f xs).run P w = .ok (.enter f xs) w) :
 (execOp a.eval o).run P w = .ok (.enter f #[u]) w := run_call ho (by simp [hx]) hf
theorem Z2 {P : Program} {a : Act} {o : Oper} {f : FuncId} {x y : Operand} {ts : Array TypeId} {u v : Value} {w : World}
 (ho : o.op = .call { callee := .value (.func f), args := #[x, y], argTypes := ts }) (hx : a.eval x = u) (hy : a.eval y = v) (hf : ∀ (xs : Array Value) (w : World), (callFunc f xs).run P w = .ok (.enter f xs) w) :
 (execOp a.eval o).run P w = .ok (.enter f #[u, v]) w := run_call ho (by simp [hx, hy]) hf
theorem run_call3 {P : Program} {a : Act} {o : Oper} {f : FuncId} {x y z : Operand} {ts : Array TypeId} {u v t : Value} {w : World}
 (ho : o.op = .call { callee := .value (.func f), args := #[x, y, z], argTypes := ts }) (hx : a.eval x = u) (hy : a.eval y = v) (hz : a.eval z = t) (hf : ∀ (xs : Array Value) (w : World), (callFunc f xs).run P w = .ok (.enter f xs) w) :
 (execOp a.eval o).run P w = .ok (.enter f #[u, v, t]) w := run_call ho (by simp [hx, hy, hz]) hf
end
end Go.Proofs.YthiiahlgncngoaaDoorRR.Qg
namespace Go.Proofs.YthiiahlgncngoaaDoorRR.QrT
open Go
open Go.Proofs.YthiiahlgncngoaaDoorRR.Qr
section
variable {P : Program} {ops : Array Oper} {Q : Exit → Act → World → Prop} {C : World → Prop} {E : World → World → Prop} {R : Nat → Value → World → Prop} {a0 : Act}
theorem step_rel1 (hB : relB ops a0.tmps.size = true)
 (hmono : ∀ i v w w', C w → E w w' → R i v w → R i v w')
 {listed : Array Bool} {a : Act} {w : World} {j : Nat} {o : Oper} {K : Act → World → Prop}
 (hstep : ∀ (a : Act) (w : World), C w → Seen ops R a0 o a w →
  (Region.wanted o (yielded ops a.tmps) = true → o.wp P a w (fun a' w' => C w' ∧ E w w' ∧ ∃ v, a' = a.put o.dst v ∧ R j v w') Q) ∧
  (Region.wanted o (yielded ops a.tmps) = false → E w w ∧ R j undef w))
 (hs : listed.size = ops.size) (ho : ops[j]? = some o) (hLj : listed.getD j false = false)
 (hafter : ∀ e ∈ o.after, Region.binds .any e = true → listed.getD e.on false = true) (hI : Inv ops R C a0 listed a w)
 (hK : ∀ a' w', Inv ops R C a0 (listed.setIfInBounds j true) a' w' → K a' w') : wpOp P ops Q j K a w := by
 have hjs : j < ops.size := (Array.getElem?_eq_some_iff.1 ho).1
 have hjl : j < listed.size := by omega
 obtain ⟨hC, σ, rfl, hR⟩ := hI
 have hsp := relB_spec hB ho
 have hdj : dstOf ops j = o.dst := by unfold dstOf; rw [ho]; rfl
 have hnd : (List.range ops.size).Nodup := List.nodup_range
 have hseen : Seen ops R a0 o (Q6 ops σ (fun i => listed.getD i false) (List.range ops.size) a0) w := by
  refine ⟨fun i d hi hd => ?_, fun t ht => fill_keep _ _ (fun i _ => ht i)⟩
  obtain ⟨e, he, hb⟩ := Array.any_eq_true'.1 hi
  simp only [Bool.and_eq_true, beq_iff_eq] at hb
  obtain ⟨hb1, rfl⟩ := hb
  have hl := hafter e he hb1
  have hin : e.on < ops.size := by have := hsp.1 e he hb1; omega
  obtain ⟨oi, hoi⟩ : ∃ oi, ops[e.on]? = some oi := ⟨ops[e.on], by simp [hin]⟩
  have hspi := relB_spec hB hoi
  have hdi : dstOf ops e.on = oi.dst := by unfold dstOf; rw [hoi]; rfl
  refine ⟨σ e.on, fill_get hl hd _ _ (List.mem_range.2 hin) hnd (hspi.2.1 d (by rw [← hdi]; exact hd)) (fun k _ hk => fun hkd => (hspi.2.2 k hk d hkd).1 (by rw [← hdi]; exact hd)), hR _ hin hl⟩
 have hLu : (fun i => (listed.setIfInBounds j true).getD i false) = updB (fun i => listed.getD i false) j := by
  funext i
  unfold updB
  by_cases hij : i = j
  · subst hij; simp [hjl]
  · rw [if_neg hij, getD_set_ne false (Ne.symm hij)]
 have hnext : ∀ (v : Value) (w' : World), C w' → E w w' → R j v w' → Inv ops R C a0 (listed.setIfInBounds j true) ((Q6 ops σ (fun i => listed.getD i false) (List.range ops.size) a0).put o.dst v) w' := fun v w' hC' hE hRv => by
  refine ⟨hC', upd σ j v, ?_, fun i hi hl => ?_⟩
  · rw [hLu, fill_add (L := fun i => listed.getD i false) hLj _ _ (List.mem_range.2 hjs) hnd (fun i _ hij t ht hit => (hsp.2.2 i hij t hit).1 (by rw [← hdj]; exact ht)), hdj]
  · by_cases hij : i = j
    · subst hij; simpa [upd] using hRv
    · have h1 : listed.getD i false = true := by rw [getD_set_ne false (Ne.symm hij)] at hl; exact hl
      have : upd σ j v i = σ i := by simp [upd, hij]
      rw [this]
      exact hmono i _ w w' hC hE (hR i hi h1)
 obtain ⟨hw1, hw0⟩ := hstep _ w hC hseen
 unfold wpOp
 simp only [ho]
 by_cases hw : Region.wanted o (yielded ops (Q6 ops σ (fun i => listed.getD i false) (List.range ops.size) a0).tmps) = true
 · rw [if_pos hw]
   left
   refine Oper.wp_mono (fun a' w' ⟨hC', hE, v, ha, hRv⟩ => ?_) (hw1 hw)
   subst ha
   exact hK _ w' (hnext v w' hC' hE hRv)
 · rw [if_neg hw]
   obtain ⟨hE, hRu⟩ := hw0 (by simpa using hw)
   exact hK _ w (hnext undef w hC hE hRu)
theorem ready_nil {listed : Array Bool} (hs : listed.size = ops.size) (hall : ∀ i, i < ops.size → listed.getD i false = true) : Region.ready .any ops listed = [] := by
 cases hr : Region.ready .any ops listed with
 | nil => rfl
 | cons x xs =>
   exfalso
   have hx : x ∈ Region.ready .any ops listed := by rw [hr]; simp
   rw [mem_ready] at hx
   obtain ⟨h1, o, ho, _⟩ := hx
   have hlt : x < ops.size := (Array.getElem?_eq_some_iff.1 ho).1
   have h2 := hall x hlt
   have h3 : x < listed.size := by omega
   simp [h3] at h1 h2
   rw [h1] at h2
   cases h2
theorem wpAny_done {listed : Array Bool} {a : Act} {w : World} (hs : listed.size = ops.size) (hall : ∀ i, i < ops.size → listed.getD i false = true) (h : Q .normal a w) : ∀ fuel, wpAny P .any ops Q fuel listed a w
 | 0 => ⟨ready_nil hs hall, h⟩
 | _ + 1 => ⟨fun _ => h, fun j hj => by rw [ready_nil hs hall] at hj; cases hj⟩
theorem wpAny_tail (hB : relB ops a0.tmps.size = true)
 (hmono : ∀ i v w w', C w → E w w' → R i v w → R i v w')
 {m : Nat} (hm : m + 1 = ops.size) {om : Oper} (hom : ops[m]? = some om) (hg : om.guard = none)
 (hwait : ∀ i, i < m → (om.after.any fun e => Region.binds .any e && e.on == i) = true)
 (hstep : ∀ j o, j < m → ops[j]? = some o → ∀ (a : Act) (w : World), C w → Seen ops R a0 o a w →
  (Region.wanted o (yielded ops a.tmps) = true → o.wp P a w (fun a' w' => C w' ∧ E w w' ∧ ∃ v, a' = a.put o.dst v ∧ R j v w') Q) ∧
  (Region.wanted o (yielded ops a.tmps) = false → E w w ∧ R j undef w))
 (hlast : ∀ (σ : Nat → Value) (w : World), C w → (∀ i, i < m → R i (σ i) w) → om.wp P (Q6 ops σ (fun i => decide (i < m)) (List.range ops.size) a0) w (fun a' w' => Q .normal a' w') Q) :
 ∀ (fuel : Nat) (listed : Array Bool) (a : Act) (w : World), listed.size = ops.size → (listed.toList.filter (· == false)).length ≤ fuel → listed.getD m false = false → Inv ops R C a0 listed a w → wpAny P .any ops Q fuel listed a w := by
 intro fuel
 induction fuel with
 | zero =>
   intro listed a w hs hf hl hI
   exfalso
   have h0 : listed.toList.filter (· == false) = [] := List.length_eq_zero_iff.1 (by omega)
   have hi' : m < listed.size := by omega
   have h1 := List.filter_eq_nil_iff.1 h0 listed[m] (by simp)
   simp [hi'] at hl
   rw [hl] at h1
   exact h1 rfl
 | succ fuel ih =>
   intro listed a w hs hf hl hI
   refine ⟨fun hr => ?_, fun j hj => ?_⟩
   · have := all_listed hB hs hr (m + 1) m (by omega) (by omega)
     rw [hl] at this; cases this
   · obtain ⟨hun, o, ho, hafter⟩ := mem_ready.1 hj
     have hjs : j < ops.size := (Array.getElem?_eq_some_iff.1 ho).1
     have hjl : j < listed.size := by omega
     have hLj : listed.getD j false = false := by simp [hjl] at hun ⊢; exact hun
     have hs' : (listed.setIfInBounds j true).size = ops.size := by simp [hs]
     have hf' : ((listed.setIfInBounds j true).toList.filter (· == false)).length ≤ fuel := by
      have hlen : ∀ (l : List Bool) (j : Nat), l[j]? = some false → ((l.set j true).filter (· == false)).length + 1 = (l.filter (· == false)).length := by
       intro l
       induction l with
       | nil => intro j h; simp at h
       | cons b r ihl =>
         intro j h
         cases j with
         | zero => simp at h; subst h; simp
         | succ j =>
           simp at h
           have := ihl j h
           cases b
           · rw [List.set_cons_succ, List.filter_cons_of_pos (by rfl), List.filter_cons_of_pos (by rfl), List.length_cons, List.length_cons, this]
           · rw [List.set_cons_succ, List.filter_cons_of_neg (by simp), List.filter_cons_of_neg (by simp), this]
      have h1 := hlen listed.toList j (by
       have : listed.toList[j]? = listed[j]? := by simp
       rw [this]
       simp [hjl] at hLj ⊢
       exact hLj)
      simp only [Array.toList_setIfInBounds]
      omega
     by_cases hjm : j = m
     · subst hjm
       rw [hom] at ho; cases ho
       have hall : ∀ i, i < ops.size → listed.getD i false = decide (i < j) := by
        intro i hi
        by_cases hij : i < j
        · rw [decide_eq_true hij]
          obtain ⟨e, he, hb⟩ := Array.any_eq_true'.1 (hwait i hij)
          simp only [Bool.and_eq_true, beq_iff_eq] at hb
          obtain ⟨hb1, rfl⟩ := hb
          exact hafter e he hb1
        · rw [decide_eq_false hij, show i = j by omega]; exact hLj
       obtain ⟨hC, σ, rfl, hR⟩ := hI
       have h1 := hlast σ w hC (fun i hi => hR i (by omega) (by rw [hall i (by omega)]; simpa using hi))
       rw [fill_congr (σ' := σ) (L' := fun i => listed.getD i false) _ _ (fun i hi => ⟨by rw [hall i (List.mem_range.1 hi)], fun _ => rfl⟩)] at h1
       unfold wpOp
       simp only [hom]
       rw [if_pos (by unfold Region.wanted; rw [hg])]
       left
       refine Oper.wp_mono (fun a' w' hQ => wpAny_done hs' (fun i hi => ?_) hQ _) h1
       by_cases hij : i = j
       · subst hij
         simp [hjl]
       · rw [getD_set_ne false (Ne.symm hij), hall i hi]
         simp; omega
     · refine step_rel1 hB hmono (hstep j o (by omega) ho) hs ho hLj hafter hI (fun a' w' hI' => ih _ a' w' hs' hf' ?_ hI')
       rw [getD_set_ne false hjm]; exact hl
/-- a region that draws its order, whose last operation waits for all others -/
theorem wp_region_tail {id : Nat} {w : World} (hm0 : P.follows .mixedOrders = true) (hC : C w.drew) (hB : relB ops a0.tmps.size = true)
 (hmono : ∀ i v w w', C w → E w w' → R i v w → R i v w')
 {m : Nat} (hm : m + 1 = ops.size) {om : Oper} (hom : ops[m]? = some om) (hg : om.guard = none)
 (hwait : ((List.range m).all fun i => om.after.any fun e => Region.binds .any e && e.on == i) = true)
 (hstep : ∀ j o, j < m → ops[j]? = some o → ∀ (a : Act) (w : World), C w → Seen ops R a0 o a w →
  (Region.wanted o (yielded ops a.tmps) = true → o.wp P a w (fun a' w' => C w' ∧ E w w' ∧ ∃ v, a' = a.put o.dst v ∧ R j v w') Q) ∧
  (Region.wanted o (yielded ops a.tmps) = false → E w w ∧ R j undef w))
 (hlast : ∀ (σ : Nat → Value) (w : World), C w → (∀ i, i < m → R i (σ i) w) → om.wp P (Q6 ops σ (fun i => decide (i < m)) (List.range ops.size) a0) w (fun a' w' => Q .normal a' w') Q) :
 (Code.region id ops true).wp P Q a0 w :=
 wp_region_any hm0 (wpAny_tail (C := C) (E := E) (R := R) (a0 := a0) hB hmono hm hom hg (fun i hi => List.all_eq_true.1 hwait i (List.mem_range.2 hi)) hstep hlast _ _ _ _ (by simp) (Nat.le_trans (List.length_filter_le _ _) (by simp)) (by
  simp [show m < ops.size by omega]) (inv0 hC))
end
end Go.Proofs.YthiiahlgncngoaaDoorRR.QrT
