/- What is met is closed: of a block that is met, each one to which it goes is met, too; the blocks that stay, as they are in the end. Conditions: each block goes to blocks. What cut leaves, as reached and graph take it up: where blocks go to are blocks; the lists of where one goes to, each in a row of its own; a row of blocks of the call's own that may be longer. Conditions: the last instruction is a jump or a return. -/
import Derived.Test.YtkmlhijnkilfpaaDoorJOwM
set_option linter.unusedVariables false
set_option linter.unusedSimpArgs false
namespace Go.Proofs.YtkmlhijnkilfpaaDoor.Fw
open Go Go.RowKit
open Go.Proofs.YtkmlhijnkilfpaaDoor.Lx Go.Proofs.YtkmlhijnkilfpaaDoor.Tr Go.Proofs.YtkmlhijnkilfpaaDoor.Cd

theorem fold_mono {q : Nat} {S : Nat → List Int} (l : List Int) (g : Nat → Bool) (i : Nat) (h : g i = true) : l.foldl (fun f t => visit q S f t.toNat) g i = true :=
  foldl_mono (fun f i => f i = true) _ (fun f t i h => visit_mono q S f _ i h) l g i h
/-- what is met anew goes to what is met -/
theorem visit_shut (n : Nat) (S : Nat → List Int) (hS : ∀ i t, t ∈ S i → t.toNat < n) : ∀ (q : Nat) (f : Nat → Bool) (b : Nat), b < n → unmet n f ≤ q →
    visit q S f b b = true ∧ ∀ i, visit q S f b i = true → f i = true ∨ ∀ t ∈ S i, visit q S f b t.toNat = true := by
  intro q
  induction q with
  | zero =>
    intro f b hb hq
    exact ⟨unmet_none hb hq, fun i h => .inl h⟩
  | succ q ih =>
    intro f b hb hq
    by_cases hf : f b = true
    · rw [visit_zero _ _ _ _ hf]
      exact ⟨hf, fun i h => .inl h⟩
    · have hfb : f b = false := by simpa using hf
      have e : visit (q + 1) S f b = (S b).foldl (fun f t => visit q S f t.toNat) (fun i => if i = b then true else f i) := by
        rw [visit, if_neg hf]
      rw [e]
      have hU : unmet n (fun i => if i = b then true else f i) ≤ q := by have := unmet_less hb hfb; omega
      have key : ∀ (l : List Int) (g : Nat → Bool), (∀ t ∈ l, t.toNat < n) → unmet n g ≤ q →
          (∀ t ∈ l, l.foldl (fun f t => visit q S f t.toNat) g t.toNat = true) ∧ ∀ i, l.foldl (fun f t => visit q S f t.toNat) g i = true → g i = true ∨ ∀ t ∈ S i, l.foldl (fun f t => visit q S f t.toNat) g t.toNat = true := by
        intro l
        induction l with
        | nil => intro g _ _; exact ⟨fun t h => (by cases h), fun i h => .inl h⟩
        | cons y r ihr =>
          intro g hl hg
          obtain ⟨h1, h2⟩ := ih g y.toNat (hl y (by simp)) hg
          obtain ⟨h3, h4⟩ := ihr (visit q S g y.toNat) (fun t ht => hl t (by simp [ht])) (Nat.le_trans (unmet_mono n fun i hi => visit_mono q S g _ i hi) hg)
          refine ⟨fun t ht => ?_, fun i hi => ?_⟩
          · rcases List.mem_cons.1 ht with rfl | ht
            · exact fold_mono r _ _ h1
            · exact h3 t ht
          · rcases h4 i hi with h | h
            · rcases h2 i h with h | h
              · exact .inl h
              · exact .inr fun t ht => fold_mono r _ _ (h t ht)
            · exact .inr h
      obtain ⟨k1, k2⟩ := key (S b) _ (hS b) hU
      refine ⟨fold_mono _ _ _ (by simp), fun i hi => ?_⟩
      rcases k2 i hi with h | h
      · by_cases eb : i = b
        · subst eb
          exact .inr k1
        · rw [if_neg eb] at h
          exact .inl h
      · exact .inr h
theorem met_first {bs : List Bk} (hto : ∀ b ∈ bs, ∀ t ∈ b.tt, 0 ≤ t ∧ t < (bs.length : Int)) (h0 : 0 < bs.length) : metF bs 0 = true :=
  (visit_shut bs.length (toF bs) (fun i t ht => by
    unfold toF at ht
    rw [List.getD_eq_getElem?_getD] at ht
    cases hx : bs[i]? with
    | none => rw [hx] at ht; simp [Bk0] at ht
    | some x => rw [hx] at ht; have := hto x (List.mem_of_getElem? hx) t ht; omega) bs.length (fun _ => false) 0 h0 (unmet_all _ _)).1
theorem met_shut {bs : List Bk} (hto : ∀ b ∈ bs, ∀ t ∈ b.tt, 0 ≤ t ∧ t < (bs.length : Int)) (h0 : 0 < bs.length) {i : Nat} {x : Bk} (hx : bs[i]? = some x) (hm : metF bs i = true) : ∀ t ∈ x.tt, metF bs t.toNat = true := by
  have := (visit_shut bs.length (toF bs) (fun i t ht => by
    unfold toF at ht
    rw [List.getD_eq_getElem?_getD] at ht
    cases hx : bs[i]? with
    | none => rw [hx] at ht; simp [Bk0] at ht
    | some x => rw [hx] at ht; have := hto x (List.mem_of_getElem? hx) t ht; omega) bs.length (fun _ => false) 0 h0 (unmet_all _ _)).2 i hm
  rcases this with h | h
  · cases h
  · intro t ht
    refine h t ?_
    unfold toF
    rw [List.getD_eq_getElem?_getD, hx]
    exact ht
/-! ### the blocks, in the end -/
def reTo (f : Nat → Bool) (x : Bk) : Bk := { x with tt := x.tt.map fun t => (numM f t.toNat : Int) }
def stay (bs : List Bk) : List Bk := (pickF (metF bs) 0 bs).map (reTo (metF bs))
def putF (fa : Option Addr) (fcap : Nat) (fm : List Int) (x : Bk) : Bk := { x with fa := fa, fcap := fcap, fm := fm }
theorem re_cells (f : Nat → Bool) : ∀ l : List Bk, bkCells (l.map (reTo f)) = bkCells l
  | [] => rfl
  | x :: r => by
    have h1 : (reTo f x).vals = x.vals := by simp [reTo, Bk.vals]
    show (reTo f x).vals ++ bkCells (r.map (reTo f)) = x.vals ++ bkCells r
    rw [h1, re_cells f r]
theorem stay_cells (bs : List Bk) : bkCells (stay bs) = bkCells (pickF (metF bs) 0 bs) := re_cells _ _
theorem pick_at {f : Nat → Bool} {bs : List Bk} {i : Nat} {x : Bk} (h : (pickF f 0 bs)[i]? = some x) : ∃ b, b < bs.length ∧ f b = true ∧ bs[b]? = some x ∧ numM f b = i := by
  rw [← List.take_length (l := bs)] at h
  exact pick_of bs.length (Nat.le_refl _) h
theorem stay_len (bs : List Bk) : (stay bs).length = (pickF (metF bs) 0 bs).length := by unfold stay; simp
theorem stay_of {bs : List Bk} {i : Nat} {y : Bk} (h : (stay bs)[i]? = some y) : ∃ b x, metF bs b = true ∧ bs[b]? = some x ∧ numM (metF bs) b = i ∧ (pickF (metF bs) 0 bs)[i]? = some x ∧ y = reTo (metF bs) x := by
  unfold stay at h
  rw [List.getElem?_map, Option.map_eq_some_iff] at h
  obtain ⟨x, hx, rfl⟩ := h
  obtain ⟨b, hb, h1, h2, h3⟩ := pick_at hx
  exact ⟨b, x, h1, h2, h3, hx, rfl⟩
theorem stay_get {bs : List Bk} {b : Nat} {x : Bk} (h : bs[b]? = some x) (hm : metF bs b = true) : (stay bs)[numM (metF bs) b]? = some (reTo (metF bs) x) := by
  unfold stay
  rw [List.getElem?_map, pick_get h hm]; rfl
/-- the numbers that reached writes are the new ones -/
theorem new_stay {bs : List Bk} (hto : ∀ b ∈ bs, ∀ t ∈ b.tt, 0 ≤ t ∧ t < (bs.length : Int)) (h0 : 0 < bs.length) {i : Nat} {x : Bk} (hx : (pickF (metF bs) 0 bs)[i]? = some x) : newTo (metF bs) bs.length (pickF (metF bs) 0 bs) i = (reTo (metF bs) x).tt := by
  obtain ⟨b, hb, h1, h2, h3⟩ := pick_at hx
  rw [new_at hx]
  unfold reTo
  refine List.map_congr_left fun t ht => ?_
  have ht1 := met_shut hto h0 h2 h1 t ht
  have ht2 := hto x (List.mem_of_getElem? h2) t ht
  unfold nuF
  rw [if_pos ⟨ht1, by omega⟩]
/-- the new numbers are of blocks that stay -/
theorem stay_to {bs : List Bk} (hto : ∀ b ∈ bs, ∀ t ∈ b.tt, 0 ≤ t ∧ t < (bs.length : Int)) (h0 : 0 < bs.length) : ∀ y ∈ stay bs, ∀ t ∈ y.tt, 0 ≤ t ∧ t < ((stay bs).length : Int) := by
  intro y hy t ht
  obtain ⟨i, hi⟩ := List.mem_iff_getElem?.1 hy
  obtain ⟨b, x, h1, h2, h3, h4, rfl⟩ := stay_of hi
  unfold reTo at ht
  rw [List.mem_map] at ht
  obtain ⟨u, hu, rfl⟩ := ht
  have hu1 := met_shut hto h0 h2 h1 u hu
  have hu2 := hto x (List.mem_of_getElem? h2) u hu
  obtain ⟨z, hz⟩ : ∃ z, bs[u.toNat]? = some z := ⟨_, List.getElem?_eq_getElem (by omega)⟩
  have := (List.getElem?_eq_some_iff.1 (stay_get hz hu1)).1
  omega
theorem stay_pos {bs : List Bk} (hto : ∀ b ∈ bs, ∀ t ∈ b.tt, 0 ≤ t ∧ t < (bs.length : Int)) (h0 : 0 < bs.length) : 0 < (stay bs).length ∧ (stay bs).length ≤ bs.length := by
  obtain ⟨z, hz⟩ : ∃ z, bs[0]? = some z := ⟨_, List.getElem?_eq_getElem h0⟩
  have h1 := (List.getElem?_eq_some_iff.1 (stay_get hz (met_first hto h0))).1
  have h2 := pick_len (metF bs) bs bs.length (Nat.le_refl _)
  rw [List.take_length] at h2
  rw [stay_len] at h1 ⊢
  have h3 := numM_le_self (metF bs) bs.length
  omega
/-- From is told of the first k blocks -/
def tellF (fa : Nat → Option Addr) (fcap : Nat → Nat) (L : List Bk) (k : Nat) : List Bk := L.mapIdx fun i x => if i < k then putF (fa i) (fcap i) (fromsP L (i : Int)) x else x
theorem tell_zero (fa : Nat → Option Addr) (fcap : Nat → Nat) (L : List Bk) : tellF fa fcap L 0 = L := by
  unfold tellF
  apply List.ext_getElem?
  intro i
  rw [List.getElem?_mapIdx]
  cases L[i]? <;> simp
theorem tell_len (fa : Nat → Option Addr) (fcap : Nat → Nat) (L : List Bk) (k : Nat) : (tellF fa fcap L k).length = L.length := by unfold tellF; simp
theorem tell_get {fa : Nat → Option Addr} {fcap : Nat → Nat} {L : List Bk} {k i : Nat} {x : Bk} (h : L[i]? = some x) : (tellF fa fcap L k)[i]? = some (if i < k then putF (fa i) (fcap i) (fromsP L (i : Int)) x else x) := by
  unfold tellF
  rw [List.getElem?_mapIdx, h]; rfl
theorem tell_step {fa : Nat → Option Addr} {fcap : Nat → Nat} {L : List Bk} {k : Nat} {x : Bk} (h : L[k]? = some x) : (tellF fa fcap L k).set k (putF (fa k) (fcap k) (fromsP L (k : Int)) x) = tellF fa fcap L (k + 1) := by
  apply List.ext_getElem?
  intro i
  rw [List.getElem?_set]
  have hk : k < L.length := (List.getElem?_eq_some_iff.1 h).1
  by_cases e : k = i
  · subst e
    rw [if_pos rfl, if_pos (by rw [tell_len]; exact hk), tell_get h, if_pos (Nat.lt_succ_self k)]
  · rw [if_neg e]
    cases hx : L[i]? with
    | none => simp [tellF, hx]
    | some y =>
      rw [tell_get hx, tell_get hx]
      by_cases h1 : i < k
      · rw [if_pos h1, if_pos (by omega)]
      · rw [if_neg h1, if_neg (by omega)]
end Go.Proofs.YtkmlhijnkilfpaaDoor.Fw
set_option linter.unusedVariables false
set_option linter.unusedSimpArgs false
namespace Go.Proofs.YtkmlhijnkilfpaaDoor.Fw
open Go Go.RowKit
open Go.Proofs.YtkmlhijnkilfpaaDoor.Lx Go.Proofs.YtkmlhijnkilfpaaDoor.Tr Go.Proofs.YtkmlhijnkilfpaaDoor.Cd

theorem begL_pos {l : List Ins} (h : 0 < l.length) : 0 < (begL l).length := by
  have : (0 : Int) ∈ begL l := by
    unfold begL bgN
    refine List.mem_append_right _ (List.mem_map.2 ⟨0, List.mem_filter.2 ⟨List.mem_range.2 h, by simp⟩, rfl⟩)
  exact List.length_pos_of_mem this
theorem seg_tail {l : List Ins} {st : Nat} (h : st < l.length) : lastI (seg l st l.length) = lastI l := by
  unfold lastI seg
  rw [List.take_of_length_le (by simp), List.getLast?_drop, if_neg (by omega)]
theorem toL_in {l : List Ins} (hl : lastOp l = 11 ∨ lastOp l = 13) {j : Nat} (hj : j < (begL l).length) : ∀ t ∈ toL l j, 0 ≤ t ∧ t < ((begL l).length : Int) := by
  intro t ht
  unfold toL goL at ht
  rcases List.mem_append.1 ht with h | h
  · split at h
    · cases h
    · rename_i hn
      rw [List.mem_singleton] at h
      subst h
      refine ⟨by omega, ?_⟩
      by_cases e : j + 1 < (begL l).length
      · omega
      · exfalso
        apply hn
        obtain ⟨x, hx⟩ : ∃ x, (begL l)[j]? = some x := ⟨_, List.getElem?_eq_getElem hj⟩
        have h1 := stN_of hx
        have h2 := begL_in l x (List.mem_of_getElem? hx)
        have h3 : enN l j = l.length := by unfold enN; rw [if_neg e]
        rw [h3, seg_tail (by omega), lastI_op]
        exact hl
  · split at h
    · rw [List.mem_singleton] at h
      subst h
      unfold blkL
      rw [List.getD_eq_getElem?_getD]
      by_cases hk : (glP (lastI (seg l (stN l j) (enN l j)))).1.toNat < l.length
      · rw [nums_get _ hk]
        exact numF_in _ _ _ _ _ (by omega) (by omega)
      · rw [List.getElem?_eq_none (by rw [nums_len]; omega)]
        exact ⟨Int.le_refl _, by show (0 : Int) < _; omega⟩
    · cases h
structure CutS (a7 : Option Addr) (l m : List Ins) (bs : List Bk) : Prop where
  mlen : m.length = l.length
  bare : ∀ (j : Nat) (x y : Ins), l[j]? = some x → m[j]? = some y → bareR x y
  len : bs.length = (begL l).length
  row : ∀ (j : Nat) (x : Bk), bs[j]? = some x → x.code = seg m (stN l j) (enN l j) ∧ x.ca = (if enN l j = stN l j then a7 else a7.map (·.add (stN l j * 6))) ∧ x.ccap = enN l j - stN l j ∧ (x.phis = [] ∧ x.pa = none ∧ x.pcap = 0) ∧ (x.fm = [] ∧ x.fa = none ∧ x.fcap = 0) ∧ x.tt = toL l j
theorem CutS.of {a7 : Option Addr} {g : Nat} {l m : List Ins} {bs : List Bk} {W : World} (h : CutI a7 g l m bs (begL l).length W) (hm : m.length = l.length) (hb : ∀ (j : Nat) (x y : Ins), l[j]? = some x → m[j]? = some y → bareR x y) : CutS a7 l m bs :=
  ⟨hm, hb, h.len, fun j x hx => by
    have hj := (List.getElem?_eq_some_iff.1 hx).1
    have hd := h.done j x (by rw [← h.len]; exact hj) hx
    exact ⟨hd.code, hd.ca, hd.ccap, hd.ph, hd.fm, hd.tt⟩⟩
theorem cut_tti {a7 : Option Addr} {g : Nat} {l m : List Ins} {bs : List Bk} {W : World} (h : CutI a7 g l m bs (begL l).length W) : TtI (g + 1) bs (oldTo bs) W := by
  have hl : ∀ {i : Nat} {x : Bk}, bs[i]? = some x → i < (begL l).length := fun hx => by rw [← h.len]; exact (List.getElem?_eq_some_iff.1 hx).1
  refine ⟨fun i x hx => ?_, fun i j x y hij hx hy q hq => ?_⟩
  · rw [old_at hx]
    exact (h.done i x (hl hx) hx).tow
  · rcases Nat.lt_or_gt_of_ne hij with h1 | h1
    · exact h.apart i j x y h1 (hl hy) hx hy q hq
    · intro e
      exact h.apart j i y x h1 (hl hx) hy hx q e hq
theorem CutS.to {a7 : Option Addr} {l m : List Ins} {bs : List Bk} (h : CutS a7 l m bs) (hl : lastOp l = 11 ∨ lastOp l = 13) : ∀ b ∈ bs, ∀ t ∈ b.tt, 0 ≤ t ∧ t < (bs.length : Int) := by
  intro b hb t ht
  obtain ⟨j, hj⟩ := List.mem_iff_getElem?.1 hb
  obtain ⟨_, _, _, _, _, e⟩ := h.row j b hj
  rw [e] at ht
  have := toL_in hl (by rw [← h.len]; exact (List.getElem?_eq_some_iff.1 hj).1) t ht
  rw [h.len]; exact this
theorem CodeI.keep {B g : Nat} {a7 : Option Addr} {c7 : Nat} {m : List Ins} {W W' : World} (h : CodeI B g a7 c7 m W) (hb : Below W.heap.size W W') : CodeI B g a7 c7 m W' :=
  ⟨own_below h.row hb, h.lt, fun j y hy => ⟨(h.args j y hy).1.below (Kps.of_below hb), own_below (h.args j y hy).2.1 hb, (h.args j y hy).2.2⟩⟩
theorem CodeI.low {B B' g : Nat} {a7 : Option Addr} {c7 : Nat} {m : List Ins} {W : World} (h : CodeI B g a7 c7 m W) (hB : B' ≤ B) : CodeI B' g a7 c7 m W :=
  ⟨own_mono h.row hB, h.lt, fun j y hy => ⟨(h.args j y hy).1.mono fun b hb => ⟨Nat.le_trans hB hb.1, hb.2⟩, own_mono (h.args j y hy).2.1 hB, (h.args j y hy).2.2⟩⟩
theorem CutI.keep {a7 : Option Addr} {g k : Nat} {l m : List Ins} {bs : List Bk} {W W' : World} (h : CutI a7 g l m bs k W) (hb : Below W.heap.size W W') : CutI a7 g l m bs k W' :=
  ⟨h.len, h.own.keep hb, fun j x hj hx => (h.done j x hj hx).keep hb, h.apart⟩
theorem tti_low {B : Nat} {bs : List Bk} {F : Nat → List Int} {W : World} (h : TtI B bs F W) : ∀ x ∈ bs, ∀ q, (toV x).ownBlock = some q → B ≤ q ∧ q < W.heap.size := fun x hx q hq => by
  obtain ⟨i, hi⟩ := List.mem_iff_getElem?.1 hx
  exact (h.rows i x hi).lt q hq
theorem own_frm2 {bs : List Bk} {W V : World} {B : Nat} {e : TypeId} {c : Nat} {v : Value} {n : Nat} {xs : List Value} (h : W.ownsRow B e c v n xs) (hf : Frm bs W V) (hb : ∀ q, v.ownBlock = some q → ∀ x ∈ bs, (toV x).ownBlock ≠ some q) : V.ownsRow B e c v n xs :=
  ⟨h.1, h.2.imp id fun ⟨g, cap, cur, hv, hB, hg, hr⟩ => ⟨g, cap, cur, hv, hB, (hf.block g (Array.getElem?_eq_some_iff.1 hg).1 (hb g (by rw [hv]; rfl))).trans hg, hr⟩⟩
theorem CodeI.frm {B g : Nat} {a7 : Option Addr} {c7 : Nat} {m : List Ins} {bs : List Bk} {W V : World} (h : CodeI B g a7 c7 m W) (hf : Frm bs W V) (hb : ∀ x ∈ bs, ∀ q, (toV x).ownBlock = some q → g < q) : CodeI B g a7 c7 m V := by
  have key : ∀ q, q < g → ∀ x ∈ bs, (toV x).ownBlock ≠ some q := fun q hq x hx e => by have := hb x hx q e; omega
  refine ⟨own_frm2 h.row hf fun q hq => key q (h.lt q hq), h.lt, fun j y hy => ?_⟩
  obtain ⟨h1, h3, h4⟩ := h.args j y hy
  refine ⟨?_, own_frm2 h3 hf fun q hq => key q (h4 q hq), h4⟩
  have h2 : Ins.In W (fun b => (B ≤ b ∧ b < g ∧ (Value.slice a7 m.length c7).ownBlock ≠ some b) ∧ ∀ x ∈ bs, (toV x).ownBlock ≠ some b) y := h1.mono fun b hb' => ⟨hb', key b hb'.2.1⟩
  have hk : Kps (fun b => (B ≤ b ∧ b < g ∧ (Value.slice a7 m.length c7).ownBlock ≠ some b) ∧ ∀ x ∈ bs, (toV x).ownBlock ≠ some b) W V := fun b o v hb' hc => hf.kps b o v hb'.2 hc
  exact (h2.below hk).mono fun b hb' => hb'.1
theorem toV_re (f : Nat → Bool) (x : Bk) : toV (reTo f x) = toV x := by unfold toV reTo; simp
theorem tti_stay {B : Nat} {bs : List Bk} {W : World} (hto : ∀ b ∈ bs, ∀ t ∈ b.tt, 0 ≤ t ∧ t < (bs.length : Int)) (h0 : 0 < bs.length) (h : TtI B (pickF (metF bs) 0 bs) (newTo (metF bs) bs.length (pickF (metF bs) 0 bs)) W) : TtI B (stay bs) (oldTo (stay bs)) W := by
  refine ⟨fun i y hy => ?_, fun i j x y hij hx hy q hq => ?_⟩
  · rw [old_at hy]
    obtain ⟨b, x, h1, h2, h3, h4, rfl⟩ := stay_of hy
    have := h.rows i x h4
    rw [new_stay hto h0 h4] at this
    rw [toV_re]
    have e : (reTo (metF bs) x).tt.length = x.tt.length := by simp [reTo]
    rw [e]; exact this
  · obtain ⟨_, x', _, _, _, hx', rfl⟩ := stay_of hx
    obtain ⟨_, y', _, _, _, hy', rfl⟩ := stay_of hy
    rw [toV_re] at hq ⊢
    exact h.apart i j x' y' hij hx' hy' q hq
theorem code_row {B g : Nat} {a7 : Option Addr} {c7 : Nat} {m : List Ins} {W : World} (h : CodeI B g a7 c7 m W) : RowAt W (fun b => B ≤ b ∧ b < g ∧ (Value.slice a7 m.length c7).ownBlock = some b) a7 c7 m.length (inCells m) := by
  rcases OwnI.of h.row with ⟨e, rfl⟩ | ⟨q, cap, e, ho⟩
  · injection e with e1 e2 e3
    subst e1 e3
    exact row_none _ _
  · have h1 := h.lt q (by rw [e]; rfl)
    injection e with e1 e2 e3
    subst e1 e3
    obtain ⟨hB, cur, hg, k1, k2, k3, k4⟩ := ho
    refine ⟨k1, k2, fun e => (by cases e), fun j u hu => ⟨q, 0, rfl, ⟨hB, h1, rfl⟩, ?_⟩⟩
    have hj : j < m.length * 6 := by rw [← in_len]; exact (List.getElem?_eq_some_iff.1 hu).1
    rw [← k4, List.getElem?_take, if_pos hj] at hu
    rw [Nat.zero_add]
    exact blk_cell hg (by simpa using hu)
theorem ins_all {W : World} {S : Nat → Prop} {y : Ins} (h : Ins.In W S y) : Ins.In W Tt y := h.mono fun _ _ => trivial
/-- a block that stays lies in memory -/
theorem stay_in {B B2 g : Nat} {a7 : Option Addr} {c7 : Nat} {l m : List Ins} {bs : List Bk} {W : World} (hs : CutS a7 l m bs) (hc : CodeI B g a7 c7 m W) (ht : TtI B2 (stay bs) (oldTo (stay bs)) W) (hto : ∀ y ∈ stay bs, ∀ t ∈ y.tt, 0 ≤ t ∧ t < ((stay bs).length : Int)) (hn : (stay bs).length ≤ 65537) : ∀ y ∈ stay bs, Bk.In W y := by
  intro y hy
  obtain ⟨i, hi⟩ := List.mem_iff_getElem?.1 hy
  have htr := tt_row ht hi (old_at hi)
  have hty := hto y hy
  obtain ⟨b, x, h1, h2, h3, h4, rfl⟩ := stay_of hi
  obtain ⟨c1, c2, c3, ⟨c4, c5, c6⟩, ⟨c7', c8, c9⟩, c10⟩ := hs.row b x h2
  have hbl : b < (begL l).length := by rw [← hs.len]; exact (List.getElem?_eq_some_iff.1 h2).1
  obtain ⟨s1, s2⟩ := st_en hbl
  have hcr := row_sub (code_row hc) s1 (by rw [hs.mlen]; exact s2) (Nat.le_refl _) (Nat.le_trans (by rw [← hs.mlen] at s2; exact s2) (code_row hc).le)
  rw [← c1, ← c2, ← c3] at hcr
  refine ⟨?_, fun z hz => ?_, hcr.mono fun _ _ => trivial, fun z hz => ?_, ?_, fun z hz => ?_, htr, fun z hz => ?_⟩
  · show RowAt W Tt x.pa x.pcap x.phis.length (phCells x.phis)
    rw [c4, c5, c6]; exact row_none _ _
  · have hz' : z ∈ x.phis := hz
    rw [c4] at hz'; cases hz'
  · have hz' : z ∈ x.code := hz
    rw [c1] at hz'
    obtain ⟨j, hj⟩ := List.mem_iff_getElem?.1 hz'
    exact ins_all (hc.args _ z (seg_get hj).1).1
  · show RowAt W Tt x.fa x.fcap x.fm.length (numCells x.fm)
    rw [c7', c8, c9]; exact row_none _ _
  · have hz' : z ∈ x.fm := hz
    rw [c7'] at hz'; cases hz'
  · have := hty z hz
    unfold I64; omega
/-- a row of blocks in a block of the call's own, that may be longer -/
structure OwnC (B g cap : Nat) (l : List Bk) (W : World) : Prop where
  hB : B ≤ g
  ex : ∃ cur : Array Value, W.heap[g]? = some (.cells cur 42 (0, 0)) ∧ l.length ≤ cap ∧ cap ≤ maxLen ∧ cur.size = cap * 4 ∧ cur.toList.take (l.length * 4) = bkCells l
theorem OwnC.of {B : Nat} {l : List Bk} {W : World} {v : Value} (h : W.ownsRow B 42 4 v l.length (bkCells l)) (h0 : 0 < l.length) : ∃ g cap, v = .slice (some ⟨g, 0, none⟩) l.length cap ∧ OwnC B g cap l W := by
  rcases h.2 with ⟨rfl, h0'⟩ | ⟨g, cap, cur, rfl, hB, hg, h1, h2, h3, h4⟩
  · omega
  · exact ⟨g, cap, rfl, hB, cur, hg, h1, h2, h3, h4⟩
theorem OwnC.to {B g cap : Nat} {l : List Bk} {W : World} (h : OwnC B g cap l W) : W.ownsRow B 42 4 (.slice (some ⟨g, 0, none⟩) l.length cap) l.length (bkCells l) := by
  obtain ⟨hB, cur, hg, h1, h2, h3, h4⟩ := h
  exact ⟨bk_len l, .inr ⟨g, cap, cur, rfl, hB, hg, h1, h2, h3, h4⟩⟩
theorem OwnC.keep {B g cap : Nat} {l : List Bk} {W W' : World} (h : OwnC B g cap l W) (hb : Below W.heap.size W W') : OwnC B g cap l W' := by
  obtain ⟨hB, cur, hg, h1⟩ := h
  exact ⟨hB, cur, (hb.block g (Array.getElem?_eq_some_iff.1 hg).1).trans hg, h1⟩
theorem OwnC.lt {B g cap : Nat} {l : List Bk} {W : World} (h : OwnC B g cap l W) : g < W.heap.size := by
  obtain ⟨hB, cur, hg, h1⟩ := h
  exact (Array.getElem?_eq_some_iff.1 hg).1
theorem OwnC.row {B g cap : Nat} {l : List Bk} {W : World} (h : OwnC B g cap l W) : RowAt W (fun b => b = g) (some ⟨g, 0, none⟩) cap l.length (bkCells l) := by
  obtain ⟨hB, cur, hg, h1, h2, h3, h4⟩ := h
  refine ⟨h1, h2, fun e => (by cases e), fun j u hu => ⟨g, 0, rfl, rfl, ?_⟩⟩
  have hj : j < l.length * 4 := by rw [← bk_len]; exact (List.getElem?_eq_some_iff.1 hu).1
  rw [← h4, List.getElem?_take, if_pos hj] at hu
  rw [Nat.zero_add]
  exact blk_cell hg (by simpa using hu)
theorem OwnC.get {B g cap : Nat} {l : List Bk} {W : World} (h : OwnC B g cap l W) {k : Nat} {e : Bk} (hx : l[k]? = some e) :
    W.cell? ⟨g, k * 4, none⟩ = some (.slice e.pa e.phis.length e.pcap) ∧ W.cell? ⟨g, k * 4 + 1, none⟩ = some (.slice e.ca e.code.length e.ccap) ∧ W.cell? ⟨g, k * 4 + 2, none⟩ = some (.slice e.fa e.fm.length e.fcap) ∧ W.cell? ⟨g, k * 4 + 3, none⟩ = some (.slice e.ta e.tt.length e.tcap) := by
  obtain ⟨b, off, ha, _, c0, c1, c2, c3⟩ := bk_row h.row k e hx
  cases ha
  simp only [Nat.zero_add] at c0 c1 c2 c3
  exact ⟨c0, c1, c2, c3⟩
theorem OwnC.free {B g cap : Nat} {l : List Bk} {W : World} (h : OwnC B g cap l W) (j : Nat) : W.frozen? ⟨g, j, none⟩ = false := by
  obtain ⟨hB, cur, hg, h1⟩ := h
  exact blk_free hg j
theorem OwnC.set {B g cap : Nat} {l : List Bk} {W : World} (h : OwnC B g cap l W) {k j : Nat} {x x' : Bk} {v : Value} (hx : l[k]? = some x) (hj : j < 4) (he : x'.vals = x.vals.set j v) : OwnC B g cap (l.set k x') (W.setCell ⟨g, k * 4 + j, none⟩ v) := by
  obtain ⟨hB, cur, hg, h1, h2, h3, h4⟩ := h
  refine ⟨hB, cur.setIfInBounds (k * 4 + j) v, heap_set1 hg _ _, by simpa using h1, h2, by simpa using h3, ?_⟩
  · rw [List.length_set, set_bk l k j x x' v hx hj he, ← h4, Array.toList_setIfInBounds, List.take_set]
end Go.Proofs.YtkmlhijnkilfpaaDoor.Fw
