/- What is met is closed: of a block that is met, each one to which it goes is met, too; the blocks that stay, as they are in the end. Conditions: each block goes to blocks. -/
import Derived.Test.YthiiahlgncngoaaDoorRRJM8
set_option maxHeartbeats 16000000
set_option maxRecDepth 100000
set_option linter.unusedVariables false
set_option linter.unusedSimpArgs false
namespace Go.Proofs.YthiiahlgncngoaaDoorRR.Fw
open Go Go.RowKit
open Go.Proofs.YthiiahlgncngoaaDoorRR.Lx Go.Proofs.YthiiahlgncngoaaDoorRR.Tr Go.Proofs.YthiiahlgncngoaaDoorRR.Cd
theorem fold_mono {q : Nat} {S : Nat → List Int} (l : List Int) (g : Nat → Bool) (i : Nat) (h : g i = true) : l.foldl (fun f t => Xk q S f t.toNat) g i = true :=
 foldl_mono (fun f i => f i = true) _ (fun f t i h => visit_mono q S f _ i h) l g i h
/-- what is met anew goes to what is met -/
theorem visit_shut (n : Nat) (S : Nat → List Int) (hS : ∀ i t, t ∈ S i → t.toNat < n) : ∀ (q : Nat) (f : Nat → Bool) (b : Nat), b < n → Xh n f ≤ q →
 Xk q S f b b = true ∧ ∀ i, Xk q S f b i = true → f i = true ∨ ∀ t ∈ S i, Xk q S f b t.toNat = true := by
 intro q
 induction q with
 | zero =>
   intro f b hb hq
   exact ⟨unmet_none hb hq, fun i h => .inl h⟩
 | succ q ih =>
   intro f b hb hq
   by_cases hf : f b = true
   · rw [visit_zero _ _ _ _ hf]
     exact ⟨hf, fun i h => .inl h⟩
   · have hfb : f b = false := by simpa using hf
     have e : Xk (q + 1) S f b = (S b).foldl (fun f t => Xk q S f t.toNat) (fun i => if i = b then true else f i) := by
      rw [Xk, if_neg hf]
     rw [e]
     have hU : Xh n (fun i => if i = b then true else f i) ≤ q := by have := unmet_less hb hfb; omega
     have key : ∀ (l : List Int) (g : Nat → Bool), (∀ t ∈ l, t.toNat < n) → Xh n g ≤ q →
      (∀ t ∈ l, l.foldl (fun f t => Xk q S f t.toNat) g t.toNat = true) ∧ ∀ i, l.foldl (fun f t => Xk q S f t.toNat) g i = true → g i = true ∨ ∀ t ∈ S i, l.foldl (fun f t => Xk q S f t.toNat) g t.toNat = true := by
      intro l
      induction l with
      | nil => intro g _ _; exact ⟨fun t h => (by cases h), fun i h => .inl h⟩
      | cons y r ihr =>
        intro g hl hg
        obtain ⟨h1, h2⟩ := ih g y.toNat (hl y (by simp)) hg
        obtain ⟨h3, h4⟩ := ihr (Xk q S g y.toNat) (fun t ht => hl t (by simp [ht])) (Nat.le_trans (unmet_mono n fun i hi => visit_mono q S g _ i hi) hg)
        refine ⟨fun t ht => ?_, fun i hi => ?_⟩
        · rcases List.mem_cons.1 ht with rfl | ht
          · exact fold_mono r _ _ h1
          · exact h3 t ht
        · rcases h4 i hi with h | h
          · rcases h2 i h with h | h
            · exact .inl h
            · exact .inr fun t ht => fold_mono r _ _ (h t ht)
          · exact .inr h
     obtain ⟨k1, k2⟩ := key (S b) _ (hS b) hU
     refine ⟨fold_mono _ _ _ (by simp), fun i hi => ?_⟩
     rcases k2 i hi with h | h
     · by_cases eb : i = b
       · subst eb
         exact .inr k1
       · rw [if_neg eb] at h
         exact .inl h
     · exact .inr h
theorem met_first {bs : List Bk} (hto : ∀ b ∈ bs, ∀ t ∈ b.tt, 0 ≤ t ∧ t < (bs.length : Int)) (h0 : 0 < bs.length) : metF bs 0 = true :=
 (visit_shut bs.length (toF bs) (fun i t ht => by
  unfold toF at ht
  rw [List.getD_eq_getElem?_getD] at ht
  cases hx : bs[i]? with
  | none => rw [hx] at ht; simp [Bk0] at ht
  | some x => rw [hx] at ht; have := hto x (List.mem_of_getElem? hx) t ht; omega) bs.length (fun _ => false) 0 h0 (unmet_all _ _)).1
theorem met_shut {bs : List Bk} (hto : ∀ b ∈ bs, ∀ t ∈ b.tt, 0 ≤ t ∧ t < (bs.length : Int)) (h0 : 0 < bs.length) {i : Nat} {x : Bk} (hx : bs[i]? = some x) (hm : metF bs i = true) : ∀ t ∈ x.tt, metF bs t.toNat = true := by
 have := (visit_shut bs.length (toF bs) (fun i t ht => by
  unfold toF at ht
  rw [List.getD_eq_getElem?_getD] at ht
  cases hx : bs[i]? with
  | none => rw [hx] at ht; simp [Bk0] at ht
  | some x => rw [hx] at ht; have := hto x (List.mem_of_getElem? hx) t ht; omega) bs.length (fun _ => false) 0 h0 (unmet_all _ _)).2 i hm
 rcases this with h | h
 · cases h
 · intro t ht
   refine h t ?_
   unfold toF
   rw [List.getD_eq_getElem?_getD, hx]
   exact ht
/-! ### the blocks, in the end -/
def reTo (f : Nat → Bool) (x : Bk) : Bk := { x with tt := x.tt.map fun t => (numM f t.toNat : Int) }
def stay (bs : List Bk) : List Bk := (Zq (metF bs) 0 bs).map (reTo (metF bs))
def putF (fa : Option Addr) (fcap : Nat) (fm : List Int) (x : Bk) : Bk := { x with fa := fa, fcap := fcap, fm := fm }
theorem re_cells (f : Nat → Bool) : ∀ l : List Bk, Qu (l.map (reTo f)) = Qu l
 | [] => rfl
 | x :: r => by
   have h1 : (reTo f x).vals = x.vals := by simp [reTo, Bk.vals]
   show (reTo f x).vals ++ Qu (r.map (reTo f)) = x.vals ++ Qu r
   rw [h1, re_cells f r]
theorem stay_cells (bs : List Bk) : Qu (stay bs) = Qu (Zq (metF bs) 0 bs) := re_cells _ _
theorem pick_at {f : Nat → Bool} {bs : List Bk} {i : Nat} {x : Bk} (h : (Zq f 0 bs)[i]? = some x) : ∃ b, b < bs.length ∧ f b = true ∧ bs[b]? = some x ∧ numM f b = i := by
 rw [← List.take_length (l := bs)] at h
 exact pick_of bs.length (Nat.le_refl _) h
theorem stay_len (bs : List Bk) : (stay bs).length = (Zq (metF bs) 0 bs).length := by unfold stay; simp
theorem stay_of {bs : List Bk} {i : Nat} {y : Bk} (h : (stay bs)[i]? = some y) : ∃ b x, metF bs b = true ∧ bs[b]? = some x ∧ numM (metF bs) b = i ∧ (Zq (metF bs) 0 bs)[i]? = some x ∧ y = reTo (metF bs) x := by
 unfold stay at h
 rw [List.getElem?_map, Option.map_eq_some_iff] at h
 obtain ⟨x, hx, rfl⟩ := h
 obtain ⟨b, hb, h1, h2, h3⟩ := pick_at hx
 exact ⟨b, x, h1, h2, h3, hx, rfl⟩
theorem stay_get {bs : List Bk} {b : Nat} {x : Bk} (h : bs[b]? = some x) (hm : metF bs b = true) : (stay bs)[numM (metF bs) b]? = some (reTo (metF bs) x) := by
 unfold stay
 rw [List.getElem?_map, pick_get h hm]; rfl
/-- the numbers that reached writes are the new ones -/
theorem new_stay {bs : List Bk} (hto : ∀ b ∈ bs, ∀ t ∈ b.tt, 0 ≤ t ∧ t < (bs.length : Int)) (h0 : 0 < bs.length) {i : Nat} {x : Bk} (hx : (Zq (metF bs) 0 bs)[i]? = some x) : newTo (metF bs) bs.length (Zq (metF bs) 0 bs) i = (reTo (metF bs) x).tt := by
 obtain ⟨b, hb, h1, h2, h3⟩ := pick_at hx
 rw [new_at hx]
 unfold reTo
 refine List.map_congr_left fun t ht => ?_
 have ht1 := met_shut hto h0 h2 h1 t ht
 have ht2 := hto x (List.mem_of_getElem? h2) t ht
 unfold nuF
 rw [if_pos ⟨ht1, by omega⟩]
/-- the new numbers are of blocks that stay -/
theorem stay_to {bs : List Bk} (hto : ∀ b ∈ bs, ∀ t ∈ b.tt, 0 ≤ t ∧ t < (bs.length : Int)) (h0 : 0 < bs.length) : ∀ y ∈ stay bs, ∀ t ∈ y.tt, 0 ≤ t ∧ t < ((stay bs).length : Int) := by
 intro y hy t ht
 obtain ⟨i, hi⟩ := List.mem_iff_getElem?.1 hy
 obtain ⟨b, x, h1, h2, h3, h4, rfl⟩ := stay_of hi
 unfold reTo at ht
 rw [List.mem_map] at ht
 obtain ⟨u, hu, rfl⟩ := ht
 have hu1 := met_shut hto h0 h2 h1 u hu
 have hu2 := hto x (List.mem_of_getElem? h2) u hu
 obtain ⟨z, hz⟩ : ∃ z, bs[u.toNat]? = some z := ⟨_, List.getElem?_eq_getElem (by omega)⟩
 have := (List.getElem?_eq_some_iff.1 (stay_get hz hu1)).1
 omega
theorem stay_pos {bs : List Bk} (hto : ∀ b ∈ bs, ∀ t ∈ b.tt, 0 ≤ t ∧ t < (bs.length : Int)) (h0 : 0 < bs.length) : 0 < (stay bs).length ∧ (stay bs).length ≤ bs.length := by
 obtain ⟨z, hz⟩ : ∃ z, bs[0]? = some z := ⟨_, List.getElem?_eq_getElem h0⟩
 have h1 := (List.getElem?_eq_some_iff.1 (stay_get hz (met_first hto h0))).1
 have h2 := pick_len (metF bs) bs bs.length (Nat.le_refl _)
 rw [List.take_length] at h2
 rw [stay_len] at h1 ⊢
 have h3 := numM_le_self (metF bs) bs.length
 omega
/-- From is told of the first k blocks -/
def X6 (fa : Nat → Option Addr) (fcap : Nat → Nat) (L : List Bk) (k : Nat) : List Bk := L.mapIdx fun i x => if i < k then putF (fa i) (fcap i) (Zt L (i : Int)) x else x
theorem tell_zero (fa : Nat → Option Addr) (fcap : Nat → Nat) (L : List Bk) : X6 fa fcap L 0 = L := by
 unfold X6
 apply List.ext_getElem?
 intro i
 rw [List.getElem?_mapIdx]
 cases L[i]? <;> simp
theorem Xi (fa : Nat → Option Addr) (fcap : Nat → Nat) (L : List Bk) (k : Nat) : (X6 fa fcap L k).length = L.length := by unfold X6; simp
theorem X9 {fa : Nat → Option Addr} {fcap : Nat → Nat} {L : List Bk} {k i : Nat} {x : Bk} (h : L[i]? = some x) : (X6 fa fcap L k)[i]? = some (if i < k then putF (fa i) (fcap i) (Zt L (i : Int)) x else x) := by
 unfold X6
 rw [List.getElem?_mapIdx, h]; rfl
theorem tell_step {fa : Nat → Option Addr} {fcap : Nat → Nat} {L : List Bk} {k : Nat} {x : Bk} (h : L[k]? = some x) : (X6 fa fcap L k).set k (putF (fa k) (fcap k) (Zt L (k : Int)) x) = X6 fa fcap L (k + 1) := by
 apply List.ext_getElem?
 intro i
 rw [List.getElem?_set]
 have hk : k < L.length := (List.getElem?_eq_some_iff.1 h).1
 by_cases e : k = i
 · subst e
   rw [if_pos rfl, if_pos (by rw [Xi]; exact hk), X9 h, if_pos (Nat.lt_succ_self k)]
 · rw [if_neg e]
   cases hx : L[i]? with
   | none => simp [X6, hx]
   | some y =>
     rw [X9 hx, X9 hx]
     by_cases h1 : i < k
     · rw [if_pos h1, if_pos (by omega)]
     · rw [if_neg h1, if_neg (by omega)]
theorem begL_pos {l : List Ins} (h : 0 < l.length) : 0 < (begL l).length := by
 have : (0 : Int) ∈ begL l := by
  unfold begL bgN
  refine List.mem_append_right _ (List.mem_map.2 ⟨0, List.mem_filter.2 ⟨List.mem_range.2 h, by simp⟩, rfl⟩)
 exact List.length_pos_of_mem this
theorem seg_tail {l : List Ins} {st : Nat} (h : st < l.length) : Z9 (seg l st l.length) = Z9 l := by
 unfold Z9 seg
 rw [List.take_of_length_le (by simp), List.getLast?_drop, if_neg (by omega)]
theorem toL_in {l : List Ins} (hl : Zv l = 11 ∨ Zv l = 13) {j : Nat} (hj : j < (begL l).length) : ∀ t ∈ toL l j, 0 ≤ t ∧ t < ((begL l).length : Int) := by
 intro t ht
 unfold toL goL at ht
 rcases List.mem_append.1 ht with h | h
 · split at h
   · cases h
   · rename_i hn
     rw [List.mem_singleton] at h
     subst h
     refine ⟨by omega, ?_⟩
     by_cases e : j + 1 < (begL l).length
     · omega
     · exfalso
       apply hn
       obtain ⟨x, hx⟩ : ∃ x, (begL l)[j]? = some x := ⟨_, List.getElem?_eq_getElem hj⟩
       have h1 := stN_of hx
       have h2 := begL_in l x (List.mem_of_getElem? hx)
       have h3 : enN l j = l.length := by unfold enN; rw [if_neg e]
       rw [h3, seg_tail (by omega), lastI_op]
       exact hl
 · split at h
   · rw [List.mem_singleton] at h
     subst h
     unfold blkL
     rw [List.getD_eq_getElem?_getD]
     by_cases hk : (glP (Z9 (seg l (stN l j) (enN l j)))).1.toNat < l.length
     · rw [nums_get _ hk]
       exact numF_in _ _ _ _ _ (by omega) (by omega)
     · rw [List.getElem?_eq_none (by rw [nums_len]; omega)]
       exact ⟨Int.le_refl _, by show (0 : Int) < _; omega⟩
   · cases h
structure CutS (a7 : Option Addr) (l m : List Ins) (bs : List Bk) : Prop where
 mlen : m.length = l.length
 bare : ∀ (j : Nat) (x y : Ins), l[j]? = some x → m[j]? = some y → bareR x y
 len : bs.length = (begL l).length
 row : ∀ (j : Nat) (x : Bk), bs[j]? = some x → x.code = seg m (stN l j) (enN l j) ∧ x.ca = (if enN l j = stN l j then a7 else a7.map (·.add (stN l j * 6))) ∧ x.ccap = enN l j - stN l j ∧ (x.phis = [] ∧ x.pa = none ∧ x.pcap = 0) ∧ (x.fm = [] ∧ x.fa = none ∧ x.fcap = 0) ∧ x.tt = toL l j
theorem CutS.of {a7 : Option Addr} {g : Nat} {l m : List Ins} {bs : List Bk} {W : World} (h : CutI a7 g l m bs (begL l).length W) (hm : m.length = l.length) (hb : ∀ (j : Nat) (x y : Ins), l[j]? = some x → m[j]? = some y → bareR x y) : CutS a7 l m bs :=
 ⟨hm, hb, h.len, fun j x hx => by
  have hj := (List.getElem?_eq_some_iff.1 hx).1
  have hd := h.done j x (by rw [← h.len]; exact hj) hx
  exact ⟨hd.code, hd.ca, hd.ccap, hd.ph, hd.fm, hd.tt⟩⟩
theorem cut_tti {a7 : Option Addr} {g : Nat} {l m : List Ins} {bs : List Bk} {W : World} (h : CutI a7 g l m bs (begL l).length W) : TtI (g + 1) bs (oldTo bs) W := by
 have hl : ∀ {i : Nat} {x : Bk}, bs[i]? = some x → i < (begL l).length := fun hx => by rw [← h.len]; exact (List.getElem?_eq_some_iff.1 hx).1
 refine ⟨fun i x hx => ?_, fun i j x y hij hx hy q hq => ?_⟩
 · rw [old_at hx]
   exact (h.done i x (hl hx) hx).tow
 · rcases Nat.lt_or_gt_of_ne hij with h1 | h1
   · exact h.apart i j x y h1 (hl hy) hx hy q hq
   · intro e
     exact h.apart j i y x h1 (hl hx) hy hx q e hq
theorem CutS.to {a7 : Option Addr} {l m : List Ins} {bs : List Bk} (h : CutS a7 l m bs) (hl : Zv l = 11 ∨ Zv l = 13) : ∀ b ∈ bs, ∀ t ∈ b.tt, 0 ≤ t ∧ t < (bs.length : Int) := by
 intro b hb t ht
 obtain ⟨j, hj⟩ := List.mem_iff_getElem?.1 hb
 obtain ⟨_, _, _, _, _, e⟩ := h.row j b hj
 rw [e] at ht
 have := toL_in hl (by rw [← h.len]; exact (List.getElem?_eq_some_iff.1 hj).1) t ht
 rw [h.len]; exact this
theorem CodeI.keep {B g : Nat} {a7 : Option Addr} {c7 : Nat} {m : List Ins} {W W' : World} (h : CodeI B g a7 c7 m W) (hb : Below W.heap.size W W') : CodeI B g a7 c7 m W' :=
 ⟨Qn h.row hb, h.lt, fun j y hy => ⟨(h.args j y hy).1.below (Kps.of_below hb), Qn (h.args j y hy).2.1 hb, (h.args j y hy).2.2⟩⟩
theorem CodeI.low {B B' g : Nat} {a7 : Option Addr} {c7 : Nat} {m : List Ins} {W : World} (h : CodeI B g a7 c7 m W) (hB : B' ≤ B) : CodeI B' g a7 c7 m W :=
 ⟨Xc h.row hB, h.lt, fun j y hy => ⟨(h.args j y hy).1.mono fun b hb => ⟨Nat.le_trans hB hb.1, hb.2⟩, Xc (h.args j y hy).2.1 hB, (h.args j y hy).2.2⟩⟩
theorem CutI.keep {a7 : Option Addr} {g k : Nat} {l m : List Ins} {bs : List Bk} {W W' : World} (h : CutI a7 g l m bs k W) (hb : Below W.heap.size W W') : CutI a7 g l m bs k W' :=
 ⟨h.len, h.own.keep hb, fun j x hj hx => (h.done j x hj hx).keep hb, h.apart⟩
theorem tti_low {B : Nat} {bs : List Bk} {F : Nat → List Int} {W : World} (h : TtI B bs F W) : ∀ x ∈ bs, ∀ q, (toV x).ownBlock = some q → B ≤ q ∧ q < W.heap.size := fun x hx q hq => by
 obtain ⟨i, hi⟩ := List.mem_iff_getElem?.1 hx
 exact (h.rows i x hi).lt q hq
theorem own_frm2 {bs : List Bk} {W V : World} {B : Nat} {e : TypeId} {c : Nat} {v : Value} {n : Nat} {xs : List Value} (h : W.ownsRow B e c v n xs) (hf : Frm bs W V) (hb : ∀ q, v.ownBlock = some q → ∀ x ∈ bs, (toV x).ownBlock ≠ some q) : V.ownsRow B e c v n xs :=
 ⟨h.1, h.2.imp id fun ⟨g, cap, cur, hv, hB, hg, hr⟩ => ⟨g, cap, cur, hv, hB, (hf.block g (Array.getElem?_eq_some_iff.1 hg).1 (hb g (by rw [hv]; rfl))).trans hg, hr⟩⟩
theorem CodeI.frm {B g : Nat} {a7 : Option Addr} {c7 : Nat} {m : List Ins} {bs : List Bk} {W V : World} (h : CodeI B g a7 c7 m W) (hf : Frm bs W V) (hb : ∀ x ∈ bs, ∀ q, (toV x).ownBlock = some q → g < q) : CodeI B g a7 c7 m V := by
 have key : ∀ q, q < g → ∀ x ∈ bs, (toV x).ownBlock ≠ some q := fun q hq x hx e => by have := hb x hx q e; omega
 refine ⟨own_frm2 h.row hf fun q hq => key q (h.lt q hq), h.lt, fun j y hy => ?_⟩
 obtain ⟨h1, h3, h4⟩ := h.args j y hy
 refine ⟨?_, own_frm2 h3 hf fun q hq => key q (h4 q hq), h4⟩
 have h2 : Ins.In W (fun b => (B ≤ b ∧ b < g ∧ (Value.slice a7 m.length c7).ownBlock ≠ some b) ∧ ∀ x ∈ bs, (toV x).ownBlock ≠ some b) y := h1.mono fun b hb' => ⟨hb', key b hb'.2.1⟩
 have hk : Kps (fun b => (B ≤ b ∧ b < g ∧ (Value.slice a7 m.length c7).ownBlock ≠ some b) ∧ ∀ x ∈ bs, (toV x).ownBlock ≠ some b) W V := fun b o v hb' hc => hf.kps b o v hb'.2 hc
 exact (h2.below hk).mono fun b hb' => hb'.1
theorem toV_re (f : Nat → Bool) (x : Bk) : toV (reTo f x) = toV x := by unfold toV reTo; simp
theorem tti_stay {B : Nat} {bs : List Bk} {W : World} (hto : ∀ b ∈ bs, ∀ t ∈ b.tt, 0 ≤ t ∧ t < (bs.length : Int)) (h0 : 0 < bs.length) (h : TtI B (Zq (metF bs) 0 bs) (newTo (metF bs) bs.length (Zq (metF bs) 0 bs)) W) : TtI B (stay bs) (oldTo (stay bs)) W := by
 refine ⟨fun i y hy => ?_, fun i j x y hij hx hy q hq => ?_⟩
 · rw [old_at hy]
   obtain ⟨b, x, h1, h2, h3, h4, rfl⟩ := stay_of hy
   have := h.rows i x h4
   rw [new_stay hto h0 h4] at this
   rw [toV_re]
   have e : (reTo (metF bs) x).tt.length = x.tt.length := by simp [reTo]
   rw [e]; exact this
 · obtain ⟨_, x', _, _, _, hx', rfl⟩ := stay_of hx
   obtain ⟨_, y', _, _, _, hy', rfl⟩ := stay_of hy
   rw [toV_re] at hq ⊢
   exact h.apart i j x' y' hij hx' hy' q hq
theorem code_row {B g : Nat} {a7 : Option Addr} {c7 : Nat} {m : List Ins} {W : World} (h : CodeI B g a7 c7 m W) : RowAt W (fun b => B ≤ b ∧ b < g ∧ (Value.slice a7 m.length c7).ownBlock = some b) a7 c7 m.length (Q8 m) := by
 rcases OwnI.of h.row with ⟨e, rfl⟩ | ⟨q, cap, e, ho⟩
 · injection e with e1 e2 e3
   subst e1 e3
   exact row_none _ _
 · have h1 := h.lt q (by rw [e]; rfl)
   injection e with e1 e2 e3
   subst e1 e3
   obtain ⟨hB, cur, hg, k1, k2, k3, k4⟩ := ho
   refine ⟨k1, k2, fun e => (by cases e), fun j u hu => ⟨q, 0, rfl, ⟨hB, h1, rfl⟩, ?_⟩⟩
   have hj : j < m.length * 6 := by rw [← in_len]; exact (List.getElem?_eq_some_iff.1 hu).1
   rw [← k4, List.getElem?_take, if_pos hj] at hu
   rw [Nat.zero_add]
   exact Qk hg (by simpa using hu)
theorem ins_all {W : World} {S : Nat → Prop} {y : Ins} (h : Ins.In W S y) : Ins.In W Tt y := h.mono fun _ _ => trivial
/-- a block that stays lies in memory -/
theorem stay_in {B B2 g : Nat} {a7 : Option Addr} {c7 : Nat} {l m : List Ins} {bs : List Bk} {W : World} (hs : CutS a7 l m bs) (hc : CodeI B g a7 c7 m W) (ht : TtI B2 (stay bs) (oldTo (stay bs)) W) (hto : ∀ y ∈ stay bs, ∀ t ∈ y.tt, 0 ≤ t ∧ t < ((stay bs).length : Int)) (hn : (stay bs).length ≤ 65537) : ∀ y ∈ stay bs, Bk.In W y := by
 intro y hy
 obtain ⟨i, hi⟩ := List.mem_iff_getElem?.1 hy
 have htr := tt_row ht hi (old_at hi)
 have hty := hto y hy
 obtain ⟨b, x, h1, h2, h3, h4, rfl⟩ := stay_of hi
 obtain ⟨c1, c2, c3, ⟨c4, c5, c6⟩, ⟨c7', c8, c9⟩, c10⟩ := hs.row b x h2
 have hbl : b < (begL l).length := by rw [← hs.len]; exact (List.getElem?_eq_some_iff.1 h2).1
 obtain ⟨s1, s2⟩ := st_en hbl
 have hcr := row_sub (code_row hc) s1 (by rw [hs.mlen]; exact s2) (Nat.le_refl _) (Nat.le_trans (by rw [← hs.mlen] at s2; exact s2) (code_row hc).le)
 rw [← c1, ← c2, ← c3] at hcr
 refine ⟨?_, fun z hz => ?_, hcr.mono fun _ _ => trivial, fun z hz => ?_, ?_, fun z hz => ?_, htr, fun z hz => ?_⟩
 · show RowAt W Tt x.pa x.pcap x.phis.length (phCells x.phis)
   rw [c4, c5, c6]; exact row_none _ _
 · have hz' : z ∈ x.phis := hz
   rw [c4] at hz'; cases hz'
 · have hz' : z ∈ x.code := hz
   rw [c1] at hz'
   obtain ⟨j, hj⟩ := List.mem_iff_getElem?.1 hz'
   exact ins_all (hc.args _ z (seg_get hj).1).1
 · show RowAt W Tt x.fa x.fcap x.fm.length (Qc x.fm)
   rw [c7', c8, c9]; exact row_none _ _
 · have hz' : z ∈ x.fm := hz
   rw [c7'] at hz'; cases hz'
 · have := hty z hz
   unfold I64; omega
/-- a row of blocks in a block of the call's own, that may be longer -/
structure OwnC (B g cap : Nat) (l : List Bk) (W : World) : Prop where
 hB : B ≤ g
 ex : ∃ cur : Array Value, W.heap[g]? = some (.cells cur 42 (0, 0)) ∧ l.length ≤ cap ∧ cap ≤ maxLen ∧ cur.size = cap * 4 ∧ cur.toList.take (l.length * 4) = Qu l
theorem OwnC.of {B : Nat} {l : List Bk} {W : World} {v : Value} (h : W.ownsRow B 42 4 v l.length (Qu l)) (h0 : 0 < l.length) : ∃ g cap, v = .slice (some ⟨g, 0, none⟩) l.length cap ∧ OwnC B g cap l W := by
 rcases h.2 with ⟨rfl, h0'⟩ | ⟨g, cap, cur, rfl, hB, hg, h1, h2, h3, h4⟩
 · omega
 · exact ⟨g, cap, rfl, hB, cur, hg, h1, h2, h3, h4⟩
theorem OwnC.to {B g cap : Nat} {l : List Bk} {W : World} (h : OwnC B g cap l W) : W.ownsRow B 42 4 (.slice (some ⟨g, 0, none⟩) l.length cap) l.length (Qu l) := by
 obtain ⟨hB, cur, hg, h1, h2, h3, h4⟩ := h
 exact ⟨bk_len l, .inr ⟨g, cap, cur, rfl, hB, hg, h1, h2, h3, h4⟩⟩
theorem OwnC.keep {B g cap : Nat} {l : List Bk} {W W' : World} (h : OwnC B g cap l W) (hb : Below W.heap.size W W') : OwnC B g cap l W' := by
 obtain ⟨hB, cur, hg, h1⟩ := h
 exact ⟨hB, cur, (hb.block g (Array.getElem?_eq_some_iff.1 hg).1).trans hg, h1⟩
theorem OwnC.lt {B g cap : Nat} {l : List Bk} {W : World} (h : OwnC B g cap l W) : g < W.heap.size := by
 obtain ⟨hB, cur, hg, h1⟩ := h
 exact (Array.getElem?_eq_some_iff.1 hg).1
theorem OwnC.row {B g cap : Nat} {l : List Bk} {W : World} (h : OwnC B g cap l W) : RowAt W (fun b => b = g) (some ⟨g, 0, none⟩) cap l.length (Qu l) := by
 obtain ⟨hB, cur, hg, h1, h2, h3, h4⟩ := h
 refine ⟨h1, h2, fun e => (by cases e), fun j u hu => ⟨g, 0, rfl, rfl, ?_⟩⟩
 have hj : j < l.length * 4 := by rw [← bk_len]; exact (List.getElem?_eq_some_iff.1 hu).1
 rw [← h4, List.getElem?_take, if_pos hj] at hu
 rw [Nat.zero_add]
 exact Qk hg (by simpa using hu)
theorem OwnC.get {B g cap : Nat} {l : List Bk} {W : World} (h : OwnC B g cap l W) {k : Nat} {e : Bk} (hx : l[k]? = some e) :
 W.cell? ⟨g, k * 4, none⟩ = some (.slice e.pa e.phis.length e.pcap) ∧ W.cell? ⟨g, k * 4 + 1, none⟩ = some (.slice e.ca e.code.length e.ccap) ∧ W.cell? ⟨g, k * 4 + 2, none⟩ = some (.slice e.fa e.fm.length e.fcap) ∧ W.cell? ⟨g, k * 4 + 3, none⟩ = some (.slice e.ta e.tt.length e.tcap) := by
 obtain ⟨b, off, ha, _, c0, c1, c2, c3⟩ := X4 h.row k e hx
 cases ha
 simp only [Nat.zero_add] at c0 c1 c2 c3
 exact ⟨c0, c1, c2, c3⟩
theorem OwnC.free {B g cap : Nat} {l : List Bk} {W : World} (h : OwnC B g cap l W) (j : Nat) : W.frozen? ⟨g, j, none⟩ = false := by
 obtain ⟨hB, cur, hg, h1⟩ := h
 exact Qd hg j
theorem OwnC.set {B g cap : Nat} {l : List Bk} {W : World} (h : OwnC B g cap l W) {k j : Nat} {x x' : Bk} {v : Value} (hx : l[k]? = some x) (hj : j < 4) (he : x'.vals = x.vals.set j v) : OwnC B g cap (l.set k x') (W.setCell ⟨g, k * 4 + j, none⟩ v) := by
 obtain ⟨hB, cur, hg, h1, h2, h3, h4⟩ := h
 refine ⟨hB, cur.setIfInBounds (k * 4 + j) v, Qy hg _ _, by simpa using h1, h2, by simpa using h3, ?_⟩
 · rw [List.length_set, set_bk l k j x x' v hx hj he, ← h4, Array.toList_setIfInBounds, List.take_set]
end Go.Proofs.YthiiahlgncngoaaDoorRR.Fw
namespace Go.Proofs.YthiiahlgncngoaaDoorRR.QrP
open Go
open Go.Proofs.YthiiahlgncngoaaDoorRR.Qr Go.Proofs.YthiiahlgncngoaaDoorRR.QrT
section
variable {P : Program} {ops : Array Oper} {Q : Exit → Act → World → Prop} {C : World → Prop} {E : World → World → Prop} {R : Nat → Value → World → Prop} {a0 : Act}
theorem step_relG {R' : Nat → Value → World → Prop} {C' : World → Prop} (hB : relB ops a0.tmps.size = true)
 {listed : Array Bool} {a : Act} {w : World} {j : Nat} {o : Oper} {K : Act → World → Prop}
 (hmono : ∀ i v w w', i ≠ j → C w → E w w' → R i v w → R' i v w')
 (hstep : ∀ (a : Act) (w : World), C w → Seen ops R a0 o a w →
  (Region.wanted o (yielded ops a.tmps) = true → o.wp P a w (fun a' w' => C' w' ∧ E w w' ∧ ∃ v, a' = a.put o.dst v ∧ R' j v w') Q) ∧
  (Region.wanted o (yielded ops a.tmps) = false → C' w ∧ E w w ∧ R' j undef w))
 (hs : listed.size = ops.size) (ho : ops[j]? = some o) (hLj : listed.getD j false = false)
 (hafter : ∀ e ∈ o.after, Region.binds .any e = true → listed.getD e.on false = true) (hI : Inv ops R C a0 listed a w)
 (hK : ∀ a' w', Inv ops R' C' a0 (listed.setIfInBounds j true) a' w' → K a' w') : wpOp P ops Q j K a w := by
 have hjs : j < ops.size := (Array.getElem?_eq_some_iff.1 ho).1
 have hjl : j < listed.size := by omega
 obtain ⟨hC, σ, rfl, hR⟩ := hI
 have hsp := relB_spec hB ho
 have hdj : dstOf ops j = o.dst := by unfold dstOf; rw [ho]; rfl
 have hnd : (List.range ops.size).Nodup := List.nodup_range
 have hseen : Seen ops R a0 o (Q6 ops σ (fun i => listed.getD i false) (List.range ops.size) a0) w := by
  refine ⟨fun i d hi hd => ?_, fun t ht => fill_keep _ _ (fun i _ => ht i)⟩
  obtain ⟨e, he, hb⟩ := Array.any_eq_true'.1 hi
  simp only [Bool.and_eq_true, beq_iff_eq] at hb
  obtain ⟨hb1, rfl⟩ := hb
  have hl := hafter e he hb1
  have hin : e.on < ops.size := by have := hsp.1 e he hb1; omega
  obtain ⟨oi, hoi⟩ : ∃ oi, ops[e.on]? = some oi := ⟨ops[e.on], by simp [hin]⟩
  have hspi := relB_spec hB hoi
  have hdi : dstOf ops e.on = oi.dst := by unfold dstOf; rw [hoi]; rfl
  refine ⟨σ e.on, fill_get hl hd _ _ (List.mem_range.2 hin) hnd (hspi.2.1 d (by rw [← hdi]; exact hd)) (fun k _ hk => fun hkd => (hspi.2.2 k hk d hkd).1 (by rw [← hdi]; exact hd)), hR _ hin hl⟩
 have hLu : (fun i => (listed.setIfInBounds j true).getD i false) = updB (fun i => listed.getD i false) j := by
  funext i
  unfold updB
  by_cases hij : i = j
  · subst hij; simp [hjl]
  · rw [if_neg hij, getD_set_ne false (Ne.symm hij)]
 have hnext : ∀ (v : Value) (w' : World), C' w' → E w w' → R' j v w' → Inv ops R' C' a0 (listed.setIfInBounds j true) ((Q6 ops σ (fun i => listed.getD i false) (List.range ops.size) a0).put o.dst v) w' := fun v w' hC' hE hRv => by
  refine ⟨hC', upd σ j v, ?_, fun i hi hl => ?_⟩
  · rw [hLu, fill_add (L := fun i => listed.getD i false) hLj _ _ (List.mem_range.2 hjs) hnd (fun i _ hij t ht hit => (hsp.2.2 i hij t hit).1 (by rw [← hdj]; exact ht)), hdj]
  · by_cases hij : i = j
    · subst hij; simpa [upd] using hRv
    · have h1 : listed.getD i false = true := by rw [getD_set_ne false (Ne.symm hij)] at hl; exact hl
      have : upd σ j v i = σ i := by simp [upd, hij]
      rw [this]
      exact hmono i _ w w' hij hC hE (hR i hi h1)
 obtain ⟨hw1, hw0⟩ := hstep _ w hC hseen
 unfold wpOp
 simp only [ho]
 by_cases hw : Region.wanted o (yielded ops (Q6 ops σ (fun i => listed.getD i false) (List.range ops.size) a0).tmps) = true
 · rw [if_pos hw]
   left
   refine Oper.wp_mono (fun a' w' ⟨hC', hE, v, ha, hRv⟩ => ?_) (hw1 hw)
   subst ha
   exact hK _ w' (hnext v w' hC' hE hRv)
 · rw [if_neg hw]
   obtain ⟨hC', hE, hRu⟩ := hw0 (by simpa using hw)
   exact hK _ w (hnext undef w hC' hE hRu)
/-- does an operation wait for number i? -/
def waits (o : Oper) (i : Nat) : Bool := o.after.any fun e => Region.binds .any e && e.on == i
theorem waits_spec {o : Oper} {i : Nat} (h : waits o i = true) : ∃ e ∈ o.after, Region.binds .any e = true ∧ e.on = i := by
 obtain ⟨e, he, hb⟩ := Array.any_eq_true'.1 h
 simp only [Bool.and_eq_true, beq_iff_eq] at hb
 exact ⟨e, he, hb.1, hb.2⟩
/-- what an operation that is listed waits for is listed -/
def Shut (ops : Array Oper) (listed : Array Bool) : Prop := ∀ j o, ops[j]? = some o → listed.getD j false = true → ∀ e ∈ o.after, Region.binds .any e = true → listed.getD e.on false = true
theorem Shut.set {ops : Array Oper} {listed : Array Bool} {j : Nat} {o : Oper} (h : Shut ops listed) (ho : ops[j]? = some o) (hj : j < listed.size) (ha : ∀ e ∈ o.after, Region.binds .any e = true → listed.getD e.on false = true) : Shut ops (listed.setIfInBounds j true) := by
 have hm : ∀ i, listed.getD i false = true → (listed.setIfInBounds j true).getD i false = true := fun i hi => by
  by_cases e : i = j
  · subst e; simp [hj]
  · rw [getD_set_ne false (Ne.symm e)]; exact hi
 intro k ok hok hk e he hb
 by_cases ek : k = j
 · subst ek
   rw [ho] at hok
   cases hok
   exact hm _ (ha e he hb)
 · rw [getD_set_ne false (Ne.symm ek)] at hk
   exact hm _ (h k ok hok hk e he hb)
/-- the look of it -/
def waitsAll (ops : Array Oper) (om : Oper) (m : Nat) : Bool := (List.range m).all fun i => waits om i || (List.range m).any fun k => waits om k && (match ops[k]? with | some ok => waits ok i | none => false)
theorem waitsAll_spec {ops : Array Oper} {om : Oper} {m : Nat} (h : waitsAll ops om m = true) : ∀ i, i < m → waits om i = true ∨ ∃ k ok, ops[k]? = some ok ∧ waits om k = true ∧ waits ok i = true := fun i hi => by
 have h1 := List.all_eq_true.1 h i (List.mem_range.2 hi)
 rw [Bool.or_eq_true] at h1
 rcases h1 with h1 | h1
 · exact .inl h1
 · obtain ⟨k, _, hk⟩ := List.any_eq_true.1 h1
   rw [Bool.and_eq_true] at hk
   cases ho : ops[k]? with
   | none => rw [ho] at hk; cases hk.2
   | some ok => rw [ho] at hk; exact .inr ⟨k, ok, ho, hk.1, hk.2⟩
theorem wpAny_tailP {C : Bool → World → Prop} {R : Bool → Nat → Value → World → Prop} {EP : World → World → Prop} {p : Nat} (hp : p < ops.size) (hB : relB ops a0.tmps.size = true)
 (hmono : ∀ b i v w w', C b w → E w w' → R b i v w → R b i v w') (hmonoP : ∀ i v w w', i ≠ p → C false w → EP w w' → R false i v w → R true i v w')
 {m : Nat} (hm : m + 1 = ops.size) {om : Oper} (hom : ops[m]? = some om) (hg : om.guard = none)
 (hwait : ∀ i, i < m → waits om i = true ∨ ∃ k ok, ops[k]? = some ok ∧ waits om k = true ∧ waits ok i = true)
 (hstep : ∀ b j o, j < m → j ≠ p → ops[j]? = some o → ∀ (a : Act) (w : World), C b w → Seen ops (R b) a0 o a w →
  (Region.wanted o (yielded ops a.tmps) = true → o.wp P a w (fun a' w' => C b w' ∧ E w w' ∧ ∃ v, a' = a.put o.dst v ∧ R b j v w') Q) ∧
  (Region.wanted o (yielded ops a.tmps) = false → E w w ∧ R b j undef w))
 (hstepP : ∀ o, ops[p]? = some o → ∀ (a : Act) (w : World), C false w → Seen ops (R false) a0 o a w →
  Region.wanted o (yielded ops a.tmps) = true ∧ o.wp P a w (fun a' w' => C true w' ∧ EP w w' ∧ ∃ v, a' = a.put o.dst v ∧ R true p v w') Q)
 (hpm : p < m)
 (hlast : ∀ (σ : Nat → Value) (w : World), C true w → (∀ i, i < m → R true i (σ i) w) → om.wp P (Q6 ops σ (fun i => decide (i < m)) (List.range ops.size) a0) w (fun a' w' => Q .normal a' w') Q) :
 ∀ (fuel : Nat) (listed : Array Bool) (a : Act) (w : World), listed.size = ops.size → (listed.toList.filter (· == false)).length ≤ fuel → listed.getD m false = false → Shut ops listed → Inv ops (R (listed.getD p false)) (C (listed.getD p false)) a0 listed a w → wpAny P .any ops Q fuel listed a w := by
 intro fuel
 induction fuel with
 | zero =>
   intro listed a w hs hf hl hS hI
   exfalso
   have h0 : listed.toList.filter (· == false) = [] := List.length_eq_zero_iff.1 (by omega)
   have hi' : m < listed.size := by omega
   have h1 := List.filter_eq_nil_iff.1 h0 listed[m] (by simp)
   simp [hi'] at hl
   rw [hl] at h1
   exact h1 rfl
 | succ fuel ih =>
   intro listed a w hs hf hl hS hI
   refine ⟨fun hr => ?_, fun j hj => ?_⟩
   · have := all_listed hB hs hr (m + 1) m (by omega) (by omega)
     rw [hl] at this; cases this
   · obtain ⟨hun, o, ho, hafter⟩ := mem_ready.1 hj
     have hjs : j < ops.size := (Array.getElem?_eq_some_iff.1 ho).1
     have hjl : j < listed.size := by omega
     have hLj : listed.getD j false = false := by simp [hjl] at hun ⊢; exact hun
     have hs' : (listed.setIfInBounds j true).size = ops.size := by simp [hs]
     have hf' : ((listed.setIfInBounds j true).toList.filter (· == false)).length ≤ fuel := by
      have hlen : ∀ (l : List Bool) (j : Nat), l[j]? = some false → ((l.set j true).filter (· == false)).length + 1 = (l.filter (· == false)).length := by
       intro l
       induction l with
       | nil => intro j h; simp at h
       | cons b r ihl =>
         intro j h
         cases j with
         | zero => simp at h; subst h; simp
         | succ j =>
           simp at h
           have := ihl j h
           cases b
           · rw [List.set_cons_succ, List.filter_cons_of_pos (by rfl), List.filter_cons_of_pos (by rfl), List.length_cons, List.length_cons, this]
           · rw [List.set_cons_succ, List.filter_cons_of_neg (by simp), List.filter_cons_of_neg (by simp), this]
      have h1 := hlen listed.toList j (by
       have : listed.toList[j]? = listed[j]? := by simp
       rw [this]
       simp [hjl] at hLj ⊢
       exact hLj)
      simp only [Array.toList_setIfInBounds]
      omega
     have hS' : Shut ops (listed.setIfInBounds j true) := hS.set ho hjl hafter
     by_cases hjm : j = m
     · subst hjm
       rw [hom] at ho; cases ho
       have hall : ∀ i, i < ops.size → listed.getD i false = decide (i < j) := by
        intro i hi
        by_cases hij : i < j
        · rw [decide_eq_true hij]
          rcases hwait i hij with hw | ⟨k, ok, hok, hwk, hwi⟩
          · obtain ⟨e, he, hb1, rfl⟩ := waits_spec hw
            exact hafter e he hb1
          · obtain ⟨e, he, hb1, rfl⟩ := waits_spec hwk
            obtain ⟨e2, he2, hb2, rfl⟩ := waits_spec hwi
            exact hS _ ok hok (hafter e he hb1) e2 he2 hb2
        · rw [decide_eq_false hij, show i = j by omega]; exact hLj
       have hpt : listed.getD p false = true := by rw [hall p hp]; simpa using hpm
       rw [hpt] at hI
       obtain ⟨hC, σ, rfl, hR⟩ := hI
       have h1 := hlast σ w hC (fun i hi => hR i (by omega) (by rw [hall i (by omega)]; simpa using hi))
       rw [fill_congr (σ' := σ) (L' := fun i => listed.getD i false) _ _ (fun i hi => ⟨by rw [hall i (List.mem_range.1 hi)], fun _ => rfl⟩)] at h1
       unfold wpOp
       simp only [hom]
       rw [if_pos (by unfold Region.wanted; rw [hg])]
       left
       refine Oper.wp_mono (fun a' w' hQ => QrT.wpAny_done hs' (fun i hi => ?_) hQ _) h1
       by_cases hij : i = j
       · subst hij
         simp [hjl]
       · rw [getD_set_ne false (Ne.symm hij), hall i hi]
         simp; omega
     · by_cases hjp : j = p
       · subst hjp
         rw [hLj] at hI
         refine step_relG (R' := R true) (C' := C true) hB (fun i v w w' hi hC hE h => hmonoP i v w w' hi hC hE h) (fun a w hC hS => ?_) hs ho hLj hafter hI (fun a' w' hI' => ih _ a' w' hs' hf' ?_ hS' ?_)
         · obtain ⟨h1, h2⟩ := hstepP o ho a w hC hS
           exact ⟨fun _ => h2, fun h => by rw [h1] at h; cases h⟩
         · rw [getD_set_ne false hjm]; exact hl
         · have : (listed.setIfInBounds j true).getD j false = true := by simp [hjl]
           rw [this]; exact hI'
       · refine step_relG hB (fun i v w w' _ hC hE h => hmono _ i v w w' hC hE h) (fun a w hC hS => ⟨(hstep _ j o (by omega) hjp ho a w hC hS).1, fun h => ⟨hC, (hstep _ j o (by omega) hjp ho a w hC hS).2 h⟩⟩) hs ho hLj hafter hI (fun a' w' hI' => ih _ a' w' hs' hf' ?_ hS' ?_)
         · rw [getD_set_ne false hjm]; exact hl
         · rw [getD_set_ne false hjp]; exact hI'
/-- a region that draws its order, whose last operation waits for all others, and one of which changes what others have left -/
theorem Zl {id : Nat} {w : World} {C : Bool → World → Prop} {R : Bool → Nat → Value → World → Prop} {EP : World → World → Prop} (p : Nat) (hm0 : P.follows .mixedOrders = true) (hC : C false w.drew) (hB : relB ops a0.tmps.size = true)
 (hmono : ∀ b i v w w', C b w → E w w' → R b i v w → R b i v w') (hmonoP : ∀ i v w w', i ≠ p → C false w → EP w w' → R false i v w → R true i v w')
 {m : Nat} (hpm : p < m) (hm : m + 1 = ops.size) {om : Oper} (hom : ops[m]? = some om) (hg : om.guard = none)
 (hwait : waitsAll ops om m = true)
 (hstep : ∀ b j o, j < m → j ≠ p → ops[j]? = some o → ∀ (a : Act) (w : World), C b w → Seen ops (R b) a0 o a w →
  (Region.wanted o (yielded ops a.tmps) = true → o.wp P a w (fun a' w' => C b w' ∧ E w w' ∧ ∃ v, a' = a.put o.dst v ∧ R b j v w') Q) ∧
  (Region.wanted o (yielded ops a.tmps) = false → E w w ∧ R b j undef w))
 {op : Oper} (hop : ops[p]? = some op) (hstepP : ∀ (a : Act) (w : World), C false w → Seen ops (R false) a0 op a w →
  Region.wanted op (yielded ops a.tmps) = true ∧ op.wp P a w (fun a' w' => C true w' ∧ EP w w' ∧ ∃ v, a' = a.put op.dst v ∧ R true p v w') Q)
 (hlast : ∀ (σ : Nat → Value) (w : World), C true w → (∀ i, i < m → R true i (σ i) w) → om.wp P (Q6 ops σ (fun i => decide (i < m)) (List.range ops.size) a0) w (fun a' w' => Q .normal a' w') Q) :
 (Code.region id ops true).wp P Q a0 w :=
 wp_region_any hm0 (wpAny_tailP (C := C) (E := E) (R := R) (EP := EP) (a0 := a0) (show p < ops.size by omega) hB hmono hmonoP hm hom hg (waitsAll_spec hwait) hstep (fun o ho => by rw [hop] at ho; cases ho; exact hstepP) hpm hlast _ _ _ _ (by simp) (Nat.le_trans (List.length_filter_le _ _) (by simp)) (by
  simp [show m < ops.size by omega]) (fun j o _ hl => by
  by_cases e : j < ops.size
  · simp [e] at hl
  · simp [e] at hl) (by
  have := inv0 (ops := ops) (R := R false) (C := C false) (a0 := a0) hC
  have e : (Array.replicate ops.size false).getD p false = false := by simp [show p < ops.size by omega]
  rw [e]; exact this))
end
end Go.Proofs.YthiiahlgncngoaaDoorRR.QrP
set_option linter.unusedVariables false
set_option linter.unusedSimpArgs false
namespace Go.Proofs.YthiiahlgncngoaaDoorRR.Fw
open Go Go.RowKit
open Go.Proofs.YthiiahlgncngoaaDoorRR.Lx Go.Proofs.YthiiahlgncngoaaDoorRR.Tr Go.Proofs.YthiiahlgncngoaaDoorRR.Cd
open Go.Proofs.YthiiahlgncngoaaDoorRR.Vq Go.Proofs.YthiiahlgncngoaaDoorRR.Qr Go.Proofs.YthiiahlgncngoaaDoorRR.QrT Go.Proofs.YthiiahlgncngoaaDoorRR.QrP
open Go.Proofs.YthiiahlgncngoaaDoorRR.Qg (Z5 Z2 run_call3)
theorem grown5 (V : World) (q : Nat) (a b c d e : Value) : V.grownBy (((((V.setCell ⟨q, 0, none⟩ a).setCell ⟨q, 1, none⟩ b).setCell ⟨q, 2, none⟩ c).setCell ⟨q, 3, none⟩ d).setCell ⟨q, 4, none⟩ e) (some q) :=
 (((World.grownBy.trans (Q9 V q 0 a) (Q9 _ q 1 b)).trans (Q9 _ q 2 c)).trans (Q9 _ q 3 d)).trans (Q9 _ q 4 e)
theorem below5 {B q : Nat} {W V : World} (h : Below B W V) (hq : B ≤ q) (a b c d e : Value) : Below B W (((((V.setCell ⟨q, 0, none⟩ a).setCell ⟨q, 1, none⟩ b).setCell ⟨q, 2, none⟩ c).setCell ⟨q, 3, none⟩ d).setCell ⟨q, 4, none⟩ e) :=
 ((((h.setCell (p := ⟨q, 0, none⟩) hq _).setCell (p := ⟨q, 1, none⟩) hq _).setCell (p := ⟨q, 2, none⟩) hq _).setCell (p := ⟨q, 3, none⟩) hq _).setCell (p := ⟨q, 4, none⟩) hq _
theorem Zb {W : World} {B q : Nat} {e T : TypeId} {c : Nat} {v : Value} {n : Nat} {xs : List Value} {cur : Array Value} (h : W.ownsRow B e c v n xs) (hq : W.heap[q]? = some (.cells cur T (0, 0))) (hT : T ≠ e) : v.ownBlock ≠ some q := by
 intro e'
 rcases h.2 with ⟨rfl, _⟩ | ⟨g, cap, cur', rfl, _, hg, _⟩
 · cases e'
 · have : g = q := by simpa [Value.ownBlock] using e'
   subst this
   rw [hg] at hq
   injection hq with hq
   injection hq with _ h2 _
   exact hT h2.symm
theorem Zd {W W' : World} {B q : Nat} {e : TypeId} {c : Nat} {v : Value} {n : Nat} {xs : List Value} (h : W.ownsRow B e c v n xs) (hg : W.grownBy W' (some q)) (hn : v.ownBlock ≠ some q) : W'.ownsRow B e c v n xs :=
 ⟨h.1, h.2.imp id fun ⟨g, cap, cur, hv, hB, hh, hr⟩ => ⟨g, cap, cur, hv, hB, (hg.block g (Array.getElem?_eq_some_iff.1 hh).1 (fun e => hn (by rw [hv]; exact e))).trans hh, hr⟩⟩
theorem ins_again {W W' : World} {S : Nat → Prop} {B : Nat} {y : Ins} (h : Ins.In W S y) (hr : W'.ownsRow B 3 1 (.slice y.aa y.args.length y.acap) y.args.length (Qc y.args)) : Ins.In W' S y := by
 refine ⟨h.op, h.r, h.a, h.b, h.n, ⟨h.row.le, h.row.lim, h.row.nil, fun j u hu => ?_⟩, h.nums⟩
 obtain ⟨b, off, ha, hS, _⟩ := h.row.at_ j u hu
 have hj : j < y.args.length := by have := (List.getElem?_eq_some_iff.1 hu).1; simpa [Qc] using this
 rcases hr.2 with ⟨_, h0⟩ | ⟨g, cap, cur, e, hB, hg, h1, h2, h3, ht⟩
 · omega
 · have e1 : y.aa = some ⟨g, 0, none⟩ := by injection e
   rw [e1] at ha
   have e2 : b = g ∧ off = 0 := by injection ha with ha; injection ha with h1 h2; exact ⟨h1.symm, h2.symm⟩
   obtain ⟨rfl, rfl⟩ := e2
   refine ⟨b, 0, e1, hS, Qk hg ?_⟩
   rw [← ht, List.getElem?_take, if_pos (by omega)] at hu
   rw [Nat.zero_add]
   simpa using hu
theorem CodeI.grown {B g q : Nat} {a7 : Option Addr} {c7 : Nat} {m : List Ins} {W W' : World} {cur : Array Value} {T : TypeId} (h : CodeI B g a7 c7 m W) (hg : W.grownBy W' (some q)) (hq : W.heap[q]? = some (.cells cur T (0, 0))) (h1 : T ≠ 44) (h2 : T ≠ 3) : CodeI B g a7 c7 m W' :=
 ⟨Zd h.row hg (Zb h.row hq h1), h.lt, fun j y hy => by
  obtain ⟨k1, k2, k3⟩ := h.args j y hy
  have k4 := Zd k2 hg (Zb k2 hq h2)
  exact ⟨ins_again k1 k4, k4, k3⟩⟩
theorem TtI.grownT {B q : Nat} {bs : List Bk} {F : Nat → List Int} {W W' : World} {cur : Array Value} {T : TypeId} (h : TtI B bs F W) (hg : W.grownBy W' (some q)) (hq : W.heap[q]? = some (.cells cur T (0, 0))) (h2 : T ≠ 3) : TtI B bs F W' :=
 ⟨fun i x hx => Zd (h.rows i x hx) hg (Zb (h.rows i x hx) hq h2), h.apart⟩
theorem OwnC.grown {B g q cap : Nat} {l : List Bk} {W W' : World} (h : OwnC B g cap l W) (hg : W.grownBy W' (some q)) (hn : q ≠ g) : OwnC B g cap l W' := by
 have hl := h.lt
 obtain ⟨hB, cur, hh, hr⟩ := h
 exact ⟨hB, cur, (hg.block g hl (fun e => hn (Option.some.inj e).symm)).trans hh, hr⟩
theorem OwnC.ne {B g q cap : Nat} {l : List Bk} {W : World} {cur : Array Value} {T : TypeId} (h : OwnC B g cap l W) (hq : W.heap[q]? = some (.cells cur T (0, 0))) (h1 : T ≠ 42) : q ≠ g := by
 intro e
 subst e
 obtain ⟨hB, cur', hh, hr⟩ := h
 rw [hh] at hq
 injection hq with hq
 injection hq with _ h2 _
 exact h1 h2.symm
theorem CodeI.le {B g : Nat} {a7 : Option Addr} {c7 : Nat} {m : List Ins} {W : World} (h : CodeI B g a7 c7 m W) (hm : 0 < m.length) : B < g := by
 rcases h.row.2 with ⟨_, h0⟩ | ⟨q, cap, cur, hv, hB, _⟩
 · omega
 · have := h.lt q (by rw [hv]; rfl)
   omega
/-- after reached -/
structure ReI (B : Nat) (l : List Ins) (g g2 bcap : Nat) (bs : List Bk) (m : List Ins) (a7 : Option Addr) (c7 : Nat) (V : World) : Prop where
 cut : CutS a7 l m bs
 code : CodeI B g a7 c7 m V
 tos : TtI (g + 1) (stay bs) (oldTo (stay bs)) V
 own : OwnC (g + 1) g2 bcap (stay bs) V
 lt : ∀ x ∈ stay bs, ∀ q, (toV x).ownBlock = some q → q < g2
theorem ReI.keep {B : Nat} {l : List Ins} {g g2 bcap : Nat} {bs : List Bk} {m : List Ins} {a7 : Option Addr} {c7 : Nat} {V W : World} (h : ReI B l g g2 bcap bs m a7 c7 V) (hb : Below V.heap.size V W) : ReI B l g g2 bcap bs m a7 c7 W :=
 ⟨h.cut, h.code.keep hb, h.tos.keep hb, h.own.keep hb, h.lt⟩
theorem ReI.grown {B : Nat} {l : List Ins} {g g2 bcap q : Nat} {bs : List Bk} {m : List Ins} {a7 : Option Addr} {c7 : Nat} {V W : World} {cur : Array Value} {T : TypeId} (h : ReI B l g g2 bcap bs m a7 c7 V) (hg : V.grownBy W (some q)) (hq : V.heap[q]? = some (.cells cur T (0, 0))) (h1 : T ≠ 44) (h2 : T ≠ 3) (h3 : T ≠ 42) : ReI B l g g2 bcap bs m a7 c7 W :=
 ⟨h.cut, h.code.grown hg hq h1 h2, h.tos.grownT hg hq h2, h.own.grown hg (h.own.ne hq h3), h.lt⟩
def VCut (B : Nat) (l : List Ins) (v : Value) (V : World) : Prop := ∃ g bs m a7 c7, v = .slice (some ⟨g, 0, none⟩) (begL l).length (begL l).length ∧ m.length = l.length ∧ (∀ (j : Nat) (x y : Ins), l[j]? = some x → m[j]? = some y → bareR x y) ∧ CodeI B g a7 c7 m V ∧ CutI a7 g l m bs (begL l).length V
theorem VCut.mono {B : Nat} {l : List Ins} : Mono (VCut B l) := fun _ _ _ hb ⟨g, bs, m, a7, c7, h1, h2, h3, h4, h5⟩ => ⟨g, bs, m, a7, c7, h1, h2, h3, h4.keep hb, h5.keep hb⟩
def VRe (B : Nat) (l : List Ins) (v : Value) (V : World) : Prop := ∃ g g2 bcap bs m a7 c7, v = .slice (some ⟨g2, 0, none⟩) (stay bs).length bcap ∧ ReI B l g g2 bcap bs m a7 c7 V
theorem VRe.mono {B : Nat} {l : List Ins} : Mono (VRe B l) := fun _ _ _ hb ⟨g, g2, bcap, bs, m, a7, c7, h1, h2⟩ => ⟨g, g2, bcap, bs, m, a7, c7, h1, h2.keep hb⟩
def VBd (B : Nat) (l : List Ins) (a b c d : Value) (v : Value) (V : World) : Prop := ∃ u, v = .agg #[a, b, c, d, u] ∧ VRe B l u V
theorem VBd.mono {B : Nat} {l : List Ins} {a b c d : Value} : Mono (VBd B l a b c d) := fun _ _ _ hb ⟨u, h, h2⟩ => ⟨u, h, VRe.mono _ _ _ hb h2⟩
def VF (_ : Value) (_ : World) : Prop := False
theorem VF.mono : Mono VF := fun _ _ _ _ h => h
abbrev gr0 : Array Value := #[.string ⟨#[]⟩, .bool false, .int .i64 0, .int .i64 0, .slice none 0 0]
def VAl (B : Nat) (v : Value) (V : World) : Prop := ∃ q, v = .pointer (some ⟨q, 0, none⟩) ∧ B ≤ q ∧ V.heap[q]? = some (.cells gr0 37 (0, 0))
theorem VAl.mono {B : Nat} : Mono (VAl B) := fun _ _ _ hb ⟨b, h, h1, h2⟩ => ⟨b, h, h1, (hb.block b (Array.getElem?_eq_some_iff.1 h2).1).trans h2⟩
/-- rows of numbers alone may change -/
def NumE (w w' : World) : Prop := ∀ q, q < w.heap.size → (∀ cur, w.heap[q]? ≠ some (.cells cur 3 (0, 0))) → w'.heap[q]? = w.heap[q]?
theorem VAl.num {B : Nat} {v : Value} {w w' : World} (hE : NumE w w') (h : VAl B v w) : VAl B v w' := by
 obtain ⟨b, h, h1, h2⟩ := h
 refine ⟨b, h, h1, (hE b (Array.getElem?_eq_some_iff.1 h2).1 fun cur e => ?_).trans h2⟩
 rw [h2] at e
 injection e with e
 injection e with _ e _
 exact absurd e (by decide)
def raG (B : Nat) (l : List Ins) (bx : Nat) (a b c d e : Value) (t : Bool) : List (Value → World → Prop) :=
 [VK (.pointer (some ⟨bx, 0, none⟩)), VK a, VK (.pointer (some ⟨bx, 1, none⟩)), VK b, VK (.pointer (some ⟨bx, 2, none⟩)), VK c, VK (.pointer (some ⟨bx, 3, none⟩)), VK d, VK (.pointer (some ⟨bx, 4, none⟩)), VK e,
  if t then VT else VCut B l, if t then VRe B l else VF, if t then VBd B l a b c d else VF, VAl B]
theorem raG_mono {B : Nat} {l : List Ins} {bx : Nat} {a b c d e : Value} {t : Bool} : MonoL (raG B l bx a b c d e t) := by
 cases t
 · exact ⟨VK.mono, VK.mono, VK.mono, VK.mono, VK.mono, VK.mono, VK.mono, VK.mono, VK.mono, VK.mono, VCut.mono, VF.mono, VF.mono, VAl.mono, trivial⟩
 · exact ⟨VK.mono, VK.mono, VK.mono, VK.mono, VK.mono, VK.mono, VK.mono, VK.mono, VK.mono, VK.mono, VT.mono, VRe.mono, VBd.mono, VAl.mono, trivial⟩
theorem raG_num {B : Nat} {l : List Ins} {bx : Nat} {a b c d e : Value} : ∀ (i : Nat) (v : Value) (w w' : World), i ≠ 11 → NumE w w' → (raG B l bx a b c d e false).getD i VT v w → (raG B l bx a b c d e true).getD i VT v w'
 | 0, _, _, _, _, _, h => h
 | 1, _, _, _, _, _, h => h
 | 2, _, _, _, _, _, h => h
 | 3, _, _, _, _, _, h => h
 | 4, _, _, _, _, _, h => h
 | 5, _, _, _, _, _, h => h
 | 6, _, _, _, _, _, h => h
 | 7, _, _, _, _, _, h => h
 | 8, _, _, _, _, _, h => h
 | 9, _, _, _, _, _, h => h
 | 10, _, _, _, _, _, _ => trivial
 | 11, _, _, _, h, _, _ => absurd rfl h
 | 12, _, _, _, _, _, h => False.elim h
 | 13, _, _, _, _, hE, h => VAl.num hE h
 | _ + 14, _, _, _, _, _, _ => trivial
theorem p_call {P : Program} {ops : Array Oper} {Q : Exit → Act → World → Prop} {C : World → Prop} {EP : World → World → Prop} {R' : Value → World → Prop} {a : Act} {w : World} {o : Oper}
 (h : Region.wanted o (yielded ops a.tmps) = true ∧ ∃ f args, (execOp a.eval o).run P w = .ok (.enter f args) w ∧ Calls P f args w (fun e w' => ∃ v, e = .returned v ∧ C w' ∧ EP w w' ∧ R' v w')) :
 Region.wanted o (yielded ops a.tmps) = true ∧ o.wp P a w (fun a' w' => C w' ∧ EP w w' ∧ ∃ v, a' = a.put o.dst v ∧ R' v w') Q := by
 obtain ⟨hw, f, args, hr, hc⟩ := h
 refine ⟨hw, ?_⟩
 unfold Oper.wp
 rw [hr]
 exact hc.mono fun e w' ⟨v, he, hC', hE, hR⟩ => by subst he; exact ⟨hC', hE, v, rfl, hR⟩
theorem X0 {P : Program} {l : List Oper} {Q : Exit → Act → World → Prop} {C : Bool → World → Prop} {R : Bool → Nat → Value → World → Prop} {a0 : Act} (p m : Nat) (h : ∀ t, StepsL P l.toArray Q (C t) (R t) a0 0 (l.take p)) (h2 : ∀ t, StepsL P l.toArray Q (C t) (R t) a0 (p + 1) ((l.drop (p + 1)).take (m - (p + 1)))) :
 ∀ t j o, j < m → j ≠ p → l.toArray[j]? = some o → Step P l.toArray Q (C t) (R t) a0 j o := fun t j o hj hne ho => by
 have ho' : l[j]? = some o := by simpa using ho
 by_cases e : j < p
 · have := stepsL_get (l.take p) 0 j o (h t) (by rw [List.getElem?_take, if_pos e]; exact ho')
   rwa [Nat.zero_add] at this
 · have := stepsL_get ((l.drop (p + 1)).take (m - (p + 1))) (p + 1) (j - (p + 1)) o (h2 t) (by rw [List.getElem?_take, if_pos (by omega), List.getElem?_drop, show p + 1 + (j - (p + 1)) = j by omega]; exact ho')
   rwa [show p + 1 + (j - (p + 1)) = j by omega] at this
theorem fl_u0 {V : World} {b : Nat} : (Instr.fieldAt 50 (.pointer (some ⟨b, 0, none⟩)) 0).run Tryd.prog V = .ok (.pointer (some ⟨b, 0, none⟩)) V := by go_simp
theorem fl_u1 {V : World} {b : Nat} : (Instr.fieldAt 50 (.pointer (some ⟨b, 0, none⟩)) 1).run Tryd.prog V = .ok (.pointer (some ⟨b, 1, none⟩)) V := by go_simp
theorem fl_u2 {V : World} {b : Nat} : (Instr.fieldAt 50 (.pointer (some ⟨b, 0, none⟩)) 2).run Tryd.prog V = .ok (.pointer (some ⟨b, 2, none⟩)) V := by go_simp
theorem fl_u3 {V : World} {b : Nat} : (Instr.fieldAt 50 (.pointer (some ⟨b, 0, none⟩)) 3).run Tryd.prog V = .ok (.pointer (some ⟨b, 3, none⟩)) V := by go_simp
theorem fl_u4 {V : World} {b : Nat} : (Instr.fieldAt 50 (.pointer (some ⟨b, 0, none⟩)) 4).run Tryd.prog V = .ok (.pointer (some ⟨b, 4, none⟩)) V := by go_simp
theorem al_graph (V : World) : (Instr.alloc 37 true (.tuple #[])).run Tryd.prog V = .ok (.pointer (some ⟨V.heap.size, 0, none⟩)) (V.alloc (.cells gr0 37)) := by go_simp
theorem b_graph {V : World} (n : ByteArray) (h : Bool) (c d : Int) (e : Option Addr) (k j : Nat) : (Instr.build 37 #[(0, .string n), (1, .bool h), (2, .int .i64 c), (3, .int .i64 d), (4, .slice e k j)]).run Tryd.prog V = .ok (.agg #[.string n, .bool h, .int .i64 c, .int .i64 d, .slice e k j]) V := by kernel_rfl
end Go.Proofs.YthiiahlgncngoaaDoorRR.Fw
