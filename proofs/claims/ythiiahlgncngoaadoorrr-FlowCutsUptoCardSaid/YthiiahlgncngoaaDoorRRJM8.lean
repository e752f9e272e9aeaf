/- Which blocks are come to: the closure of reached. Conditions: each block goes to blocks. -/
import Derived.Test.YthiiahlgncngoaaDoorRRJOwI
import Derived.Laws.EntriesVeiled
set_option maxHeartbeats 16000000
set_option maxRecDepth 100000
set_option linter.unusedVariables false
set_option linter.unusedSimpArgs false
namespace Go.Proofs.YthiiahlgncngoaaDoorRR.Fw
open Go Go.RowKit
open Go.Proofs.YthiiahlgncngoaaDoorRR.Lx Go.Proofs.YthiiahlgncngoaaDoorRR.Tr Go.Proofs.YthiiahlgncngoaaDoorRR.Cd
/-- what is met when one comes to a block, and goes on from there -/
def Xk : Nat → (Nat → List Int) → (Nat → Bool) → Nat → (Nat → Bool)
 | 0, _, f, _ => f
 | q + 1, S, f, b => if f b = true then f else (S b).foldl (fun f t => Xk q S f t.toNat) (fun i => if i = b then true else f i)
theorem foldl_mono {α β : Type} (P : β → Nat → Prop) (g : β → α → β) (hg : ∀ f a i, P f i → P (g f a) i) (l : List α) (f : β) (i : Nat) (h : P f i) : P (l.foldl g f) i := by
 induction l generalizing f with
 | nil => exact h
 | cons x r ih => exact ih _ (hg f x i h)
theorem visit_mono (q : Nat) (S : Nat → List Int) : ∀ (f : Nat → Bool) (b i : Nat), f i = true → Xk q S f b i = true := by
 induction q with
 | zero => intro f b i h; exact h
 | succ q ih =>
   intro f b i h
   unfold Xk
   split
   · exact h
   · refine foldl_mono (fun f i => f i = true) _ (fun f t i h => ih f _ i h) _ _ _ ?_
     show (if i = b then true else f i) = true
     split
     · rfl
     · exact h
def Xh (n : Nat) (f : Nat → Bool) : Nat := ((List.range n).filter fun i => !f i).length
theorem unmet_mono (n : Nat) {f f' : Nat → Bool} (h : ∀ i, f i = true → f' i = true) : Xh n f' ≤ Xh n f := by
 unfold Xh
 rw [← List.countP_eq_length_filter, ← List.countP_eq_length_filter]
 refine List.countP_mono_left fun i _ hi => ?_
 cases hf : f i
 · rfl
 · rw [h i hf] at hi; cases hi
theorem unmet_less {n b : Nat} {f : Nat → Bool} (hb : b < n) (h : f b = false) : Xh n (fun i => if i = b then true else f i) + 1 ≤ Xh n f := by
 unfold Xh
 induction n with
 | zero => omega
 | succ n ih =>
   rw [List.range_succ, List.filter_append, List.filter_append, List.length_append, List.length_append]
   by_cases e : b = n
   · subst e
     have h1 := unmet_mono b (f := f) (f' := fun i => if i = b then true else f i) (fun i hi => by simp [hi])
     unfold Xh at h1
     simp [h] at h1 ⊢
     omega
   · have h2 := ih (by omega)
     have h3 : ([n].filter fun i => !(if i = b then true else f i)) = [n].filter fun i => !f i := by
      have hne : ¬ n = b := fun h => e h.symm
      simp only [List.filter_cons, List.filter_nil, if_neg hne]
     rw [h3]
     omega
/-- what the closure stands on, in memory -/
structure RcF (p1 p2 p3 gm gb : Nat) (bs : List Bk) (W : World) : Prop where
 c1 : W.cell? ⟨p1, 0, none⟩ = some (.slice (some ⟨gm, 0, none⟩) bs.length bs.length)
 c2 : W.cell? ⟨p2, 0, none⟩ = some (.slice (some ⟨gb, 0, none⟩) bs.length bs.length)
 c3 : W.cell? ⟨p3, 0, none⟩ = some (.func (.func 83) #[] #[.pointer (some ⟨p1, 0, none⟩), .pointer (some ⟨p2, 0, none⟩), .pointer (some ⟨p3, 0, none⟩)])
 ne : p1 ≠ gm ∧ p2 ≠ gm ∧ p3 ≠ gm
 row : RowAt W (fun b => b ≠ gm) (some ⟨gb, 0, none⟩) bs.length bs.length (Qu bs)
 tos : ∀ b ∈ bs, RowAt W (fun b => b ≠ gm) b.ta b.tcap b.tt.length (Qc b.tt)
theorem Zy {W W' : World} {g b o : Nat} {v : Value} (h : W.grownBy W' (some g)) (hb : b ≠ g) (hc : W.cell? ⟨b, o, none⟩ = some v) : W'.cell? ⟨b, o, none⟩ = some v := by
 have := h.block b (World.block_lt_of_cell? _ _ hc) (fun e => hb (Option.some.inj e))
 rw [World.cell?_of_block (w := W) this]
 exact hc
theorem RcF.grown {p1 p2 p3 gm gb : Nat} {bs : List Bk} {W W' : World} (h : RcF p1 p2 p3 gm gb bs W) (hg : W.grownBy W' (some gm)) : RcF p1 p2 p3 gm gb bs W' :=
 ⟨Zy hg h.ne.1 h.c1, Zy hg h.ne.2.1 h.c2, Zy hg h.ne.2.2 h.c3, h.ne, h.row.below fun b o v hb hc => Zy hg hb hc, fun x hx => (h.tos x hx).below fun b o v hb hc => Zy hg hb hc⟩
theorem grown_refl (W : World) (r : Option Nat) : W.grownBy W r := ⟨rfl, rfl, rfl, Nat.le_refl _, fun _ _ _ => rfl⟩
theorem Q9 (W : World) (g o : Nat) (v : Value) : W.grownBy (W.setCell ⟨g, o, none⟩ v) (some g) :=
 ⟨rfl, rfl, rfl, by simp [World.setCell], fun i hi hne => Below.heap_setCell _ _ _ _ (fun e => hne (congrArg some e))⟩
def toF (bs : List Bk) (b : Nat) : List Int := (bs.getD b Bk0).tt
theorem visit_zero (q : Nat) (S : Nat → List Int) (f : Nat → Bool) (b : Nat) (h : f b = true) : Xk q S f b = f := by
 cases q with
 | zero => rfl
 | succ q => unfold Xk; rw [if_pos h]
theorem unmet_none {n b : Nat} {f : Nat → Bool} (hb : b < n) (h : Xh n f ≤ 0) : f b = true := by
 cases hf : f b
 · have := unmet_less hb hf
   omega
 · rfl
theorem come_c (p1 p2 p3 gm gb : Nat) (bs : List Bk) (hto : ∀ b ∈ bs, ∀ t ∈ b.tt, 0 ≤ t ∧ t < (bs.length : Int)) : ∀ (q : Nat) (f : Nat → Bool) (b : Nat) (W : World), RcF p1 p2 p3 gm gb bs W → MkB gm bs.length f W → Xh bs.length f ≤ q → b < bs.length →
 Calls Tryd.prog 83 #[.int .i64 (b : Int), .pointer (some ⟨p1, 0, none⟩), .pointer (some ⟨p2, 0, none⟩), .pointer (some ⟨p3, 0, none⟩)] W fun e W' => e = .returned (.tuple #[]) ∧ W.grownBy W' (some gm) ∧ MkB gm bs.length (Xk q (toF bs) f b) W' := by
 replace hto := Lh hto
 intro q
 induction q with
 | zero =>
   intro f b W hR hM hq hb
   have hfb := unmet_none hb hq
   obtain ⟨t1, t2⟩ := hM.get hb
   rw [hfb] at t1
   obtain ⟨hc1, hc2⟩ := Q2 hR.row
   have c1 := hR.c1
   have hb0 : (0 : Int) ≤ (b : Int) := by omega
   have hb1 : (b : Int) < (bs.length : Int) := by omega
   have hfin : Hid (MkB gm bs.length (Xk 0 (toF bs) f b) W) := Lh (by rw [visit_zero _ _ _ _ hfb]; exact hM)
   clear hR hM hfb
   go_enter Tryd.func83, Tryd.ntmps83
   go_wp2_with fail
   exact ⟨rfl, .tuple #[], by simp [results, Tryd.results83, go_sem], rfl, grown_refl _ _, hfin.out⟩
 | succ q ih =>
   intro f b W hR hM hq hb
   obtain ⟨t1, t2⟩ := hM.get hb
   obtain ⟨hc1, hc2⟩ := Q2 hR.row
   have c1 := hR.c1
   have hb0 : (0 : Int) ≤ (b : Int) := by omega
   have hb1 : (b : Int) < (bs.length : Int) := by omega
   cases hfb : f b
   · rw [hfb] at t1
     obtain ⟨x, hx⟩ : ∃ x, bs[b]? = some x := ⟨_, List.getElem?_eq_getElem hb⟩
     have hxm := List.mem_of_getElem? hx
     have hV : Hid (Xk (q + 1) (toF bs) f b = x.tt.foldl (fun f t => Xk q (toF bs) f t.toNat) (fun i => if i = b then true else f i)) := Lh (by
      rw [Xk, if_neg (by rw [hfb]; simp)]
      unfold toF
      rw [List.getD_eq_getElem?_getD, hx]; rfl)
     generalize Xk (q + 1) (toF bs) f b = Z at *
     have hM1 := Lh (hM.set hb (fun i => if i = b then true else f i) (fun i _ => rfl))
     have hU1 : Hid (Xh bs.length (fun i => if i = b then true else f i) ≤ q) := Lh (by have := unmet_less hb hfb; omega)
     generalize (fun i => if i = b then true else f i) = f1 at *
     have hG1 := Lh (Q9 W gm b (.bool true))
     have hR1 := Lh (hR.grown hG1.out)
     have hgl := hM.lt
     have htx := Lh (hto.out x hxm)
     clear hR hM hfb hq hto
     go_enter Tryd.func83, Tryd.ntmps83
     go_upto_region 2 with fail
     generalize hW1 : W.setCell ⟨gm, b, none⟩ (.bool true) = W1 at *
     clear hW1 t1 t2 c1
     have c2 := hR1.out.c2
     obtain ⟨b', off', ha', hne', d0, d1, d2, d3⟩ := X4 hR1.out.row b x hx
     cases ha'
     simp only [Nat.zero_add] at d0 d1 d2 d3
     obtain ⟨hl1, hl2⟩ := Q2 (hR1.out.tos x hxm)
     go_wp2_with fail
     go_loopw [20] (fun i wr => ∃ k : Nat, k ≤ x.tt.length ∧ i = .int .i64 k ∧ Hid (W.grownBy wr (some gm)) ∧ Hid (∃ f2, f2 = (x.tt.take k).foldl (fun f t => Xk q (toF bs) f t.toNat) f1 ∧ Xh bs.length f2 ≤ q ∧ MkB gm bs.length f2 wr) ∧ Hid (RcF p1 p2 p3 gm gb bs wr)) (fun i _ => x.tt.length - (intOf i).toNat)
     case atStart => exact ⟨0, Nat.zero_le _, rfl, hG1, Lh ⟨f1, rfl, hU1.out, hM1.out⟩, hR1⟩
     case round =>
      obtain ⟨k, hk, rfl, hG, hF, hR⟩ := hrel
      by_cases hlt : k < x.tt.length
      · obtain ⟨y, hy⟩ : ∃ y, x.tt[k]? = some y := ⟨_, List.getElem?_eq_getElem hlt⟩
        have hyr := htx.out y (List.mem_of_getElem? hy)
        obtain ⟨m, rfl⟩ : ∃ m : Nat, y = m := ⟨y.toNat, by omega⟩
        obtain ⟨b', off', ha', _, e0⟩ := Xa (hR.out.tos x hxm) k _ hy
        have c3 := hR.out.c3
        have hi0' : (0 : Int) ≤ (k : Int) := by omega
        have hi1 : (k : Int) < (x.tt.length : Int) := by omega
        obtain ⟨f2, hf2, hu2, hM2⟩ := hF.out
        have hcall := Lh (ih f2 m wr hR.out hM2 hu2 (by omega))
        have hnx : Hid (∀ w', MkB gm bs.length (Xk q (toF bs) f2 m) w' → ∃ f2, f2 = (x.tt.take (k + 1)).foldl (fun f t => Xk q (toF bs) f t.toNat) f1 ∧ Xh bs.length f2 ≤ q ∧ MkB gm bs.length f2 w') := Lh (fun w' h => ⟨_, by
         rw [List.take_add_one, hy, List.foldl_append, ← hf2]; rfl, Nat.le_trans (unmet_mono _ (fun i hi => visit_mono q _ f2 m i hi)) hu2, h⟩)
        rw [ha']
        clear hy hyr hf2 hu2 hM2 hF hV hM1 hU1 hG1 hR1 ih
        go_wp2_with fail
        refine hcall.out.mono ?_
        rintro e w3 ⟨rfl, hg3, hM3⟩
        have hG4 := Lh (World.grownBy.trans hG.out hg3)
        have hR4 := Lh (hR.out.grown hg3)
        have hF4 := Lh (hnx.out w3 hM3)
        clear hG hR hnx hcall hg3 hM3
        go_wp2_with fail
        go_roundw
        case rel => exact ⟨k + 1, by omega, by go_num, hG4, hF4, hR4⟩
        case measure => simp [intOf]; omega
      · have hk2 : k = x.tt.length := by omega
        subst hk2
        have hend : Hid (MkB gm bs.length Z wr) := Lh (by
         obtain ⟨f2, hf2, _, hM2⟩ := hF.out
         rw [List.take_length] at hf2
         rw [hV.out, ← hf2]
         exact hM2)
        clear hF hV
        go_wp2_with fail
        exact ⟨rfl, .tuple #[], by simp [results, Tryd.results83, go_sem], rfl, hG.out, hend.out⟩
   · rw [hfb] at t1
     have hfin : Hid (MkB gm bs.length (Xk (q + 1) (toF bs) f b) W) := Lh (by rw [visit_zero _ _ _ _ hfb]; exact hM)
     clear hR hM hfb ih
     go_enter Tryd.func83, Tryd.ntmps83
     go_wp2_with fail
     exact ⟨rfl, .tuple #[], by simp [results, Tryd.results83, go_sem], rfl, grown_refl _ _, hfin.out⟩
/-- the blocks that are met -/
def Zq (f : Nat → Bool) : Nat → List Bk → List Bk
 | _, [] => []
 | i, x :: r => (if f i = true then [x] else []) ++ Zq f (i + 1) r
theorem pickF_app (f : Nat → Bool) (l r : List Bk) (i : Nat) : Zq f i (l ++ r) = Zq f i l ++ Zq f (i + l.length) r := by
 induction l generalizing i with
 | nil => simp [Zq]
 | cons x l ih => rw [List.cons_append, Zq, Zq, ih (i + 1), List.append_assoc, List.length_cons, show i + 1 + l.length = i + (l.length + 1) by omega]
theorem pick_take {f : Nat → Bool} {l : List Bk} {k : Nat} {x : Bk} (h : l[k]? = some x) : Zq f 0 (l.take (k + 1)) = Zq f 0 (l.take k) ++ if f k = true then [x] else [] := by
 have hk : k < l.length := (List.getElem?_eq_some_iff.1 h).1
 rw [List.take_add_one, h, pickF_app]
 have : (l.take k).length = k := by rw [List.length_take]; omega
 rw [this]
 simp [Zq]
/-- the new number of a block -/
def numM (f : Nat → Bool) (b : Nat) : Nat := ((List.range b).filter f).length
theorem numM_succ (f : Nat → Bool) (b : Nat) : numM f (b + 1) = numM f b + if f b = true then 1 else 0 := by
 unfold numM
 rw [List.range_succ, List.filter_append, List.length_append]
 cases h : f b <;> simp [h]
theorem numM_le (f : Nat → Bool) {a b : Nat} (h : a ≤ b) : numM f a ≤ numM f b := by
 induction b with
 | zero => have : a = 0 := by omega
           subst this; exact Nat.le_refl _
 | succ b ih =>
   rw [numM_succ]
   by_cases e : a = b + 1
   · subst e; rw [numM_succ]; exact Nat.le_refl _
   · have := ih (by omega); omega
theorem numM_le_self (f : Nat → Bool) (b : Nat) : numM f b ≤ b := by
 unfold numM
 have := List.length_filter_le f (List.range b)
 rw [List.length_range] at this
 exact this
theorem pick_len (f : Nat → Bool) (l : List Bk) (k : Nat) (hk : k ≤ l.length) : (Zq f 0 (l.take k)).length = numM f k := by
 induction k with
 | zero => rfl
 | succ k ih =>
   obtain ⟨x, hx⟩ : ∃ x, l[k]? = some x := ⟨_, List.getElem?_eq_getElem (by omega)⟩
   rw [pick_take hx, List.length_append, ih (by omega), numM_succ]
   split <;> simp
/-- block b, which is met, is the one of its new number -/
theorem pick_get {f : Nat → Bool} {l : List Bk} {b : Nat} {x : Bk} (h : l[b]? = some x) (hf : f b = true) : (Zq f 0 l)[numM f b]? = some x := by
 have hb : b < l.length := (List.getElem?_eq_some_iff.1 h).1
 have h1 : Zq f 0 l = Zq f 0 (l.take (b + 1)) ++ Zq f (0 + (l.take (b + 1)).length) (l.drop (b + 1)) := by
  rw [← pickF_app, List.take_append_drop]
 have h2 := pick_len f l b (by omega)
 rw [h1, pick_take h, if_pos hf, List.append_assoc, List.getElem?_append_right (by omega), h2, Nat.sub_self]
 rfl
/-- and each that stays is one that is met -/
theorem pick_of {f : Nat → Bool} {l : List Bk} (k : Nat) (hk : k ≤ l.length) {i : Nat} {x : Bk} (h : (Zq f 0 (l.take k))[i]? = some x) : ∃ b, b < k ∧ f b = true ∧ l[b]? = some x ∧ numM f b = i := by
 induction k with
 | zero => simp [Zq] at h
 | succ k ih =>
   obtain ⟨y, hy⟩ : ∃ y, l[k]? = some y := ⟨_, List.getElem?_eq_getElem (by omega)⟩
   have h2 := pick_len f l k (by omega)
   rw [pick_take hy] at h
   by_cases hi : i < (Zq f 0 (l.take k)).length
   · rw [List.getElem?_append_left hi] at h
     obtain ⟨b, h3, h4⟩ := ih (by omega) h
     exact ⟨b, by omega, h4⟩
   · rw [List.getElem?_append_right (by omega)] at h
     split at h
     · rename_i hf
       have h5 : i - (Zq f 0 (l.take k)).length = 0 := by
        have := (List.getElem?_eq_some_iff.1 h).1
        simp at this
        omega
       rw [h5] at h
       cases h
       exact ⟨k, by omega, hf, hy, by omega⟩
     · simp at h
/-! ### lists that are written over -/
abbrev toV (x : Bk) : Value := .slice x.ta x.tt.length x.tcap
structure TtI (B : Nat) (os : List Bk) (F : Nat → List Int) (W : World) : Prop where
 rows : ∀ (i : Nat) (x : Bk), os[i]? = some x → W.ownsRow B 3 1 (toV x) x.tt.length (Qc (F i))
 apart : ∀ (i j : Nat) (x y : Bk), i ≠ j → os[i]? = some x → os[j]? = some y → ∀ q, (toV y).ownBlock = some q → (toV x).ownBlock ≠ some q
theorem TtI.keep {B : Nat} {os : List Bk} {F : Nat → List Int} {W W' : World} (h : TtI B os F W) (hb : Below W.heap.size W W') : TtI B os F W' :=
 ⟨fun i x hx => Qn (h.rows i x hx) hb, h.apart⟩
theorem TtI.cong {B : Nat} {os : List Bk} {F F' : Nat → List Int} {W : World} (h : TtI B os F W) (e : ∀ i, i < os.length → F i = F' i) : TtI B os F' W :=
 ⟨fun i x hx => by rw [← e i (List.getElem?_eq_some_iff.1 hx).1]; exact h.rows i x hx, h.apart⟩
theorem TtI.get {B : Nat} {os : List Bk} {F : Nat → List Int} {W : World} (h : TtI B os F W) {i j : Nat} {x : Bk} {y : Int} (hx : os[i]? = some x) (hy : (F i)[j]? = some y) :
 ∃ q, x.ta = some ⟨q, 0, none⟩ ∧ W.cell? ⟨q, j, none⟩ = some (.int .i64 y) ∧ W.frozen? ⟨q, j, none⟩ = false ∧ B ≤ q ∧ q < W.heap.size ∧ (F i).length = x.tt.length := by
 have hr := h.rows i x hx
 have hlen : (F i).length = x.tt.length := by have := hr.1; simpa [Qc] using this
 have hj : j < (F i).length := (List.getElem?_eq_some_iff.1 hy).1
 rcases hr.2 with ⟨_, h0⟩ | ⟨q, cap, cur, e, hB, hq, h1, h2, h3, ht⟩
 · omega
 · have e1 : x.ta = some ⟨q, 0, none⟩ := by injection e
   refine ⟨q, e1, ?_, Qd hq _, hB, (Array.getElem?_eq_some_iff.1 hq).1, hlen⟩
   refine Qk hq ?_
   have hu : (Qc (F i))[j]? = some (.int .i64 y) := by unfold Qc; rw [List.getElem?_map, hy]; rfl
   rw [← ht, List.getElem?_take, if_pos (by omega)] at hu
   simpa using hu
theorem TtI.set {B : Nat} {os : List Bk} {F : Nat → List Int} {W : World} (h : TtI B os F W) {i j q : Nat} {x : Bk} (v : Int) (hx : os[i]? = some x) (hq : x.ta = some ⟨q, 0, none⟩) (hj : j < (F i).length) :
 TtI B os (fun i' => if i' = i then (F i).set j v else F i') (W.setCell ⟨q, j, none⟩ (.int .i64 v)) := by
 refine ⟨fun i' z hz => ?_, h.apart⟩
 have hown : (toV x).ownBlock = some q := by unfold toV; rw [hq]; rfl
 by_cases e : i' = i
 · subst e
   rw [hx] at hz
   cases hz
   simp only [if_true]
   have hr := h.rows i' x hx
   rcases hr.2 with ⟨_, h0⟩ | ⟨g, cap, cur, e, hB, hg, h1, h2, h3, ht⟩
   · have := hr.1; simp [Qc] at this; omega
   · have e1 : x.ta = some ⟨g, 0, none⟩ := by injection e
     rw [hq] at e1
     have e2 : q = g := by injection e1 with e1; injection e1
     subst e2
     refine ⟨by have := hr.1; simpa [Qc] using this, .inr ⟨q, cap, cur.setIfInBounds j (.int .i64 v), e, hB, Qy hg _ _, h1, h2, by simpa using h3, ?_⟩⟩
     rw [Array.toList_setIfInBounds, List.take_set, ht]
     unfold Qc
     rw [List.map_set]
 · simp only [if_neg e]
   exact ownsRow_setCell_other (h.rows i' z hz) (show _ ≠ some q from h.apart i' i z x e hz hx q hown) _
/-- which blocks are met -/
def metF (bs : List Bk) : Nat → Bool := Xk bs.length (toF bs) (fun _ => false) 0
def oldTo (bs : List Bk) : Nat → List Int := fun i => (bs.getD i Bk0).tt
/-- all that is no list of where one goes to is as it was -/
structure Frm (bs : List Bk) (W W' : World) : Prop where
 os : W'.os = W.os
 tape : W'.tape = W.tape
 output : W'.output = W.output
 size : W.heap.size ≤ W'.heap.size
 block : ∀ q, q < W.heap.size → (∀ x ∈ bs, (toV x).ownBlock ≠ some q) → W'.heap[q]? = W.heap[q]?
def rcW (w : World) (g n : Nat) : World := (((w.alloc (.cells #[.slice (some ⟨g, 0, none⟩) n n] 35)).alloc (.cells (Array.replicate n (Value.bool false)) 4)).alloc (.cells #[.slice (some ⟨w.heap.size + 1, 0, none⟩) n n] 72)).alloc (.cells #[Value.nilFunc] 119)
theorem rc_start (w : World) (g n : Nat) : (rcW w g n).cell? ⟨w.heap.size, 0, none⟩ = some (.slice (some ⟨g, 0, none⟩) n n) ∧ MkB (w.heap.size + 1) n (fun _ => false) (rcW w g n) ∧ (rcW w g n).cell? ⟨w.heap.size + 1 + 1, 0, none⟩ = some (.slice (some ⟨w.heap.size + 1, 0, none⟩) n n) ∧ (rcW w g n).cell? ⟨w.heap.size + 1 + 1 + 1, 0, none⟩ = some .nilFunc ∧ (rcW w g n).frozen? ⟨w.heap.size + 1 + 1 + 1, 0, none⟩ = false ∧ (rcW w g n).heap.size = w.heap.size + 4 ∧ Below w.heap.size w (rcW w g n) := by
 unfold rcW
 have h1 := Zk w [.slice (some ⟨g, 0, none⟩) n n] 35 0 _ rfl
 generalize hA : w.alloc (.cells #[.slice (some ⟨g, 0, none⟩) n n] 35) = A
 have hA0 : Below w.heap.size w A := by rw [← hA]; exact Qh w _
 have hAs : A.heap.size = w.heap.size + 1 := by rw [← hA]; simp
 rw [hA] at h1; replace h1 : A.cell? ⟨w.heap.size, 0, none⟩ = some (.slice (some ⟨g, 0, none⟩) n n) := h1
 have h2 := MkB.start A n
 rw [hAs] at h2
 generalize hB : A.alloc (.cells (Array.replicate n (Value.bool false)) 4) = B at *
 have hB0 : Below A.heap.size A B := by rw [← hB]; exact Qh A _
 have hBs : B.heap.size = w.heap.size + 1 + 1 := by rw [← hB]; simp [hAs]
 have h3 := Zk B [.slice (some ⟨w.heap.size + 1, 0, none⟩) n n] 72 0 _ rfl
 rw [hBs] at h3
 generalize hC : B.alloc (.cells #[.slice (some ⟨w.heap.size + 1, 0, none⟩) n n] 72) = C at *
 have hC0 : Below B.heap.size B C := by rw [← hC]; exact Qh B _
 have hCs : C.heap.size = w.heap.size + 1 + 1 + 1 := by rw [← hC]; simp [hBs]
 replace h3 : C.cell? ⟨w.heap.size + 1 + 1, 0, none⟩ = some (.slice (some ⟨w.heap.size + 1, 0, none⟩) n n) := h3
 have h4 := Zk C [Value.nilFunc] 119 0 _ rfl
 rw [hCs] at h4
 have h5 := Qd (Qt C (.cells #[Value.nilFunc] 119) rfl) 0
 rw [hCs] at h5
 have hD0 := Qh C (.cells #[Value.nilFunc] 119)
 refine ⟨Qe hD0 (Qe hC0 (Qe hB0 h1)), (h2.keep hC0).keep hD0, Qe hD0 h3, h4, h5, by simp [hCs], ?_⟩
 exact ((hA0.trans (hB0.mono hA0.size)).trans (hC0.mono (by omega))).trans (hD0.mono (by omega))
theorem tt_row {B : Nat} {os : List Bk} {F : Nat → List Int} {W : World} (h : TtI B os F W) {i : Nat} {x : Bk} (hx : os[i]? = some x) (hF : F i = x.tt) : RowAt W Tt x.ta x.tcap x.tt.length (Qc x.tt) := by
 have hr := h.rows i x hx
 rw [hF] at hr
 obtain ⟨a, cap, e, hrow⟩ := row_own1 hr
 injection e with e1 e2 e3
 rw [e1, e3]
 exact hrow
theorem old_at {bs : List Bk} {i : Nat} {x : Bk} (hx : bs[i]? = some x) : oldTo bs i = x.tt := by
 unfold oldTo
 rw [List.getD_eq_getElem?_getD, hx]; rfl
theorem rc_made {w W : World} {g gm p1 p2 p3 B0 : Nat} {bs : List Bk} (hrow : RowAt w Tt (some ⟨g, 0, none⟩) bs.length bs.length (Qu bs)) (htos : TtI B0 bs (oldTo bs) w) (hb : Below w.heap.size w W) (hg : w.heap.size ≤ gm) (ne : p1 ≠ gm ∧ p2 ≠ gm ∧ p3 ≠ gm)
 (c1 : W.cell? ⟨p1, 0, none⟩ = some (.slice (some ⟨gm, 0, none⟩) bs.length bs.length)) (c2 : W.cell? ⟨p2, 0, none⟩ = some (.slice (some ⟨g, 0, none⟩) bs.length bs.length)) (c3 : W.cell? ⟨p3, 0, none⟩ = some (.func (.func 83) #[] #[.pointer (some ⟨p1, 0, none⟩), .pointer (some ⟨p2, 0, none⟩), .pointer (some ⟨p3, 0, none⟩)])) : RcF p1 p2 p3 gm g bs W :=
 ⟨c1, c2, c3, ne, ((row_old hrow).mono fun b hb' => by omega).below (Kps.of_below hb), fun x hx => by
  obtain ⟨i, hi⟩ := List.mem_iff_getElem?.1 hx
  exact ((row_old (tt_row htos hi (old_at hi))).mono fun b hb' => by omega).below (Kps.of_below hb)⟩
theorem unmet_all (n : Nat) (f : Nat → Bool) : Xh n f ≤ n := by
 unfold Xh
 have := List.length_filter_le (fun i => !f i) (List.range n)
 rw [List.length_range] at this
 exact this
theorem own_shape {W : World} {B : Nat} {e : TypeId} {c : Nat} {v : Value} {n : Nat} {xs : List Value} (h : W.ownsRow B e c v n xs) : ∃ a cap, v = .slice a n cap ∧ n ≤ cap ∧ cap ≤ 9223372036854775807 := by
 rcases h.2 with ⟨rfl, rfl⟩ | ⟨g, cap, cur, rfl, _, _, h1, h2, _⟩
 · exact ⟨none, 0, rfl, Nat.le_refl _, by omega⟩
 · exact ⟨_, cap, rfl, h1, h2⟩
/-- the numbers that are given so far -/
def nuF (f : Nat → Bool) (k : Nat) (b : Nat) : Int := if f b = true ∧ b < k then (numM f b : Int) else 0
def newTo (f : Nat → Bool) (n : Nat) (os : List Bk) : Nat → List Int := fun i => (os.getD i Bk0).tt.map fun t => nuF f n t.toNat
theorem nu_yes {f : Nat → Bool} {k : Nat} (h : f k = true) (b : Nat) : nuF f (k + 1) b = if b = k then (numM f k : Int) else nuF f k b := by
 unfold nuF
 by_cases e : b = k
 · subst e; rw [if_pos ⟨h, by omega⟩, if_pos rfl]
 · rw [if_neg e]
   by_cases e2 : f b = true ∧ b < k
   · rw [if_pos ⟨e2.1, by omega⟩, if_pos e2]
   · rw [if_neg e2, if_neg (fun h3 => e2 ⟨h3.1, by omega⟩)]
theorem nu_no {f : Nat → Bool} {k : Nat} (h : f k = false) (b : Nat) : nuF f (k + 1) b = nuF f k b := by
 unfold nuF
 by_cases e2 : f b = true ∧ b < k
 · rw [if_pos ⟨e2.1, by omega⟩, if_pos e2]
 · rw [if_neg e2, if_neg (fun h3 => ?_)]
   by_cases e : b = k
   · subst e; rw [h] at h3; cases h3.1
   · exact e2 ⟨h3.1, by omega⟩
theorem bk_one (x : Bk) : ∀ u ∈ x.vals, u.oneCell' = true := fun u hu => by
 unfold Bk.vals at hu
 simp only [List.mem_cons, List.not_mem_nil, or_false] at hu
 rcases hu with rfl | rfl | rfl | rfl <;> rfl
theorem InB.grown {g n : Nat} {f : Nat → Int} {W W' : World} {row : Option Nat} (h : InB g n f W) (hg : W.grownBy W' row) (hr : row ≠ some g) : InB g n f W' :=
 ⟨(hg.block g h.lt (fun e => hr e.symm)).trans h.ex⟩
end Go.Proofs.YthiiahlgncngoaaDoorRR.Fw
set_option linter.unusedVariables false
namespace Go.Proofs.YthiiahlgncngoaaDoorRR.Fw
open Go Go.RowKit
open Go.Proofs.YthiiahlgncngoaaDoorRR.Lx Go.Proofs.YthiiahlgncngoaaDoorRR.Tr Go.Proofs.YthiiahlgncngoaaDoorRR.Cd
theorem Frm.of_below {bs : List Bk} {W V : World} (h : Below W.heap.size W V) : Frm bs W V := ⟨h.os, h.tape, h.output, h.size, fun q hq _ => h.block q hq⟩
theorem Frm.trans {bs : List Bk} {W V U : World} (h : Frm bs W V) (k : Frm bs V U) : Frm bs W U :=
 ⟨k.os.trans h.os, k.tape.trans h.tape, k.output.trans h.output, Nat.le_trans h.size k.size, fun q hq hn => (k.block q (Nat.lt_of_lt_of_le hq h.size) hn).trans (h.block q hq hn)⟩
theorem Frm.set {bs : List Bk} {W V : World} (h : Frm bs W V) {q j : Nat} {x : Bk} (hx : x ∈ bs) (hq : (toV x).ownBlock = some q) (v : Value) : Frm bs W (V.setCell ⟨q, j, none⟩ v) :=
 h.trans ⟨rfl, rfl, rfl, by simp [World.setCell], fun i hi hn => Below.heap_setCell _ _ _ _ (fun e => by
  have e' : i = q := e
  subst e'
  exact hn x hx hq)⟩
theorem Frm.kps {bs : List Bk} {W V : World} (h : Frm bs W V) : Kps (fun b => ∀ x ∈ bs, (toV x).ownBlock ≠ some b) W V := fun b o v hb hc => by
 have := h.block b (World.block_lt_of_cell? _ _ hc) hb
 rw [World.cell?_of_block (w := W) this]
 exact hc
/-- a row of blocks of the call's own -/
theorem own_rowB {W : World} {B : Nat} {v : Value} {l : List Bk} (h : W.ownsRow B 42 4 v l.length (Qu l)) : ∃ a cap, v = .slice a l.length cap ∧ RowAt W (fun b => B ≤ b) a cap l.length (Qu l) := by
 rcases h.2 with ⟨rfl, h0⟩ | ⟨g, cap, cur, rfl, hB, hg, h1, h2, _, ht⟩
 · have hl : l = [] := List.eq_nil_of_length_eq_zero h0
   subst hl
   exact ⟨none, 0, rfl, row_none _ _⟩
 · refine ⟨some ⟨g, 0, none⟩, cap, rfl, h1, h2, fun e => (by cases e), fun j u hu => ⟨g, 0, rfl, hB, ?_⟩⟩
   rw [Nat.zero_add]
   have hjl : j < l.length * 4 := by rw [← bk_len]; exact (List.getElem?_eq_some_iff.1 hu).1
   rw [← ht, List.getElem?_take, if_pos hjl] at hu
   exact Qk hg (by simpa using hu)
/-- the lists of the blocks that stay -/
theorem TtI.pick {B : Nat} {bs : List Bk} {W : World} (f : Nat → Bool) (h : TtI B bs (oldTo bs) W) : TtI B (Zq f 0 bs) (oldTo (Zq f 0 bs)) W := by
 have key : ∀ (i : Nat) (x : Bk), (Zq f 0 bs)[i]? = some x → ∃ b, f b = true ∧ bs[b]? = some x ∧ numM f b = i := fun i x hx => by
  rw [← List.take_length (l := bs)] at hx
  obtain ⟨b, _, h1, h2, h3⟩ := pick_of bs.length (Nat.le_refl _) hx
  exact ⟨b, h1, h2, h3⟩
 refine ⟨fun i x hx => ?_, fun i j x y hij hx hy => ?_⟩
 · obtain ⟨b, _, hb, _⟩ := key i x hx
   have := h.rows b x hb
   rw [old_at hb] at this
   rw [old_at hx]
   exact this
 · obtain ⟨b, _, hb, e1⟩ := key i x hx
   obtain ⟨c, _, hc, e2⟩ := key j y hy
   exact h.apart b c x y (fun e => by subst e; omega) hb hc
theorem pick_mem {f : Nat → Bool} {bs : List Bk} {i : Nat} {x : Bk} (h : (Zq f 0 bs)[i]? = some x) : x ∈ bs := by
 rw [← List.take_length (l := bs)] at h
 obtain ⟨b, _, _, h2, _⟩ := pick_of bs.length (Nat.le_refl _) h
 exact List.mem_of_getElem? h2
theorem own_frm {bs : List Bk} {W V : World} {B : Nat} {e : TypeId} {c : Nat} {v : Value} {n : Nat} {xs : List Value} (h : W.ownsRow B e c v n xs) (hf : Frm bs W V) (hb : ∀ x ∈ bs, ∀ q, (toV x).ownBlock = some q → q < B) : V.ownsRow B e c v n xs :=
 ⟨h.1, h.2.imp id fun ⟨g, cap, cur, hv, hB, hg, hr⟩ => ⟨g, cap, cur, hv, hB, (hf.block g (Array.getElem?_eq_some_iff.1 hg).1 (fun x hx e => by have := hb x hx g e; omega)).trans hg, hr⟩⟩
def midTo (f : Nat → Bool) (n : Nat) (os : List Bk) (k j : Nat) : Nat → List Int := fun i => if i < k then newTo f n os i else if i = k then (newTo f n os i).take j ++ (oldTo os i).drop j else oldTo os i
theorem new_at {f : Nat → Bool} {n : Nat} {os : List Bk} {i : Nat} {x : Bk} (hx : os[i]? = some x) : newTo f n os i = x.tt.map fun t => nuF f n t.toNat := by
 unfold newTo
 rw [List.getD_eq_getElem?_getD, hx]; rfl
theorem mid_get {f : Nat → Bool} {n : Nat} {os : List Bk} {k j : Nat} {x : Bk} {y : Int} (hx : os[k]? = some x) (hy : x.tt[j]? = some y) : (midTo f n os k j k)[j]? = some y ∧ j < (midTo f n os k j k).length := by
 have hj : j < x.tt.length := (List.getElem?_eq_some_iff.1 hy).1
 have he : midTo f n os k j k = ((x.tt.map fun t => nuF f n t.toNat).take j) ++ x.tt.drop j := by
  unfold midTo
  rw [if_neg (by omega), if_pos rfl, new_at hx, old_at hx]
 have h1 : (midTo f n os k j k)[j]? = some y := by
  rw [he, List.getElem?_append_right (by simp; omega), List.length_take, List.length_map, show j - min j x.tt.length = 0 by omega, List.getElem?_drop, Nat.add_zero]
  exact hy
 exact ⟨h1, (List.getElem?_eq_some_iff.1 h1).1⟩
theorem mid_set {f : Nat → Bool} {n : Nat} {os : List Bk} {k j : Nat} {x : Bk} {y : Int} (hx : os[k]? = some x) (hy : x.tt[j]? = some y) (i : Nat) : (if i = k then (midTo f n os k j k).set j (nuF f n y.toNat) else midTo f n os k j i) = midTo f n os k (j + 1) i := by
 have hj : j < x.tt.length := (List.getElem?_eq_some_iff.1 hy).1
 by_cases e : i = k
 · subst e
   rw [if_pos rfl]
   unfold midTo
   rw [if_neg (by omega), if_pos rfl, if_neg (by omega), if_pos rfl, new_at hx, old_at hx]
   apply List.ext_getElem?
   intro q
   rw [List.getElem?_set]
   have hd : x.tt.drop j = y :: x.tt.drop (j + 1) := by rw [List.drop_eq_getElem_cons hj]; congr 1; exact (List.getElem?_eq_some_iff.1 hy).2
   have ht : (x.tt.map fun t => nuF f n t.toNat).take (j + 1) = (x.tt.map fun t => nuF f n t.toNat).take j ++ [nuF f n y.toNat] := by
    rw [List.take_add_one, List.getElem?_map, hy]; rfl
   have hl : ((x.tt.map fun t => nuF f n t.toNat).take j).length = j := by simp; omega
   rw [hd, ht]
   generalize (x.tt.map fun t => nuF f n t.toNat).take j = A at hl ⊢
   by_cases eq : j = q
   · subst eq
     rw [if_pos rfl, if_pos (by simp; omega), List.append_assoc, List.getElem?_append_right (by omega), hl, Nat.sub_self]
     rfl
   · rw [if_neg eq]
     by_cases lt : q < j
     · rw [List.append_assoc, List.getElem?_append_left (by omega), List.getElem?_append_left (by omega)]
     · obtain ⟨d, rfl⟩ : ∃ d, q = j + (d + 1) := ⟨q - j - 1, by omega⟩
       rw [List.append_assoc, List.getElem?_append_right (by omega), List.getElem?_append_right (by omega), hl, Nat.add_sub_cancel_left]
       rfl
 · rw [if_neg e]
   unfold midTo
   rw [if_neg e, if_neg e]
theorem mid_zero {f : Nat → Bool} {n : Nat} {os : List Bk} {k : Nat} (i : Nat) : (if i < k then newTo f n os i else oldTo os i) = midTo f n os k 0 i := by
 unfold midTo
 by_cases h : i < k
 · rw [if_pos h, if_pos h]
 · rw [if_neg h, if_neg h]
   split <;> simp
theorem mid_end {f : Nat → Bool} {n : Nat} {os : List Bk} {k : Nat} {x : Bk} (hx : os[k]? = some x) (i : Nat) : midTo f n os k x.tt.length i = if i < k + 1 then newTo f n os i else oldTo os i := by
 unfold midTo
 by_cases h : i < k
 · rw [if_pos h, if_pos (by omega)]
 · rw [if_neg h]
   by_cases e : i = k
   · subst e
     rw [if_pos rfl, if_pos (by omega), new_at hx, old_at hx, List.drop_length, List.append_nil, List.take_of_length_le (by simp)]
   · rw [if_neg e, if_neg (by omega)]
end Go.Proofs.YthiiahlgncngoaaDoorRR.Fw
set_option linter.unusedVariables false
set_option linter.unusedSimpArgs false
namespace Go.Proofs.YthiiahlgncngoaaDoorRR.Fw
open Go Go.RowKit
open Go.Proofs.YthiiahlgncngoaaDoorRR.Lx Go.Proofs.YthiiahlgncngoaaDoorRR.Tr Go.Proofs.YthiiahlgncngoaaDoorRR.Cd
theorem reached_c (g B0 : Nat) (bs : List Bk) (w : World) (hrow : RowAt w Tt (some ⟨g, 0, none⟩) bs.length bs.length (Qu bs)) (htos : TtI B0 bs (oldTo bs) w) (hto : ∀ b ∈ bs, ∀ t ∈ b.tt, 0 ≤ t ∧ t < (bs.length : Int)) (hn1 : 0 < bs.length) (hn : bs.length ≤ 65537) :
 Calls Tryd.prog 52 #[.slice (some ⟨g, 0, none⟩) bs.length bs.length] w fun e w' => ∃ v, e = .returned v ∧ w'.ownsRow w.heap.size 42 4 v (Zq (metF bs) 0 bs).length (Qu (Zq (metF bs) 0 bs)) ∧ TtI B0 (Zq (metF bs) 0 bs) (newTo (metF bs) bs.length (Zq (metF bs) 0 bs)) w' ∧ Frm bs w w' := by
 obtain ⟨hc1, hc2⟩ := Q2 hrow
 have hmk := make_bb bs.length (by omega) (w.alloc (.cells #[.slice (some ⟨g, 0, none⟩) bs.length bs.length] 35))
 go_enter Tryd.func52, Tryd.ntmps52
 go_upto_region 3 with fail
 obtain ⟨s1, s2, s3, s4, s5, s6, s7⟩ := rc_start w g bs.length
 generalize hW3 : (((w.alloc (.cells #[.slice (some ⟨g, 0, none⟩) bs.length bs.length] 35)).alloc (.cells (Array.replicate bs.length (Value.bool false)) 4)).alloc (.cells #[.slice (some ⟨w.heap.size + 1, 0, none⟩) bs.length bs.length] 72)).alloc (.cells #[Value.nilFunc] 119) = W3 at *
 unfold rcW at s1 s2 s3 s4 s5 s6 s7
 rw [hW3] at s1 s2 s3 s4 s5 s6 s7
 clear hW3 hmk
 have hl3 : w.heap.size + 1 + 1 + 1 < W3.heap.size := by omega
 have hG4 := Q9 W3 (w.heap.size + 1 + 1 + 1) 0 (.func (.func 83) #[] #[.pointer (some ⟨w.heap.size + 1 + 1, 0, none⟩), .pointer (some ⟨w.heap.size, 0, none⟩), .pointer (some ⟨w.heap.size + 1 + 1 + 1, 0, none⟩)])
 have hB4 := Lh (s7.grown hG4 s7.size (fun k e => by cases e; omega))
 have c1 := Zy hG4 (by omega) s3
 have c2 := Zy hG4 (by omega) s1
 have c3 := World.cell?_setCell_same W3 _ (.func (.func 83) #[] #[.pointer (some ⟨w.heap.size + 1 + 1, 0, none⟩), .pointer (some ⟨w.heap.size, 0, none⟩), .pointer (some ⟨w.heap.size + 1 + 1 + 1, 0, none⟩)]) s4
 have hM4 : Hid (MkB (w.heap.size + 1) bs.length (fun _ => false) (W3.setCell ⟨w.heap.size + 1 + 1 + 1, 0, none⟩ (.func (.func 83) #[] #[.pointer (some ⟨w.heap.size + 1 + 1, 0, none⟩), .pointer (some ⟨w.heap.size, 0, none⟩), .pointer (some ⟨w.heap.size + 1 + 1 + 1, 0, none⟩)]))) := Lh (s2.grown hG4 (fun e => by injection e with e; omega))
 clear hG4
 go_upto_region 4 with fail
 generalize hW4 : W3.setCell ⟨w.heap.size + 1 + 1 + 1, 0, none⟩ (.func (.func 83) #[] #[.pointer (some ⟨w.heap.size + 1 + 1, 0, none⟩), .pointer (some ⟨w.heap.size, 0, none⟩), .pointer (some ⟨w.heap.size + 1 + 1 + 1, 0, none⟩)]) = W4 at *
 clear hW4 s1 s2 s3 s4 s5 s6 s7 hl3
 have hRc := rc_made (gm := w.heap.size + 1) hrow htos hB4.out (by omega) (by omega) c1 c2 c3
 have hcome := Lh (come_c _ _ _ _ _ bs hto bs.length (fun _ => false) 0 W4 hRc hM4.out (unmet_all _ _) hn1)
 replace hRc := Lh hRc
 go_wp2_with fail
 refine hcome.out.mono ?_
 rintro e W5 ⟨rfl, hg5, hM5⟩
 have hR5 := Lh (hRc.out.grown hg5)
 have hb5 := Lh (hB4.out.grown hg5 hB4.out.size (fun k e => by cases e; omega))
 replace hM5 : MkB (w.heap.size + 1) bs.length (metF bs) W5 := hM5
 replace hM5 := Lh hM5
 have hrow5 := Lh (fun V (hv : Below W5.heap.size W5 V) => hrow.below (Kps.of_below (hb5.out.trans (hv.mono hb5.out.size))))
 have hmk := make_in bs.length (by omega) W5
 have hN0 := Lh (InB.start W5 bs.length)
 have hB5 := Lh (Qh W5 (.cells (Array.replicate bs.length (.int .i64 0)) 3))
 have hMk := Lh (fun V (hv : Below W5.heap.size W5 V) => hM5.out.keep hv)
 have hc1k := Lh (fun V (hv : Below W5.heap.size W5 V) => Qe hv hR5.out.c1)
 have hc2k := Lh (fun V (hv : Below W5.heap.size W5 V) => Qe hv hR5.out.c2)
 have c1' := hR5.out.c1
 have c2' := hR5.out.c2
 have hlw5 : w.heap.size < W5.heap.size := World.block_lt_of_cell? _ _ c2'
 obtain ⟨i0, hi0, hz0, hz1, hz2⟩ := info_bk4
 have hp0 : Hid (Zq (metF bs) 0 (bs.take 0) = []) := Lh (by simp [Zq])
 have hnu0 : Hid (∀ b, nuF (metF bs) 0 b = 0) := Lh (fun b => by unfold nuF; rw [if_neg (by omega)])
 generalize hmet : metF bs = met at *
 clear hcome hM4 hB4 hRc c1 c2 c3 hg5
 go_wp2_with fail
 go_loopw [6, 24] (fun v i wr => ∃ k : Nat, k ≤ bs.length ∧ i = .int .i64 k ∧ Hid (wr.ownsRow (W5.heap.size + 1) 42 4 v (Zq met 0 (bs.take k)).length (Qu (Zq met 0 (bs.take k)))) ∧ Hid (InB W5.heap.size bs.length (nuF met k) wr) ∧ Hid (Below W5.heap.size W5 wr) ∧ Hid (W5.heap.size + 1 ≤ wr.heap.size)) (fun _ i _ => bs.length - (intOf i).toNat)
 case atStart => exact ⟨0, Nat.zero_le _, rfl, Lh (by rw [hp0.out]; exact World.ownsRow_nil _ _ _ _), Lh (hN0.out.cong fun b _ => (hnu0.out b).symm), hB5, Lh (by simp)⟩
 case round =>
  obtain ⟨k, hk, rfl, hown, hN, hb, hBS⟩ := hrel
  by_cases hlt : k < bs.length
  · obtain ⟨x, hx⟩ : ∃ x, bs[k]? = some x := ⟨_, List.getElem?_eq_getElem hlt⟩
    obtain ⟨b', off', ha', _, d0, d1, d2, d3⟩ := X4 (hrow5.out _ hb.out) k x hx
    cases ha'
    simp only [Nat.zero_add] at d0 d1 d2 d3
    have hgl : g < wr.heap.size := World.block_lt_of_cell? _ _ d0
    have e1 := hc1k.out _ hb.out
    have e1l := World.block_lt_of_cell? _ _ e1
    have hMw := hMk.out _ hb.out
    obtain ⟨t1, t2⟩ := hMw.get hlt
    have hMl := hMw.lt
    obtain ⟨n1, n2⟩ := hN.out.get hlt
    have hNl := hN.out.lt
    obtain ⟨va, vcap, rfl, hv1, hv2⟩ := own_shape hown.out
    have hpl : Hid ((Zq met 0 (bs.take k)).length = numM met k) := Lh (pick_len met bs k hk)
    have hpl2 : (Zq met 0 (bs.take k)).length ≤ 65537 := by rw [hpl.out]; have := numM_le_self met k; omega
    have hi0' : (0 : Int) ≤ (k : Int) := by omega
    have hi1 : (k : Int) < (bs.length : Int) := by omega
    have hpt := Lh (pick_take (f := met) hx)
    have hbe := Lh (Qh wr (.cells #[.slice x.pa x.phis.length x.pcap, .slice x.ca x.code.length x.ccap, .slice x.fa x.fm.length x.fcap, .slice x.ta x.tt.length x.tcap] 42))
    have hq := Lh (box4 wr x)
    have hb1 := Lh (hb.out.trans (hbe.out.mono hb.out.size))
    have hN1 := Lh (hN.out.keep hbe.out)
    have hown1 := Lh (Qn hown.out hbe.out)
    clear hx hMw hown hN hb
    generalize Zq met 0 (bs.take k) = P at *
    cases hmk' : met k
    · rw [hmk'] at t1
      rw [hmk', if_neg (by simp), List.append_nil] at hpt
      have hN2 := Lh (hN1.out.cong (f' := nuF met (k + 1)) fun b _ => (nu_no hmk' b).symm)
      have hBS2 := Lh (Nat.le_trans hBS.out hbe.out.size)
      clear hpl hpl2 hmk' hN1 hq hbe hBS
      go_wp2_with fail
      go_roundw
      case rel => exact ⟨k + 1, by omega, by go_num, Lh (by rw [hpt.out]; exact hown1.out), hN2, hb1, hBS2⟩
      case measure => simp [intOf]; omega
    · rw [hmk'] at t1
      rw [hmk', if_pos rfl] at hpt
      have hN2 := Lh (hN1.out.set hlt (P.length : Int) (nuF met (k + 1)) (fun b _ => by rw [nu_yes hmk' b, hpl.out]))
      have hb2 := Lh (hb1.out.setCell (p := ⟨W5.heap.size, k, none⟩) (Nat.le_refl _) (.int .i64 (P.length : Int)))
      have hown2 := Lh (ownsRow_setCell_other hown1.out (a := ⟨W5.heap.size, k, none⟩) (show _ ≠ some W5.heap.size from Yb hown1.out (Nat.lt_succ_self _)) (.int .i64 (P.length : Int)))
      have hx2 : Hid (∀ V, RowAt V Tt (some ⟨wr.heap.size, 0, none⟩) 1 1 x.vals → True) := Lh (fun _ _ => trivial)
      clear hN1 hown1 hb1 hpl hmk'
      go_upto_region 12 with fail
      have hbx6 : Hid (((wr.alloc (.cells #[.slice x.pa x.phis.length x.pcap, .slice x.ca x.code.length x.ccap, .slice x.fa x.fm.length x.fcap, .slice x.ta x.tt.length x.tcap] 42)).setCell ⟨W5.heap.size, k, none⟩ (.int .i64 (P.length : Int))).cell? ⟨wr.heap.size, 0, none⟩ = some (.slice x.pa x.phis.length x.pcap) ∧ ((wr.alloc (.cells #[.slice x.pa x.phis.length x.pcap, .slice x.ca x.code.length x.ccap, .slice x.fa x.fm.length x.fcap, .slice x.ta x.tt.length x.tcap] 42)).setCell ⟨W5.heap.size, k, none⟩ (.int .i64 (P.length : Int))).cell? ⟨wr.heap.size, 1, none⟩ = some (.slice x.ca x.code.length x.ccap) ∧ ((wr.alloc (.cells #[.slice x.pa x.phis.length x.pcap, .slice x.ca x.code.length x.ccap, .slice x.fa x.fm.length x.fcap, .slice x.ta x.tt.length x.tcap] 42)).setCell ⟨W5.heap.size, k, none⟩ (.int .i64 (P.length : Int))).cell? ⟨wr.heap.size, 2, none⟩ = some (.slice x.fa x.fm.length x.fcap) ∧ ((wr.alloc (.cells #[.slice x.pa x.phis.length x.pcap, .slice x.ca x.code.length x.ccap, .slice x.fa x.fm.length x.fcap, .slice x.ta x.tt.length x.tcap] 42)).setCell ⟨W5.heap.size, k, none⟩ (.int .i64 (P.length : Int))).cell? ⟨wr.heap.size, 3, none⟩ = some (.slice x.ta x.tt.length x.tcap)) := Lh (by
       obtain ⟨q0, q1, q2, q3⟩ := hq.out
       have hgr := Q9 (wr.alloc (.cells #[.slice x.pa x.phis.length x.pcap, .slice x.ca x.code.length x.ccap, .slice x.fa x.fm.length x.fcap, .slice x.ta x.tt.length x.tcap] 42)) W5.heap.size k (.int .i64 (P.length : Int))
       have hne : wr.heap.size ≠ W5.heap.size := by omega
       exact ⟨Zy hgr hne q0, Zy hgr hne q1, Zy hgr hne q2, Zy hgr hne q3⟩)
      have hBS2 : Hid (W5.heap.size + 1 ≤ ((wr.alloc (.cells #[.slice x.pa x.phis.length x.pcap, .slice x.ca x.code.length x.ccap, .slice x.fa x.fm.length x.fcap, .slice x.ta x.tt.length x.tcap] 42)).setCell ⟨W5.heap.size, k, none⟩ (.int .i64 (P.length : Int))).heap.size) := Lh (by have := hBS.out; simp [World.setCell]; omega)
      rw [World.setCell_alloc_past (w := wr) (.cells #[.slice x.pa x.phis.length x.pcap, .slice x.ca x.code.length x.ccap, .slice x.fa x.fm.length x.fcap, .slice x.ta x.tt.length x.tcap] 42) _ _ _ hNl] at hbx6 hBS2 hN2 hb2 hown2
      generalize hW6 : (wr.setCell ⟨W5.heap.size, k, none⟩ (.int .i64 (P.length : Int))).alloc (.cells #[.slice x.pa x.phis.length x.pcap, .slice x.ca x.code.length x.ccap, .slice x.fa x.fm.length x.fcap, .slice x.ta x.tt.length x.tcap] 42) = W6 at *
      clear hW6 hq hbe hx2 d0 d1 d2 d3 e1 t1 t2 n1 n2
      obtain ⟨q0, q1, q2, q3⟩ := hbx6.out
      have hq6 := World.block_lt_of_cell? _ _ q0
      clear hbx6
      go_wp2_with (at_builtin; refine wpList_append_own_at _ rfl _ _ 35 rfl (W5.heap.size + 1) 42 i0 _ 4 96 Tryd.underlying35 hi0 hz0 hz1 hz2 rfl (by decide) _ _ _ rfl (Qn hown2.out (Qh _ _)) _ 1 1 [.slice x.pa x.phis.length x.pcap, .slice x.ca x.code.length x.ccap, .slice x.fa x.fm.length x.fcap, .slice x.ta x.tt.length x.tcap] rfl rfl (Xy _ _ _ _ (by first | rfl | simp)) (bk_one x) ?c1 ?c2 ?c3 ?_)
      case c1 => unfold maxLen; omega
      case c2 => omega
      case c3 => have := hBS2.out; simp; omega
      intro v' w3 hown3 hg3 _ _
      have hown4 : Hid (w3.ownsRow (W5.heap.size + 1) 42 4 v' (Zq met 0 (bs.take (k + 1))).length (Qu (Zq met 0 (bs.take (k + 1))))) := Lh (by
       rw [hpt.out, List.length_append]
       have he : Qu (P ++ [x]) = Qu P ++ [.slice x.pa x.phis.length x.pcap, .slice x.ca x.code.length x.ccap, .slice x.fa x.fm.length x.fcap, .slice x.ta x.tt.length x.tcap] := by unfold Qu; simp [Bk.vals]
       rw [he]; exact hown3)
      have hN4 := Lh ((hN2.out.keep (Qh _ _)).grown hg3 (Yb hown2.out (Nat.lt_succ_self _)))
      have hb4 : Hid (Below W5.heap.size W5 w3) := Lh ((hb2.out.alloc hb2.out.size _).grown hg3 (by have := hb2.out.size; simp; omega) (fun q e => by have := (hown2.out.lt q e).1; omega))
      have hBS4 : Hid (W5.heap.size + 1 ≤ w3.heap.size) := Lh (by have := hg3.size; have := hBS2.out; simp at *; omega)
      clear hown3 hg3 hown2 hN2 hb2 hpt hBS hBS2
      go_wp2_with fail
      go_roundw
      case rel => exact ⟨k + 1, by omega, by go_num, hown4, hN4, hb4, hBS4⟩
      case measure => simp [intOf]; omega
  · have hk2 : k = bs.length := by omega
    subst hk2
    rw [List.take_length] at hown
    obtain ⟨P, hP⟩ : ∃ P, Zq met 0 bs = P := ⟨_, rfl⟩
    have hPm : Hid (∀ (i : Nat) (x : Bk), P[i]? = some x → x ∈ bs) := Lh (fun i x h => by rw [← hP] at h; exact pick_mem h)
    have htW : Hid (TtI B0 P (oldTo P) wr) := Lh (by rw [← hP]; exact (htos.keep (hb5.out.trans (hb.out.mono hb5.out.size))).pick met)
    rw [hP] at hown
    have hPl : P.length ≤ 65537 := by rw [← hP]; have := pick_len met bs bs.length (Nat.le_refl _); rw [List.take_length] at this; rw [this]; have := numM_le_self met bs.length; omega
    obtain ⟨va, vcap, rfl, hro⟩ := own_rowB hown.out
    obtain ⟨hv1, hv2⟩ := Q2 hro
    have hTl : Hid (∀ x ∈ bs, ∀ q, (toV x).ownBlock = some q → q < w.heap.size) := Lh (fun x hx q hq => by
     obtain ⟨i, hi⟩ := List.mem_iff_getElem?.1 hx
     exact ((htos.rows i x hi).lt q hq).2)
    have hroK := Lh (fun V (hv : Frm bs wr V) => (hro.mono (S' := fun b => ∀ x ∈ bs, (toV x).ownBlock ≠ some b) (fun b hb x hx e => by have := hTl.out x hx b e; omega)).below hv.kps)
    have hnK := Lh (fun V (hv : Frm bs wr V) b (h : b < bs.length) => hv.kps W5.heap.size b _ (fun x hx e => by have := hTl.out x hx _ e; omega) (hN.out.get h).1)
    have hNlt := hN.out.lt
    clear hMk hc1k hc2k hrow5 hp0 hnu0 hmk hN0 hB5 hM5 hR5 c1' c2' hro
    go_wp2_with fail
    go_loopw [45] (fun i wq => ∃ k : Nat, k ≤ P.length ∧ i = .int .i64 k ∧ Hid (TtI B0 P (fun i => if i < k then newTo met bs.length P i else oldTo P i) wq) ∧ Hid (Frm bs wr wq)) (fun i _ => P.length - (intOf i).toNat)
    case atStart => exact ⟨0, Nat.zero_le _, rfl, Lh (htW.out.cong fun i _ => by simp), Lh (Frm.of_below (Below.refl _ _))⟩
    case round =>
     obtain ⟨k, hk, rfl, hT, hF⟩ := hrel
     by_cases hlt : k < P.length
     · obtain ⟨x, hx⟩ : ∃ x, P[k]? = some x := ⟨_, List.getElem?_eq_getElem hlt⟩
       have hxm := hPm.out k x hx
       obtain ⟨b', off', ha', _, d0, d1, d2, d3⟩ := X4 (hroK.out _ hF.out) k x hx
       have hbl : b' < wr.heap.size := World.block_lt_of_cell? _ _ d0
       have hi0' : (0 : Int) ≤ (k : Int) := by omega
       have hi1 : (k : Int) < (P.length : Int) := by omega
       have hbe := Lh (Qh wr (.cells #[.slice x.pa x.phis.length x.pcap, .slice x.ca x.code.length x.ccap, .slice x.fa x.fm.length x.fcap, .slice x.ta x.tt.length x.tcap] 42))
       have hq := box4 wr x
       obtain ⟨q0, q1, q2, q3⟩ := hq
       have hF1 := Lh (hF.out.trans (Frm.of_below hbe.out))
       have hT1 := Lh ((hT.out.keep hbe.out).cong (F' := midTo met bs.length P k 0) fun i _ => mid_zero i)
       have hlw6 : w.heap.size ≤ wr.heap.size := Nat.le_trans hb5.out.size (Nat.le_trans hb.out.size hF.out.size)
       obtain ⟨xa, xcap, exa, hl1, hl2⟩ := own_shape (hT.out.rows k x hx)
       have hl1' : x.tt.length ≤ x.tcap ∧ x.tcap ≤ 9223372036854775807 := by
        injection exa with e1 e2 e3
        rw [e3]; exact ⟨hl1, hl2⟩
       obtain ⟨hm1, hm2⟩ := hl1'
       have hme := Lh (fun i => mid_end (f := met) (n := bs.length) hx i)
       have htx := Lh (hto x hxm)
       rw [ha']
       clear hT hF exa hl1 hl2
       go_upto_region 17 with fail
       generalize hW7 : wr.alloc (.cells #[.slice x.pa x.phis.length x.pcap, .slice x.ca x.code.length x.ccap, .slice x.fa x.fm.length x.fcap, .slice x.ta x.tt.length x.tcap] 42) = W7 at *
       have hl7 : wr.heap.size < W7.heap.size := World.block_lt_of_cell? _ _ q0
       clear hW7 d0 d1 d2 d3 q0 q1 q2
       have hbxK := Lh (fun V (hv : Frm bs W7 V) => hv.kps wr.heap.size 3 _ (fun x hx e => by have := hTl.out x hx _ e; omega) q3)
       have hnK7 := Lh (fun V (hv : Frm bs W7 V) b h => hnK.out V (hF1.out.trans hv) b h)
       generalize wr.heap.size = bx at *
       have hget := Lh (fun V j (m : Nat) (hT : TtI B0 P (midTo met bs.length P k j) V) (hy : x.tt[j]? = some (m : Int)) => (⟨hT.get hx (mid_get hx hy).1, fun q hq => (hT.set (nuF met bs.length m) hx hq (mid_get hx hy).2).cong fun i _ => mid_set hx hy i⟩ : (∃ q, x.ta = some ⟨q, 0, none⟩ ∧ V.cell? ⟨q, j, none⟩ = some (.int .i64 (m : Int)) ∧ V.frozen? ⟨q, j, none⟩ = false ∧ B0 ≤ q ∧ q < V.heap.size ∧ (midTo met bs.length P k j k).length = x.tt.length) ∧ ∀ q, x.ta = some ⟨q, 0, none⟩ → TtI B0 P (midTo met bs.length P k (j + 1)) (V.setCell ⟨q, j, none⟩ (.int .i64 (nuF met bs.length m)))))
       have hset := Lh (fun V q j v (hF : Frm bs W7 V) (hq : x.ta = some ⟨q, 0, none⟩) => hF.set (j := j) hxm (q := q) (by unfold toV; rw [hq]; rfl) v)
       generalize x.ta = xta at *
       go_wp2_with fail
       go_loopw [52] (fun i wq => ∃ j : Nat, j ≤ x.tt.length ∧ i = .int .i64 j ∧ Hid (TtI B0 P (midTo met bs.length P k j) wq) ∧ Hid (Frm bs W7 wq)) (fun i _ => x.tt.length - (intOf i).toNat)
       case atStart => exact ⟨0, Nat.zero_le _, rfl, hT1, Lh (Frm.of_below (Below.refl _ _))⟩
       case round =>
        obtain ⟨j, hj, rfl, hTj, hFj⟩ := hrel
        by_cases hjt : j < x.tt.length
        · obtain ⟨y, hy⟩ : ∃ y, x.tt[j]? = some y := ⟨_, List.getElem?_eq_getElem hjt⟩
          have hyr := htx.out y (List.mem_of_getElem? hy)
          obtain ⟨m, rfl⟩ : ∃ m : Nat, y = m := ⟨y.toNat, by omega⟩
          obtain ⟨⟨q, hqa, t1, t2, hB, hql, _⟩, hTs⟩ := hget.out wr j m hTj.out hy
          have hT2 := Lh (hTs q hqa)
          have hF2 := Lh (hset.out wr q j (.int .i64 (nuF met bs.length m)) hFj.out hqa)
          have e3 := hbxK.out wr hFj.out
          have n5 := hnK7.out wr hFj.out m (by omega)
          have hj0 : (0 : Int) ≤ (j : Int) := by omega
          have hj1 : (j : Int) < (x.tt.length : Int) := by omega
          have hm0 : (0 : Int) ≤ (m : Int) := by omega
          have hmn : (m : Int) < (bs.length : Int) := by omega
          subst hqa
          clear hTs hget hset hbxK hnK7 hyr hy hTj hFj
          go_upto_region 20 with fail
          go_region
          go_wp2_with fail
          go_roundw
          case rel => exact ⟨j + 1, by omega, by go_num, Lh (hT2.out.keep ((Below.refl _ _).drew)), Lh (hF2.out.trans (Frm.of_below ((Below.refl _ _).drew)))⟩
          case measure => simp [intOf]; omega
        · have hj2 : j = x.tt.length := by omega
          subst hj2
          have hT2 := Lh (hTj.out.cong (F' := fun i => if i < k + 1 then newTo met bs.length P i else oldTo P i) fun i _ => hme.out i)
          have hF2 := Lh (hF1.out.trans hFj.out)
          clear hTj hFj hget hset hbxK hnK7
          go_wp2_with fail
          go_roundw
          case rel => exact ⟨k + 1, by omega, by go_num, hT2, hF2⟩
          case measure => simp [intOf]; omega
     · have hk2 : k = P.length := by omega
       subst hk2
       go_wp2_with fail
       go_ret
       rw [hmet, hP]
       exact ⟨_, rfl, Xc (own_frm hown.out hF.out (fun x hx q hq => by have := hTl.out x hx q hq; omega)) (by omega), hT.out.cong fun i hi => by rw [if_pos hi], (Frm.of_below (hb5.out.trans (hb.out.mono hb5.out.size))).trans hF.out⟩
end Go.Proofs.YthiiahlgncngoaaDoorRR.Fw
