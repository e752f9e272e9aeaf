/- What is met is the least that is closed; marks in a block, counted. Conditions: none. -/
import Derived.Test.YthiiahlgncngoaaDoorRRJM11
set_option maxHeartbeats 16000000
set_option maxRecDepth 100000
set_option linter.unusedVariables false
namespace Go.Proofs.YthiiahlgncngoaaDoorRR.Fw
open Go Go.RowKit
open Go.Proofs.YthiiahlgncngoaaDoorRR.Lx Go.Proofs.YthiiahlgncngoaaDoorRR.Tr Go.Proofs.YthiiahlgncngoaaDoorRR.Cd
theorem visit_least (S : Nat → List Int) (c : Nat → Bool) (hc : ∀ i, c i = true → ∀ t ∈ S i, c t.toNat = true) : ∀ (q : Nat) (f : Nat → Bool) (b : Nat), (∀ i, f i = true → c i = true) → c b = true → ∀ i, Xk q S f b i = true → c i = true := by
 intro q
 induction q with
 | zero => intro f b hf _ i hi; exact hf i hi
 | succ q ih =>
   intro f b hf hb i hi
   unfold Xk at hi
   split at hi
   · exact hf i hi
   · have key : ∀ (l : List Int) (g : Nat → Bool), (∀ t ∈ l, c t.toNat = true) → (∀ i, g i = true → c i = true) → ∀ i, l.foldl (fun f t => Xk q S f t.toNat) g i = true → c i = true := by
      intro l
      induction l with
      | nil => intro g _ hg i hi; exact hg i hi
      | cons y r ihr =>
        intro g hl hg i hi
        exact ihr (Xk q S g y.toNat) (fun t ht => hl t (by simp [ht])) (ih g y.toNat hg (hl y (by simp))) i hi
     refine key (S b) _ (hc b hb) (fun i hi => ?_) i hi
     split at hi
     · rename_i e; rw [e]; exact hb
     · exact hf i hi
/-- what is closed, holds block 0, and nothing that is not met, is what is met -/
theorem met_is {bs : List Bk} {c : Nat → Bool} (h0 : c 0 = true) (hc : ∀ (i : Nat) (x : Bk), bs[i]? = some x → c i = true → ∀ t ∈ x.tt, c t.toNat = true) (hs : ∀ i, c i = true → metF bs i = true) : c = metF bs := by
 funext i
 cases hm : metF bs i
 · cases hci : c i
   · rfl
   · rw [hs i hci] at hm; cases hm
 · refine visit_least (toF bs) c (fun i hi t ht => ?_) bs.length (fun _ => false) 0 (fun i h => by cases h) h0 i hm
   unfold toF at ht
   rw [List.getD_eq_getElem?_getD] at ht
   cases hx : bs[i]? with
   | none => rw [hx] at ht; simp [Bk0] at ht
   | some x => rw [hx] at ht; exact hc i x hx hi t ht
/-- how many marks are not set, in a block of memory -/
def bitOf (v : Option Value) : Bool := match v with | some (.bool b) => b | _ => false
def unmW (g n : Nat) (W : World) : Nat := Xh n fun i => bitOf (W.cell? ⟨g, i, none⟩)
theorem unmet_cong (n : Nat) {f f' : Nat → Bool} (h : ∀ i, i < n → f i = f' i) : Xh n f = Xh n f' := by
 unfold Xh
 congr 1
 refine List.filter_congr fun i hi => ?_
 rw [h i (List.mem_range.1 hi)]
theorem MkB.unm {g n : Nat} {f : Nat → Bool} {W : World} (h : MkB g n f W) : unmW g n W = Xh n f := by
 unfold unmW
 refine unmet_cong n fun i hi => ?_
 rw [(h.get hi).1]
 rfl
/-- the numbers of those that are met, rising -/
def metL (f : Nat → Bool) (k : Nat) : List Int := ((List.range k).filter f).map Int.ofNat
theorem metL_yes {f : Nat → Bool} {k : Nat} (h : f k = true) : metL f (k + 1) = metL f k ++ [(k : Int)] := by
 unfold metL
 rw [List.range_succ, List.filter_append, List.map_append]
 simp [h]
theorem metL_no {f : Nat → Bool} {k : Nat} (h : f k = false) : metL f (k + 1) = metL f k := by
 unfold metL
 rw [List.range_succ, List.filter_append, List.map_append]
 simp [h]
theorem metL_len (f : Nat → Bool) (k : Nat) : (metL f k).length = numM f k := by unfold metL numM; simp
end Go.Proofs.YthiiahlgncngoaaDoorRR.Fw
set_option linter.unusedVariables false
set_option linter.unusedSimpArgs false
namespace Go.Proofs.YthiiahlgncngoaaDoorRR.Fw
open Go Go.RowKit
open Go.Proofs.YthiiahlgncngoaaDoorRR.Lx Go.Proofs.YthiiahlgncngoaaDoorRR.Tr Go.Proofs.YthiiahlgncngoaaDoorRR.Cd
/-- what the marks are in the midst of a round: f0 at its start, u0 of them unset; m: was one set? -/
structure RdI (bs : List Bk) (g : Nat) (u0 : Nat) (m : Bool) (f : Nat → Bool) (k : Nat) (W : World) : Prop where
 mks : MkB g bs.length f W
 zero : f 0 = true
 sound : ∀ i, f i = true → metF bs i = true
 le : Xh bs.length f ≤ u0
 less : m = true → Xh bs.length f < u0
 shut : m = false → ∀ (i : Nat) (x : Bk), i < k → bs[i]? = some x → f i = true → ∀ t ∈ x.tt, f t.toNat = true
/-- in the midst of block k -/
structure RdJ (bs : List Bk) (g : Nat) (u0 : Nat) (m : Bool) (f : Nat → Bool) (k j : Nat) (x : Bk) (W : World) : Prop where
 i : RdI bs g u0 m f k W
 part : m = false → f k = true → ∀ t ∈ x.tt.take j, f t.toNat = true
theorem RdI.keep {bs : List Bk} {g u0 : Nat} {m : Bool} {f : Nat → Bool} {k : Nat} {W W' : World} (h : RdI bs g u0 m f k W) (hb : Below W.heap.size W W') : RdI bs g u0 m f k W' :=
 ⟨h.mks.keep hb, h.zero, h.sound, h.le, h.less, h.shut⟩
theorem RdJ.start {bs : List Bk} {g u0 : Nat} {m : Bool} {f : Nat → Bool} {k : Nat} {x : Bk} {W : World} (h : RdI bs g u0 m f k W) : RdJ bs g u0 m f k 0 x W := ⟨h, fun _ _ t ht => by simp at ht⟩
/-- behind block k -/
theorem RdJ.stop {bs : List Bk} {g u0 : Nat} {m : Bool} {f : Nat → Bool} {k j : Nat} {x : Bk} {W : World} (h : RdJ bs g u0 m f k j x W) (hx : bs[k]? = some x) (hj : f k = true → x.tt.length ≤ j) : RdI bs g u0 m f (k + 1) W :=
 ⟨h.i.mks, h.i.zero, h.i.sound, h.i.le, h.i.less, fun hm i y hi hy hf => by
  by_cases e : i = k
  · subst e
    rw [hx] at hy
    cases hy
    have := h.part hm hf
    rwa [List.take_of_length_le (hj hf)] at this
  · exact h.i.shut hm i y (by omega) hy hf⟩
/-- a way to a block that is met -/
theorem RdJ.old {bs : List Bk} {g u0 : Nat} {m : Bool} {f : Nat → Bool} {k j : Nat} {x : Bk} {y : Int} {W : World} (h : RdJ bs g u0 m f k j x W) (hy : x.tt[j]? = some y) (hf : f y.toNat = true) : RdJ bs g u0 m f k (j + 1) x W :=
 ⟨h.i, fun hm hk t ht => by
  rw [List.take_add_one, hy] at ht
  rcases List.mem_append.1 ht with ht | ht
  · exact h.part hm hk t ht
  · simp at ht
    rw [ht]; exact hf⟩
/-- a way to a block that is met now -/
theorem RdJ.new {bs : List Bk} {g u0 : Nat} {m : Bool} {f : Nat → Bool} {k j : Nat} {x : Bk} {y : Int} {W : World} (h : RdJ bs g u0 m f k j x W) (hto : ∀ b ∈ bs, ∀ t ∈ b.tt, 0 ≤ t ∧ t < (bs.length : Int)) (h0 : 0 < bs.length) (hx : bs[k]? = some x) (hy : x.tt[j]? = some y) (hfk : f k = true) (hf : f y.toNat = false) :
 RdJ bs g u0 true (fun i => if i = y.toNat then true else f i) k (j + 1) x (W.setCell ⟨g, y.toNat, none⟩ (.bool true)) := by
 have hyr := hto x (List.mem_of_getElem? hx) y (List.mem_of_getElem? hy)
 have hyl : y.toNat < bs.length := by omega
 have hu := unmet_less hyl hf
 refine ⟨⟨h.i.mks.set hyl _ (fun i _ => rfl), ?_, fun i hi => ?_, ?_, fun _ => ?_, fun e => by cases e⟩, fun e => by cases e⟩
 · show (if 0 = y.toNat then true else f 0) = true
   rw [h.i.zero]; split <;> rfl
 · split at hi
   · rename_i e
     rw [e]
     exact met_shut hto h0 hx (h.i.sound k hfk) y (List.mem_of_getElem? hy)
   · exact h.i.sound i hi
 · have := h.i.le; omega
 · have := h.i.le; omega
/-- the marks ahead of a round -/
structure RdH (bs : List Bk) (g : Nat) (m : Bool) (f : Nat → Bool) (W : World) : Prop where
 mks : MkB g bs.length f W
 zero : f 0 = true
 sound : ∀ i, f i = true → metF bs i = true
 shut : m = false → ∀ (i : Nat) (x : Bk), bs[i]? = some x → f i = true → ∀ t ∈ x.tt, f t.toNat = true
theorem RdI.head {bs : List Bk} {g u0 : Nat} {m : Bool} {f : Nat → Bool} {W : World} (h : RdI bs g u0 m f bs.length W) : RdH bs g m f W :=
 ⟨h.mks, h.zero, h.sound, fun hm i x hx => h.shut hm i x (List.getElem?_eq_some_iff.1 hx).1 hx⟩
theorem RdH.go {bs : List Bk} {g : Nat} {m : Bool} {f : Nat → Bool} {W : World} (h : RdH bs g m f W) : RdI bs g (Xh bs.length f) false f 0 W :=
 ⟨h.mks, h.zero, h.sound, Nat.le_refl _, fun e => (by cases e), fun _ i x hi => by omega⟩
theorem RdH.done {bs : List Bk} {g : Nat} {f : Nat → Bool} {W : World} (h : RdH bs g false f W) : f = metF bs := met_is h.zero (h.shut rfl) h.sound
theorem rreached_c (l : List Bk) (a : Option Addr) (cap : Nat) (w : World) (hrow : RowAt w Tt a cap l.length (Qu l)) (hin : ∀ b ∈ l, Bk.In w b) (hto : ∀ b ∈ l, ∀ t ∈ b.tt, 0 ≤ t ∧ t < (l.length : Int)) (h0 : 0 < l.length) (hn : l.length ≤ 65537) :
 Calls Tryd.prog 13 #[.slice a l.length cap] w fun e w' => ∃ v, e = .returned v ∧ w'.ownsRow w.heap.size 3 1 v (metL (metF l) l.length).length (Qc (metL (metF l) l.length)) ∧ Below w.heap.size w w' := by
 obtain ⟨hc1, hc2⟩ := Q2 hrow
 have hR := Lh (fun V (hv : Below w.heap.size w V) => hrow.below (Kps.of_below hv))
 have hT := Lh (fun (b : Bk) V (hb : b ∈ l) (hv : Below w.heap.size w V) => ((hin b hb).keep hv).trow)
 have hto' := Lh hto
 have hmk := make_bb l.length (by omega) w
 have hS0 := MkB.start w l.length
 obtain ⟨m1, m2⟩ := hS0.get h0
 have hS1 := Lh (hS0.set h0 (fun i => decide (i = 0)) (fun i _ => by by_cases e : i = 0 <;> simp [e]))
 have hb1 := Lh ((Qh w (.cells (Array.replicate l.length (Value.bool false)) 4)).setCell (p := ⟨w.heap.size, 0, none⟩) (Nat.le_refl _) (.bool true))
 have hl0 : (0 : Int) < (l.length : Int) := by omega
 have hI0 : Hid (∃ f, RdH l w.heap.size true f ((w.alloc (.cells (Array.replicate l.length (Value.bool false)) 4)).setCell ⟨w.heap.size, 0, none⟩ (.bool true))) := Lh ⟨_, hS1.out, rfl, fun i hi => by
  have : i = 0 := by simpa using hi
  rw [this]; exact met_first hto h0, fun e => by cases e⟩
 obtain ⟨i0, hi0, hz0, hz1, hz2⟩ := Xn
 have hfold : (w.alloc (.cells (Array.replicate l.length (Value.bool false)) 4)).setCell ⟨w.heap.size, 0, none⟩ (.bool true) = w.alloc (.cells ((Array.replicate l.length (Value.bool false)).setIfInBounds 0 (.bool true)) 4) := by simp [go_sem]
 rw [hfold] at hI0 hb1
 clear hrow hin hto hS0 hS1 hfold
 go_enter Tryd.func13, Tryd.ntmps13
 go_wp2_with fail
 go_loopw [4] (fun m wr => ∃ (b : Bool), m = .bool b ∧ Hid (∃ f, RdH l w.heap.size b f wr) ∧ Hid (Below w.heap.size w wr)) (fun m wr => unmW w.heap.size l.length wr + (bitOf (some m)).toNat)
 case atStart => exact ⟨true, rfl, hI0, hb1⟩
 case round =>
  clear hI0 hb1 hmk m1 m2
  obtain ⟨b, rfl, hH, hb⟩ := hrel
  cases b
  · obtain ⟨f, hf⟩ := hH.out
    have hfe := hf.done
    subst hfe
    have hM := Lh hf.mks
    have hgl := hf.mks.lt
    clear hf hH hT hR
    go_wp2_with fail
    go_loopw [7, 8] (fun v i wq => ∃ k : Nat, k ≤ l.length ∧ i = .int .i64 k ∧ Hid (wq.ownsRow (w.heap.size + 1) 3 1 v (metL (metF l) k).length (Qc (metL (metF l) k))) ∧ Hid (MkB w.heap.size l.length (metF l) wq) ∧ Hid (Below w.heap.size w wq)) (fun _ i _ => l.length - (intOf i).toNat)
    case atStart => exact ⟨0, Nat.zero_le _, rfl, Lh (World.ownsRow_nil _ _ _ _), hM, hb⟩
    case round =>
     clear hM hb hgl
     obtain ⟨k, hk, rfl, hown, hM, hb⟩ := hrel
     by_cases hlt : k < l.length
     · obtain ⟨t1, t2⟩ := hM.out.get hlt
       have hgl := hM.out.lt
       have hi0' : (0 : Int) ≤ (k : Int) := by omega
       have hi1 : (k : Int) < (l.length : Int) := by omega
       have hLl : (metL (metF l) k).length ≤ 65537 := by rw [metL_len]; have := numM_le_self (metF l) k; omega
       obtain ⟨va, vcap, rfl, hv1, hv2⟩ := own_shape hown.out
       cases hmk' : metF l k
       · rw [hmk'] at t1
         have hown2 := Lh (by rw [metL_no hmk']; exact hown.out : wr.ownsRow (w.heap.size + 1) 3 1 (.slice va (metL (metF l) k).length vcap) (metL (metF l) (k + 1)).length (Qc (metL (metF l) (k + 1))))
         clear hmk' hown
         go_wp2_with fail
         go_roundw
         case rel => exact ⟨k + 1, by omega, by go_num, hown2, hM, hb⟩
         case measure => simp [intOf]; omega
       · rw [hmk'] at t1
         have hpt := Lh (metL_yes hmk')
         clear hmk'
         generalize metL (metF l) k = P at *
         go_wp2_with (at_builtin; refine wpList_append_own_at _ rfl _ _ 40 rfl (w.heap.size + 1) 3 i0 _ 1 8 Tryd.underlying40 hi0 hz0 hz1 hz2 rfl (by decide) _ _ _ rfl (Qn hown.out (Qh _ _)) _ 1 1 [.int .i64 k] rfl rfl (one_at _ _ _ _ (by first | rfl | simp)) (by simp [Value.oneCell']) ?c1 ?c2 ?c3 ?_)
         case c1 => unfold maxLen; omega
         case c2 => omega
         case c3 => simp; omega
         intro v' w3 hown3 hg3 _ hat3
         have hown4 : Hid (w3.ownsRow (w.heap.size + 1) 3 1 v' (metL (metF l) (k + 1)).length (Qc (metL (metF l) (k + 1)))) := Lh (by
          rw [hpt.out, List.length_append, num_snoc]; exact hown3)
         have hM4 := Lh ((hM.out.keep (Qh _ _)).grown hg3 (Yb hown.out (Nat.lt_succ_self _)))
         have hb4 : Hid (Below w.heap.size w w3) := Lh ((hb.out.alloc hb.out.size _).grown hg3 (by have := hb.out.size; simp; omega) (fun q e => by have := (hown.out.lt q e).1; omega))
         clear hown3 hg3 hown hM hb hpt
         go_wp2_with fail
         go_roundw
         case rel => exact ⟨k + 1, by omega, by go_num, hown4, hM4, hb4⟩
         case measure => simp [intOf]; omega
     · have hk2 : k = l.length := by omega
       subst hk2
       go_wp2_with fail
       go_ret
       exact ⟨_, rfl, Xc hown.out (by omega), hb.out⟩
  · obtain ⟨f0, hf0⟩ := hH.out
    have hu0 := Lh hf0.mks.unm
    have hG0 := Lh hf0.go
    clear hf0 hH
    go_wp2_with fail
    go_loopw [4, 5] (fun m i wq => ∃ (b : Bool) (k : Nat), m = .bool b ∧ i = .int .i64 k ∧ k ≤ l.length ∧ Hid (∃ f, RdI l w.heap.size (Xh l.length f0) b f k wq) ∧ Hid (Below w.heap.size w wq)) (fun _ i _ => l.length - (intOf i).toNat)
    case atStart => exact ⟨false, 0, rfl, rfl, Nat.zero_le _, Lh ⟨f0, hG0.out⟩, hb⟩
    case round =>
     clear hb hG0
     obtain ⟨b, k, rfl, rfl, hk, hF, hb⟩ := hrel
     by_cases hlt : k < l.length
     · obtain ⟨x, hx⟩ : ∃ x, l[k]? = some x := ⟨_, List.getElem?_eq_getElem hlt⟩
       have hxm := List.mem_of_getElem? hx
       have hcell := Lh (fun V (hv : Below w.heap.size w V) => X4 (hR.out V hv) k x hx)
       have hxt := Lh (fun V (hv : Below w.heap.size w V) => hT.out x V hxm hv)
       have hxr := Lh (hto'.out x hxm)
       obtain ⟨tl1, tl2⟩ := Q2 (hxt.out wr hb.out)
       have hi0' : (0 : Int) ≤ (k : Int) := by omega
       have hi1 : (k : Int) < (l.length : Int) := by omega
       replace hx := Lh hx
       have hJ0 : Hid (∃ f, RdJ l w.heap.size (Xh l.length f0) b f k 0 x wr) := Lh (by
        obtain ⟨f, hf⟩ := hF.out
        exact ⟨f, RdJ.start hf⟩)
       clear hxm hF
       go_wp2_with fail
       go_loopw [4, 6] (fun m i wq => ∃ (b : Bool) (j : Nat), m = .bool b ∧ i = .int .i64 j ∧ j ≤ x.tt.length ∧ Hid (∃ f, RdJ l w.heap.size (Xh l.length f0) b f k j x wq) ∧ Hid (Below w.heap.size w wq)) (fun _ i _ => x.tt.length - (intOf i).toNat)
       case atStart => exact ⟨b, 0, rfl, rfl, Nat.zero_le _, hJ0, hb⟩
       case round =>
        clear hb hJ0
        obtain ⟨b, j, rfl, rfl, hj, hF, hb⟩ := hrel
        obtain ⟨bb, off, ha, _, c0, c1, c2, c3⟩ := hcell.out wr hb.out
        have hlb := World.block_lt_of_cell? _ _ c3
        obtain ⟨f, hf⟩ := hF.out
        have hgl := hf.i.mks.lt
        obtain ⟨t1, t2⟩ := hf.i.mks.get hlt
        by_cases hjt : j < x.tt.length
        · have hjl : (j : Int) < (x.tt.length : Int) := by omega
          have hj0 : (0 : Int) ≤ (j : Int) := by omega
          cases hfk : f k
          · rw [hfk] at t1
            have hI2 : Hid (∃ f, RdI l w.heap.size (Xh l.length f0) b f (k + 1) wr) := Lh ⟨f, hf.stop hx.out (fun e => by rw [hfk] at e; cases e)⟩
            clear hf hF hfk c0 c1 c2
            subst ha
            go_wp2_with fail
            go_roundw
            case rel => exact ⟨b, k + 1, rfl, by go_num, by omega, hI2, hb⟩
            case measure => simp [intOf]; omega
          · rw [hfk] at t1
            obtain ⟨y, hy⟩ : ∃ y, x.tt[j]? = some y := ⟨_, List.getElem?_eq_getElem hjt⟩
            have hyr := hxr.out y (List.mem_of_getElem? hy)
            obtain ⟨q, rfl⟩ : ∃ q : Nat, y = q := ⟨y.toNat, by omega⟩
            obtain ⟨b', off', ha', _, d0⟩ := Xa (hxt.out wr hb.out) j _ hy
            have hq0 : (0 : Int) ≤ (q : Int) := by omega
            have hq1 : (q : Int) < (l.length : Int) := by omega
            have hql : q < l.length := by omega
            obtain ⟨u1, u2⟩ := hf.i.mks.get hql
            have hld := World.block_lt_of_cell? _ _ d0
            rw [ha'] at c3
            subst ha
            cases hfy : f q
            · rw [hfy] at u1
              have hN : Hid (∃ f, RdJ l w.heap.size (Xh l.length f0) true f k (j + 1) x (wr.setCell ⟨w.heap.size, q, none⟩ (.bool true))) := Lh ⟨_, hf.new hto'.out (by omega) hx.out hy hfk hfy⟩
              have hbn := Lh (hb.out.setCell (p := ⟨w.heap.size, q, none⟩) (Nat.le_refl _) (.bool true))
              clear hf hF hfk hfy hy hyr hb c0 c1 c2 ha'
              go_wp2_with fail
              go_roundw
              case rel => exact ⟨true, j + 1, rfl, by go_num, by omega, hN, hbn⟩
              case measure => simp [intOf]; omega
            · rw [hfy] at u1
              have hN : Hid (∃ f, RdJ l w.heap.size (Xh l.length f0) b f k (j + 1) x wr) := Lh ⟨f, hf.old hy hfy⟩
              clear hf hF hfk hfy hy hyr c0 c1 c2 ha'
              go_wp2_with fail
              go_roundw
              case rel => exact ⟨b, j + 1, rfl, by go_num, by omega, hN, hb⟩
              case measure => simp [intOf]; omega
        · have hj2 : j = x.tt.length := by omega
          have hjl : ¬ (j : Int) < (x.tt.length : Int) := by omega
          have hI2 : Hid (∃ f, RdI l w.heap.size (Xh l.length f0) b f (k + 1) wr) := Lh ⟨f, hf.stop hx.out (fun _ => by omega)⟩
          clear hf hF c0 c1 c2 hj2 hj
          subst ha
          go_wp2_with fail
          go_roundw
          case rel => exact ⟨b, k + 1, rfl, by go_num, by omega, hI2, hb⟩
          case measure => simp [intOf]; omega
     · have hk2 : k = l.length := by omega
       subst hk2
       obtain ⟨f, hf⟩ := hF.out
       have hH : Hid (∃ f, RdH l w.heap.size b f wr) := Lh ⟨f, hf.head⟩
       have hms : unmW w.heap.size l.length wr + (bitOf (some (.bool b))).toNat < Xh l.length f0 + 1 := by
        rw [hf.mks.unm]
        cases b
        · have := hf.le; simp [bitOf]; omega
        · have := hf.less rfl; simp [bitOf]; omega
       replace hms := Lh hms
       clear hf hF
       go_wp2_with fail
       go_roundw
       case rel => exact ⟨b, rfl, hH, hb⟩
       case measure =>
        have := hms.out
        rw [hu0.out]
        simpa [bitOf] using this
def mkD (l : List Ins) (n : Nat) : Bool := decide (n = 0) || mkF 0 l n
theorem ib0 (m : Nat) : ((m : Int) == 0) = decide (m = 0) := by
 by_cases h : m = 0
 · subst h; rfl
 · rw [decide_eq_false h, beq_eq_false_iff_ne]; omega
theorem mk_first {l : List Ins} {k : Nat} {x : Ins} (h : l[k]? = some x) : mkF 0 (l.take (k + 1)) 0 = (mkF 0 (l.take k) 0 || ((glP x).2 && decide ((glP x).1 = 0))) := by
 rw [mkF_take h]
 simp
theorem mkD_next {l : List Ins} {k : Nat} {x : Ins} (h : l[k]? = some x) (n : Nat) : mkD (l.take (k + 1)) n = (mkD (l.take k) n || ((glP x).2 && decide ((glP x).1 = (n : Int))) || (Xr x.op && decide (n = k + 1))) := by
 unfold mkD
 rw [mkF_take h, Bool.or_assoc, Bool.or_assoc, Bool.or_assoc]
theorem rmarks_c (a : Option Addr) (cap : Nat) (l : List Ins) (w : World) (hrow : RowAt w Tt a cap l.length (Q8 l)) (hin : ∀ y ∈ l, Ins.In w Tt y) (hl : l.length ≤ 1048576) (hg : ∀ y ∈ l, (glP y).2 = true → 0 ≤ (glP y).1 ∧ (glP y).1 < (l.length : Int)) :
 Calls Tryd.prog 80 #[.slice a l.length cap] w fun e w' => ∃ g, e = .returned (.tuple #[.slice (some ⟨g, 0, none⟩) (l.length + 1) (l.length + 1), .bool (mkF 0 l 0)]) ∧ w.heap.size ≤ g ∧ MkB g (l.length + 1) (mkD l) w' ∧ Below w.heap.size w w' := by
 obtain ⟨hc1, hc2⟩ := Q2 hrow
 have hR := Lh (fun V (hv : Below w.heap.size w V) => (row_old hrow).below ((Kps.of_below hv)))
 have hI := Lh (fun (x : Ins) V (hx : x ∈ l) (hv : Below w.heap.size w V) => (hin x hx).below (Kps.of_below hv))
 have hmk : (Instr.makeSlice 72 (.int .i64 ((l.length : Int) + 1)) (.int .i64 ((l.length : Int) + 1))).run Tryd.prog w = .ok (.slice (some ⟨w.heap.size, 0, none⟩) (l.length + 1) (l.length + 1)) (w.alloc (.cells (Array.replicate (l.length + 1) (Value.bool false)) 4)) := make_bb (l.length + 1) (by omega) w
 have hB0 := Lh ((Qh w (.cells (Array.replicate (l.length + 1) (.bool false)) 4)).setCell (p := ⟨w.heap.size, 0, none⟩) (Nat.le_refl _) (.bool true))
 have hM0 := Lh ((MkB.start w (l.length + 1)).set (show 0 < l.length + 1 by omega) (mkD (l.take 0)) (fun i _ => by by_cases e : i = 0 <;> simp [e, mkD, mkF]))
 have hfold : (w.alloc (.cells (Array.replicate (l.length + 1) (Value.bool false)) 4)).setCell ⟨w.heap.size, 0, none⟩ (.bool true) = w.alloc (.cells ((Array.replicate (l.length + 1) (Value.bool false)).setIfInBounds 0 (.bool true)) 4) := by simp [go_sem]
 rw [hfold] at hB0 hM0
 obtain ⟨m1, m2⟩ := (MkB.start w (l.length + 1)).get (show 0 < l.length + 1 by omega)
 replace hg := Lh hg
 have hl0 : l.length + 1 ≤ 9223372036854775807 := by omega
 have hl1 : (0 : Int) < (l.length : Int) + 1 := by omega
 have hf0 : mkF 0 (l.take 0) 0 = false := rfl
 clear hrow hin hfold
 go_enter Tryd.func80, Tryd.ntmps80
 go_wp2_with fail
 go_loopw [5, 6] (fun b i wr => ∃ k : Nat, k ≤ l.length ∧ i = .int .i64 k ∧ b = .bool (mkF 0 (l.take k) 0) ∧ Hid (MkB w.heap.size (l.length + 1) (mkD (l.take k)) wr) ∧ Hid (Below w.heap.size w wr)) (fun _ i _ => l.length - (intOf i).toNat)
 case atStart => exact ⟨0, Nat.zero_le _, rfl, by rw [hf0], hM0, hB0⟩
 case round =>
  clear hf0 hM0 hB0 m1 m2 hmk
  obtain ⟨k, hk, rfl, rfl, hM, hb⟩ := hrel
  by_cases hlt : k < l.length
  · obtain ⟨x, hx⟩ : ∃ x, l[k]? = some x := ⟨_, List.getElem?_eq_getElem hlt⟩
    have hxm := List.mem_of_getElem? hx
    obtain ⟨b, off, ha, ⟨_, hbx⟩, c0, c1, c2, c3, c4, c5⟩ := X1 (hR.out _ hb.out) k x hx
    have hbl : b < wr.heap.size := World.block_lt_of_cell? _ _ c0
    have hi0' : (0 : Int) ≤ (k : Int) := by omega
    have hi1 : (k : Int) < (l.length : Int) := by omega
    have hG := Lh (rgoal_any x wr (hI.out x wr hxm hb.out).n)
    have hE := Lh (fun V => rends_c x.op V)
    have hgx := Lh (hg.out x hxm)
    have hnF := Lh (mk_first hx)
    have hnD := Lh (fun n => mkD_next hx n)
    have hlw : w.heap.size < wr.heap.size := hM.out.lt
    have hop := Lh (fun V (hv : Below wr.heap.size wr V) => (Qe hv c0 : V.cell? ⟨b, off + k * 6, none⟩ = some (.int .u8 x.op)))
    subst ha
    unfold Ins.val at hG
    clear hx hxm hR hI hg
    generalize glP x = gp at *
    obtain ⟨g1, g2⟩ := gp
    generalize Xr x.op = ge at *
    simp only at *
    generalize hfb : mkF 0 (l.take k) 0 = fb at *
    clear hfb
    cases g2
    · clear hgx
      go_wp2_with fail
      refine hG.out.mono ?_
      rintro e w2 ⟨rfl, hb2⟩
      have hM2 := Lh (hM.out.keep hb2)
      have hbw := Lh (hb.out.trans (hb2.mono hb.out.size))
      have p0 := hop.out w2 hb2
      have hl2 : b < w2.heap.size := Nat.lt_of_lt_of_le hbl hb2.size
      clear hM hb hb2 hG hop c0 c1 c2 c3 c4 c5
      go_wp2_with fail
      refine (hE.out w2).mono ?_
      rintro e w5 ⟨rfl, hb5⟩
      have hM5 := Lh (hM2.out.keep hb5)
      have hb6 := Lh (hbw.out.trans (hb5.mono hbw.out.size))
      have hgl5 := hM5.out.lt
      clear hb5
      cases ge
      · have hM7 : Hid (MkB w.heap.size (l.length + 1) (mkD (l.take (k + 1))) w5) := Lh (hM5.out.cong fun n _ => (by rw [hnD.out n]; simp))
        clear hM5
        go_wp2_with fail
        go_roundw
        case rel => exact ⟨k + 1, by omega, by go_num, by rw [hnF.out]; simp, hM7, hb6⟩
        case measure => simp [intOf]; omega
      · obtain ⟨t1, t2⟩ := hM5.out.get (show k + 1 < l.length + 1 by omega)
        have hM7 := Lh (hM5.out.set (show k + 1 < l.length + 1 by omega) (mkD (l.take (k + 1))) (fun n _ => (by rw [hnD.out n]; by_cases e : n = k + 1 <;> simp [e])))
        have hb7 := Lh (hb6.out.setCell (p := ⟨w.heap.size, k + 1, none⟩) (Nat.le_refl _) (.bool true))
        have hk2 : (k : Int) + 1 < (l.length : Int) + 1 := by omega
        have hk3 : ((k : Int) + 1).toNat = k + 1 := by omega
        have hk4 : (0 : Int) ≤ (k : Int) + 1 := by omega
        clear hM5 hb6
        go_wp2_with fail
        go_roundw
        case rel => exact ⟨k + 1, by omega, by go_num, by rw [hnF.out]; simp, hM7, hb7⟩
        case measure => simp [intOf]; omega
    · obtain ⟨r1, r2⟩ := hgx.out rfl
      obtain ⟨m, rfl⟩ : ∃ m : Nat, g1 = m := ⟨g1.toNat, by omega⟩
      have hm : m < l.length + 1 := by omega
      have hm2 : (m : Int) < (l.length : Int) + 1 := by omega
      have hm3 : (0 : Int) ≤ (m : Int) := by omega
      clear hgx
      go_wp2_with fail
      refine hG.out.mono ?_
      rintro e w2 ⟨rfl, hb2⟩
      have hM2 := hM.out.keep hb2
      obtain ⟨s1, s2⟩ := hM2.get hm
      have hgl2 := hM2.lt
      have hM3 := Lh (hM2.set hm (fun n => mkD (l.take k) n || decide ((m : Int) = (n : Int))) (fun i _ => by by_cases e : i = m <;> simp [e] <;> omega))
      have hbw := Lh ((hb.out.trans (hb2.mono hb.out.size)).setCell (p := ⟨w.heap.size, m, none⟩) (Nat.le_refl _) (.bool true))
      have p0 := Zy (Q9 w2 w.heap.size m (.bool true)) (show b ≠ w.heap.size by have := hbx; omega) (hop.out w2 hb2)
      have hl2 : b < w2.heap.size := Nat.lt_of_lt_of_le hbl hb2.size
      clear hM hM2 hb hb2 hG hop c0 c1 c2 c3 c4 c5
      cases fb
      · go_upto_region 11 with fail
        generalize w2.setCell ⟨w.heap.size, m, none⟩ (.bool true) = w4 at *
        go_wp2_with fail
        refine (hE.out w4).mono ?_
        rintro e w5 ⟨rfl, hb5⟩
        have hM5 := Lh (hM3.out.keep hb5)
        have hb6 := Lh (hbw.out.trans (hb5.mono hbw.out.size))
        have hgl5 := hM5.out.lt
        clear hb5
        cases ge
        · have hM7 : Hid (MkB w.heap.size (l.length + 1) (mkD (l.take (k + 1))) w5) := Lh (hM5.out.cong fun n _ => (by rw [hnD.out n]; simp))
          clear hM5
          go_wp2_with fail
          go_roundw
          case rel => exact ⟨k + 1, by omega, by go_num, by rw [hnF.out]; simp [ib0], hM7, hb6⟩
          case measure => simp [intOf]; omega
        · obtain ⟨t1, t2⟩ := hM5.out.get (show k + 1 < l.length + 1 by omega)
          have hM7 := Lh (hM5.out.set (show k + 1 < l.length + 1 by omega) (mkD (l.take (k + 1))) (fun n _ => (by rw [hnD.out n]; by_cases e : n = k + 1 <;> simp [e])))
          have hb7 := Lh (hb6.out.setCell (p := ⟨w.heap.size, k + 1, none⟩) (Nat.le_refl _) (.bool true))
          have hk2 : (k : Int) + 1 < (l.length : Int) + 1 := by omega
          have hk3 : ((k : Int) + 1).toNat = k + 1 := by omega
          have hk4 : (0 : Int) ≤ (k : Int) + 1 := by omega
          clear hM5 hb6
          go_wp2_with fail
          go_roundw
          case rel => exact ⟨k + 1, by omega, by go_num, by rw [hnF.out]; simp [ib0], hM7, hb7⟩
          case measure => simp [intOf]; omega
      · go_upto_region 11 with fail
        generalize w2.setCell ⟨w.heap.size, m, none⟩ (.bool true) = w4 at *
        go_wp2_with fail
        refine (hE.out w4).mono ?_
        rintro e w5 ⟨rfl, hb5⟩
        have hM5 := Lh (hM3.out.keep hb5)
        have hb6 := Lh (hbw.out.trans (hb5.mono hbw.out.size))
        have hgl5 := hM5.out.lt
        clear hb5
        cases ge
        · have hM7 : Hid (MkB w.heap.size (l.length + 1) (mkD (l.take (k + 1))) w5) := Lh (hM5.out.cong fun n _ => (by rw [hnD.out n]; simp))
          clear hM5
          go_wp2_with fail
          go_roundw
          case rel => exact ⟨k + 1, by omega, by go_num, by rw [hnF.out]; simp [ib0], hM7, hb6⟩
          case measure => simp [intOf]; omega
        · obtain ⟨t1, t2⟩ := hM5.out.get (show k + 1 < l.length + 1 by omega)
          have hM7 := Lh (hM5.out.set (show k + 1 < l.length + 1 by omega) (mkD (l.take (k + 1))) (fun n _ => (by rw [hnD.out n]; by_cases e : n = k + 1 <;> simp [e])))
          have hb7 := Lh (hb6.out.setCell (p := ⟨w.heap.size, k + 1, none⟩) (Nat.le_refl _) (.bool true))
          have hk2 : (k : Int) + 1 < (l.length : Int) + 1 := by omega
          have hk3 : ((k : Int) + 1).toNat = k + 1 := by omega
          have hk4 : (0 : Int) ≤ (k : Int) + 1 := by omega
          clear hM5 hb6
          go_wp2_with fail
          go_roundw
          case rel => exact ⟨k + 1, by omega, by go_num, by rw [hnF.out]; simp [ib0], hM7, hb7⟩
          case measure => simp [intOf]; omega
  · have hk2 : k = l.length := by omega
    subst hk2
    rw [List.take_length] at hM ⊢
    go_wp2_with fail
    exact ⟨rfl, .tuple #[.slice (some ⟨w.heap.size, 0, none⟩) (l.length + 1) (l.length + 1), .bool (mkF 0 l 0)], by simp [results, Tryd.results80, go_sem], _, rfl, Nat.le_refl _, hM.out, hb.out⟩
abbrev cdV (x : Bk) : Value := .slice x.ca x.code.length x.ccap
theorem Zx {W W' : World} {B : Nat} {row : Option Nat} {e : TypeId} {c : Nat} {v : Value} {n : Nat} {xs : List Value} (h : W.ownsRow B e c v n xs) (hg : W.grownBy W' row) (hn : ∀ q, row = some q → v.ownBlock ≠ some q) : W'.ownsRow B e c v n xs :=
 ⟨h.1, h.2.imp id fun ⟨g, cap, cur, hv, hB, hh, hr⟩ => ⟨g, cap, cur, hv, hB, (hg.block g (Array.getElem?_eq_some_iff.1 hh).1 (fun e => hn g e.symm (by rw [hv]; rfl))).trans hh, hr⟩⟩
/-- two rows of elements of unlike types -/
theorem own_apartT {W : World} {B B' : Nat} {e e' : TypeId} {c c' n n' : Nat} {v v' : Value} {xs xs' : List Value} (h : W.ownsRow B e c v n xs) (h' : W.ownsRow B' e' c' v' n' xs') (he : e' ≠ e) : ∀ q, v'.ownBlock = some q → v.ownBlock ≠ some q := fun q hq => by
 rcases h'.2 with ⟨rfl, _⟩ | ⟨g, cap, cur, rfl, _, hg, _⟩
 · cases hq
 · have : g = q := Option.some.inj hq
   subst this
   exact Zb h hg he
structure CtI (B g : Nat) (bs : List Bk) (W : World) : Prop where
 own : OwnB g bs W
 code : ∀ (j : Nat) (x : Bk), bs[j]? = some x → W.ownsRow B 44 6 (cdV x) x.code.length (Q8 x.code)
 to : ∀ (j : Nat) (x : Bk), bs[j]? = some x → W.ownsRow B 3 1 (toV x) x.tt.length (Qc x.tt)
 cap : ∀ (i j : Nat) (x y : Bk), i ≠ j → bs[i]? = some x → bs[j]? = some y → ∀ q, (cdV y).ownBlock = some q → (cdV x).ownBlock ≠ some q
 tap : ∀ (i j : Nat) (x y : Bk), i ≠ j → bs[i]? = some x → bs[j]? = some y → ∀ q, (toV y).ownBlock = some q → (toV x).ownBlock ≠ some q
theorem CtI.keep {B g : Nat} {bs : List Bk} {W W' : World} (h : CtI B g bs W) (hb : Below W.heap.size W W') : CtI B g bs W' :=
 ⟨h.own.keep hb, fun j x hx => Qn (h.code j x hx) hb, fun j x hx => Qn (h.to j x hx) hb, h.cap, h.tap⟩
theorem Xg {g : Nat} {bs : List Bk} {W W' : World} {row : Option Nat} (h : OwnB g bs W) (hg : W.grownBy W' row) (hn : row ≠ some g) : OwnB g bs W' :=
 ⟨(hg.block g h.lt (fun e => hn e.symm)).trans h.ex⟩
theorem Xs {bs : List Bk} {j : Nat} {x y : Bk} (hx : bs[j]? = some x) {i : Nat} {z : Bk} (h : (bs.set j y)[i]? = some z) : (i = j ∧ z = y) ∨ (i ≠ j ∧ bs[i]? = some z) := by
 by_cases e : i = j
 · subst e
   rw [List.getElem?_set_self (List.getElem?_eq_some_iff.1 hx).1] at h
   cases h; exact .inl ⟨rfl, rfl⟩
 · rw [List.getElem?_set_ne (by omega)] at h
   exact .inr ⟨e, h⟩
/-- an instruction more -/
theorem CtI.addCode {B g j : Nat} {bs : List Bk} {V w3 : World} {x : Bk} {i : Ins} {v' : Value} (h : CtI B g bs V) (hx : bs[j]? = some x) (hgr : V.grownBy w3 (cdV x).ownBlock)
 (hown : w3.ownsRow B 44 6 v' (x.code.length + 1) (Q8 x.code ++ i.vals)) (hloc : v'.ownBlock = (cdV x).ownBlock ∨ v'.ownBlock = some V.heap.size) :
 ∃ a c, v' = .slice a (x.code.length + 1) c ∧ CtI B g (bs.set j { x with ca := a, ccap := c, code := x.code ++ [i] }) (w3.setCell ⟨g, j * 4 + 1, none⟩ v') := by
 obtain ⟨a, c, rfl⟩ := own_sl hown
 refine ⟨a, c, rfl, ?_⟩
 have hcx := h.code j x hx
 have hnb : (cdV x).ownBlock ≠ some g := Zb hcx h.own.ex (by decide)
 have ho3 := Xg h.own hgr hnb
 have hgs := Q9 w3 g (j * 4 + 1) (.slice a (x.code.length + 1) c)
 have hlen : (x.code ++ [i]).length = x.code.length + 1 := by simp
 have hcell : Q8 (x.code ++ [i]) = Q8 x.code ++ i.vals := by unfold Q8; simp
 refine ⟨ho3.set hx (by omega) (by show _ = _; unfold Bk.vals; simp [hlen]), fun k z hz => ?_, fun k z hz => ?_, fun k m y z hkm hy hz q hq => ?_, fun k m y z hkm hy hz q hq => ?_⟩
 · rcases Xs hx hz with ⟨rfl, rfl⟩ | ⟨e, hz'⟩
   · show (w3.setCell _ _).ownsRow B _ 6 (.slice a (x.code ++ [i]).length c) (x.code ++ [i]).length (Q8 (x.code ++ [i]))
     rw [hlen, hcell]
     exact Zd hown hgs (Zb hown ho3.ex (by decide))
   · have h1 := Zx (h.code k z hz') hgr (fun q hq => h.cap k j z x e hz' hx q hq)
     exact Zd h1 hgs (Zb h1 ho3.ex (by decide))
 · rcases Xs hx hz with ⟨rfl, rfl⟩ | ⟨e, hz'⟩
   · have h1 := Zx (h.to k x hx) hgr (own_apartT (h.to k x hx) hcx (by decide))
     exact Zd h1 hgs (Zb h1 ho3.ex (by decide))
   · have h1 := Zx (h.to k z hz') hgr (own_apartT (h.to k z hz') hcx (by decide))
     exact Zd h1 hgs (Zb h1 ho3.ex (by decide))
 · rcases Xs hx hy with ⟨rfl, rfl⟩ | ⟨e, hy'⟩ <;> rcases Xs hx hz with ⟨rfl, rfl⟩ | ⟨e', hz'⟩
   · exact absurd rfl hkm
   · have hq' := ((h.code m z hz').lt q hq).2
     intro e2
     have e3 : (Value.slice a (x.code.length + 1) c).ownBlock = some q := by
      have : (cdV { x with ca := a, ccap := c, code := x.code ++ [i] }).ownBlock = (Value.slice a (x.code.length + 1) c).ownBlock := by cases a <;> rfl
      rw [← this]; exact e2
     rcases hloc with h2 | h2
     · rw [h2] at e3
       exact h.cap k m x z hkm hx hz' q hq e3
     · rw [h2] at e3
       have := Option.some.inj e3
       omega
   · intro e2
     have hq' := ((h.code k y hy').lt q e2).2
     have e3 : (Value.slice a (x.code.length + 1) c).ownBlock = some q := by
      have : (cdV { x with ca := a, ccap := c, code := x.code ++ [i] }).ownBlock = (Value.slice a (x.code.length + 1) c).ownBlock := by cases a <;> rfl
      rw [← this]; exact hq
     rcases hloc with h2 | h2
     · rw [h2] at e3
       exact h.cap k m y x hkm hy' hx q e3 e2
     · rw [h2] at e3
       have := Option.some.inj e3
       omega
   · exact h.cap k m y z hkm hy' hz' q hq
 · rcases Xs hx hy with ⟨rfl, rfl⟩ | ⟨e, hy'⟩ <;> rcases Xs hx hz with ⟨rfl, rfl⟩ | ⟨e', hz'⟩
   · exact absurd rfl hkm
   · exact h.tap k m x z hkm hx hz' q hq
   · exact h.tap k m y x hkm hy' hx q hq
   · exact h.tap k m y z hkm hy' hz' q hq
/-- a way more -/
theorem CtI.addTo {B g j : Nat} {bs : List Bk} {V w3 : World} {x : Bk} {t : Int} {v' : Value} (h : CtI B g bs V) (hx : bs[j]? = some x) (hgr : V.grownBy w3 (toV x).ownBlock)
 (hown : w3.ownsRow B 3 1 v' (x.tt.length + 1) (Qc x.tt ++ [.int .i64 t])) (hloc : v'.ownBlock = (toV x).ownBlock ∨ v'.ownBlock = some V.heap.size) :
 ∃ a c, v' = .slice a (x.tt.length + 1) c ∧ CtI B g (bs.set j { x with ta := a, tcap := c, tt := x.tt ++ [t] }) (w3.setCell ⟨g, j * 4 + 3, none⟩ v') := by
 obtain ⟨a, c, rfl⟩ := own_sl hown
 refine ⟨a, c, rfl, ?_⟩
 have hcx := h.to j x hx
 have hnb : (toV x).ownBlock ≠ some g := Zb hcx h.own.ex (by decide)
 have ho3 := Xg h.own hgr hnb
 have hgs := Q9 w3 g (j * 4 + 3) (.slice a (x.tt.length + 1) c)
 have hlen : (x.tt ++ [t]).length = x.tt.length + 1 := by simp
 refine ⟨ho3.set hx (by omega) (by show _ = _; unfold Bk.vals; simp [hlen]), fun k z hz => ?_, fun k z hz => ?_, fun k m y z hkm hy hz q hq => ?_, fun k m y z hkm hy hz q hq => ?_⟩
 · rcases Xs hx hz with ⟨rfl, rfl⟩ | ⟨e, hz'⟩
   · have h1 := Zx (h.code k x hx) hgr (own_apartT (h.code k x hx) hcx (by decide))
     exact Zd h1 hgs (Zb h1 ho3.ex (by decide))
   · have h1 := Zx (h.code k z hz') hgr (own_apartT (h.code k z hz') hcx (by decide))
     exact Zd h1 hgs (Zb h1 ho3.ex (by decide))
 · rcases Xs hx hz with ⟨rfl, rfl⟩ | ⟨e, hz'⟩
   · show (w3.setCell _ _).ownsRow B _ 1 (.slice a (x.tt ++ [t]).length c) (x.tt ++ [t]).length (Qc (x.tt ++ [t]))
     rw [hlen, num_snoc]
     exact Zd hown hgs (Zb hown ho3.ex (by decide))
   · have h1 := Zx (h.to k z hz') hgr (fun q hq => h.tap k j z x e hz' hx q hq)
     exact Zd h1 hgs (Zb h1 ho3.ex (by decide))
 · rcases Xs hx hy with ⟨rfl, rfl⟩ | ⟨e, hy'⟩ <;> rcases Xs hx hz with ⟨rfl, rfl⟩ | ⟨e', hz'⟩
   · exact absurd rfl hkm
   · exact h.cap k m x z hkm hx hz' q hq
   · exact h.cap k m y x hkm hy' hx q hq
   · exact h.cap k m y z hkm hy' hz' q hq
 · rcases Xs hx hy with ⟨rfl, rfl⟩ | ⟨e, hy'⟩ <;> rcases Xs hx hz with ⟨rfl, rfl⟩ | ⟨e', hz'⟩
   · exact absurd rfl hkm
   · have hq' := ((h.to m z hz').lt q hq).2
     intro e2
     have e3 : (Value.slice a (x.tt.length + 1) c).ownBlock = some q := by
      have : (toV { x with ta := a, tcap := c, tt := x.tt ++ [t] }).ownBlock = (Value.slice a (x.tt.length + 1) c).ownBlock := by cases a <;> rfl
      rw [← this]; exact e2
     rcases hloc with h2 | h2
     · rw [h2] at e3
       exact h.tap k m x z hkm hx hz' q hq e3
     · rw [h2] at e3
       have := Option.some.inj e3
       omega
   · intro e2
     have hq' := ((h.to k y hy').lt q e2).2
     have e3 : (Value.slice a (x.tt.length + 1) c).ownBlock = some q := by
      have : (toV { x with ta := a, tcap := c, tt := x.tt ++ [t] }).ownBlock = (Value.slice a (x.tt.length + 1) c).ownBlock := by cases a <;> rfl
      rw [← this]; exact hq
     rcases hloc with h2 | h2
     · rw [h2] at e3
       exact h.tap k m y x hkm hy' hx q e3 e2
     · rw [h2] at e3
       have := Option.some.inj e3
       omega
   · exact h.tap k m y z hkm hy' hz' q hq
theorem mkD_b (l : List Ins) (n : Nat) : (n == 0 || mkF 0 l n) = mkD l n := by
 unfold mkD
 by_cases h : n = 0 <;> simp [h]
theorem bg_app (l : List Ins) (n : Nat) : ∀ k, n ≤ k → ∃ r, bgN l k = bgN l n ++ r ∧ ∀ y ∈ r, (n : Int) ≤ y
 | 0, h => by
   obtain rfl : n = 0 := by omega
   exact ⟨[], by simp, fun y hy => by cases hy⟩
 | k + 1, h => by
   by_cases e : n = k + 1
   · subst e; exact ⟨[], by simp, fun y hy => by cases hy⟩
   · obtain ⟨r, h1, h2⟩ := bg_app l n k (by omega)
     cases hm : (k == 0 || mkF 0 l k)
     · rw [bgN_no hm]; exact ⟨r, h1, h2⟩
     · rw [bgN_yes hm, h1, List.append_assoc]
       refine ⟨_, rfl, fun y hy => ?_⟩
       rcases List.mem_append.1 hy with hy | hy
       · exact h2 y hy
       · simp at hy; omega
theorem bg_lt (l : List Ins) : ∀ k, 0 < k → ∀ y ∈ bgN l k, y < (k : Int)
 | 0, h => by omega
 | k + 1, _ => fun y hy => by
   unfold bgN at hy
   rcases List.mem_append.1 hy with hy | hy
   · split at hy
     · simp at hy; omega
     · cases hy
   · obtain ⟨i, hi, rfl⟩ := List.mem_map.1 hy
     have := List.mem_range.1 (List.mem_filter.1 hi).1
     show (i : Int) < _
     omega
theorem bg_one (l : List Ins) : bgN l 1 = bgN l 0 ++ [0] := bgN_yes (k := 0) rfl
theorem bg_pos {l : List Ins} {k : Nat} (h : 0 < k) : 0 < (bgN l k).length := by
 obtain ⟨r, h1, _⟩ := bg_app l 1 k h
 rw [h1, bg_one]
 simp only [List.length_append, List.length_cons]
 omega
/-- the block of an instruction -/
def posN (l : List Ins) (n : Nat) : Nat := (bgN l (n + 1)).length - 1
theorem pos_lt {l : List Ins} {n : Nat} (h : n < l.length) : posN l n < (begL l).length ∧ posN l n + 1 = (bgN l (n + 1)).length := by
 obtain ⟨r, h1, _⟩ := bg_app l (n + 1) l.length (by omega)
 have h2 := bg_pos (l := l) (show 0 < n + 1 by omega)
 unfold begL posN
 rw [h1, List.length_append]
 omega
theorem beg_at {l : List Ins} {k : Nat} (h : k ≤ l.length) {i : Nat} : (i < (bgN l k).length → (begL l)[i]? = (bgN l k)[i]?) ∧ ((bgN l k).length ≤ i → ∀ y, (begL l)[i]? = some y → (k : Int) ≤ y) := by
 obtain ⟨r, h1, h2⟩ := bg_app l k l.length h
 unfold begL
 rw [h1]
 refine ⟨fun hi => List.getElem?_append_left hi, fun hi y hy => ?_⟩
 rw [List.getElem?_append_right hi] at hy
 exact h2 y (List.mem_of_getElem? hy)
theorem stN_pos {l : List Ins} {n : Nat} (h : n < l.length) : stN l (posN l n) ≤ n := by
 obtain ⟨h1, h2⟩ := pos_lt h
 obtain ⟨x, hx⟩ : ∃ x, (begL l)[posN l n]? = some x := ⟨_, List.getElem?_eq_getElem h1⟩
 have h3 := stN_of hx
 rw [(beg_at (show n + 1 ≤ l.length by omega)).1 (by omega)] at hx
 have := bg_lt l (n + 1) (by omega) x (List.mem_of_getElem? hx)
 omega
theorem enN_pos {l : List Ins} {n : Nat} (h : n < l.length) : n + 1 ≤ enN l (posN l n) ∧ (enN l (posN l n) = n + 1 ↔ (n + 1 = l.length ∨ mkD l (n + 1) = true)) := by
 obtain ⟨h1, h2⟩ := pos_lt h
 have hn1 : n + 1 ≤ l.length := by omega
 by_cases he : n + 1 = l.length
 · have hb : (begL l).length = (bgN l (n + 1)).length := by unfold begL; rw [he]
   have : enN l (posN l n) = l.length := by unfold enN; rw [if_neg (by omega)]
   rw [this]
   exact ⟨by omega, fun _ => .inl he, fun _ => by omega⟩
 · cases hm : mkD l (n + 1)
   · have hb : bgN l (n + 2) = bgN l (n + 1) := bgN_no (by rw [mkD_b]; exact hm)
     have key : n + 2 ≤ enN l (posN l n) := by
      unfold enN
      split
      · rename_i hj
        obtain ⟨y, hy⟩ : ∃ y, (begL l)[posN l n + 1]? = some y := ⟨_, List.getElem?_eq_getElem hj⟩
        have := (beg_at (show n + 2 ≤ l.length by omega)).2 (by rw [hb]; omega) y hy
        rw [List.getD_eq_getElem?_getD, hy]
        show n + 2 ≤ y.toNat
        omega
      · omega
     exact ⟨by omega, fun e => by omega, fun e => by rcases e with e | e; · exact absurd e he
                                                     · cases e⟩
   · have hb : bgN l (n + 2) = bgN l (n + 1) ++ [((n + 1 : Nat) : Int)] := bgN_yes (by rw [mkD_b]; exact hm)
     have hy : (begL l)[posN l n + 1]? = some ((n + 1 : Nat) : Int) := by
      rw [(beg_at (show n + 2 ≤ l.length by omega)).1 (by rw [hb, List.length_append]; simp; omega), hb, List.getElem?_append_right (by omega)]
      rw [show posN l n + 1 - (bgN l (n + 1)).length = 0 by omega]
      rfl
     have : enN l (posN l n) = n + 1 := by
      unfold enN
      rw [if_pos (List.getElem?_eq_some_iff.1 hy).1, List.getD_eq_getElem?_getD, hy]
      show ((n + 1 : Nat) : Int).toNat = n + 1
      omega
     rw [this]
     exact ⟨Nat.le_refl _, fun _ => .inr rfl, fun _ => rfl⟩
theorem pos_next {l : List Ins} {n : Nat} (h : n + 1 < l.length) : posN l (n + 1) = if mkD l (n + 1) = true then posN l n + 1 else posN l n := by
 obtain ⟨_, h2⟩ := pos_lt (show n < l.length by omega)
 unfold posN
 cases hm : mkD l (n + 1)
 · rw [bgN_no (k := n + 1) (by rw [mkD_b]; exact hm), if_neg (by simp)]
 · rw [bgN_yes (k := n + 1) (by rw [mkD_b]; exact hm), if_pos rfl, List.length_append]
   unfold posN at h2
   simp
   omega
theorem numF_none {g : Nat} : ∀ (r : List Int) (i : Nat) (f : Nat → Int), (∀ y ∈ r, y ≠ (g : Int)) → numF i r f g = f g
 | [], _, _, _ => rfl
 | y :: r, i, f, h => by
   unfold numF
   rw [numF_none r (i + 1) _ (fun z hz => h z (by simp [hz]))]
   have := h y (by simp)
   simp
   intro e
   exact absurd e.symm this
/-- the number of a block that begins with an instruction is that instruction's -/
theorem blk_pos {l : List Ins} {g : Nat} (h : g < l.length) (hm : mkD l g = true) : (blkL l).getD g 0 = (posN l g : Int) := by
 unfold blkL
 rw [List.getD_eq_getElem?_getD, nums_get _ h]
 obtain ⟨r, h1, h2⟩ := bg_app l (g + 1) l.length (by omega)
 have hb : bgN l (g + 1) = bgN l g ++ [(g : Int)] := bgN_yes (by rw [mkD_b]; exact hm)
 show numF 0 (begL l) (fun _ => 0) g = _
 unfold begL
 rw [h1, numF_app, numF_none r _ _ (fun y hy => by have := h2 y hy; omega), hb, numF_app]
 unfold posN
 rw [hb]
 simp [numF]
theorem beg_mono (l : List Ins) {i j : Nat} {x y : Int} (hij : i ≤ j) (hx : (begL l)[i]? = some x) (hy : (begL l)[j]? = some y) : x ≤ y := by
 rcases Nat.lt_or_ge i j with h | h
 · have hp := List.pairwise_iff_getElem.1 (bgN_rise l l.length) i j (List.getElem?_eq_some_iff.1 hx).1 (List.getElem?_eq_some_iff.1 hy).1 h
   rw [← (List.getElem?_eq_some_iff.1 hx).2, ← (List.getElem?_eq_some_iff.1 hy).2]
   exact hp
 · obtain rfl : i = j := by omega
   rw [hx] at hy; cases hy; exact Int.le_refl _
theorem bg_step (l : List Ins) (k : Nat) : (bgN l (k + 1)).length ≤ (bgN l k).length + 1 := by
 cases hm : (k == 0 || mkF 0 l k)
 · rw [bgN_no hm]; omega
 · rw [bgN_yes hm]; simp
theorem beg_strict (l : List Ins) {i j : Nat} {x y : Int} (hij : i < j) (hx : (begL l)[i]? = some x) (hy : (begL l)[j]? = some y) (h0 : 0 < y) : x < y := by
 have hyr := begL_in l y (List.mem_of_getElem? hy)
 obtain ⟨m, rfl⟩ : ∃ m : Nat, y = m := ⟨y.toNat, by omega⟩
 have h1 : j < (bgN l (m + 1)).length := Nat.lt_of_not_le fun h => by
  have := (beg_at (show m + 1 ≤ l.length by omega)).2 h _ hy
  omega
 have h2 := bg_step l m
 have h3 := (beg_at (show m ≤ l.length by omega) (i := i)).1 (by omega)
 rw [hx] at h3
 exact bg_lt l m (by omega) x (List.mem_of_getElem? h3.symm)
theorem st_lt_en {l : List Ins} {j : Nat} (hj : j < (begL l).length) (h0 : 0 < stN l j) : stN l j < enN l j := by
 obtain ⟨x, hx⟩ : ∃ x, (begL l)[j]? = some x := ⟨_, List.getElem?_eq_getElem hj⟩
 have hs := stN_of hx
 have hr := begL_in l x (List.mem_of_getElem? hx)
 unfold enN
 split
 · rename_i h
   obtain ⟨y, hy⟩ : ∃ y, (begL l)[j + 1]? = some y := ⟨_, List.getElem?_eq_getElem h⟩
   have h1 := beg_mono l (Nat.le_succ j) hx hy
   have h2 := beg_strict l (Nat.lt_succ_self j) hx hy (by omega)
   rw [List.getD_eq_getElem?_getD, hy]
   show _ < y.toNat
   omega
 · omega
theorem pos_apart {l : List Ins} {n i : Nat} (h : n < l.length) (hi : i < (begL l).length) (hne : i ≠ posN l n) : enN l i ≤ n ∨ n + 1 ≤ stN l i := by
 obtain ⟨h1, h2⟩ := pos_lt h
 obtain ⟨x, hx⟩ : ∃ x, (begL l)[i]? = some x := ⟨_, List.getElem?_eq_getElem hi⟩
 obtain ⟨y, hy⟩ : ∃ y, (begL l)[posN l n]? = some y := ⟨_, List.getElem?_eq_getElem h1⟩
 have hs := stN_of hx
 have hs2 := stN_of hy
 have hs3 := stN_pos h
 rcases Nat.lt_or_gt_of_ne hne with hlt | hgt
 · left
   obtain ⟨z, hz⟩ : ∃ z, (begL l)[i + 1]? = some z := ⟨_, List.getElem?_eq_getElem (by omega)⟩
   have hz2 := beg_mono l (show i + 1 ≤ posN l n by omega) hz hy
   have hz3 := begL_in l z (List.mem_of_getElem? hz)
   unfold enN
   rw [if_pos (by omega), List.getD_eq_getElem?_getD, hz]
   show z.toNat ≤ n
   omega
 · right
   have := (beg_at (show n + 1 ≤ l.length by omega)).2 (by omega) x hx
   omega
/-- the blocks, as far as instructions were gone through -/
structure CtP (l : List Ins) (n : Nat) (bs : List Bk) : Prop where
 len : bs.length = (begL l).length
 row : ∀ (j : Nat) (x : Bk), bs[j]? = some x → x.code = seg (l.map Zs) (stN l j) (min (enN l j) n) ∧ (x.phis = [] ∧ x.pa = none ∧ x.pcap = 0) ∧ (x.fm = [] ∧ x.fa = none ∧ x.fcap = 0) ∧ x.tt = if enN l j ≤ n then toL l j else []
theorem seg_grow {l : List Ins} {st n : Nat} {x : Ins} (h : st ≤ n) (hx : l[n]? = some x) : seg l st (n + 1) = seg l st n ++ [x] := by
 unfold seg
 rw [show n + 1 - st = (n - st) + 1 by omega, List.take_add_one, List.getElem?_drop, show st + (n - st) = n by omega, hx]
 rfl
theorem seg_none {l : List Ins} {st hi : Nat} (h : hi ≤ st) : seg l st hi = [] := by
 unfold seg
 rw [show hi - st = 0 by omega]; rfl
theorem CtP.step {l : List Ins} {n : Nat} {bs : List Bk} {x : Bk} {i : Ins} {a c : _} {ta : _} {tcap : _} (h : CtP l n bs) (hn : n < l.length) (hi : l[n]? = some i) (hx : bs[posN l n]? = some x) :
 CtP l (n + 1) (bs.set (posN l n) { x with ca := a, ccap := c, code := x.code ++ [Zs i], ta := ta, tcap := tcap, tt := if enN l (posN l n) ≤ n + 1 then toL l (posN l n) else [] }) := by
 refine ⟨by rw [List.length_set, h.len], fun j y hy => ?_⟩
 rcases Xs hx hy with ⟨rfl, rfl⟩ | ⟨e, hy'⟩
 · obtain ⟨h1, h2, h3, h4⟩ := h.row _ x hx
   obtain ⟨e1, _⟩ := enN_pos hn
   refine ⟨?_, h2, h3, rfl⟩
   show x.code ++ [Zs i] = _
   rw [h1, Nat.min_eq_right (by omega), Nat.min_eq_right (by omega), seg_grow (stN_pos hn) (by rw [List.getElem?_map, hi]; rfl)]
 · obtain ⟨h1, h2, h3, h4⟩ := h.row j y hy'
   have hj : j < (begL l).length := by rw [← h.len]; exact (List.getElem?_eq_some_iff.1 hy').1
   rcases pos_apart hn hj e with h5 | h5
   · refine ⟨by rw [h1, Nat.min_eq_left h5, Nat.min_eq_left (by omega)], h2, h3, ?_⟩
     rw [h4, if_pos h5, if_pos (by omega)]
   · obtain ⟨s1, _⟩ := st_en hj
     refine ⟨by rw [h1, seg_none (by omega), seg_none (by omega)], h2, h3, ?_⟩
     by_cases h6 : enN l j ≤ n + 1
     · exfalso
       have := st_lt_en hj (by omega)
       omega
     · rw [h4, if_neg (by omega), if_neg h6]
theorem CtP.start {l : List Ins} (h0 : 0 < l.length) {bs : List Bk} (hl : bs.length = (begL l).length) (hb : ∀ (j : Nat) (x : Bk), bs[j]? = some x → x.code = [] ∧ (x.phis = [] ∧ x.pa = none ∧ x.pcap = 0) ∧ (x.fm = [] ∧ x.fa = none ∧ x.fcap = 0) ∧ x.tt = if j = 0 ∧ mkF 0 l 0 = true then [1] else []) : CtP l 0 bs := by
 refine ⟨hl, fun j x hx => ?_⟩
 obtain ⟨h1, h2, h3, h4⟩ := hb j x hx
 have hj : j < (begL l).length := by rw [← hl]; exact (List.getElem?_eq_some_iff.1 hx).1
 refine ⟨by rw [h1, seg_none (by omega)], h2, h3, ?_⟩
 rw [h4]
 have hb1 : (bgN l 1).length = (if mkF 0 l 0 = true then 1 else 0) + 1 := by
  rw [bg_one, bgN_zero]
  split <;> rfl
 have hbv : ∀ i, i < (bgN l 1).length → (begL l)[i]? = some 0 := fun i hi => by
  rw [(beg_at (show 1 ≤ l.length by omega)).1 hi, bg_one, bgN_zero]
  rw [hb1] at hi
  cases hm : mkF 0 l 0
  · rw [hm] at hi
    obtain rfl : i = 0 := by simpa using hi
    rfl
  · rw [hm] at hi
    have : i = 0 ∨ i = 1 := by simp at hi; omega
    rcases this with rfl | rfl <;> rfl
 by_cases hc : j = 0 ∧ mkF 0 l 0 = true
 · obtain ⟨rfl, hm⟩ := hc
   rw [hm] at hb1
   have h5 := hbv 0 (by rw [hb1]; simp)
   have h6 := hbv 1 (by rw [hb1]; simp)
   have hst : stN l 0 = 0 := by have := stN_of h5; omega
   have hen : enN l 0 = 0 := by
    unfold enN
    rw [if_pos (List.getElem?_eq_some_iff.1 h6).1, List.getD_eq_getElem?_getD, h6]
    rfl
   rw [if_pos ⟨rfl, hm⟩, if_pos (by omega)]
   unfold toL
   rw [hst, hen, seg_none (Nat.le_refl _)]
   rfl
 · rw [if_neg hc, if_neg]
   intro he
   apply hc
   unfold enN at he
   split at he
   · rename_i hjl
     obtain ⟨y, hy⟩ : ∃ y, (begL l)[j + 1]? = some y := ⟨_, List.getElem?_eq_getElem hjl⟩
     rw [List.getD_eq_getElem?_getD, hy] at he
     have he' : y.toNat ≤ 0 := he
     have hy2 := begL_in l y (List.mem_of_getElem? hy)
     have h7 : j + 1 < (bgN l 1).length := Nat.lt_of_not_le fun h => by
      have := (beg_at (show 1 ≤ l.length by omega)).2 h _ hy
      omega
     rw [hb1] at h7
     split at h7
     · rename_i hm
       exact ⟨by omega, hm⟩
     · omega
   · omega
theorem CtP.done {l : List Ins} {bs : List Bk} (h : CtP l l.length bs) : eqL Zz bs (skB l) = true := by
 refine eqL_of (by rw [skB_len, h.len]) fun j x y hx hy => ?_
 have hj : j < (begL l).length := by rw [← h.len]; exact (List.getElem?_eq_some_iff.1 hx).1
 rw [skB_get hj] at hy
 cases hy
 obtain ⟨h1, ⟨h2, _⟩, ⟨h3, _⟩, h4⟩ := h.row j x hx
 obtain ⟨s1, s2⟩ := st_en hj
 refine sameB_mk (by rw [h2]; rfl) ?_ h3 (by rw [h4, if_pos s2])
 rw [h1, Nat.min_eq_left s2]
 exact eqL_refl fun i _ => sameI_refl i
end Go.Proofs.YthiiahlgncngoaaDoorRR.Fw
