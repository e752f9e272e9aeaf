/- Walks of the document's Same, of the law's large. Conditions: what is held against one another lies in memory. -/
import Derived.Test.YthiiahlgncngoaaDoorRRJGrF
import Derived.Deep.CutBlock
import Derived.Deep.DeepCutAuto
set_option maxHeartbeats 16000000
set_option maxRecDepth 100000
set_option linter.unusedSimpArgs false
set_option linter.unusedVariables false
namespace Go.Proofs.YthiiahlgncngoaaDoorRR.Fw
open Go Go.RowKit
open Go.Proofs.YthiiahlgncngoaaDoorRR.Lx Go.Proofs.YthiiahlgncngoaaDoorRR.Tr Go.Proofs.YthiiahlgncngoaaDoorRR.Cd
open Go.Proofs.YthiiahlgncngoaaDoorRR.Vq Go.Proofs.YthiiahlgncngoaaDoorRR.Qr
open Go.Proofs.YthiiahlgncngoaaDoorRR.Qg (Z2)
/-- a program of blocks without its blocks -/
def bareP1 (p : Fm) : Pg := ⟨p.ma, p.mcap, p.mems, p.la, p.lcap, p.locks, none, 0, []⟩
theorem bareP1_in {p : Fm} {w : World} (h : Fm.In w p) : Pg.In w Tt (bareP1 p) := ⟨h.mrow, h.mems, h.lrow, h.locks, Cd.row_none _ _, fun f hf => by cases hf⟩
theorem rsame1_c (p q : Fm) (w : World) (hp : Fm.In w p) (hq : Fm.In w q) :
 Calls Tryd.prog 9 #[.agg ⟨p.vals⟩, .agg ⟨q.vals⟩] w fun e w' => e = .returned (.bool (sameFm p q)) ∧ Below w.heap.size w w' := by
 have hRp := Lh (fun V (hv : Below w.heap.size w V) => (hp.keep hv).frow)
 have hRq := Lh (fun V (hv : Below w.heap.size w V) => (hq.keep hv).frow)
 have hXp := Lh (fun (x : Gr) V (hx : x ∈ p.funs) (hv : Below w.heap.size w V) => (hp.keep hv).funs x hx)
 have hXq := Lh (fun (x : Gr) V (hx : x ∈ q.funs) (hv : Below w.heap.size w V) => (hq.keep hv).funs x hx)
 have hS : Hid (∀ V, Below w.heap.size w V → Calls Tryd.prog 22 #[.agg #[.slice p.ma p.mems.length p.mcap, .slice p.la p.locks.length p.lcap, .slice none 0 0], .agg #[.slice q.ma q.mems.length q.mcap, .slice q.la q.locks.length q.lcap, .slice none 0 0]] V fun e w' => e = .returned (.bool (sameP (bareP1 p) (bareP1 q))) ∧ Below V.heap.size V w') :=
  Lh (fun V hv => rsame_any (bareP1 p) (bareP1 q) V (bareP1_in (hp.keep hv)) (bareP1_in (hq.keep hv)))
 have hG : Hid (sameFm p q = (sameP (bareP1 p) (bareP1 q) && eqL Xp p.funs q.funs)) := Lh (by unfold sameFm sameP bareP1; simp [eqL])
 obtain ⟨ci1, ci2⟩ := Q2 hp.frow
 obtain ⟨ck1, ck2⟩ := Q2 hq.frow
 have hst := Lh (Zc w (.cells #[.slice p.ma p.mems.length p.mcap, .slice p.la p.locks.length p.lcap, .slice p.fa p.funs.length p.fcap] 30) (.cells #[.slice q.ma q.mems.length q.mcap, .slice q.la q.locks.length q.lcap, .slice q.fa q.funs.length q.fcap] 30))
 have hgc : Hid ((((w.alloc (.cells #[.slice p.ma p.mems.length p.mcap, .slice p.la p.locks.length p.lcap, .slice p.fa p.funs.length p.fcap] 30)).alloc (.cells #[.slice q.ma q.mems.length q.mcap, .slice q.la q.locks.length q.lcap, .slice q.fa q.funs.length q.fcap] 30)).cell? ⟨w.heap.size, 2, none⟩ = some (.slice p.fa p.funs.length p.fcap)) ∧ ((w.alloc (.cells #[.slice p.ma p.mems.length p.mcap, .slice p.la p.locks.length p.lcap, .slice p.fa p.funs.length p.fcap] 30)).alloc (.cells #[.slice q.ma q.mems.length q.mcap, .slice q.la q.locks.length q.lcap, .slice q.fa q.funs.length q.fcap] 30)).cell? ⟨w.heap.size + 1, 2, none⟩ = some (.slice q.fa q.funs.length q.fcap)) := Lh ⟨Qe (Qh _ _) (box3 w p).2.2, Qk (Qt (w.alloc (.cells #[.slice p.ma p.mems.length p.mcap, .slice p.la p.locks.length p.lcap, .slice p.fa p.funs.length p.fcap] 30)) _ (by simp)) rfl⟩
 clear hp hq
 have hv1 : Value.agg ⟨p.vals⟩ = .agg #[.slice p.ma p.mems.length p.mcap, .slice p.la p.locks.length p.lcap, .slice p.fa p.funs.length p.fcap] := rfl
 have hv2 : Value.agg ⟨q.vals⟩ = .agg #[.slice q.ma q.mems.length q.mcap, .slice q.la q.locks.length q.lcap, .slice q.fa q.funs.length q.fcap] := rfl
 rw [hv1, hv2, hG.out]
 clear hv1 hv2 hG
 generalize sameP (bareP1 p) (bareP1 q) = s1 at *
 generalize hpa : p.fa = pa at *
 generalize hqa : q.fa = qa at *
 replace hpa := Lh hpa
 replace hqa := Lh hqa
 cases s1
 · go_enter Tryd.func9, Tryd.ntmps9
   go_wp2_with fail
   refine (hS.out _ hst.out).mono ?_
   rintro e w1 ⟨rfl, hb1⟩
   have g1 := Lh (hst.out.trans (hb1.mono hst.out.size))
   clear hb1
   go_wp2_with fail
   go_ret
   exact ⟨rfl, g1.out⟩
 · by_cases hle : p.funs.length = q.funs.length
   · have hne5 : ((p.funs.length : Int) != (q.funs.length : Int)) = false := by rw [hle]; simp
     replace hle := Lh hle
     go_enter Tryd.func9, Tryd.ntmps9
     go_wp2_with fail
     refine (hS.out _ hst.out).mono ?_
     rintro e w1 ⟨rfl, hb1⟩
     have hgb : Hid (∀ V, Below ((w.alloc (.cells #[.slice p.ma p.mems.length p.mcap, .slice p.la p.locks.length p.lcap, .slice pa p.funs.length p.fcap] 30)).alloc (.cells #[.slice q.ma q.mems.length q.mcap, .slice q.la q.locks.length q.lcap, .slice qa q.funs.length q.fcap] 30)).heap.size ((w.alloc (.cells #[.slice p.ma p.mems.length p.mcap, .slice p.la p.locks.length p.lcap, .slice pa p.funs.length p.fcap] 30)).alloc (.cells #[.slice q.ma q.mems.length q.mcap, .slice q.la q.locks.length q.lcap, .slice qa q.funs.length q.fcap] 30)) V → V.cell? ⟨w.heap.size, 2, none⟩ = some (.slice pa p.funs.length p.fcap) ∧ V.cell? ⟨w.heap.size + 1, 2, none⟩ = some (.slice qa q.funs.length q.fcap)) := Lh (fun V hv => ⟨Qe hv hgc.out.1, Qe hv hgc.out.2⟩)
     generalize hW0 : (w.alloc (.cells #[.slice p.ma p.mems.length p.mcap, .slice p.la p.locks.length p.lcap, .slice pa p.funs.length p.fcap] 30)).alloc (.cells #[.slice q.ma q.mems.length q.mcap, .slice q.la q.locks.length q.lcap, .slice qa q.funs.length q.fcap] 30) = W0 at hst hgb hb1
     have hb1' := Lh hb1
     obtain ⟨q2, q2'⟩ := hgb.out w1 hb1
     clear hW0 hgc hb1 hS
     go_wp2_with fail
     go_loopw [5] (fun i wr => ∃ k : Nat, k ≤ p.funs.length ∧ i = .int .i64 k ∧ Hid (eqL Xp p.funs q.funs = eqL Xp (p.funs.drop k) (q.funs.drop k)) ∧ Hid (Below W0.heap.size W0 wr)) (fun i _ => p.funs.length - (intOf i).toNat)
     case atStart => exact ⟨0, Nat.zero_le _, rfl, Lh rfl, hb1'⟩
     case round =>
      clear q2 q2' hb1'
      obtain ⟨k, hk, rfl, hsame, hb⟩ := hrel
      have g1 := Lh (hst.out.trans (hb.out.mono hst.out.size))
      obtain ⟨q2, q2'⟩ := hgb.out wr hb.out
      by_cases hlt : k < p.funs.length
      · obtain ⟨u, hu⟩ : ∃ x, p.funs[k]? = some x := ⟨_, List.getElem?_eq_getElem hlt⟩
        obtain ⟨v, hv⟩ : ∃ y, q.funs[k]? = some y := ⟨_, List.getElem?_eq_getElem (by rw [← hle.out]; exact hlt)⟩
        obtain ⟨b, off, ha, _, c0, c1, c2, c3, c4⟩ := gr_row (hRp.out wr g1.out) k u hu
        obtain ⟨b', off', ha', _, e0, e1, e2, e3, e4⟩ := gr_row (hRq.out wr g1.out) k v hv
        subst ha
        subst ha'
        have hj1 : (k : Int) < (p.funs.length : Int) := by omega
        have hj2 : (k : Int) < (q.funs.length : Int) := by have := hle.out; omega
        have hum := List.mem_of_getElem? hu
        have hvm := List.mem_of_getElem? hv
        have hdr := Lh (eqL_drop (f := Xp) p.funs q.funs k u v hu hv)
        have hK : Hid (∀ V, Below wr.heap.size wr V → V.cell? ⟨w.heap.size, 2, none⟩ = some (.slice (some ⟨b, off, none⟩) p.funs.length p.fcap) ∧ V.cell? ⟨w.heap.size + 1, 2, none⟩ = some (.slice (some ⟨b', off', none⟩) q.funs.length q.fcap) ∧ GrC u b (off + k * 5) V ∧ GrC v b' (off' + k * 5) V) := Lh (fun V hv =>
         ⟨Qe hv q2, Qe hv q2', ⟨Qe hv c0, Qe hv c1, Qe hv c2, Qe hv c3, Qe hv c4⟩, Qe hv e0, Qe hv e1, Qe hv e2, Qe hv e3, Qe hv e4⟩)
        have hCall : Hid (∀ V, Below wr.heap.size wr V → Calls Tryd.prog 23 #[.agg #[.string u.name, .bool u.thread, .int .i64 u.params, .int .i64 u.regs, .slice u.ba u.blocks.length u.bcap], .agg #[.string v.name, .bool v.thread, .int .i64 v.params, .int .i64 v.regs, .slice v.ba v.blocks.length v.bcap]] V fun e w' => e = .returned (.bool (Xp u v)) ∧ Below V.heap.size V w') := Lh (fun V hv => rsameGraph_c u v V (hXp.out u V hum (g1.out.trans (hv.mono g1.out.size))) (hXq.out v V hvm (g1.out.trans (hv.mono g1.out.size))))
        clear hu hv hum hvm c0 c1 c2 c3 c4 e0 e1 e2 e3 e4
        cases hd : Xp u v
        · rw [hd] at hCall
          have hfin : Hid (eqL Xp p.funs q.funs = false) := Lh (by rw [hsame.out, hdr.out, hd]; simp)
          clear hsame hdr hd
          go_upto_region 6 with fail
          refine Xv (C := fun V => Below wr.heap.size wr V) (E := Ext) (R := fun i => (rsgf k b off b' off' w.heap.size p q u v).getD i VT) (by kernel_rfl) ((Below.refl _ _).drew) (by kernel_rfl) (fun i v w' w'' _ hE h => Zr _ i rsgf_mono v w' w'' hE h) (steps_all ?hs) ?hend
          case hs =>
           refine Qa (Ql fun a w5 hC hs => ?_) ?_
           · skip
             have hvx := Qo hs 2 (by kernel_rfl) (by rfl)
             exact ⟨Qb rfl, _, Q4 rfl (ev hvx) fl_f2, rfl⟩
           refine Qa (Ql fun a w5 hC hs => ?_) ?_
           · skip
             obtain ⟨vx, hvx, hRx⟩ := Qf hs 0 34 (by kernel_rfl) (by rfl)
             replace hRx : vx = _ := hRx
             subst hRx
             exact ⟨Qb rfl, _, Qz rfl (ev hvx) (ld_grs (hK.out w5 hC).1), rfl⟩
           refine Qa (Ql fun a w5 hC hs => ?_) ?_
           · skip
             have hvx := Qo hs 5 (by kernel_rfl) (by rfl)
             exact ⟨Qb rfl, _, Qw (.inl rfl) (ev hvx), rfl⟩
           refine Qa (Ql fun a w5 hC hs => ?_) ?_
           · skip
             obtain ⟨vx, hvx, hRx⟩ := Qf hs 1 35 (by kernel_rfl) (by rfl)
             replace hRx : vx = _ := hRx
             subst hRx
             obtain ⟨vy, hvy, hRy⟩ := Qf hs 2 36 (by kernel_rfl) (by rfl)
             replace hRy : vy = _ := hRy
             subst hRy
             exact ⟨Qb rfl, _, Yc rfl (ev hvx) (ev hvy) (ix_gr hj1), rfl⟩
           refine Qa (Ql fun a w5 hC hs => ?_) ?_
           · skip
             obtain ⟨vx, hvx, hRx⟩ := Qf hs 3 37 (by kernel_rfl) (by rfl)
             replace hRx : vx = _ := hRx
             subst hRx
             exact ⟨Qb rfl, _, Qz rfl (ev hvx) (ld_gr1 (hK.out w5 hC).2.2.1), rfl⟩
           refine Qa (Ql fun a w5 hC hs => ?_) ?_
           · skip
             have hvx := Qo hs 3 (by kernel_rfl) (by rfl)
             exact ⟨Qb rfl, _, Q4 rfl (ev hvx) fl_f2, rfl⟩
           refine Qa (Ql fun a w5 hC hs => ?_) ?_
           · skip
             obtain ⟨vx, hvx, hRx⟩ := Qf hs 5 39 (by kernel_rfl) (by rfl)
             replace hRx : vx = _ := hRx
             subst hRx
             exact ⟨Qb rfl, _, Qz rfl (ev hvx) (ld_grs (hK.out w5 hC).2.1), rfl⟩
           refine Qa (Ql fun a w5 hC hs => ?_) ?_
           · skip
             have hvx := Qo hs 5 (by kernel_rfl) (by rfl)
             exact ⟨Qb rfl, _, Qw (.inl rfl) (ev hvx), rfl⟩
           refine Qa (Ql fun a w5 hC hs => ?_) ?_
           · skip
             obtain ⟨vx, hvx, hRx⟩ := Qf hs 6 40 (by kernel_rfl) (by rfl)
             replace hRx : vx = _ := hRx
             subst hRx
             obtain ⟨vy, hvy, hRy⟩ := Qf hs 7 41 (by kernel_rfl) (by rfl)
             replace hRy : vy = _ := hRy
             subst hRy
             exact ⟨Qb rfl, _, Yc rfl (ev hvx) (ev hvy) (ix_gr hj2), rfl⟩
           refine Qa (Ql fun a w5 hC hs => ?_) ?_
           · skip
             obtain ⟨vx, hvx, hRx⟩ := Qf hs 8 42 (by kernel_rfl) (by rfl)
             replace hRx : vx = _ := hRx
             subst hRx
             exact ⟨Qb rfl, _, Qz rfl (ev hvx) (ld_gr1 (hK.out w5 hC).2.2.2), rfl⟩
           refine Qa (s_call fun a w5 hC hs => ?_) ?_
           · skip
             obtain ⟨vx, hvx, hRx⟩ := Qf hs 4 38 (by kernel_rfl) (by rfl)
             replace hRx : vx = _ := hRx
             subst hRx
             obtain ⟨vy, hvy, hRy⟩ := Qf hs 9 43 (by kernel_rfl) (by rfl)
             replace hRy : vy = _ := hRy
             subst hRy
             exact ⟨Qb rfl, 23, _, Z2 rfl (ev hvx) (ev hvy) (fun _ _ => rfl), (hCall.out w5 hC).mono (fun e w' ⟨he, hb⟩ => ⟨_, he, hC.trans (hb.mono hC.size), hb, rfl⟩)⟩
           refine Qa (Ql fun a w5 hC hs => ?_) ?_
           · skip
             obtain ⟨vx, hvx, hRx⟩ := Qf hs 10 44 (by kernel_rfl) (by rfl)
             replace hRx : vx = _ := hRx
             subst hRx
             exact ⟨Qb rfl, _, run_notB rfl (ev hvx), rfl⟩
           exact Qx
          case hend =>
           intro σ V4 hC4 hR4
           generalize hF : Q6 _ _ _ _ _ = F
           simp [Q6, dstOf, List.range, List.range.loop, Act.put] at hF
           subst hF
           have hl : σ 11 = .bool true := hR4 11 (by simp)
           rw [hl]
           have g4 := Lh (g1.out.trans (hC4.mono g1.out.size))
           have g5 := Lh (hb.out.trans (hC4.mono hb.out.size))
           clear hR4 hC4 hl hK hCall
           go_wp2_with fail
           go_ret
           exact ⟨Qi (by rw [hfin.out]; rfl), g4.out⟩
        · rw [hd] at hCall
          have hn : Hid (eqL Xp p.funs q.funs = eqL Xp (p.funs.drop (k + 1)) (q.funs.drop (k + 1))) := Lh (by rw [hsame.out, hdr.out, hd]; simp)
          clear hsame hdr hd
          go_upto_region 6 with fail
          refine Xv (C := fun V => Below wr.heap.size wr V) (E := Ext) (R := fun i => (rsgt k b off b' off' w.heap.size p q u v).getD i VT) (by kernel_rfl) ((Below.refl _ _).drew) (by kernel_rfl) (fun i v w' w'' _ hE h => Zr _ i rsgt_mono v w' w'' hE h) (steps_all ?hs) ?hend
          case hs =>
           refine Qa (Ql fun a w5 hC hs => ?_) ?_
           · skip
             have hvx := Qo hs 2 (by kernel_rfl) (by rfl)
             exact ⟨Qb rfl, _, Q4 rfl (ev hvx) fl_f2, rfl⟩
           refine Qa (Ql fun a w5 hC hs => ?_) ?_
           · skip
             obtain ⟨vx, hvx, hRx⟩ := Qf hs 0 34 (by kernel_rfl) (by rfl)
             replace hRx : vx = _ := hRx
             subst hRx
             exact ⟨Qb rfl, _, Qz rfl (ev hvx) (ld_grs (hK.out w5 hC).1), rfl⟩
           refine Qa (Ql fun a w5 hC hs => ?_) ?_
           · skip
             have hvx := Qo hs 5 (by kernel_rfl) (by rfl)
             exact ⟨Qb rfl, _, Qw (.inl rfl) (ev hvx), rfl⟩
           refine Qa (Ql fun a w5 hC hs => ?_) ?_
           · skip
             obtain ⟨vx, hvx, hRx⟩ := Qf hs 1 35 (by kernel_rfl) (by rfl)
             replace hRx : vx = _ := hRx
             subst hRx
             obtain ⟨vy, hvy, hRy⟩ := Qf hs 2 36 (by kernel_rfl) (by rfl)
             replace hRy : vy = _ := hRy
             subst hRy
             exact ⟨Qb rfl, _, Yc rfl (ev hvx) (ev hvy) (ix_gr hj1), rfl⟩
           refine Qa (Ql fun a w5 hC hs => ?_) ?_
           · skip
             obtain ⟨vx, hvx, hRx⟩ := Qf hs 3 37 (by kernel_rfl) (by rfl)
             replace hRx : vx = _ := hRx
             subst hRx
             exact ⟨Qb rfl, _, Qz rfl (ev hvx) (ld_gr1 (hK.out w5 hC).2.2.1), rfl⟩
           refine Qa (Ql fun a w5 hC hs => ?_) ?_
           · skip
             have hvx := Qo hs 3 (by kernel_rfl) (by rfl)
             exact ⟨Qb rfl, _, Q4 rfl (ev hvx) fl_f2, rfl⟩
           refine Qa (Ql fun a w5 hC hs => ?_) ?_
           · skip
             obtain ⟨vx, hvx, hRx⟩ := Qf hs 5 39 (by kernel_rfl) (by rfl)
             replace hRx : vx = _ := hRx
             subst hRx
             exact ⟨Qb rfl, _, Qz rfl (ev hvx) (ld_grs (hK.out w5 hC).2.1), rfl⟩
           refine Qa (Ql fun a w5 hC hs => ?_) ?_
           · skip
             have hvx := Qo hs 5 (by kernel_rfl) (by rfl)
             exact ⟨Qb rfl, _, Qw (.inl rfl) (ev hvx), rfl⟩
           refine Qa (Ql fun a w5 hC hs => ?_) ?_
           · skip
             obtain ⟨vx, hvx, hRx⟩ := Qf hs 6 40 (by kernel_rfl) (by rfl)
             replace hRx : vx = _ := hRx
             subst hRx
             obtain ⟨vy, hvy, hRy⟩ := Qf hs 7 41 (by kernel_rfl) (by rfl)
             replace hRy : vy = _ := hRy
             subst hRy
             exact ⟨Qb rfl, _, Yc rfl (ev hvx) (ev hvy) (ix_gr hj2), rfl⟩
           refine Qa (Ql fun a w5 hC hs => ?_) ?_
           · skip
             obtain ⟨vx, hvx, hRx⟩ := Qf hs 8 42 (by kernel_rfl) (by rfl)
             replace hRx : vx = _ := hRx
             subst hRx
             exact ⟨Qb rfl, _, Qz rfl (ev hvx) (ld_gr1 (hK.out w5 hC).2.2.2), rfl⟩
           refine Qa (s_call fun a w5 hC hs => ?_) ?_
           · skip
             obtain ⟨vx, hvx, hRx⟩ := Qf hs 4 38 (by kernel_rfl) (by rfl)
             replace hRx : vx = _ := hRx
             subst hRx
             obtain ⟨vy, hvy, hRy⟩ := Qf hs 9 43 (by kernel_rfl) (by rfl)
             replace hRy : vy = _ := hRy
             subst hRy
             exact ⟨Qb rfl, 23, _, Z2 rfl (ev hvx) (ev hvy) (fun _ _ => rfl), (hCall.out w5 hC).mono (fun e w' ⟨he, hb⟩ => ⟨_, he, hC.trans (hb.mono hC.size), hb, rfl⟩)⟩
           refine Qa (Ql fun a w5 hC hs => ?_) ?_
           · skip
             obtain ⟨vx, hvx, hRx⟩ := Qf hs 10 44 (by kernel_rfl) (by rfl)
             replace hRx : vx = _ := hRx
             subst hRx
             exact ⟨Qb rfl, _, run_notB rfl (ev hvx), rfl⟩
           exact Qx
          case hend =>
           intro σ V4 hC4 hR4
           generalize hF : Q6 _ _ _ _ _ = F
           simp [Q6, dstOf, List.range, List.range.loop, Act.put] at hF
           subst hF
           have hl : σ 11 = .bool false := hR4 11 (by simp)
           rw [hl]
           have g4 := Lh (g1.out.trans (hC4.mono g1.out.size))
           have g5 := Lh (hb.out.trans (hC4.mono hb.out.size))
           clear hR4 hC4 hl hK hCall
           go_wp2_with fail
           go_roundw
           case rel => exact ⟨k + 1, by omega, by go_num, hn, g5⟩
           case measure => simp [intOf]; omega
      · have hkn : k = p.funs.length := by omega
        have hk1 : ¬ (k : Int) < (p.funs.length : Int) := by omega
        have hfin : Hid (eqL Xp p.funs q.funs = true) := Lh (by rw [hsame.out, List.drop_of_length_le (by omega), List.drop_of_length_le (by have := hle.out; omega)]; rfl)
        clear hsame hkn
        go_wp2_with fail
        go_ret
        exact ⟨Qi (by simp [hfin.out]), g1.out⟩
   · have e4 := ne_n (a := (p.funs.length : Int)) (b := (q.funs.length : Int)) (by omega)
     have hf : Hid (eqL Xp p.funs q.funs = false) := Lh (by rw [Bool.eq_false_iff]; intro h; exact hle (eqL_len h))
     clear hle
     go_enter Tryd.func9, Tryd.ntmps9
     go_wp2_with fail
     refine (hS.out _ hst.out).mono ?_
     rintro e w1 ⟨rfl, hb1⟩
     have q2 := Qe hb1 hgc.out.1
     have q2' := Qe hb1 hgc.out.2
     have g1 := Lh (hst.out.trans (hb1.mono hst.out.size))
     clear hb1 hgc
     go_wp2_with fail
     go_ret
     exact ⟨Qi (by simp [hf.out]), g1.out⟩
end Go.Proofs.YthiiahlgncngoaaDoorRR.Fw
