/- Walk of graph: a Fun's blocks. Conditions: the Fun lies in memory, its instructions lead to instructions, the last one is a jump or a return. -/
import Derived.Test.YthiiahlgncngoaaDoorRRJM9
set_option maxHeartbeats 16000000
set_option maxRecDepth 100000
set_option linter.unusedVariables false
set_option linter.unusedSimpArgs false
namespace Go.Proofs.YthiiahlgncngoaaDoorRR.Fw
open Go Go.RowKit
open Go.Proofs.YthiiahlgncngoaaDoorRR.Lx Go.Proofs.YthiiahlgncngoaaDoorRR.Tr Go.Proofs.YthiiahlgncngoaaDoorRR.Cd
open Go.Proofs.YthiiahlgncngoaaDoorRR.Vq Go.Proofs.YthiiahlgncngoaaDoorRR.Qr Go.Proofs.YthiiahlgncngoaaDoorRR.QrT Go.Proofs.YthiiahlgncngoaaDoorRR.QrP
open Go.Proofs.YthiiahlgncngoaaDoorRR.Qg (Z5 Z2 run_call3)
/-- a graph's blocks, in memory: what cut makes, what stays of it, and From, in rows of their own -/
structure GrQ (B : Nat) (l : List Ins) (ba : Option Addr) (bcap : Nat) (L : List Bk) (W : World) : Prop where
 ex : ∃ g g2 bs m a7 c7 fa fc, CutS a7 l m bs ∧ CodeI B g a7 c7 m W ∧ TtI (g + 1) (stay bs) (oldTo (stay bs)) W ∧ ba = some ⟨g2, 0, none⟩ ∧ OwnC (g + 1) g2 bcap L W ∧ (∀ x ∈ stay bs, ∀ q, (toV x).ownBlock = some q → q < g2) ∧
  L = X6 fa fc (stay bs) (stay bs).length ∧ ∀ k, k < (stay bs).length → W.ownsRow (g2 + 1) 3 1 (.slice (fa k) (Zt (stay bs) (k : Int)).length (fc k)) (Zt (stay bs) (k : Int)).length (Qc (Zt (stay bs) (k : Int)))
theorem graph_c (f : Cd.Fn) (w : World) (hf : Fn.In w Tt f) (hT : OpTab w) (hl0 : 0 < f.code.length) (hl : f.code.length ≤ 16384) (ha : ∀ y ∈ f.code, y.args.length ≤ 1048576) (hg : ∀ y ∈ f.code, (glP y).2 = true → 0 ≤ (glP y).1 ∧ (glP y).1 < (f.code.length : Int)) (hlast : Zv f.code = 11 ∨ Zv f.code = 13) :
 Calls Tryd.prog 21 #[.agg ⟨f.vals⟩] w fun e w' => ∃ x : Gr, e = .returned (.agg ⟨x.vals⟩) ∧ x.name = f.name ∧ x.thread = f.thread ∧ x.params = f.params ∧ x.regs = f.regs ∧ GrQ w.heap.size f.code x.ba x.bcap x.blocks w' ∧ Below w.heap.size w w' := by
 obtain ⟨name, thread, params, regs, ca, ccap, code⟩ := f
 simp only at *
 unfold Cd.Fn.vals
 simp only
 have hst := Lh (Zc w (.cells #[.string name, .bool thread, .int .i64 params, .int .i64 regs, .slice ca code.length ccap] 50) (.cells gr0 37))
 have hq := Lh (Zk w [.string name, .bool thread, .int .i64 params, .int .i64 regs, .slice ca code.length ccap] 50)
 have hqq := Lh (Qt (w.alloc (.cells #[.string name, .bool thread, .int .i64 params, .int .i64 regs, .slice ca code.length ccap] 50)) (.cells gr0 37) (b := w.heap.size + 1) (by simp))
 have hpars := Lh hf
 have hT' := Lh hT
 replace ha := Lh ha
 replace hg := Lh hg
 clear hf hT
 go_enter Tryd.func21, Tryd.ntmps21
 go_upto_region 1 with fail
 have hsz : ((w.alloc (.cells #[.string name, .bool thread, .int .i64 params, .int .i64 regs, .slice ca code.length ccap] 50)).alloc (.cells gr0 37)).heap.size = w.heap.size + 2 := by simp
 generalize hW0 : (w.alloc (.cells #[.string name, .bool thread, .int .i64 params, .int .i64 regs, .slice ca code.length ccap] 50)).alloc (.cells gr0 37) = W0 at *
 have hq0 : Hid (∀ j u, ([.string name, .bool thread, .int .i64 params, .int .i64 regs, .slice ca code.length ccap] : List Value)[j]? = some u → W0.cell? ⟨w.heap.size, j, none⟩ = some u) := Lh (fun j u hu => by rw [← hW0]; exact Qe (Qh _ _) (hq.out j u hu))
 have q0 := Lh (hq0.out 0 _ rfl)
 have q1 := Lh (hq0.out 1 _ rfl)
 have q2 := Lh (hq0.out 2 _ rfl)
 have q3 := Lh (hq0.out 3 _ rfl)
 have q4 := Lh (hq0.out 4 _ rfl)
 clear hW0 hq hq0
 have hcut := Lh (fun W (hC : Below W0.heap.size W0 W) => cut_c ca ccap code W ((hpars.out.row).below (Kps.of_below (hst.out.trans (hC.mono hst.out.size)))) (fun y hy => (hpars.out.code y hy).below (Kps.of_below (hst.out.trans (hC.mono hst.out.size)))) (hT'.out.keep (hst.out.trans (hC.mono hst.out.size))) (by omega) ha.out hg.out)
 have hbl := begL_len code
 have hbp := begL_pos hl0
 refine Zl (P := Tryd.prog) 11 (C := fun _ V => Below W0.heap.size W0 V) (E := Ext) (EP := NumE) (R := fun t j => (raG W0.heap.size code w.heap.size (.string name) (.bool thread) (.int .i64 params) (.int .i64 regs) (.slice ca code.length ccap) t).getD j VT) (by kernel_rfl) ((Below.refl _ _).drew) (by kernel_rfl) (fun t j v w' w'' _ hE h => Zr _ j raG_mono v w' w'' hE h) (fun i v w' w'' hi _ hE h => raG_num i v w' w'' hi hE h) (m := 14) (by omega) rfl rfl rfl (by kernel_rfl) ?hs rfl ?hp ?hend
 case hs =>
  refine X0 11 14 (fun t => ?_) (fun t => ?_)
  · skip
    refine Qa (Ql fun a W hC hs => ?_) ?_
    · have h1 := Qo hs 1 (by kernel_rfl) (by rfl)
      exact ⟨Qb rfl, _, Q4 rfl (ev h1) fl_u0, rfl⟩
    refine Qa (Ql fun a W hC hs => ?_) ?_
    · obtain ⟨v, hv, hR⟩ := Qf hs 0 6 (by kernel_rfl) (by rfl)
      replace hR : v = _ := hR
      subst hR
      exact ⟨Qb rfl, _, Qz rfl (ev hv) (by have := Qe hC q0.out; simp [go_sem, this]), rfl⟩
    refine Qa (Ql fun a W hC hs => ?_) ?_
    · have h1 := Qo hs 1 (by kernel_rfl) (by rfl)
      exact ⟨Qb rfl, _, Q4 rfl (ev h1) fl_u1, rfl⟩
    refine Qa (Ql fun a W hC hs => ?_) ?_
    · obtain ⟨v, hv, hR⟩ := Qf hs 2 8 (by kernel_rfl) (by rfl)
      replace hR : v = _ := hR
      subst hR
      exact ⟨Qb rfl, _, Qz rfl (ev hv) (by have := Qe hC q1.out; simp [go_sem, this]), rfl⟩
    refine Qa (Ql fun a W hC hs => ?_) ?_
    · have h1 := Qo hs 1 (by kernel_rfl) (by rfl)
      exact ⟨Qb rfl, _, Q4 rfl (ev h1) fl_u2, rfl⟩
    refine Qa (Ql fun a W hC hs => ?_) ?_
    · obtain ⟨v, hv, hR⟩ := Qf hs 4 10 (by kernel_rfl) (by rfl)
      replace hR : v = _ := hR
      subst hR
      exact ⟨Qb rfl, _, Qz rfl (ev hv) (by have := Qe hC q2.out; simp [go_sem, this]), rfl⟩
    refine Qa (Ql fun a W hC hs => ?_) ?_
    · have h1 := Qo hs 1 (by kernel_rfl) (by rfl)
      exact ⟨Qb rfl, _, Q4 rfl (ev h1) fl_u3, rfl⟩
    refine Qa (Ql fun a W hC hs => ?_) ?_
    · obtain ⟨v, hv, hR⟩ := Qf hs 6 12 (by kernel_rfl) (by rfl)
      replace hR : v = _ := hR
      subst hR
      exact ⟨Qb rfl, _, Qz rfl (ev hv) (by have := Qe hC q3.out; simp [go_sem, this]), rfl⟩
    refine Qa (Ql fun a W hC hs => ?_) ?_
    · have h1 := Qo hs 1 (by kernel_rfl) (by rfl)
      exact ⟨Qb rfl, _, Q4 rfl (ev h1) fl_u4, rfl⟩
    refine Qa (Ql fun a W hC hs => ?_) ?_
    · obtain ⟨v, hv, hR⟩ := Qf hs 8 14 (by kernel_rfl) (by rfl)
      replace hR : v = _ := hR
      subst hR
      exact ⟨Qb rfl, _, Qz rfl (ev hv) (by have := Qe hC q4.out; simp [go_sem, this]), rfl⟩
    refine Qa (s_call fun a W hC hs => ?_) ?_
    · obtain ⟨v, hv, hR⟩ := Qf hs 9 15 (by kernel_rfl) (by rfl)
      replace hR : v = _ := hR
      subst hR
      refine ⟨Qb rfl, 53, _, Z5 rfl (ev hv) (fun _ _ => rfl), ((hcut.out W hC).mono ?_)⟩
      rintro e w' ⟨g, bs, m, a7, c7, rfl, h1, h2, h3, h4, h5⟩
      refine ⟨_, rfl, hC.trans (h5.mono hC.size), h5, ?_⟩
      cases t
      · exact ⟨g, bs, m, a7, c7, rfl, h1, h2, h3.low hC.size, h4⟩
      · trivial
    exact Qx
  · refine Qa (Ql fun a W hC hs => ?_) ?_
    · obtain ⟨v1, hv1, hR1⟩ := Qf hs 1 7 (by kernel_rfl) (by rfl)
      replace hR1 : v1 = _ := hR1
      subst hR1
      obtain ⟨v3, hv3, hR3⟩ := Qf hs 3 9 (by kernel_rfl) (by rfl)
      replace hR3 : v3 = _ := hR3
      subst hR3
      obtain ⟨v5, hv5, hR5⟩ := Qf hs 5 11 (by kernel_rfl) (by rfl)
      replace hR5 : v5 = _ := hR5
      subst hR5
      obtain ⟨v7, hv7, hR7⟩ := Qf hs 7 13 (by kernel_rfl) (by rfl)
      replace hR7 : v7 = _ := hR7
      subst hR7
      obtain ⟨v11, hv11, hR11⟩ := Qf hs 11 17 (by kernel_rfl) (by rfl)
      cases t
      · exact False.elim hR11
      · obtain ⟨g, g2, bcap, bs, m, a7, c7, rfl, h1⟩ : VRe W0.heap.size code v11 W := hR11
        exact ⟨Qb rfl, _, run_b (qs := #[(0, .string name), (1, .bool thread), (2, .int .i64 params), (3, .int .i64 regs), (4, .slice (some ⟨g2, 0, none⟩) (stay bs).length bcap)]) rfl (by simp [ev hv1, ev hv3, ev hv5, ev hv7, ev hv11]) (b_graph _ _ _ _ _ _ _), ⟨_, rfl, g, g2, bcap, bs, m, a7, c7, rfl, h1⟩⟩
    refine Qa (s_new fun a W hC hs => ?_) ?_
    · refine ⟨Qb rfl, _, _, run_al rfl (al_graph W), hC.alloc hC.size _, Ext.al _ _, ⟨_, rfl, ?_, Qt _ _ rfl⟩⟩
      exact hC.size
    exact Qx
 case hp =>
  intro a W hC hs
  refine p_call ?_
  refine ⟨Qb rfl, ?_⟩
  obtain ⟨v, hv, hR⟩ := Qf hs 10 16 (by kernel_rfl) (by rfl)
  obtain ⟨g, bs, m, a7, c7, rfl, h1, h2, h3, h4⟩ : VCut W0.heap.size code v W := hR
  have hcs := CutS.of h4 h1 h2
  have hto := hcs.to hlast
  have hlen := hcs.len
  rw [← hlen] at hv
  have hre := reached_c g (g + 1) bs W ((h4.own.row (by unfold maxLen; omega)).mono fun _ _ => trivial) (cut_tti h4) hto (by omega) (by omega)
  refine ⟨52, _, Z5 rfl (ev hv) (fun _ _ => rfl), hre.mono ?_⟩
  rintro e w' ⟨v', rfl, k1, k2, k3⟩
  have hti := cut_tti h4
  have hlo := tti_low hti
  have hgl := h4.own.lt
  have hB := h3.le (by rw [h1]; exact hl0)
  obtain ⟨sp1, sp2⟩ := stay_pos hto (by omega)
  have k4 := k1
  rw [← stay_cells, ← stay_len] at k4
  obtain ⟨g2, bcap, rfl, k5⟩ := OwnC.of k4 sp1
  refine ⟨_, rfl, ?_, fun q hq hn => k3.block q hq fun x hx e => ?_, g, g2, bcap, bs, m, a7, c7, rfl, hcs, h3.frm k3 (fun x hx q hq => by have := hlo x hx q hq; omega), tti_stay hto (by omega) k2, ?_, fun x hx q hq => ?_⟩
  · exact ⟨k3.os.trans hC.os, k3.tape.trans hC.tape, k3.output.trans hC.output, Nat.le_trans hC.size k3.size, fun q hq => (k3.block q (Nat.lt_of_lt_of_le hq hC.size) fun x hx e => by have := hlo x hx q e; omega).trans (hC.block q hq)⟩
  · obtain ⟨i, hi⟩ := List.mem_iff_getElem?.1 hx
    rcases (hti.rows i x hi).2 with ⟨e1, _⟩ | ⟨q', cap, cur, e1, _, hg', _⟩
    · rw [e1] at e; cases e
    · rw [e1] at e
      have e2 : q' = q := Option.some.inj e
      subst e2
      exact hn cur hg'
  · obtain ⟨hB5, ex5⟩ := k5
    exact ⟨by omega, ex5⟩
  · obtain ⟨i, hi⟩ := List.mem_iff_getElem?.1 hx
    obtain ⟨b, x', _, hx', _, _, rfl⟩ := stay_of hi
    rw [toV_re] at hq
    have := hlo x' (List.mem_of_getElem? hx') q hq
    have := k5.hB
    omega
 case hend =>
  intro σ V hC hR
  generalize hF : Q6 _ _ _ _ _ = F
  simp [Q6, dstOf, List.range, List.range.loop, Act.put] at hF
  subst hF
  obtain ⟨qb, hqb, hqB, hqh⟩ : VAl W0.heap.size (σ 13) V := hR 13 (by simp)
  obtain ⟨u, h12, g, g2, bcap, bs, m, a7, c7, rfl, hre⟩ : VBd W0.heap.size code (.string name) (.bool thread) (.int .i64 params) (.int .i64 regs) (σ 12) V := hR 12 (by simp)
  rw [hqb, h12]
  have c0 := Qk hqh (j := 0) rfl
  have c1 := Qk hqh (j := 1) rfl
  have c2 := Qk hqh (j := 2) rfl
  have c3 := Qk hqh (j := 3) rfl
  have c4 := Qk hqh (j := 4) rfl
  have d0 := Qd hqh 0
  have d1 := Qd hqh 1
  have d2 := Qd hqh 2
  have d3 := Qd hqh 3
  have d4 := Qd hqh 4
  have hh1 := Lh (heap_set5 hqh (.string name) (.bool thread) (.int .i64 params) (.int .i64 regs) (.slice (some ⟨g2, 0, none⟩) (stay bs).length bcap))
  have hre1 := Lh (hre.grown (grown5 V qb (.string name) (.bool thread) (.int .i64 params) (.int .i64 regs) (.slice (some ⟨g2, 0, none⟩) (stay bs).length bcap)) hqh (by decide) (by decide) (by decide))
  have hb1 := Lh (below5 hC hqB (.string name) (.bool thread) (.int .i64 params) (.int .i64 regs) (.slice (some ⟨g2, 0, none⟩) (stay bs).length bcap))
  clear hR hre hC hqh h12 hqb hcut q0 q1 q2 q3 q4
  unfold Oper.wp
  unfold execOp
  simp [go_sem, c0, c1, c2, c3, c4, d0, d1, d2, d3, d4]
  clear c0 c1 c2 c3 c4 d0 d1 d2 d3 d4
  generalize ((((V.setCell ⟨qb, 0, none⟩ (.string name)).setCell ⟨qb, 1, none⟩ (.bool thread)).setCell ⟨qb, 2, none⟩ (.int .i64 params)).setCell ⟨qb, 3, none⟩ (.int .i64 regs)).setCell ⟨qb, 4, none⟩ (.slice (some ⟨g2, 0, none⟩) (stay bs).length bcap) = W1 at *
  clear V
  generalize σ 0 = z0
  generalize σ 1 = z1
  generalize σ 2 = z2
  generalize σ 3 = z3
  generalize σ 4 = z4
  generalize σ 5 = z5
  generalize σ 6 = z6
  generalize σ 7 = z7
  generalize σ 8 = z8
  generalize σ 9 = z9
  generalize σ 10 = z10
  generalize σ 11 = z11
  generalize σ 12 = z12
  generalize σ 13 = z13
  have hcs := hre1.out.cut
  have hto0 := hcs.to hlast
  have hlen := hcs.len
  obtain ⟨sp1, sp2⟩ := stay_pos hto0 (by omega)
  have hsto := stay_to hto0 (by omega)
  have hsl : (stay bs).length ≤ 16385 := by omega
  have hown := hre1.out.own
  obtain ⟨lc1, lc2⟩ := Q2 (hown.row)
  have hsrc := Lh (sources_c (stay bs) (some ⟨g2, 0, none⟩) bcap W1 (hown.row.mono fun _ _ => trivial) (stay_in hcs hre1.out.code hre1.out.tos hsto (by omega)) hsto (by omega))
  have e4 := Qk hh1.out (j := 4) rfl
  have hql := World.block_lt_of_cell? _ _ e4
  have hqne : qb ≠ g2 := hown.ne hh1.out (by decide)
  have hgl := hown.lt
  clear hto0 hsto hown
  go_wp2_with fail
  refine hsrc.out.mono ?_
  rintro e W2 ⟨g3, rfl, hS, hb2⟩
  have hg3 := hS.hg
  have hall : ∀ k : Nat, ∃ y : Option Addr × Nat, k < (stay bs).length → W2.cell? ⟨g3, k, none⟩ = some (.slice y.1 (Zt (stay bs) (k : Int)).length y.2) ∧ W2.ownsRow W1.heap.size 3 1 (.slice y.1 (Zt (stay bs) (k : Int)).length y.2) (Zt (stay bs) (k : Int)).length (Qc (Zt (stay bs) (k : Int))) := fun k => by
   by_cases hk : k < (stay bs).length
   · obtain ⟨a, cap, h1, h2, h3, h4⟩ := hS.get hk
     exact ⟨(a, cap), fun _ => ⟨h1, h3⟩⟩
   · exact ⟨(none, 0), fun h => absurd h hk⟩
  have hch : ∃ F : Nat → Option Addr × Nat, ∀ k, k < (stay bs).length → W2.cell? ⟨g3, k, none⟩ = some (.slice (F k).1 (Zt (stay bs) (k : Int)).length (F k).2) ∧ W2.ownsRow W1.heap.size 3 1 (.slice (F k).1 (Zt (stay bs) (k : Int)).length (F k).2) (Zt (stay bs) (k : Int)).length (Qc (Zt (stay bs) (k : Int))) := ⟨fun k => (hall k).choose, fun k => (hall k).choose_spec⟩
  clear hall
  obtain ⟨F, hF⟩ := hch
  have hF' := Lh hF
  have hg3l : g3 < W2.heap.size := by
   obtain ⟨_, vs, _, h2, _⟩ := hS
   exact (Array.getElem?_eq_some_iff.1 h2).1
  have hO2 := Lh (hre1.out.own.keep hb2)
  have hO0 : Hid (OwnC (g + 1) g2 bcap (X6 (fun k => (F k).1) (fun k => (F k).2) (stay bs) 0) W2) := Lh (by rw [tell_zero]; exact hO2.out)
  have e4' := Lh (Qe hb2 e4)
  have hre2 := Lh (hre1.out.keep hb2)
  have hbW2 := Lh (hb1.out.trans (hb2.mono hb1.out.size))
  have hh2 := Lh ((hb2.block qb hql).trans hh1.out)
  have hW12 := hb2.size
  have hgB := hre1.out.code.le (by rw [hcs.mlen]; exact hl0)
  have hg2g := hre1.out.own.hB
  clear hF hS hsrc e4 hb2 hh1 hb1 hre1
  go_wp2_with fail
  go_loopw [23] (fun i wr => ∃ k : Nat, k ≤ (stay bs).length ∧ i = .int .i64 k ∧ Hid (OwnC (g + 1) g2 bcap (X6 (fun k => (F k).1) (fun k => (F k).2) (stay bs) k) wr) ∧ Hid (W2.grownBy wr (some g2))) (fun i _ => (stay bs).length - (intOf i).toNat)
  case atStart => exact ⟨0, Nat.zero_le _, rfl, hO0, Lh (grown_refl _ _)⟩
  case round =>
   obtain ⟨k, hk, rfl, hO, hG⟩ := hrel
   by_cases hlt : k < (stay bs).length
   · obtain ⟨x, hx⟩ : ∃ x, (stay bs)[k]? = some x := ⟨_, List.getElem?_eq_getElem hlt⟩
     have hxt := X9 (fa := fun k => (F k).1) (fcap := fun k => (F k).2) (k := k) hx
     rw [if_neg (by omega)] at hxt
     have hc3 := Zy hG.out (show g3 ≠ g2 by omega) (hF'.out k hlt).1
     have hc4 := Zy hG.out hqne e4'.out
     obtain ⟨x0, x1, x2, x3⟩ := hO.out.get hxt
     have hf2 := hO.out.free (k * 4 + 2)
     have hO3 : Hid (OwnC (g + 1) g2 bcap (X6 (fun k => (F k).1) (fun k => (F k).2) (stay bs) (k + 1)) (wr.setCell ⟨g2, k * 4 + 2, none⟩ (.slice (F k).1 (Zt (stay bs) (k : Int)).length (F k).2))) := Lh (by
      rw [← tell_step hx]
      exact hO.out.set hxt (by omega) rfl)
     have hG3 : Hid (W2.grownBy (wr.setCell ⟨g2, k * 4 + 2, none⟩ (.slice (F k).1 (Zt (stay bs) (k : Int)).length (F k).2)) (some g2)) := Lh (World.grownBy.trans hG.out (Q9 _ _ _ _))
     have hl1 := World.block_lt_of_cell? _ _ hc3
     have hl2 := World.block_lt_of_cell? _ _ hc4
     have hl3 := World.block_lt_of_cell? _ _ x2
     have hi0' : (0 : Int) ≤ (k : Int) := by omega
     have hi1 : (k : Int) < ((stay bs).length : Int) := by omega
     clear hO hG hx hxt x0 x1 x3
     go_wp2_with fail
     go_roundw
     case rel => exact ⟨k + 1, by omega, by go_num, hO3, hG3⟩
     case measure => simp [intOf]; omega
   · have hk2 : k = (stay bs).length := by omega
     subst hk2
     have hhq : wr.heap[qb]? = some (.cells #[.string name, .bool thread, .int .i64 params, .int .i64 regs, .slice (some ⟨g2, 0, none⟩) (stay bs).length bcap] 37 (0, 0)) := (hG.out.block qb (Array.getElem?_eq_some_iff.1 hh2.out).1 (fun e => hqne (Option.some.inj e))).trans hh2.out
     have hr2 : W2.heap[w.heap.size + 1]? = some (.cells gr0 37 (0, 0)) := (hbW2.out.block _ (by omega)).trans hqq.out
     have hhr : wr.heap[w.heap.size + 1]? = some (.cells gr0 37 (0, 0)) := (hG.out.block _ (Array.getElem?_eq_some_iff.1 hr2).1 (fun e => by have := Option.some.inj e; omega)).trans hr2
     have e0 := Qk hhq (j := 0) rfl
     have e1 := Qk hhq (j := 1) rfl
     have e2 := Qk hhq (j := 2) rfl
     have e3 := Qk hhq (j := 3) rfl
     have e4 := Qk hhq (j := 4) rfl
     have r0 := Qk hhr (j := 0) rfl
     have r1 := Qk hhr (j := 1) rfl
     have r2 := Qk hhr (j := 2) rfl
     have r3 := Qk hhr (j := 3) rfl
     have r4 := Qk hhr (j := 4) rfl
     have f0 := Qd hhr 0
     have f1 := Qd hhr 1
     have f2 := Qd hhr 2
     have f3 := Qd hhr 3
     have f4 := Qd hhr 4
     have hlq := World.block_lt_of_cell? _ _ e0
     have hlr := World.block_lt_of_cell? _ _ r0
     replace hhr := Lh hhr
     clear hhq hr2
     go_wp2_with fail
     have hh := heap_set5 hhr.out (.string name) (.bool thread) (.int .i64 params) (.int .i64 regs) (.slice (some ⟨g2, 0, none⟩) (stay bs).length bcap)
     have hg5 := grown5 wr (w.heap.size + 1) (.string name) (.bool thread) (.int .i64 params) (.int .i64 regs) (.slice (some ⟨g2, 0, none⟩) (stay bs).length bcap)
     obtain ⟨_, cur2, hx2, _⟩ := hO2.out
     have hcode := (hre2.out.code.grown hG.out hx2 (by decide) (by decide)).grown hg5 hhr.out (by decide) (by decide)
     have htos := (hre2.out.tos.grownT hG.out hx2 (by decide)).grownT hg5 hhr.out (by decide)
     have hown := hO.out.grown hg5 (show w.heap.size + 1 ≠ g2 by omega)
     have hbz : Below w.heap.size w (((((wr.setCell ⟨w.heap.size + 1, 0, none⟩ (.string name)).setCell ⟨w.heap.size + 1, 1, none⟩ (.bool thread)).setCell ⟨w.heap.size + 1, 2, none⟩ (.int .i64 params)).setCell ⟨w.heap.size + 1, 3, none⟩ (.int .i64 regs)).setCell ⟨w.heap.size + 1, 4, none⟩ (.slice (some ⟨g2, 0, none⟩) (stay bs).length bcap)) :=
      below5 ((hst.out.trans (hbW2.out.mono hst.out.size)).grown hG.out (by have := hbW2.out.size; omega) (fun k e => by have := Option.some.inj e; omega)) (by omega) _ _ _ _ _
     refine bodyPost_ret (v := .agg #[.string name, .bool thread, .int .i64 params, .int .i64 regs, .slice (some ⟨g2, 0, none⟩) (stay bs).length bcap]) (results_cell_row Tryd.results21 _ _ (w.heap.size + 1) _ _ _ _ rfl hh Tryd.underlying37 rfl (by kernel_rfl)) rfl ⟨⟨name, thread, params, regs, some ⟨g2, 0, none⟩, bcap, X6 (fun k => (F k).1) (fun k => (F k).2) (stay bs) (stay bs).length⟩, ?_, rfl, rfl, rfl, rfl, ⟨g, g2, bs, m, a7, c7, _, _, hcs, hcode.low (by omega), htos, rfl, hown, hre2.out.lt, rfl, fun k hk => ?_⟩, hbz⟩
     · unfold Gr.vals
       simp only [Xi]
     · have h1 := (hF'.out k hk).2
       exact own_low (Zd (Zd h1 hG.out (Yb h1 hgl)) hg5 (Yb h1 (by omega))) hgl
end Go.Proofs.YthiiahlgncngoaaDoorRR.Fw
set_option linter.unusedVariables false
set_option linter.unusedSimpArgs false
namespace Go.Proofs.YthiiahlgncngoaaDoorRR.Fw
open Go Go.RowKit
open Go.Proofs.YthiiahlgncngoaaDoorRR.Lx Go.Proofs.YthiiahlgncngoaaDoorRR.Tr Go.Proofs.YthiiahlgncngoaaDoorRR.Cd
open Go.Proofs.YthiiahlgncngoaaDoorRR.Vq Go.Proofs.YthiiahlgncngoaaDoorRR.Qr Go.Proofs.YthiiahlgncngoaaDoorRR.QrT Go.Proofs.YthiiahlgncngoaaDoorRR.QrP
theorem fun_ok {p : Pg} (h : mayP p = true) {f : Cd.Fn} (hf : f ∈ p.funs) : 0 < f.code.length ∧ f.code.length ≤ 16384 ∧ (∀ y ∈ f.code, y.args.length ≤ 1048576) ∧ (∀ y ∈ f.code, (glP y).2 = true → 0 ≤ (glP y).1 ∧ (glP y).1 < (f.code.length : Int)) ∧ (Zv f.code = 11 ∨ Zv f.code = 13) := by
 obtain ⟨_, _, _, h4, h5⟩ := mayP_parts h
 have h6 := List.all_eq_true.1 h5 f hf
 unfold Xq at h6
 simp only [Bool.and_eq_true, decide_eq_true_eq, Bool.or_eq_true] at h6
 obtain ⟨⟨⟨k1, k2⟩, k3⟩, k4⟩ := h6
 have hm : ∀ y ∈ f.code, numP p f y = true := fun y hy => by
  have := List.all_eq_true.1 k3 y hy
  unfold mayF at this
  simp only [Bool.and_eq_true] at this
  exact this.2.1.2
 refine ⟨by omega, k2, fun y hy => ?_, fun y hy hg => ?_, k4⟩
 · have h7 := hm y hy
   unfold numP at h7
   simp only [Bool.and_eq_true, decide_eq_true_eq] at h7
   have h8 : (fitP p f y).2 ≤ 8 := by
    unfold fitP
    repeat' split
    all_goals first
     | (show (0 : Int) ≤ 8; omega)
     | skip
    all_goals
     rename_i g hgm hgt
     have h9 := List.all_eq_true.1 h4 g (List.mem_of_getElem? hgm)
     unfold Xd at h9
     simp only [Bool.and_eq_true, decide_eq_true_eq] at h9
     have := h9.1.1.2
     rw [if_neg hgt] at this
     exact this
   omega
 · have h7 := hm y hy
   unfold glP at hg ⊢
   by_cases e : numK y.op = 7
   · rw [if_pos e]
     unfold numP fitP at h7
     simp only [e] at h7
     simp [inP] at h7
     exact h7.1
   · rw [if_neg e] at hg; cases hg
theorem GrQ.keep {B : Nat} {l : List Ins} {ba : Option Addr} {bcap : Nat} {L : List Bk} {W V : World} (h : GrQ B l ba bcap L W) (hb : Below W.heap.size W V) : GrQ B l ba bcap L V := by
 obtain ⟨g, g2, bs, m, a7, c7, fa, fc, h1, h2, h3, h4, h5, h6, h7, h8⟩ := h
 exact ⟨g, g2, bs, m, a7, c7, fa, fc, h1, h2.keep hb, h3.keep hb, h4, h5.keep hb, h6, h7, fun k hk => Qn (h8 k hk) hb⟩
theorem GrQ.grown {B q : Nat} {l : List Ins} {ba : Option Addr} {bcap : Nat} {L : List Bk} {W V : World} {cur : Array Value} {T : TypeId} (h : GrQ B l ba bcap L W) (hg : W.grownBy V (some q)) (hq : W.heap[q]? = some (.cells cur T (0, 0))) (h1 : T ≠ 44) (h2 : T ≠ 3) (h3 : T ≠ 42) : GrQ B l ba bcap L V := by
 obtain ⟨g, g2, bs, m, a7, c7, fa, fc, k1, k2, k3, k4, k5, k6, k7, k8⟩ := h
 exact ⟨g, g2, bs, m, a7, c7, fa, fc, k1, k2.grown hg hq h1 h2, k3.grownT hg hq h2, k4, k5.grown hg (k5.ne hq h3), k6, k7, fun k hk => Zd (k8 k hk) hg (Zb (k8 k hk) hq h2)⟩
theorem GrQ.low {B B' : Nat} {l : List Ins} {ba : Option Addr} {bcap : Nat} {L : List Bk} {W : World} (h : GrQ B l ba bcap L W) (hB : B' ≤ B) : GrQ B' l ba bcap L W := by
 obtain ⟨g, g2, bs, m, a7, c7, fa, fc, h1, h2, h3⟩ := h
 exact ⟨g, g2, bs, m, a7, c7, fa, fc, h1, h2.low hB, h3⟩
/-- a Fun's blocks -/
structure GrO (B : Nat) (f : Cd.Fn) (x : Gr) (W : World) : Prop where
 name : x.name = f.name
 thread : x.thread = f.thread
 params : x.params = f.params
 regs : x.regs = f.regs
 q : GrQ B f.code x.ba x.bcap x.blocks W
theorem GrO.keep {B : Nat} {f : Cd.Fn} {x : Gr} {W V : World} (h : GrO B f x W) (hb : Below W.heap.size W V) : GrO B f x V := ⟨h.name, h.thread, h.params, h.regs, h.q.keep hb⟩
theorem GrO.grown {B q : Nat} {f : Cd.Fn} {x : Gr} {W V : World} {cur : Array Value} {T : TypeId} (h : GrO B f x W) (hg : W.grownBy V (some q)) (hq : W.heap[q]? = some (.cells cur T (0, 0))) (h1 : T ≠ 44) (h2 : T ≠ 3) (h3 : T ≠ 42) : GrO B f x V :=
 ⟨h.name, h.thread, h.params, h.regs, h.q.grown hg hq h1 h2 h3⟩
/-- the program of blocks so far, but for the row of its graphs -/
structure OfD (B q4 : Nat) (p : Pg) (mv sv fv : Value) (L : List Gr) (V : World) : Prop where
 t4 : V.heap[q4]? = some (.cells #[mv, sv, fv] 30 (0, 0))
 mrow : V.ownsRow B 57 3 mv p.mems.length (mmCells p.mems)
 srow : V.ownsRow B 9 1 sv p.locks.length (Ze p.locks)
 grs : ∀ (j : Nat) (f : Cd.Fn) (g : Gr), p.funs[j]? = some f → L[j]? = some g → GrO B f g V
theorem OfD.keep {B q4 : Nat} {p : Pg} {mv sv fv : Value} {L : List Gr} {V W : World} (h : OfD B q4 p mv sv fv L V) (hb : Below V.heap.size V W) : OfD B q4 p mv sv fv L W :=
 ⟨(hb.block _ (Array.getElem?_eq_some_iff.1 h.t4).1).trans h.t4, Qn h.mrow hb, Qn h.srow hb, fun j f g h1 h2 => (h.grs j f g h1 h2).keep hb⟩
theorem grown_none {V W : World} (h : V.grownBy W none) : Below V.heap.size V W := ⟨h.os, h.tape, h.output, h.size, fun q hq => h.block q hq (fun e => by cases e)⟩
/-- a row of graphs grows -/
theorem OfD.app {B q4 : Nat} {p : Pg} {mv sv fv : Value} {L : List Gr} {V W : World} {n : Nat} {xs : List Value} (h : OfD B q4 p mv sv fv L V) (hf : V.ownsRow B 37 5 fv n xs) (hg : V.grownBy W fv.ownBlock) : OfD B q4 p mv sv fv L W := by
 rcases hf.2 with ⟨rfl, _⟩ | ⟨q, cap, cur, rfl, _, hq, _⟩
 · exact h.keep (grown_none hg)
 · replace hg : V.grownBy W (some q) := hg
   refine ⟨(hg.block _ (Array.getElem?_eq_some_iff.1 h.t4).1 (fun e => ?_)).trans h.t4, Zd h.mrow hg (Zb h.mrow hq (by decide)), Zd h.srow hg (Zb h.srow hq (by decide)), fun j f g h1 h2 => (h.grs j f g h1 h2).grown hg hq (by decide) (by decide) (by decide)⟩
   have e' := Option.some.inj e
   subst e'
   have := h.t4
   rw [hq] at this
   injection this with this
   injection this with _ e2 _
   exact absurd e2 (by decide)
theorem GrO.app {B : Nat} {f : Cd.Fn} {x : Gr} {fv : Value} {V W : World} {n : Nat} {xs : List Value} (h : GrO B f x V) (hf : V.ownsRow B 37 5 fv n xs) (hg : V.grownBy W fv.ownBlock) : GrO B f x W := by
 rcases hf.2 with ⟨rfl, _⟩ | ⟨q, cap, cur, rfl, _, hq, _⟩
 · exact h.keep (grown_none hg)
 · exact h.grown hg hq (by decide) (by decide) (by decide)
/-- a graph more is told of -/
theorem OfD.step {B q4 k : Nat} {p : Pg} {mv sv fv fv' : Value} {L : List Gr} {V : World} {f : Cd.Fn} {x : Gr} (h : OfD B q4 p mv sv fv L V) (hL : L.length = k) (hf : p.funs[k]? = some f) (hx : GrO B f x V) : OfD B q4 p mv sv fv' (L ++ [x]) (V.setCell ⟨q4, 2, none⟩ fv') := by
 have hg := Q9 V q4 2 fv'
 refine ⟨by have := Qy h.t4 2 fv'; simpa using this, Zd h.mrow hg (Zb h.mrow h.t4 (by decide)), Zd h.srow hg (Zb h.srow h.t4 (by decide)), fun j f' g h1 h2 => ?_⟩
 by_cases e : j < L.length
 · rw [List.getElem?_append_left e] at h2
   exact (h.grs j f' g h1 h2).grown hg h.t4 (by decide) (by decide) (by decide)
 · rw [List.getElem?_append_right (by omega)] at h2
   have hj : j = k := by
    have := (List.getElem?_eq_some_iff.1 h2).1
    simp at this
    omega
   subst hj
   rw [hL, Nat.sub_self] at h2
   cases h2
   rw [hf] at h1
   cases h1
   exact hx.grown hg h.t4 (by decide) (by decide) (by decide)
/-! ### region 3 -/
def VOwM (B : Nat) (l : List Mm) (v : Value) (V : World) : Prop := V.ownsRow B 57 3 v l.length (mmCells l)
theorem VOwM.mono {B : Nat} {l : List Mm} : Mono (VOwM B l) := fun _ _ _ hb h => Qn h hb
def VOwS (B : Nat) (l : List ByteArray) (v : Value) (V : World) : Prop := V.ownsRow B 9 1 v l.length (Ze l)
theorem VOwS.mono {B : Nat} {l : List ByteArray} : Mono (VOwS B l) := fun _ _ _ hb h => Qn h hb
def VFo (B : Nat) (p : Pg) (v : Value) (V : World) : Prop := ∃ a b, v = .agg #[a, b, .slice none 0 0] ∧ VOwM B p.mems a V ∧ VOwS B p.locks b V
theorem VFo.mono {B : Nat} {p : Pg} : Mono (VFo B p) := fun _ _ _ hb ⟨a, b, h, h1, h2⟩ => ⟨a, b, h, VOwM.mono _ _ _ hb h1, VOwS.mono _ _ _ hb h2⟩
abbrev fm0 : Array Value := #[.slice none 0 0, .slice none 0 0, .slice none 0 0]
def VAf (B : Nat) (v : Value) (V : World) : Prop := ∃ q, v = .pointer (some ⟨q, 0, none⟩) ∧ B ≤ q ∧ V.heap[q]? = some (.cells fm0 30 (0, 0))
theorem VAf.mono {B : Nat} : Mono (VAf B) := fun _ _ _ hb ⟨b, h, h1, h2⟩ => ⟨b, h, h1, (hb.block b (Array.getElem?_eq_some_iff.1 h2).1).trans h2⟩
def raF3 (B B1 bx : Nat) (p : Pg) : List (Value → World → Prop) :=
 [VK (.pointer (some ⟨bx, 0, none⟩)), VK (.slice p.ma p.mems.length p.mcap), VOwM B p.mems, VK (.pointer (some ⟨bx, 1, none⟩)), VK (.slice p.la p.locks.length p.lcap), VOwS B p.locks, VFo B p, VAf B1]
theorem raF3_mono {B B1 bx : Nat} {p : Pg} : MonoL (raF3 B B1 bx p) := ⟨VK.mono, VK.mono, VOwM.mono, VK.mono, VK.mono, VOwS.mono, VFo.mono, VAf.mono, trivial⟩
theorem fl_q0 {V : World} {b : Nat} : (Instr.fieldAt 26 (.pointer (some ⟨b, 0, none⟩)) 0).run Tryd.prog V = .ok (.pointer (some ⟨b, 0, none⟩)) V := by go_simp
theorem fl_q1 {V : World} {b : Nat} : (Instr.fieldAt 26 (.pointer (some ⟨b, 0, none⟩)) 1).run Tryd.prog V = .ok (.pointer (some ⟨b, 1, none⟩)) V := by go_simp
theorem fl_o2 {V : World} {b : Nat} : (Instr.fieldAt 30 (.pointer (some ⟨b, 0, none⟩)) 2).run Tryd.prog V = .ok (.pointer (some ⟨b, 2, none⟩)) V := by go_simp
theorem al_form (V : World) : (Instr.alloc 30 true (.tuple #[])).run Tryd.prog V = .ok (.pointer (some ⟨V.heap.size, 0, none⟩)) (V.alloc (.cells fm0 30)) := by go_simp
theorem b_form {V : World} (a b : Option Addr) (n m c d : Nat) : (Instr.build 30 #[(0, .slice a n c), (1, .slice b m d)]).run Tryd.prog V = .ok (.agg #[.slice a n c, .slice b m d, .slice none 0 0]) V := by kernel_rfl
/-! ### region 7 -/
def VGr (B : Nat) (f : Cd.Fn) (v : Value) (V : World) : Prop := ∃ x, v = .agg ⟨x.vals⟩ ∧ GrO B f x V
theorem VGr.mono {B : Nat} {f : Cd.Fn} : Mono (VGr B f) := fun _ _ _ hb ⟨x, h, h1⟩ => ⟨x, h, h1.keep hb⟩
def VGp (v : Value) (_ : World) : Prop := ∃ x : Gr, v = .agg ⟨x.vals⟩
theorem VGp.mono : Mono VGp := fun _ _ _ _ h => h
def VSl (B : Nat) (f : Cd.Fn) (v : Value) (V : World) : Prop := ∃ x q, v = .slice (some ⟨q, 0, none⟩) 1 1 ∧ V.heap[q]? = some (.cells ⟨x.vals⟩ 37 (0, 0)) ∧ GrO B f x V
theorem VSl.mono {B : Nat} {f : Cd.Fn} : Mono (VSl B f) := fun _ _ _ hb ⟨x, q, h, h1, h2⟩ => ⟨x, q, h, (hb.block q (Array.getElem?_eq_some_iff.1 h1).1).trans h1, h2.keep hb⟩
def VAp (B : Nat) (f : Cd.Fn) (L : List Gr) (v : Value) (V : World) : Prop := ∃ x, V.ownsRow B 37 5 v (L.length + 1) (Xb L ++ x.vals) ∧ GrO B f x V
theorem VAp.mono {B : Nat} {f : Cd.Fn} {L : List Gr} : Mono (VAp B f L) := fun _ _ _ hb ⟨x, h, h1⟩ => ⟨x, Qn h hb, h1.keep hb⟩
def raF7 (B q4 : Nat) (f : Cd.Fn) (fv : Value) (L : List Gr) (t : Bool) : List (Value → World → Prop) :=
 [VK (.pointer (some ⟨q4, 2, none⟩)), VK fv, VK (.agg ⟨f.vals⟩), if t then VGp else VGr B f, if t then VT else VSl B f, if t then VAp B f L else VF, VK (.pointer (some ⟨q4, 2, none⟩))]
theorem raF7_mono {B q4 : Nat} {f : Cd.Fn} {fv : Value} {L : List Gr} {t : Bool} : MonoL (raF7 B q4 f fv L t) := by
 cases t
 · exact ⟨VK.mono, VK.mono, VK.mono, VGr.mono, VSl.mono, VF.mono, VK.mono, trivial⟩
 · exact ⟨VK.mono, VK.mono, VK.mono, VGp.mono, VT.mono, VAp.mono, VK.mono, trivial⟩
theorem raF7_on {B q4 : Nat} {f : Cd.Fn} {fv : Value} {L : List Gr} : ∀ (i : Nat) (v : Value) (w w' : World), i ≠ 5 → (raF7 B q4 f fv L false).getD i VT v w → (raF7 B q4 f fv L true).getD i VT v w'
 | 0, _, _, _, _, h => h
 | 1, _, _, _, _, h => h
 | 2, _, _, _, _, h => h
 | 3, _, _, _, _, ⟨x, h, _⟩ => ⟨x, h⟩
 | 4, _, _, _, _, _ => trivial
 | 5, _, _, _, h, _ => absurd rfl h
 | 6, _, _, _, _, h => h
 | _ + 7, _, _, _, _, _ => trivial
theorem mk_gr1 (V : World) (n : ByteArray) (h : Bool) (c d : Int) (e : Option Addr) (k j : Nat) : (Instr.buildSlice 28 1 #[(0, .agg #[.string n, .bool h, .int .i64 c, .int .i64 d, .slice e k j])]).run Tryd.prog V = .ok (.slice (some ⟨V.heap.size, 0, none⟩) 1 1) (V.alloc (.cells #[.string n, .bool h, .int .i64 c, .int .i64 d, .slice e k j] 37)) := by kernel_rfl
theorem info_gr5 : ∃ i z, Tryd.prog.info? 37 = some i ∧ i.zero = some z ∧ i.size = 5 ∧ i.bytes = 64 ∧ z.cells.size = 5 := ⟨_, _, rfl, rfl, rfl, rfl, rfl⟩
theorem gr_one (x : Gr) : ∀ u ∈ x.vals, u.oneCell' = true := fun u hu => by
 unfold Gr.vals at hu
 simp only [List.mem_cons, List.not_mem_nil, or_false] at hu
 rcases hu with rfl | rfl | rfl | rfl | rfl <;> rfl
/-- a graph is appended to a row of the call's own -/
theorem p_app {a : Act} {o : Oper} {s x : Operand} {B q : Nat} {fv : Value} {L : List Gr} {y : Gr} {w : World} {K : Act → World → Prop} {Q : Exit → Act → World → Prop}
 (ho : o.op = .call { callee := .builtin .append, args := #[s, x], argTypes := #[28, 28] }) (hs : a.eval s = fv) (hx : a.eval x = .slice (some ⟨q, 0, none⟩) 1 1) (hown : w.ownsRow B 37 5 fv L.length (Xb L)) (hq : w.heap[q]? = some (.cells ⟨y.vals⟩ 37 (0, 0)))
 (hn : L.length ≤ 1099511627776) (hB : B ≤ w.heap.size) (h : ∀ v' w', w'.ownsRow B 37 5 v' (L.length + 1) (Xb L ++ y.vals) → w.grownBy w' fv.ownBlock → K (a.put o.dst v') w') : o.wp Tryd.prog a w K Q := by
 obtain ⟨i0, z0, hi0, hz0, hz1, hz2, hz3⟩ := info_gr5
 obtain ⟨v', w', hr, h2, h3, h4, h5⟩ := run_append_own_at (P := Tryd.prog) w B 28 o.type 37 i0 z0 5 64 Tryd.underlying28 hi0 hz0 hz1 hz2 hz3 (by decide) fv L.length (Xb L) hown ⟨q, 0, none⟩ 1 1 y.vals rfl (fun j u hu => by
  rw [Go.WideShapes.add_plain, Nat.zero_add]
  exact Qk hq (by simpa using hu)) (gr_one y) (by unfold maxLen; omega) (by omega) hB
 unfold Oper.wp execOp
 simp only [ho, resolve, invoke, builtin, Sem.run_bind, Sem.run_pure, Result.andThen_ok, List.map_toArray, List.map_cons, List.map_nil, hs, hx, hr]
 exact h _ _ h2 h3
end Go.Proofs.YthiiahlgncngoaaDoorRR.Fw
set_option linter.unusedVariables false
set_option linter.unusedSimpArgs false
namespace Go.Proofs.YthiiahlgncngoaaDoorRR.Fw
open Go Go.RowKit
open Go.Proofs.YthiiahlgncngoaaDoorRR.Lx Go.Proofs.YthiiahlgncngoaaDoorRR.Tr Go.Proofs.YthiiahlgncngoaaDoorRR.Cd
theorem results_two {P : Program} {fn : Func} {p s : Tmp} {ty : TypeId} (h : fn.results = #[.cell p ty, .tmp s]) (tmps : Array Value) (w : World) (g : Nat) (t : TypeId) (cs : Array Value) (fr : Nat × Nat) (d : TypeDesc) (v : Value)
 (hp : tmps.getD p undef = .pointer (some ⟨g, 0, none⟩)) (hg : w.heap[g]? = some (.cells cs t fr))
 (hu : P.underlying ty = some d) (hd : (match d with | .struct _ | .array _ _ => true | _ => false) = true) (hi : (P.info? ty).map (·.size) = some cs.size) (hs : tmps.getD s undef = v) :
 (results fn tmps).run P w = .ok (.tuple #[.agg cs, v]) w := by
 have hp' : tmps[p]?.getD undef = .pointer (some ⟨g, 0, none⟩) := by simpa using hp
 have hs' : tmps[s]?.getD undef = v := by simpa using hs
 simp [results, h, hp', hs', asAddr, run_loadVar_row w g t ty cs fr d hg hu hd hi]
theorem heap_set3 {W : World} {g : Nat} {a0 b0 c0 : Value} {T : TypeId} {fr : Nat × Nat} (h : W.heap[g]? = some (.cells #[a0, b0, c0] T fr)) (a b c : Value) :
 (((W.setCell ⟨g, 0, none⟩ a).setCell ⟨g, 1, none⟩ b).setCell ⟨g, 2, none⟩ c).heap[g]? = some (.cells #[a, b, c] T fr) := by
 have := Qy (Qy (Qy h 0 a) 1 b) 2 c
 simpa using this
theorem grown3 (V : World) (q : Nat) (a b c : Value) : V.grownBy (((V.setCell ⟨q, 0, none⟩ a).setCell ⟨q, 1, none⟩ b).setCell ⟨q, 2, none⟩ c) (some q) :=
 (World.grownBy.trans (Q9 V q 0 a) (Q9 _ q 1 b)).trans (Q9 _ q 2 c)
theorem below3 {B q : Nat} {W V : World} (h : Below B W V) (hq : B ≤ q) (a b c : Value) : Below B W (((V.setCell ⟨q, 0, none⟩ a).setCell ⟨q, 1, none⟩ b).setCell ⟨q, 2, none⟩ c) :=
 ((h.setCell (p := ⟨q, 0, none⟩) hq _).setCell (p := ⟨q, 1, none⟩) hq _).setCell (p := ⟨q, 2, none⟩) hq _
theorem ofno_c (p : Pg) (w : World) (hp : Pg.In w Tt p) (hT : OpTab w) (hsg : SignsIn w) (hsum : p.mems.length + p.locks.length + p.funs.length ≤ 1099511627776) (hm : mayP p = false) :
 Calls Tryd.prog 8 #[p.val] w fun e w' => e = .returned (.tuple #[.agg fm0, .int .i64 4]) ∧ Below w.heap.size w w' := by
 have hmay := Lh (fun V (hv : Below w.heap.size w V) => may_any p V (hp.below (Kps.of_below hv)) (hT.keep hv) (hsg.below hsg.lt hv) (by omega))
 rw [hm] at hmay
 have hst := Lh (Zc w (.cells #[.slice p.ma p.mems.length p.mcap, .slice p.la p.locks.length p.lcap, .slice p.fa p.funs.length p.fcap] 26) (.cells fm0 30))
 have hqq := Lh (Qt (w.alloc (.cells #[.slice p.ma p.mems.length p.mcap, .slice p.la p.locks.length p.lcap, .slice p.fa p.funs.length p.fcap] 26)) (.cells fm0 30) (b := w.heap.size + 1) (by simp))
 clear hp hT hsg hm
 unfold Cd.Pg.val
 unfold Cd.Pg.val at hmay
 go_enter Tryd.func8, Tryd.ntmps8
 go_wp2_with fail
 refine (hmay.out _ hst.out).mono ?_
 rintro e w1 ⟨rfl, hb1⟩
 have hh : w1.heap[w.heap.size + 1]? = some (.cells fm0 30 (0, 0)) := (hb1.block _ (Array.getElem?_eq_some_iff.1 hqq.out).1).trans hqq.out
 have c0 := Qk hh (j := 0) rfl
 have c1 := Qk hh (j := 1) rfl
 have c2 := Qk hh (j := 2) rfl
 have d0 := Qd hh 0
 have d1 := Qd hh 1
 have d2 := Qd hh 2
 have hl := World.block_lt_of_cell? _ _ c0
 have hbw := Lh (hst.out.trans (hb1.mono hst.out.size))
 replace hh := Lh hh
 clear hb1 hmay hqq
 go_wp2_with fail
 exact bodyPost_ret (v := .tuple #[.agg fm0, .int .i64 4]) (results_two Tryd.results8 _ _ (w.heap.size + 1) _ _ _ _ _ rfl (heap_set3 hh.out _ _ _) Tryd.underlying30 rfl (by kernel_rfl) rfl) rfl ⟨rfl, below3 hbw.out (by omega) _ _ _⟩
end Go.Proofs.YthiiahlgncngoaaDoorRR.Fw
set_option linter.unusedVariables false
set_option linter.unusedSimpArgs false
namespace Go.Proofs.YthiiahlgncngoaaDoorRR.Fw
open Go Go.RowKit
open Go.Proofs.YthiiahlgncngoaaDoorRR.Lx Go.Proofs.YthiiahlgncngoaaDoorRR.Tr Go.Proofs.YthiiahlgncngoaaDoorRR.Cd
open Go.Proofs.YthiiahlgncngoaaDoorRR.Vq Go.Proofs.YthiiahlgncngoaaDoorRR.Qr Go.Proofs.YthiiahlgncngoaaDoorRR.QrT Go.Proofs.YthiiahlgncngoaaDoorRR.QrP
open Go.Proofs.YthiiahlgncngoaaDoorRR.Qg (Z5 Z2 run_call3)
/-- what Of makes of a program -/
structure FmO (B : Nat) (p : Pg) (x : Fm) (W : World) : Prop where
 mems : x.mems = p.mems
 locks : x.locks = p.locks
 len : x.funs.length = p.funs.length
 mrow : W.ownsRow B 57 3 (.slice x.ma x.mems.length x.mcap) x.mems.length (mmCells x.mems)
 srow : W.ownsRow B 9 1 (.slice x.la x.locks.length x.lcap) x.locks.length (Ze x.locks)
 frow : W.ownsRow B 37 5 (.slice x.fa x.funs.length x.fcap) x.funs.length (Xb x.funs)
 grs : ∀ (j : Nat) (f : Cd.Fn) (g : Gr), p.funs[j]? = some f → x.funs[j]? = some g → GrO B f g W
theorem own_sl {W : World} {B : Nat} {e : TypeId} {c : Nat} {v : Value} {n : Nat} {xs : List Value} (h : W.ownsRow B e c v n xs) : ∃ a cap, v = .slice a n cap := by
 rcases h.2 with ⟨rfl, rfl⟩ | ⟨g, cap, cur, rfl, _⟩
 · exact ⟨none, 0, rfl⟩
 · exact ⟨_, cap, rfl⟩
/-- region 7's class of worlds -/
structure C7 (B r q4 q6 : Nat) (w : World) (p : Pg) (f : Cd.Fn) (mv sv fv : Value) (L : List Gr) (t : Bool) (V : World) : Prop where
 below : Below B w V
 r : V.heap[r]? = some (.cells fm0 30 (0, 0))
 d : OfD B q4 p mv sv fv L V
 t6 : V.heap[q6]? = some (.cells ⟨f.vals⟩ 50 (0, 0))
 frow : t = false → V.ownsRow B 37 5 fv L.length (Xb L)
theorem C7.keep {B r q4 q6 : Nat} {w : World} {p : Pg} {f : Cd.Fn} {mv sv fv : Value} {L : List Gr} {t : Bool} {V W : World} (h : C7 B r q4 q6 w p f mv sv fv L t V) (hB : B ≤ w.heap.size) (hb : Below V.heap.size V W) : C7 B r q4 q6 w p f mv sv fv L t W :=
 ⟨h.below.trans (hb.mono (Nat.le_trans hB h.below.size)), (hb.block _ (Array.getElem?_eq_some_iff.1 h.r).1).trans h.r, h.d.keep hb, (hb.block _ (Array.getElem?_eq_some_iff.1 h.t6).1).trans h.t6, fun e => Qn (h.frow e) hb⟩
theorem cells_app {q : Nat} {B n : Nat} {xs : List Value} {fv : Value} {V W : World} {cur : Array Value} {T : TypeId} (hf : V.ownsRow B 37 5 fv n xs) (hg : V.grownBy W fv.ownBlock) (hq : V.heap[q]? = some (.cells cur T (0, 0))) (hT : T ≠ 37) : W.heap[q]? = some (.cells cur T (0, 0)) :=
 (hg.block q (Array.getElem?_eq_some_iff.1 hq).1 (fun e => Zb hf hq hT e.symm)).trans hq
theorem C7.app {B r q4 q6 : Nat} {w : World} {p : Pg} {f : Cd.Fn} {mv sv fv : Value} {L : List Gr} {V W : World} (h : C7 B r q4 q6 w p f mv sv fv L false V) (hB : B ≤ w.heap.size) (hg : V.grownBy W fv.ownBlock) : C7 B r q4 q6 w p f mv sv fv L true W :=
 ⟨h.below.grown hg (Nat.le_trans hB h.below.size) (fun k e => ((h.frow rfl).lt k e).1), cells_app (h.frow rfl) hg h.r (by decide), h.d.app (h.frow rfl) hg, cells_app (h.frow rfl) hg h.t6 (by decide), fun e => by cases e⟩
theorem ofyes_c (p : Pg) (w : World) (hp : Pg.In w Tt p) (hT : OpTab w) (hsg : SignsIn w) (hsum : p.mems.length + p.locks.length + p.funs.length ≤ 1099511627776) (hm : mayP p = true) :
 Calls Tryd.prog 8 #[p.val] w fun e w' => ∃ x : Fm, e = .returned (.tuple #[.agg ⟨x.vals⟩, .int .i64 0]) ∧ FmO w.heap.size p x w' ∧ Below w.heap.size w w' := by
 have hmay := Lh (fun V (hv : Below w.heap.size w V) => may_any p V (hp.below (Kps.of_below hv)) (hT.keep hv) (hsg.below hsg.lt hv) (by omega))
 rw [hm] at hmay
 obtain ⟨hc1, hc2⟩ := Q2 hp.frow
 have hgr := Lh (fun (f : Cd.Fn) V (hf : f ∈ p.funs) (hv : Below w.heap.size w V) => graph_c f V (((hp.below (Kps.of_below hv)).funs f hf)) (hT.keep hv) (fun_ok hm hf).1 (fun_ok hm hf).2.1 (fun_ok hm hf).2.2.1 (fun_ok hm hf).2.2.2.1 (fun_ok hm hf).2.2.2.2)
 have hfr := Lh (fun V (hv : Below w.heap.size w V) => hp.frow.below (Kps.of_below hv))
 have hoM := Lh (fun V (hv : Below w.heap.size w V) => ownMem_c p.ma p.mcap p.mems V (hp.mrow.below (Kps.of_below hv)) (by omega))
 have hoS := Lh (fun V (hv : Below w.heap.size w V) => ownStr_c p.la p.lcap p.locks V (hp.lrow.below (Kps.of_below hv)) (by omega))
 have hst := Lh (Zc w (.cells #[.slice p.ma p.mems.length p.mcap, .slice p.la p.locks.length p.lcap, .slice p.fa p.funs.length p.fcap] 26) (.cells fm0 30))
 have hqq := Lh (Qt (w.alloc (.cells #[.slice p.ma p.mems.length p.mcap, .slice p.la p.locks.length p.lcap, .slice p.fa p.funs.length p.fcap] 26)) (.cells fm0 30) (b := w.heap.size + 1) (by simp))
 have hq := Lh (Zk w [.slice p.ma p.mems.length p.mcap, .slice p.la p.locks.length p.lcap, .slice p.fa p.funs.length p.fcap] 26)
 clear hp hT hsg hm
 unfold Cd.Pg.val
 unfold Cd.Pg.val at hmay
 go_enter Tryd.func8, Tryd.ntmps8
 go_wp2_with fail
 have hsz : ((w.alloc (.cells #[.slice p.ma p.mems.length p.mcap, .slice p.la p.locks.length p.lcap, .slice p.fa p.funs.length p.fcap] 26)).alloc (.cells fm0 30)).heap.size = w.heap.size + 2 := by simp
 refine (hmay.out _ hst.out).mono ?_
 rintro e w1 ⟨rfl, hb1⟩
 have hrb : Hid (w1.heap[w.heap.size + 1]? = some (.cells fm0 30 (0, 0))) := Lh ((hb1.block _ (Array.getElem?_eq_some_iff.1 hqq.out).1).trans hqq.out)
 have hq1 : Hid (∀ j u, ([.slice p.ma p.mems.length p.mcap, .slice p.la p.locks.length p.lcap, .slice p.fa p.funs.length p.fcap] : List Value)[j]? = some u → w1.cell? ⟨w.heap.size, j, none⟩ = some u) := Lh (fun j u hu => Qe hb1 (Qe (Qh _ _) (hq.out j u hu)))
 have q0 := Lh (hq1.out 0 _ rfl)
 have q1 := Lh (hq1.out 1 _ rfl)
 have q2 := Lh (hq1.out 2 _ rfl)
 have hbw := Lh (hst.out.trans (hb1.mono hst.out.size))
 have hw1 := hb1.size
 rw [hsz] at hw1
 clear hq hq1 hqq hmay hb1 hsz hst
 go_upto_region 3 with fail
 refine wp_region_tail (P := Tryd.prog) (C := fun V => Below w1.heap.size w1 V) (E := Ext) (R := fun j => (raF3 w.heap.size w1.heap.size w.heap.size p).getD j VT) (by kernel_rfl) ((Below.refl _ _).drew) (by kernel_rfl) (fun j v w' w'' _ hE h => Zr _ j raF3_mono v w' w'' hE h) (m := 8) rfl rfl rfl (by kernel_rfl) (steps_front 8 ?hs) ?hend
 case hs =>
  refine Qa (Ql fun a W hC hs => ?_) ?_
  · have h1 := Qo hs 1 (by kernel_rfl) (by rfl)
    exact ⟨Qb rfl, _, Q4 rfl (ev h1) fl_q0, rfl⟩
  refine Qa (Ql fun a W hC hs => ?_) ?_
  · obtain ⟨v, hv, hR⟩ := Qf hs 0 11 (by kernel_rfl) (by rfl)
    replace hR : v = _ := hR
    subst hR
    exact ⟨Qb rfl, _, Qz rfl (ev hv) (by have := Qe hC q0.out; simp [go_sem, this]), rfl⟩
  refine Qa (s_call fun a W hC hs => ?_) ?_
  · obtain ⟨v, hv, hR⟩ := Qf hs 1 12 (by kernel_rfl) (by rfl)
    replace hR : v = _ := hR
    subst hR
    refine ⟨Qb rfl, 19, _, Z5 rfl (ev hv) (fun _ _ => rfl), ((hoM.out W (hbw.out.trans (hC.mono hbw.out.size))).mono ?_)⟩
    rintro e w' ⟨v', rfl, h1, h2⟩
    exact ⟨_, rfl, hC.trans (h2.mono hC.size), h2, own_low h1 (Nat.le_trans hbw.out.size hC.size)⟩
  refine Qa (Ql fun a W hC hs => ?_) ?_
  · have h1 := Qo hs 1 (by kernel_rfl) (by rfl)
    exact ⟨Qb rfl, _, Q4 rfl (ev h1) fl_q1, rfl⟩
  refine Qa (Ql fun a W hC hs => ?_) ?_
  · obtain ⟨v, hv, hR⟩ := Qf hs 3 14 (by kernel_rfl) (by rfl)
    replace hR : v = _ := hR
    subst hR
    exact ⟨Qb rfl, _, Qz rfl (ev hv) (by have := Qe hC q1.out; simp [go_sem, this]), rfl⟩
  refine Qa (s_call fun a W hC hs => ?_) ?_
  · obtain ⟨v, hv, hR⟩ := Qf hs 4 15 (by kernel_rfl) (by rfl)
    replace hR : v = _ := hR
    subst hR
    refine ⟨Qb rfl, 20, _, Z5 rfl (ev hv) (fun _ _ => rfl), ((hoS.out W (hbw.out.trans (hC.mono hbw.out.size))).mono ?_)⟩
    rintro e w' ⟨v', rfl, h1, h2⟩
    exact ⟨_, rfl, hC.trans (h2.mono hC.size), h2, own_low h1 (Nat.le_trans hbw.out.size hC.size)⟩
  refine Qa (Ql fun a W hC hs => ?_) ?_
  · obtain ⟨v2, hv2, hR2⟩ := Qf hs 2 13 (by kernel_rfl) (by rfl)
    replace hR2 : VOwM w.heap.size p.mems v2 W := hR2
    obtain ⟨v5, hv5, hR5⟩ := Qf hs 5 16 (by kernel_rfl) (by rfl)
    replace hR5 : VOwS w.heap.size p.locks v5 W := hR5
    obtain ⟨a2, c2, rfl⟩ := own_sl hR2
    obtain ⟨a5, c5, rfl⟩ := own_sl hR5
    exact ⟨Qb rfl, _, run_b (qs := #[(0, .slice a2 p.mems.length c2), (1, .slice a5 p.locks.length c5)]) rfl (by simp [ev hv2, ev hv5]) (b_form _ _ _ _ _ _), ⟨_, _, rfl, hR2, hR5⟩⟩
  refine Qa (s_new fun a W hC hs => ?_) ?_
  · refine ⟨Qb rfl, _, _, run_al rfl (al_form W), hC.alloc hC.size _, Ext.al _ _, ⟨_, rfl, ?_, Qt _ _ rfl⟩⟩
    exact hC.size
  exact Qx
 case hend =>
  intro σ V hC hR
  generalize hF : Q6 _ _ _ _ _ = F
  simp [Q6, dstOf, List.range, List.range.loop, Act.put] at hF
  subst hF
  obtain ⟨q4, hq4, hqB, hqh⟩ : VAf w1.heap.size (σ 7) V := hR 7 (by simp)
  obtain ⟨mv, sv, h6, hmv, hsv⟩ : VFo w.heap.size p (σ 6) V := hR 6 (by simp)
  obtain ⟨a2, k2, rfl⟩ := own_sl hmv
  obtain ⟨a5, k5, rfl⟩ := own_sl hsv
  rw [hq4, h6]
  have hrV : V.heap[w.heap.size + 1]? = some (.cells fm0 30 (0, 0)) := (hC.block _ (by omega)).trans hrb.out
  have q2V := Qe hC q2.out
  have c0 := Qk hqh (j := 0) rfl
  have c1 := Qk hqh (j := 1) rfl
  have c2 := Qk hqh (j := 2) rfl
  have d0 := Qd hqh 0
  have d1 := Qd hqh 1
  have d2 := Qd hqh 2
  have hg3 := grown3 V q4 (.slice a2 p.mems.length k2) (.slice a5 p.locks.length k5) (.slice none 0 0)
  have hD4 := Lh (⟨heap_set3 hqh (.slice a2 p.mems.length k2) (.slice a5 p.locks.length k5) (.slice none 0 0), Zd hmv hg3 (Zb hmv hqh (by decide)), Zd hsv hg3 (Zb hsv hqh (by decide)), fun j f g _ h => by simp at h⟩ : OfD w.heap.size q4 p (.slice a2 p.mems.length k2) (.slice a5 p.locks.length k5) (.slice none 0 0) [] (((V.setCell ⟨q4, 0, none⟩ (.slice a2 p.mems.length k2)).setCell ⟨q4, 1, none⟩ (.slice a5 p.locks.length k5)).setCell ⟨q4, 2, none⟩ (.slice none 0 0)))
  have hr4 := Lh ((hg3.block _ (Array.getElem?_eq_some_iff.1 hrV).1 (fun e => by have := Option.some.inj e; omega)).trans hrV)
  have q24 := Zy hg3 (show w.heap.size ≠ q4 by omega) q2V
  have hb4 := Lh (below3 (hbw.out.trans (hC.mono hbw.out.size)) (show w.heap.size ≤ q4 by omega) (.slice a2 p.mems.length k2) (.slice a5 p.locks.length k5) (.slice none 0 0))
  clear hR hqh h6 hq4 hrV q2V hg3 hmv hsv hoM hoS q0 q1 q2 hrb hC
  unfold Oper.wp
  unfold execOp
  simp [go_sem, c0, c1, c2, d0, d1, d2]
  clear c0 c1 c2 d0 d1 d2
  generalize ((V.setCell ⟨q4, 0, none⟩ (.slice a2 p.mems.length k2)).setCell ⟨q4, 1, none⟩ (.slice a5 p.locks.length k5)).setCell ⟨q4, 2, none⟩ (.slice none 0 0) = W4 at *
  clear V
  generalize σ 0 = z0
  generalize σ 1 = z1
  generalize σ 2 = z2
  generalize σ 3 = z3
  generalize σ 4 = z4
  generalize σ 5 = z5
  generalize σ 6 = z6
  generalize σ 7 = z7
  go_wp2_with fail
  go_loopw [21] (fun i wr => ∃ k : Nat, k ≤ p.funs.length ∧ i = .int .i64 k ∧ Hid (∃ fv L, L.length = k ∧ OfD w.heap.size q4 p (.slice a2 p.mems.length k2) (.slice a5 p.locks.length k5) fv L wr ∧ wr.ownsRow w.heap.size 37 5 fv L.length (Xb L)) ∧ Hid (Below w.heap.size w wr) ∧ Hid (wr.heap[w.heap.size + 1]? = some (.cells fm0 30 (0, 0)))) (fun i _ => p.funs.length - (intOf i).toNat)
  case atStart => exact ⟨0, Nat.zero_le _, rfl, Lh ⟨_, [], rfl, hD4.out, World.ownsRow_nil _ _ _ _⟩, hb4, hr4⟩
  case round =>
   clear hD4 hb4 hr4 q24
   obtain ⟨k, hk, rfl, hI, hb, hr⟩ := hrel
   by_cases hlt : k < p.funs.length
   · obtain ⟨f, hf⟩ : ∃ f, p.funs[k]? = some f := ⟨_, List.getElem?_eq_getElem hlt⟩
     obtain ⟨bb, off, ha, _, g0, g1, g2, g3, g4⟩ := Yd (hfr.out wr hb.out) k f hf
     have hgf := Lh (fun V hv => hgr.out f V (List.mem_of_getElem? hf) hv)
     have hi0' : (0 : Int) ≤ (k : Int) := by omega
     have hi1 : (k : Int) < (p.funs.length : Int) := by omega
     obtain ⟨fv, L, hL, hD, hF⟩ := hI.out
     obtain ⟨fa, fcap, rfl⟩ := own_sl hF
     have hbal := Qh wr (.cells #[.string f.name, .bool f.thread, .int .i64 f.params, .int .i64 f.regs, .slice f.ca f.code.length f.ccap] 50)
     have h7 := Lh (⟨hb.out.trans (hbal.mono hb.out.size), (hbal.block _ (Array.getElem?_eq_some_iff.1 hr.out).1).trans hr.out, hD.keep hbal, Qt _ _ rfl, fun _ => Qn hF hbal⟩ : C7 w.heap.size (w.heap.size + 1) q4 wr.heap.size w p f (.slice a2 p.mems.length k2) (.slice a5 p.locks.length k5) (.slice fa L.length fcap) L false (wr.alloc (.cells #[.string f.name, .bool f.thread, .int .i64 f.params, .int .i64 f.regs, .slice f.ca f.code.length f.ccap] 50)))
     rw [ha]
     clear hI hb hr hD hF hbal
     go_upto_region 7 with fail
     generalize hW6 : wr.alloc (.cells #[.string f.name, .bool f.thread, .int .i64 f.params, .int .i64 f.regs, .slice f.ca f.code.length f.ccap] 50) = W6 at *
     generalize wr.heap.size = q6 at *
     clear hW6 g0 g1 g2 g3 g4
     refine Zl (P := Tryd.prog) 5 (C := fun t V => C7 w.heap.size (w.heap.size + 1) q4 q6 w p f (.slice a2 p.mems.length k2) (.slice a5 p.locks.length k5) (.slice fa L.length fcap) L t V) (E := Ext) (EP := fun _ _ => True) (R := fun t j => (raF7 w.heap.size q4 f (.slice fa L.length fcap) L t).getD j VT) (by kernel_rfl) (h7.out.keep (Nat.le_refl _) ((Below.refl _ _).drew)) (by kernel_rfl) (fun t j v w' w'' _ hE h => Zr _ j raF7_mono v w' w'' hE h) (fun i v w' w'' hi _ _ h => raF7_on i v w' w'' hi h) (m := 7) (by omega) rfl rfl rfl (by kernel_rfl) ?hs2 rfl ?hp2 ?hend2
     case hs2 =>
      refine X0 5 7 (fun t => ?_) (fun t => ?_)
      · refine Qa (Ql fun a W hC hs => ?_) ?_
        · have h1 := Qo hs 4 (by kernel_rfl) (by rfl)
          exact ⟨Qb rfl, _, Q4 rfl (ev h1) fl_o2, rfl⟩
        refine Qa (Ql fun a W hC hs => ?_) ?_
        · obtain ⟨v, hv, hR⟩ := Qf hs 0 25 (by kernel_rfl) (by rfl)
          replace hR : v = _ := hR
          subst hR
          exact ⟨Qb rfl, _, Qz rfl (ev hv) (by have := Qk hC.d.t4 (j := 2) rfl; simp [go_sem, this]), rfl⟩
        refine Qa (Ql fun a W hC hs => ?_) ?_
        · have h1 := Qo hs 6 (by kernel_rfl) (by rfl)
          have k0 := Qk hC.t6 (j := 0) rfl
          have k1 := Qk hC.t6 (j := 1) rfl
          have k2 := Qk hC.t6 (j := 2) rfl
          have k3 := Qk hC.t6 (j := 3) rfl
          have k4 := Qk hC.t6 (j := 4) rfl
          exact ⟨Qb rfl, _, Qz (v := .agg ⟨f.vals⟩) rfl (ev h1) (by simp [go_sem, k0, k1, k2, k3, k4, Cd.Fn.vals]), rfl⟩
        refine Qa (s_call fun a W hC hs => ?_) ?_
        · obtain ⟨v, hv, hR⟩ := Qf hs 2 27 (by kernel_rfl) (by rfl)
          replace hR : v = _ := hR
          subst hR
          refine ⟨Qb rfl, 21, _, Z5 rfl (ev hv) (fun _ _ => rfl), ((hgf.out W hC.below).mono ?_)⟩
          rintro e w' ⟨x, rfl, e1, e2, e3, e4, e5, e6⟩
          refine ⟨_, rfl, hC.keep (Nat.le_refl _) e6, e6, ?_⟩
          cases t
          · exact ⟨x, rfl, e1, e2, e3, e4, e5.low hC.below.size⟩
          · exact ⟨x, rfl⟩
        refine Qa (s_new fun a W hC hs => ?_) ?_
        · obtain ⟨v, hv, hR⟩ := Qf hs 3 28 (by kernel_rfl) (by rfl)
          cases t
          · obtain ⟨x, rfl, hx⟩ : VGr w.heap.size f v W := hR
            obtain ⟨xn, xt, xp, xr, xa, xc, xb⟩ := x
            refine ⟨Qb rfl, _, _, run_bs (qs := #[(0, .agg #[.string xn, .bool xt, .int .i64 xp, .int .i64 xr, .slice xa xb.length xc])]) rfl (by simp [ev hv, Gr.vals]) (mk_gr1 W _ _ _ _ _ _ _), hC.keep (Nat.le_refl _) (Qh _ _), Qh _ _, ⟨⟨xn, xt, xp, xr, xa, xc, xb⟩, _, rfl, Qt _ _ rfl, hx.keep (Qh _ _)⟩⟩
          · obtain ⟨x, rfl⟩ : VGp v W := hR
            obtain ⟨xn, xt, xp, xr, xa, xc, xb⟩ := x
            exact ⟨Qb rfl, _, _, run_bs (qs := #[(0, .agg #[.string xn, .bool xt, .int .i64 xp, .int .i64 xr, .slice xa xb.length xc])]) rfl (by simp [ev hv, Gr.vals]) (mk_gr1 W _ _ _ _ _ _ _), hC.keep (Nat.le_refl _) (Qh _ _), Qh _ _, trivial⟩
        exact Qx
      · refine Qa (Ql fun a W hC hs => ?_) ?_
        · have h1 := Qo hs 4 (by kernel_rfl) (by rfl)
          exact ⟨Qb rfl, _, Q4 rfl (ev h1) fl_o2, rfl⟩
        exact Qx
     case hp2 =>
      intro a W hC hs
      obtain ⟨v1, hv1, hR1⟩ := Qf hs 1 26 (by kernel_rfl) (by rfl)
      replace hR1 : v1 = _ := hR1
      subst hR1
      obtain ⟨v4, hv4, hR4⟩ := Qf hs 4 29 (by kernel_rfl) (by rfl)
      obtain ⟨x, q, rfl, hxq, hx⟩ : VSl w.heap.size f v4 W := hR4
      refine ⟨Qb rfl, p_app (y := x) rfl (ev hv1) (ev hv4) (hC.frow rfl) hxq (by omega) hC.below.size fun v' w' h1 h2 => ?_⟩
      exact ⟨hC.app (Nat.le_refl _) h2, trivial, _, rfl, x, h1, hx.app (hC.frow rfl) h2⟩
     case hend2 =>
      intro σ V hC hR
      generalize hF : Q6 _ _ _ _ _ = F
      simp [Q6, dstOf, List.range, List.range.loop, Act.put] at hF
      subst hF
      obtain ⟨x, hrow, hx⟩ : VAp w.heap.size f L (σ 5) V := hR 5 (by simp)
      have h6 : σ 6 = .pointer (some ⟨q4, 2, none⟩) := hR 6 (by simp)
      generalize σ 5 = v5 at *
      obtain ⟨xa, xc, rfl⟩ := own_sl hrow
      rw [h6]
      have e2 := Qk hC.d.t4 (j := 2) rfl
      have d2 := Qd hC.d.t4 2
      have hgs := Q9 V q4 2 (.slice xa (L.length + 1) xc)
      have hI : Hid (∃ fv L', L'.length = k + 1 ∧ OfD w.heap.size q4 p (.slice a2 p.mems.length k2) (.slice a5 p.locks.length k5) fv L' (V.setCell ⟨q4, 2, none⟩ (.slice xa (L.length + 1) xc)) ∧ (V.setCell ⟨q4, 2, none⟩ (.slice xa (L.length + 1) xc)).ownsRow w.heap.size 37 5 fv L'.length (Xb L')) := Lh (by
       refine ⟨_, L ++ [x], by simp [hL], hC.d.step hL hf hx, ?_⟩
       have h9 := Zd hrow hgs (Zb hrow hC.d.t4 (by decide))
       have h8 : Xb (L ++ [x]) = Xb L ++ x.vals := by unfold Xb; simp
       rw [h8, List.length_append]
       exact h9)
      have hb := Lh (hC.below.setCell (p := ⟨q4, 2, none⟩) (show w.heap.size ≤ q4 by omega) (.slice xa (L.length + 1) xc))
      have hr := Lh ((hgs.block _ (Array.getElem?_eq_some_iff.1 hC.r).1 (fun e => by have := Option.some.inj e; omega)).trans hC.r)
      clear hR hrow hx hgs hC h6 h7 hgf hL hf
      unfold Oper.wp
      unfold execOp
      simp [go_sem, e2, d2]
      clear e2 d2
      generalize V.setCell ⟨q4, 2, none⟩ (.slice xa (L.length + 1) xc) = W9 at *
      generalize σ 0 = y0
      generalize σ 1 = y1
      generalize σ 2 = y2
      generalize σ 3 = y3
      generalize σ 4 = y4
      go_wp2_with fail
      go_roundw
      case rel => exact ⟨k + 1, by omega, by go_num, hI, hb, hr⟩
      case measure => simp [intOf]; omega
   · have hk2 : k = p.funs.length := by omega
     subst hk2
     obtain ⟨fv, L, hL, hD, hF⟩ := hI.out
     obtain ⟨fa, fcap, rfl⟩ := own_sl hF
     replace hL := Lh hL
     have e0 := Qk hD.t4 (j := 0) rfl
     have e1 := Qk hD.t4 (j := 1) rfl
     have e2 := Qk hD.t4 (j := 2) rfl
     have r0 := Qk hr.out (j := 0) rfl
     have r1 := Qk hr.out (j := 1) rfl
     have r2 := Qk hr.out (j := 2) rfl
     have f0 := Qd hr.out 0
     have f1 := Qd hr.out 1
     have f2 := Qd hr.out 2
     have hl0 := World.block_lt_of_cell? _ _ e0
     have hl1 := World.block_lt_of_cell? _ _ r0
     replace hD := Lh hD
     replace hF := Lh hF
     clear hI
     go_wp2_with fail
     have hh := heap_set3 hr.out (.slice a2 p.mems.length k2) (.slice a5 p.locks.length k5) (.slice fa L.length fcap)
     have hg3 := grown3 wr (w.heap.size + 1) (.slice a2 p.mems.length k2) (.slice a5 p.locks.length k5) (.slice fa L.length fcap)
     have hD' := hD.out
     exact bodyPost_ret (v := .tuple #[.agg #[.slice a2 p.mems.length k2, .slice a5 p.locks.length k5, .slice fa L.length fcap], .int .i64 0]) (results_two Tryd.results8 _ _ (w.heap.size + 1) _ _ _ _ _ rfl hh Tryd.underlying30 rfl (by kernel_rfl) rfl) rfl ⟨⟨a2, k2, p.mems, a5, k5, p.locks, fa, fcap, L⟩, rfl,
      ⟨rfl, rfl, hL.out, Zd hD'.mrow hg3 (Zb hD'.mrow hr.out (by decide)), Zd hD'.srow hg3 (Zb hD'.srow hr.out (by decide)), Zd hF.out hg3 (Zb hF.out hr.out (by decide)), fun j f g h1 h2 => (hD'.grs j f g h1 h2).grown hg3 hr.out (by decide) (by decide) (by decide)⟩, below3 hb.out (by omega) _ _ _⟩
end Go.Proofs.YthiiahlgncngoaaDoorRR.Fw
