/- Walk of graph: a Fun's blocks. Conditions: the Fun lies in memory, its instructions lead to instructions, the last one is a jump or a return. -/
import Derived.Test.YtkmlhijnkilfpaaDoorJOh
set_option linter.unusedVariables false
set_option linter.unusedSimpArgs false
namespace Go.Proofs.YtkmlhijnkilfpaaDoor.Fw
open Go Go.RowKit
open Go.Proofs.YtkmlhijnkilfpaaDoor.Lx Go.Proofs.YtkmlhijnkilfpaaDoor.Tr Go.Proofs.YtkmlhijnkilfpaaDoor.Cd
open Go.Proofs.YtkmlhijnkilfpaaDoor.Vq Go.Proofs.YtkmlhijnkilfpaaDoor.Qr Go.Proofs.YtkmlhijnkilfpaaDoor.QrT Go.Proofs.YtkmlhijnkilfpaaDoor.QrP
open Go.Proofs.YtkmlhijnkilfpaaDoor.Qg (run_call1 run_call2 run_call3)

/-- a graph's blocks, in memory: what cut makes, what stays of it, and From, in rows of their own -/
structure GrQ (B : Nat) (l : List Ins) (ba : Option Addr) (bcap : Nat) (L : List Bk) (W : World) : Prop where
  ex : ∃ g g2 bs m a7 c7 fa fc, CutS a7 l m bs ∧ CodeI B g a7 c7 m W ∧ TtI (g + 1) (stay bs) (oldTo (stay bs)) W ∧ ba = some ⟨g2, 0, none⟩ ∧ OwnC (g + 1) g2 bcap L W ∧ (∀ x ∈ stay bs, ∀ q, (toV x).ownBlock = some q → q < g2) ∧
    L = tellF fa fc (stay bs) (stay bs).length ∧ ∀ k, k < (stay bs).length → W.ownsRow (g2 + 1) 3 1 (.slice (fa k) (fromsP (stay bs) (k : Int)).length (fc k)) (fromsP (stay bs) (k : Int)).length (numCells (fromsP (stay bs) (k : Int)))
set_option maxHeartbeats 8000000 in
set_option maxRecDepth 100000 in
theorem graph_c (f : Cd.Fn) (w : World) (hf : Fn.In w Tt f) (hT : OpTab w) (hl0 : 0 < f.code.length) (hl : f.code.length ≤ 16384) (ha : ∀ y ∈ f.code, y.args.length ≤ 1048576) (hg : ∀ y ∈ f.code, (glP y).2 = true → 0 ≤ (glP y).1 ∧ (glP y).1 < (f.code.length : Int)) (hlast : lastOp f.code = 11 ∨ lastOp f.code = 13) :
    Calls Tryd.prog 24 #[.agg ⟨f.vals⟩] w fun e w' => ∃ x : Gr, e = .returned (.agg ⟨x.vals⟩) ∧ x.name = f.name ∧ x.thread = f.thread ∧ x.params = f.params ∧ x.regs = f.regs ∧ GrQ w.heap.size f.code x.ba x.bcap x.blocks w' ∧ Below w.heap.size w w' := by
  obtain ⟨name, thread, params, regs, ca, ccap, code⟩ := f
  simp only at *
  unfold Cd.Fn.vals
  simp only
  have hst := Lib.hid (b_alloc2 w (.cells #[.string name, .bool thread, .int .i64 params, .int .i64 regs, .slice ca code.length ccap] 52) (.cells gr0 37))
  have hq := Lib.hid (box_new w [.string name, .bool thread, .int .i64 params, .int .i64 regs, .slice ca code.length ccap] 52)
  have hqq := Lib.hid (blk_new (w.alloc (.cells #[.string name, .bool thread, .int .i64 params, .int .i64 regs, .slice ca code.length ccap] 52)) (.cells gr0 37) (b := w.heap.size + 1) (by simp))
  have hpars := Lib.hid hf
  have hT' := Lib.hid hT
  replace ha := Lib.hid ha
  replace hg := Lib.hid hg
  clear hf hT
  go_enter Tryd.func24, Tryd.ntmps24
  go_upto_region 1 with fail
  have hsz : ((w.alloc (.cells #[.string name, .bool thread, .int .i64 params, .int .i64 regs, .slice ca code.length ccap] 52)).alloc (.cells gr0 37)).heap.size = w.heap.size + 2 := by simp
  generalize hW0 : (w.alloc (.cells #[.string name, .bool thread, .int .i64 params, .int .i64 regs, .slice ca code.length ccap] 52)).alloc (.cells gr0 37) = W0 at *
  have hq0 : Hid (∀ j u, ([.string name, .bool thread, .int .i64 params, .int .i64 regs, .slice ca code.length ccap] : List Value)[j]? = some u → W0.cell? ⟨w.heap.size, j, none⟩ = some u) := Lib.hid (fun j u hu => by rw [← hW0]; exact below_in (b_alloc _ _) (hq.out j u hu))
  have q0 := Lib.hid (hq0.out 0 _ rfl)
  have q1 := Lib.hid (hq0.out 1 _ rfl)
  have q2 := Lib.hid (hq0.out 2 _ rfl)
  have q3 := Lib.hid (hq0.out 3 _ rfl)
  have q4 := Lib.hid (hq0.out 4 _ rfl)
  clear hW0 hq hq0
  have hcut := Lib.hid (fun W (hC : Below W0.heap.size W0 W) => cut_c ca ccap code W ((hpars.out.row).below (Kps.of_below (hst.out.trans (hC.mono hst.out.size)))) (fun y hy => (hpars.out.code y hy).below (Kps.of_below (hst.out.trans (hC.mono hst.out.size)))) (hT'.out.keep (hst.out.trans (hC.mono hst.out.size))) (by omega) ha.out hg.out)
  have hbl := begL_len code
  have hbp := begL_pos hl0
  refine wp_region_tailP (P := Tryd.prog) 11 (C := fun _ V => Below W0.heap.size W0 V) (E := Ext) (EP := NumE) (R := fun t j => (raG W0.heap.size code w.heap.size (.string name) (.bool thread) (.int .i64 params) (.int .i64 regs) (.slice ca code.length ccap) t).getD j VT) (by kernel_rfl) ((Below.refl _ _).drew) (by kernel_rfl) (fun t j v w' w'' _ hE h => mono_get _ j raG_mono v w' w'' hE h) (fun i v w' w'' hi _ hE h => raG_num i v w' w'' hi hE h) (m := 14) (by omega) rfl rfl rfl (by kernel_rfl) ?hs rfl ?hp ?hend
  case hs =>
    refine steps_but 11 14 (fun t => ?_) (fun t => ?_)
    · skip
      refine stepsL_cons (s_val fun a W hC hs => ?_) ?_
      · have h1 := old_of hs 1 (by kernel_rfl) (by rfl)
        exact ⟨wanted_none rfl, _, run_fa rfl (ev h1) fl_u0, rfl⟩
      refine stepsL_cons (s_val fun a W hC hs => ?_) ?_
      · obtain ⟨v, hv, hR⟩ := got_of hs 0 6 (by kernel_rfl) (by rfl)
        replace hR : v = _ := hR
        subst hR
        exact ⟨wanted_none rfl, _, run_ld rfl (ev hv) (by have := below_in hC q0.out; simp [go_sem, this]), rfl⟩
      refine stepsL_cons (s_val fun a W hC hs => ?_) ?_
      · have h1 := old_of hs 1 (by kernel_rfl) (by rfl)
        exact ⟨wanted_none rfl, _, run_fa rfl (ev h1) fl_u1, rfl⟩
      refine stepsL_cons (s_val fun a W hC hs => ?_) ?_
      · obtain ⟨v, hv, hR⟩ := got_of hs 2 8 (by kernel_rfl) (by rfl)
        replace hR : v = _ := hR
        subst hR
        exact ⟨wanted_none rfl, _, run_ld rfl (ev hv) (by have := below_in hC q1.out; simp [go_sem, this]), rfl⟩
      refine stepsL_cons (s_val fun a W hC hs => ?_) ?_
      · have h1 := old_of hs 1 (by kernel_rfl) (by rfl)
        exact ⟨wanted_none rfl, _, run_fa rfl (ev h1) fl_u2, rfl⟩
      refine stepsL_cons (s_val fun a W hC hs => ?_) ?_
      · obtain ⟨v, hv, hR⟩ := got_of hs 4 10 (by kernel_rfl) (by rfl)
        replace hR : v = _ := hR
        subst hR
        exact ⟨wanted_none rfl, _, run_ld rfl (ev hv) (by have := below_in hC q2.out; simp [go_sem, this]), rfl⟩
      refine stepsL_cons (s_val fun a W hC hs => ?_) ?_
      · have h1 := old_of hs 1 (by kernel_rfl) (by rfl)
        exact ⟨wanted_none rfl, _, run_fa rfl (ev h1) fl_u3, rfl⟩
      refine stepsL_cons (s_val fun a W hC hs => ?_) ?_
      · obtain ⟨v, hv, hR⟩ := got_of hs 6 12 (by kernel_rfl) (by rfl)
        replace hR : v = _ := hR
        subst hR
        exact ⟨wanted_none rfl, _, run_ld rfl (ev hv) (by have := below_in hC q3.out; simp [go_sem, this]), rfl⟩
      refine stepsL_cons (s_val fun a W hC hs => ?_) ?_
      · have h1 := old_of hs 1 (by kernel_rfl) (by rfl)
        exact ⟨wanted_none rfl, _, run_fa rfl (ev h1) fl_u4, rfl⟩
      refine stepsL_cons (s_val fun a W hC hs => ?_) ?_
      · obtain ⟨v, hv, hR⟩ := got_of hs 8 14 (by kernel_rfl) (by rfl)
        replace hR : v = _ := hR
        subst hR
        exact ⟨wanted_none rfl, _, run_ld rfl (ev hv) (by have := below_in hC q4.out; simp [go_sem, this]), rfl⟩
      refine stepsL_cons (s_call fun a W hC hs => ?_) ?_
      · obtain ⟨v, hv, hR⟩ := got_of hs 9 15 (by kernel_rfl) (by rfl)
        replace hR : v = _ := hR
        subst hR
        refine ⟨wanted_none rfl, 62, _, run_call1 rfl (ev hv) (fun _ _ => rfl), ((hcut.out W hC).mono ?_)⟩
        rintro e w' ⟨g, bs, m, a7, c7, rfl, h1, h2, h3, h4, h5⟩
        refine ⟨_, rfl, hC.trans (h5.mono hC.size), h5, ?_⟩
        cases t
        · exact ⟨g, bs, m, a7, c7, rfl, h1, h2, h3.low hC.size, h4⟩
        · trivial
      exact stepsL_nil
    · refine stepsL_cons (s_val fun a W hC hs => ?_) ?_
      · obtain ⟨v1, hv1, hR1⟩ := got_of hs 1 7 (by kernel_rfl) (by rfl)
        replace hR1 : v1 = _ := hR1
        subst hR1
        obtain ⟨v3, hv3, hR3⟩ := got_of hs 3 9 (by kernel_rfl) (by rfl)
        replace hR3 : v3 = _ := hR3
        subst hR3
        obtain ⟨v5, hv5, hR5⟩ := got_of hs 5 11 (by kernel_rfl) (by rfl)
        replace hR5 : v5 = _ := hR5
        subst hR5
        obtain ⟨v7, hv7, hR7⟩ := got_of hs 7 13 (by kernel_rfl) (by rfl)
        replace hR7 : v7 = _ := hR7
        subst hR7
        obtain ⟨v11, hv11, hR11⟩ := got_of hs 11 17 (by kernel_rfl) (by rfl)
        cases t
        · exact False.elim hR11
        · obtain ⟨g, g2, bcap, bs, m, a7, c7, rfl, h1⟩ : VRe W0.heap.size code v11 W := hR11
          exact ⟨wanted_none rfl, _, run_b (qs := #[(0, .string name), (1, .bool thread), (2, .int .i64 params), (3, .int .i64 regs), (4, .slice (some ⟨g2, 0, none⟩) (stay bs).length bcap)]) rfl (by simp [ev hv1, ev hv3, ev hv5, ev hv7, ev hv11]) (b_graph _ _ _ _ _ _ _), ⟨_, rfl, g, g2, bcap, bs, m, a7, c7, rfl, h1⟩⟩
      refine stepsL_cons (s_new fun a W hC hs => ?_) ?_
      · refine ⟨wanted_none rfl, _, _, run_al rfl (al_graph W), hC.alloc hC.size _, Ext.al _ _, ⟨_, rfl, ?_, blk_new _ _ rfl⟩⟩
        exact hC.size
      exact stepsL_nil
  case hp =>
    intro a W hC hs
    refine p_call ?_
    refine ⟨wanted_none rfl, ?_⟩
    obtain ⟨v, hv, hR⟩ := got_of hs 10 16 (by kernel_rfl) (by rfl)
    obtain ⟨g, bs, m, a7, c7, rfl, h1, h2, h3, h4⟩ : VCut W0.heap.size code v W := hR
    have hcs := CutS.of h4 h1 h2
    have hto := hcs.to hlast
    have hlen := hcs.len
    rw [← hlen] at hv
    have hre := reached_c g (g + 1) bs W ((h4.own.row (by unfold maxLen; omega)).mono fun _ _ => trivial) (cut_tti h4) hto (by omega) (by omega)
    refine ⟨61, _, run_call1 rfl (ev hv) (fun _ _ => rfl), hre.mono ?_⟩
    rintro e w' ⟨v', rfl, k1, k2, k3⟩
    have hti := cut_tti h4
    have hlo := tti_low hti
    have hgl := h4.own.lt
    have hB := h3.le (by rw [h1]; exact hl0)
    obtain ⟨sp1, sp2⟩ := stay_pos hto (by omega)
    have k4 := k1
    rw [← stay_cells, ← stay_len] at k4
    obtain ⟨g2, bcap, rfl, k5⟩ := OwnC.of k4 sp1
    refine ⟨_, rfl, ?_, fun q hq hn => k3.block q hq fun x hx e => ?_, g, g2, bcap, bs, m, a7, c7, rfl, hcs, h3.frm k3 (fun x hx q hq => by have := hlo x hx q hq; omega), tti_stay hto (by omega) k2, ?_, fun x hx q hq => ?_⟩
    · exact ⟨k3.os.trans hC.os, k3.tape.trans hC.tape, k3.output.trans hC.output, Nat.le_trans hC.size k3.size, fun q hq => (k3.block q (Nat.lt_of_lt_of_le hq hC.size) fun x hx e => by have := hlo x hx q e; omega).trans (hC.block q hq)⟩
    · obtain ⟨i, hi⟩ := List.mem_iff_getElem?.1 hx
      rcases (hti.rows i x hi).2 with ⟨e1, _⟩ | ⟨q', cap, cur, e1, _, hg', _⟩
      · rw [e1] at e; cases e
      · rw [e1] at e
        have e2 : q' = q := Option.some.inj e
        subst e2
        exact hn cur hg'
    · obtain ⟨hB5, ex5⟩ := k5
      exact ⟨by omega, ex5⟩
    · obtain ⟨i, hi⟩ := List.mem_iff_getElem?.1 hx
      obtain ⟨b, x', _, hx', _, _, rfl⟩ := stay_of hi
      rw [toV_re] at hq
      have := hlo x' (List.mem_of_getElem? hx') q hq
      have := k5.hB
      omega
  case hend =>
    intro σ V hC hR
    generalize hF : fillL _ _ _ _ _ = F
    simp [fillL, dstOf, List.range, List.range.loop, Act.put] at hF
    subst hF
    obtain ⟨qb, hqb, hqB, hqh⟩ : VAl W0.heap.size (σ 13) V := hR 13 (by simp)
    obtain ⟨u, h12, g, g2, bcap, bs, m, a7, c7, rfl, hre⟩ : VBd W0.heap.size code (.string name) (.bool thread) (.int .i64 params) (.int .i64 regs) (σ 12) V := hR 12 (by simp)
    rw [hqb, h12]
    have c0 := blk_cell hqh (j := 0) rfl
    have c1 := blk_cell hqh (j := 1) rfl
    have c2 := blk_cell hqh (j := 2) rfl
    have c3 := blk_cell hqh (j := 3) rfl
    have c4 := blk_cell hqh (j := 4) rfl
    have d0 := blk_free hqh 0
    have d1 := blk_free hqh 1
    have d2 := blk_free hqh 2
    have d3 := blk_free hqh 3
    have d4 := blk_free hqh 4
    have hh1 := Lib.hid (heap_set5 hqh (.string name) (.bool thread) (.int .i64 params) (.int .i64 regs) (.slice (some ⟨g2, 0, none⟩) (stay bs).length bcap))
    have hre1 := Lib.hid (hre.grown (grown5 V qb (.string name) (.bool thread) (.int .i64 params) (.int .i64 regs) (.slice (some ⟨g2, 0, none⟩) (stay bs).length bcap)) hqh (by decide) (by decide) (by decide))
    have hb1 := Lib.hid (below5 hC hqB (.string name) (.bool thread) (.int .i64 params) (.int .i64 regs) (.slice (some ⟨g2, 0, none⟩) (stay bs).length bcap))
    clear hR hre hC hqh h12 hqb hcut q0 q1 q2 q3 q4
    unfold Oper.wp
    unfold execOp
    simp [go_sem, c0, c1, c2, c3, c4, d0, d1, d2, d3, d4]
    clear c0 c1 c2 c3 c4 d0 d1 d2 d3 d4
    generalize ((((V.setCell ⟨qb, 0, none⟩ (.string name)).setCell ⟨qb, 1, none⟩ (.bool thread)).setCell ⟨qb, 2, none⟩ (.int .i64 params)).setCell ⟨qb, 3, none⟩ (.int .i64 regs)).setCell ⟨qb, 4, none⟩ (.slice (some ⟨g2, 0, none⟩) (stay bs).length bcap) = W1 at *
    clear V
    generalize σ 0 = z0
    generalize σ 1 = z1
    generalize σ 2 = z2
    generalize σ 3 = z3
    generalize σ 4 = z4
    generalize σ 5 = z5
    generalize σ 6 = z6
    generalize σ 7 = z7
    generalize σ 8 = z8
    generalize σ 9 = z9
    generalize σ 10 = z10
    generalize σ 11 = z11
    generalize σ 12 = z12
    generalize σ 13 = z13
    have hcs := hre1.out.cut
    have hto0 := hcs.to hlast
    have hlen := hcs.len
    obtain ⟨sp1, sp2⟩ := stay_pos hto0 (by omega)
    have hsto := stay_to hto0 (by omega)
    have hsl : (stay bs).length ≤ 16385 := by omega
    have hown := hre1.out.own
    obtain ⟨lc1, lc2⟩ := len_i (hown.row)
    have hsrc := Lib.hid (sources_c (stay bs) (some ⟨g2, 0, none⟩) bcap W1 (hown.row.mono fun _ _ => trivial) (stay_in hcs hre1.out.code hre1.out.tos hsto (by omega)) hsto (by omega))
    have e4 := blk_cell hh1.out (j := 4) rfl
    have hql := World.block_lt_of_cell? _ _ e4
    have hqne : qb ≠ g2 := hown.ne hh1.out (by decide)
    have hgl := hown.lt
    clear hto0 hsto hown
    go_wp2_with fail
    refine hsrc.out.mono ?_
    rintro e W2 ⟨g3, rfl, hS, hb2⟩
    have hg3 := hS.hg
    have hall : ∀ k : Nat, ∃ y : Option Addr × Nat, k < (stay bs).length → W2.cell? ⟨g3, k, none⟩ = some (.slice y.1 (fromsP (stay bs) (k : Int)).length y.2) ∧ W2.ownsRow W1.heap.size 3 1 (.slice y.1 (fromsP (stay bs) (k : Int)).length y.2) (fromsP (stay bs) (k : Int)).length (numCells (fromsP (stay bs) (k : Int))) := fun k => by
      by_cases hk : k < (stay bs).length
      · obtain ⟨a, cap, h1, h2, h3, h4⟩ := hS.get hk
        exact ⟨(a, cap), fun _ => ⟨h1, h3⟩⟩
      · exact ⟨(none, 0), fun h => absurd h hk⟩
    have hch : ∃ F : Nat → Option Addr × Nat, ∀ k, k < (stay bs).length → W2.cell? ⟨g3, k, none⟩ = some (.slice (F k).1 (fromsP (stay bs) (k : Int)).length (F k).2) ∧ W2.ownsRow W1.heap.size 3 1 (.slice (F k).1 (fromsP (stay bs) (k : Int)).length (F k).2) (fromsP (stay bs) (k : Int)).length (numCells (fromsP (stay bs) (k : Int))) := ⟨fun k => (hall k).choose, fun k => (hall k).choose_spec⟩
    clear hall
    obtain ⟨F, hF⟩ := hch
    have hF' := Lib.hid hF
    have hg3l : g3 < W2.heap.size := by
      obtain ⟨_, vs, _, h2, _⟩ := hS
      exact (Array.getElem?_eq_some_iff.1 h2).1
    have hO2 := Lib.hid (hre1.out.own.keep hb2)
    have hO0 : Hid (OwnC (g + 1) g2 bcap (tellF (fun k => (F k).1) (fun k => (F k).2) (stay bs) 0) W2) := Lib.hid (by rw [tell_zero]; exact hO2.out)
    have e4' := Lib.hid (below_in hb2 e4)
    have hre2 := Lib.hid (hre1.out.keep hb2)
    have hbW2 := Lib.hid (hb1.out.trans (hb2.mono hb1.out.size))
    have hh2 := Lib.hid ((hb2.block qb hql).trans hh1.out)
    have hW12 := hb2.size
    have hgB := hre1.out.code.le (by rw [hcs.mlen]; exact hl0)
    have hg2g := hre1.out.own.hB
    clear hF hS hsrc e4 hb2 hh1 hb1 hre1
    go_wp2_with fail
    go_loopw [23] (fun i wr => ∃ k : Nat, k ≤ (stay bs).length ∧ i = .int .i64 k ∧ Hid (OwnC (g + 1) g2 bcap (tellF (fun k => (F k).1) (fun k => (F k).2) (stay bs) k) wr) ∧ Hid (W2.grownBy wr (some g2))) (fun i _ => (stay bs).length - (intOf i).toNat)
    case atStart => exact ⟨0, Nat.zero_le _, rfl, hO0, Lib.hid (grown_refl _ _)⟩
    case round =>
      obtain ⟨k, hk, rfl, hO, hG⟩ := hrel
      by_cases hlt : k < (stay bs).length
      · obtain ⟨x, hx⟩ : ∃ x, (stay bs)[k]? = some x := ⟨_, List.getElem?_eq_getElem hlt⟩
        have hxt := tell_get (fa := fun k => (F k).1) (fcap := fun k => (F k).2) (k := k) hx
        rw [if_neg (by omega)] at hxt
        have hc3 := cell_grown hG.out (show g3 ≠ g2 by omega) (hF'.out k hlt).1
        have hc4 := cell_grown hG.out hqne e4'.out
        obtain ⟨x0, x1, x2, x3⟩ := hO.out.get hxt
        have hf2 := hO.out.free (k * 4 + 2)
        have hO3 : Hid (OwnC (g + 1) g2 bcap (tellF (fun k => (F k).1) (fun k => (F k).2) (stay bs) (k + 1)) (wr.setCell ⟨g2, k * 4 + 2, none⟩ (.slice (F k).1 (fromsP (stay bs) (k : Int)).length (F k).2))) := Lib.hid (by
          rw [← tell_step hx]
          exact hO.out.set hxt (by omega) rfl)
        have hG3 : Hid (W2.grownBy (wr.setCell ⟨g2, k * 4 + 2, none⟩ (.slice (F k).1 (fromsP (stay bs) (k : Int)).length (F k).2)) (some g2)) := Lib.hid (World.grownBy.trans hG.out (grown_set _ _ _ _))
        have hl1 := World.block_lt_of_cell? _ _ hc3
        have hl2 := World.block_lt_of_cell? _ _ hc4
        have hl3 := World.block_lt_of_cell? _ _ x2
        have hi0' : (0 : Int) ≤ (k : Int) := by omega
        have hi1 : (k : Int) < ((stay bs).length : Int) := by omega
        clear hO hG hx hxt x0 x1 x3
        go_wp2_with fail
        go_roundw
        case rel => exact ⟨k + 1, by omega, by go_num, hO3, hG3⟩
        case measure => simp [intOf]; omega
      · have hk2 : k = (stay bs).length := by omega
        subst hk2
        have hhq : wr.heap[qb]? = some (.cells #[.string name, .bool thread, .int .i64 params, .int .i64 regs, .slice (some ⟨g2, 0, none⟩) (stay bs).length bcap] 37 (0, 0)) := (hG.out.block qb (Array.getElem?_eq_some_iff.1 hh2.out).1 (fun e => hqne (Option.some.inj e))).trans hh2.out
        have hr2 : W2.heap[w.heap.size + 1]? = some (.cells gr0 37 (0, 0)) := (hbW2.out.block _ (by omega)).trans hqq.out
        have hhr : wr.heap[w.heap.size + 1]? = some (.cells gr0 37 (0, 0)) := (hG.out.block _ (Array.getElem?_eq_some_iff.1 hr2).1 (fun e => by have := Option.some.inj e; omega)).trans hr2
        have e0 := blk_cell hhq (j := 0) rfl
        have e1 := blk_cell hhq (j := 1) rfl
        have e2 := blk_cell hhq (j := 2) rfl
        have e3 := blk_cell hhq (j := 3) rfl
        have e4 := blk_cell hhq (j := 4) rfl
        have r0 := blk_cell hhr (j := 0) rfl
        have r1 := blk_cell hhr (j := 1) rfl
        have r2 := blk_cell hhr (j := 2) rfl
        have r3 := blk_cell hhr (j := 3) rfl
        have r4 := blk_cell hhr (j := 4) rfl
        have f0 := blk_free hhr 0
        have f1 := blk_free hhr 1
        have f2 := blk_free hhr 2
        have f3 := blk_free hhr 3
        have f4 := blk_free hhr 4
        have hlq := World.block_lt_of_cell? _ _ e0
        have hlr := World.block_lt_of_cell? _ _ r0
        replace hhr := Lib.hid hhr
        clear hhq hr2
        go_wp2_with fail
        have hh := heap_set5 hhr.out (.string name) (.bool thread) (.int .i64 params) (.int .i64 regs) (.slice (some ⟨g2, 0, none⟩) (stay bs).length bcap)
        have hg5 := grown5 wr (w.heap.size + 1) (.string name) (.bool thread) (.int .i64 params) (.int .i64 regs) (.slice (some ⟨g2, 0, none⟩) (stay bs).length bcap)
        obtain ⟨_, cur2, hx2, _⟩ := hO2.out
        have hcode := (hre2.out.code.grown hG.out hx2 (by decide) (by decide)).grown hg5 hhr.out (by decide) (by decide)
        have htos := (hre2.out.tos.grownT hG.out hx2 (by decide)).grownT hg5 hhr.out (by decide)
        have hown := hO.out.grown hg5 (show w.heap.size + 1 ≠ g2 by omega)
        have hbz : Below w.heap.size w (((((wr.setCell ⟨w.heap.size + 1, 0, none⟩ (.string name)).setCell ⟨w.heap.size + 1, 1, none⟩ (.bool thread)).setCell ⟨w.heap.size + 1, 2, none⟩ (.int .i64 params)).setCell ⟨w.heap.size + 1, 3, none⟩ (.int .i64 regs)).setCell ⟨w.heap.size + 1, 4, none⟩ (.slice (some ⟨g2, 0, none⟩) (stay bs).length bcap)) :=
          below5 ((hst.out.trans (hbW2.out.mono hst.out.size)).grown hG.out (by have := hbW2.out.size; omega) (fun k e => by have := Option.some.inj e; omega)) (by omega) _ _ _ _ _
        refine bodyPost_ret (v := .agg #[.string name, .bool thread, .int .i64 params, .int .i64 regs, .slice (some ⟨g2, 0, none⟩) (stay bs).length bcap]) (results_cell_row Tryd.results24 _ _ (w.heap.size + 1) _ _ _ _ rfl hh Tryd.underlying37 rfl (by kernel_rfl)) rfl ⟨⟨name, thread, params, regs, some ⟨g2, 0, none⟩, bcap, tellF (fun k => (F k).1) (fun k => (F k).2) (stay bs) (stay bs).length⟩, ?_, rfl, rfl, rfl, rfl, ⟨g, g2, bs, m, a7, c7, _, _, hcs, hcode.low (by omega), htos, rfl, hown, hre2.out.lt, rfl, fun k hk => ?_⟩, hbz⟩
        · unfold Gr.vals
          simp only [tell_len]
        · have h1 := (hF'.out k hk).2
          exact own_low (own_grown (own_grown h1 hG.out (own_apart h1 hgl)) hg5 (own_apart h1 (by omega))) hgl
end Go.Proofs.YtkmlhijnkilfpaaDoor.Fw
