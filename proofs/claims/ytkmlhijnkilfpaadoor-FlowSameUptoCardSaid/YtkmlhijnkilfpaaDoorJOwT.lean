/- Walk of Of, where the program may be. Conditions: the program lies in memory, its lists are of bounded length; the packages' tables hold their lists. -/
import Derived.Test.YtkmlhijnkilfpaaDoorJOi
set_option linter.unusedVariables false
set_option linter.unusedSimpArgs false
namespace Go.Proofs.YtkmlhijnkilfpaaDoor.Fw
open Go Go.RowKit
open Go.Proofs.YtkmlhijnkilfpaaDoor.Lx Go.Proofs.YtkmlhijnkilfpaaDoor.Tr Go.Proofs.YtkmlhijnkilfpaaDoor.Cd
open Go.Proofs.YtkmlhijnkilfpaaDoor.Vq Go.Proofs.YtkmlhijnkilfpaaDoor.Qr Go.Proofs.YtkmlhijnkilfpaaDoor.QrT Go.Proofs.YtkmlhijnkilfpaaDoor.QrP
open Go.Proofs.YtkmlhijnkilfpaaDoor.Qg (run_call1 run_call2 run_call3)

/-- what Of makes of a program -/
structure FmO (B : Nat) (p : Pg) (x : Fm) (W : World) : Prop where
  mems : x.mems = p.mems
  locks : x.locks = p.locks
  len : x.funs.length = p.funs.length
  mrow : W.ownsRow B 56 3 (.slice x.ma x.mems.length x.mcap) x.mems.length (mmCells x.mems)
  srow : W.ownsRow B 9 1 (.slice x.la x.locks.length x.lcap) x.locks.length (strCells x.locks)
  frow : W.ownsRow B 37 5 (.slice x.fa x.funs.length x.fcap) x.funs.length (grCells x.funs)
  grs : ∀ (j : Nat) (f : Cd.Fn) (g : Gr), p.funs[j]? = some f → x.funs[j]? = some g → GrO B f g W
theorem own_sl {W : World} {B : Nat} {e : TypeId} {c : Nat} {v : Value} {n : Nat} {xs : List Value} (h : W.ownsRow B e c v n xs) : ∃ a cap, v = .slice a n cap := by
  rcases h.2 with ⟨rfl, rfl⟩ | ⟨g, cap, cur, rfl, _⟩
  · exact ⟨none, 0, rfl⟩
  · exact ⟨_, cap, rfl⟩
/-- region 7's class of worlds -/
structure C7 (B r q4 q6 : Nat) (w : World) (p : Pg) (f : Cd.Fn) (mv sv fv : Value) (L : List Gr) (t : Bool) (V : World) : Prop where
  below : Below B w V
  r : V.heap[r]? = some (.cells fm0 30 (0, 0))
  d : OfD B q4 p mv sv fv L V
  t6 : V.heap[q6]? = some (.cells ⟨f.vals⟩ 52 (0, 0))
  frow : t = false → V.ownsRow B 37 5 fv L.length (grCells L)
theorem C7.keep {B r q4 q6 : Nat} {w : World} {p : Pg} {f : Cd.Fn} {mv sv fv : Value} {L : List Gr} {t : Bool} {V W : World} (h : C7 B r q4 q6 w p f mv sv fv L t V) (hB : B ≤ w.heap.size) (hb : Below V.heap.size V W) : C7 B r q4 q6 w p f mv sv fv L t W :=
  ⟨h.below.trans (hb.mono (Nat.le_trans hB h.below.size)), (hb.block _ (Array.getElem?_eq_some_iff.1 h.r).1).trans h.r, h.d.keep hb, (hb.block _ (Array.getElem?_eq_some_iff.1 h.t6).1).trans h.t6, fun e => own_below (h.frow e) hb⟩
theorem cells_app {q : Nat} {B n : Nat} {xs : List Value} {fv : Value} {V W : World} {cur : Array Value} {T : TypeId} (hf : V.ownsRow B 37 5 fv n xs) (hg : V.grownBy W fv.ownBlock) (hq : V.heap[q]? = some (.cells cur T (0, 0))) (hT : T ≠ 37) : W.heap[q]? = some (.cells cur T (0, 0)) :=
  (hg.block q (Array.getElem?_eq_some_iff.1 hq).1 (fun e => own_ty hf hq hT e.symm)).trans hq
theorem C7.app {B r q4 q6 : Nat} {w : World} {p : Pg} {f : Cd.Fn} {mv sv fv : Value} {L : List Gr} {V W : World} (h : C7 B r q4 q6 w p f mv sv fv L false V) (hB : B ≤ w.heap.size) (hg : V.grownBy W fv.ownBlock) : C7 B r q4 q6 w p f mv sv fv L true W :=
  ⟨h.below.grown hg (Nat.le_trans hB h.below.size) (fun k e => ((h.frow rfl).lt k e).1), cells_app (h.frow rfl) hg h.r (by decide), h.d.app (h.frow rfl) hg, cells_app (h.frow rfl) hg h.t6 (by decide), fun e => by cases e⟩
set_option maxHeartbeats 8000000 in
set_option maxRecDepth 100000 in
theorem ofyes_c (p : Pg) (w : World) (hp : Pg.In w Tt p) (hT : OpTab w) (hsg : SignsIn w) (hsum : p.mems.length + p.locks.length + p.funs.length ≤ 1099511627776) (hm : mayP p = true) :
    Calls Tryd.prog 8 #[p.val] w fun e w' => ∃ x : Fm, e = .returned (.tuple #[.agg ⟨x.vals⟩, .int .i64 0]) ∧ FmO w.heap.size p x w' ∧ Below w.heap.size w w' := by
  have hmay := Lib.hid (fun V (hv : Below w.heap.size w V) => may_any p V (hp.below (Kps.of_below hv)) (hT.keep hv) (hsg.below hsg.lt hv) (by omega))
  rw [hm] at hmay
  obtain ⟨hc1, hc2⟩ := len_i hp.frow
  have hgr := Lib.hid (fun (f : Cd.Fn) V (hf : f ∈ p.funs) (hv : Below w.heap.size w V) => graph_c f V (((hp.below (Kps.of_below hv)).funs f hf)) (hT.keep hv) (fun_ok hm hf).1 (fun_ok hm hf).2.1 (fun_ok hm hf).2.2.1 (fun_ok hm hf).2.2.2.1 (fun_ok hm hf).2.2.2.2)
  have hfr := Lib.hid (fun V (hv : Below w.heap.size w V) => hp.frow.below (Kps.of_below hv))
  have hoM := Lib.hid (fun V (hv : Below w.heap.size w V) => ownMem_c p.ma p.mcap p.mems V (hp.mrow.below (Kps.of_below hv)) (by omega))
  have hoS := Lib.hid (fun V (hv : Below w.heap.size w V) => ownStr_c p.la p.lcap p.locks V (hp.lrow.below (Kps.of_below hv)) (by omega))
  have hst := Lib.hid (b_alloc2 w (.cells #[.slice p.ma p.mems.length p.mcap, .slice p.la p.locks.length p.lcap, .slice p.fa p.funs.length p.fcap] 26) (.cells fm0 30))
  have hqq := Lib.hid (blk_new (w.alloc (.cells #[.slice p.ma p.mems.length p.mcap, .slice p.la p.locks.length p.lcap, .slice p.fa p.funs.length p.fcap] 26)) (.cells fm0 30) (b := w.heap.size + 1) (by simp))
  have hq := Lib.hid (box_new w [.slice p.ma p.mems.length p.mcap, .slice p.la p.locks.length p.lcap, .slice p.fa p.funs.length p.fcap] 26)
  clear hp hT hsg hm
  unfold Cd.Pg.val
  unfold Cd.Pg.val at hmay
  go_enter Tryd.func8, Tryd.ntmps8
  go_wp2_with fail
  have hsz : ((w.alloc (.cells #[.slice p.ma p.mems.length p.mcap, .slice p.la p.locks.length p.lcap, .slice p.fa p.funs.length p.fcap] 26)).alloc (.cells fm0 30)).heap.size = w.heap.size + 2 := by simp
  refine (hmay.out _ hst.out).mono ?_
  rintro e w1 ⟨rfl, hb1⟩
  have hrb : Hid (w1.heap[w.heap.size + 1]? = some (.cells fm0 30 (0, 0))) := Lib.hid ((hb1.block _ (Array.getElem?_eq_some_iff.1 hqq.out).1).trans hqq.out)
  have hq1 : Hid (∀ j u, ([.slice p.ma p.mems.length p.mcap, .slice p.la p.locks.length p.lcap, .slice p.fa p.funs.length p.fcap] : List Value)[j]? = some u → w1.cell? ⟨w.heap.size, j, none⟩ = some u) := Lib.hid (fun j u hu => below_in hb1 (below_in (b_alloc _ _) (hq.out j u hu)))
  have q0 := Lib.hid (hq1.out 0 _ rfl)
  have q1 := Lib.hid (hq1.out 1 _ rfl)
  have q2 := Lib.hid (hq1.out 2 _ rfl)
  have hbw := Lib.hid (hst.out.trans (hb1.mono hst.out.size))
  have hw1 := hb1.size
  rw [hsz] at hw1
  clear hq hq1 hqq hmay hb1 hsz hst
  go_upto_region 3 with fail
  refine wp_region_tail (P := Tryd.prog) (C := fun V => Below w1.heap.size w1 V) (E := Ext) (R := fun j => (raF3 w.heap.size w1.heap.size w.heap.size p).getD j VT) (by kernel_rfl) ((Below.refl _ _).drew) (by kernel_rfl) (fun j v w' w'' _ hE h => mono_get _ j raF3_mono v w' w'' hE h) (m := 8) rfl rfl rfl (by kernel_rfl) (steps_front 8 ?hs) ?hend
  case hs =>
    refine stepsL_cons (s_val fun a W hC hs => ?_) ?_
    · have h1 := old_of hs 1 (by kernel_rfl) (by rfl)
      exact ⟨wanted_none rfl, _, run_fa rfl (ev h1) fl_q0, rfl⟩
    refine stepsL_cons (s_val fun a W hC hs => ?_) ?_
    · obtain ⟨v, hv, hR⟩ := got_of hs 0 11 (by kernel_rfl) (by rfl)
      replace hR : v = _ := hR
      subst hR
      exact ⟨wanted_none rfl, _, run_ld rfl (ev hv) (by have := below_in hC q0.out; simp [go_sem, this]), rfl⟩
    refine stepsL_cons (s_call fun a W hC hs => ?_) ?_
    · obtain ⟨v, hv, hR⟩ := got_of hs 1 12 (by kernel_rfl) (by rfl)
      replace hR : v = _ := hR
      subst hR
      refine ⟨wanted_none rfl, 22, _, run_call1 rfl (ev hv) (fun _ _ => rfl), ((hoM.out W (hbw.out.trans (hC.mono hbw.out.size))).mono ?_)⟩
      rintro e w' ⟨v', rfl, h1, h2⟩
      exact ⟨_, rfl, hC.trans (h2.mono hC.size), h2, own_low h1 (Nat.le_trans hbw.out.size hC.size)⟩
    refine stepsL_cons (s_val fun a W hC hs => ?_) ?_
    · have h1 := old_of hs 1 (by kernel_rfl) (by rfl)
      exact ⟨wanted_none rfl, _, run_fa rfl (ev h1) fl_q1, rfl⟩
    refine stepsL_cons (s_val fun a W hC hs => ?_) ?_
    · obtain ⟨v, hv, hR⟩ := got_of hs 3 14 (by kernel_rfl) (by rfl)
      replace hR : v = _ := hR
      subst hR
      exact ⟨wanted_none rfl, _, run_ld rfl (ev hv) (by have := below_in hC q1.out; simp [go_sem, this]), rfl⟩
    refine stepsL_cons (s_call fun a W hC hs => ?_) ?_
    · obtain ⟨v, hv, hR⟩ := got_of hs 4 15 (by kernel_rfl) (by rfl)
      replace hR : v = _ := hR
      subst hR
      refine ⟨wanted_none rfl, 23, _, run_call1 rfl (ev hv) (fun _ _ => rfl), ((hoS.out W (hbw.out.trans (hC.mono hbw.out.size))).mono ?_)⟩
      rintro e w' ⟨v', rfl, h1, h2⟩
      exact ⟨_, rfl, hC.trans (h2.mono hC.size), h2, own_low h1 (Nat.le_trans hbw.out.size hC.size)⟩
    refine stepsL_cons (s_val fun a W hC hs => ?_) ?_
    · obtain ⟨v2, hv2, hR2⟩ := got_of hs 2 13 (by kernel_rfl) (by rfl)
      replace hR2 : VOwM w.heap.size p.mems v2 W := hR2
      obtain ⟨v5, hv5, hR5⟩ := got_of hs 5 16 (by kernel_rfl) (by rfl)
      replace hR5 : VOwS w.heap.size p.locks v5 W := hR5
      obtain ⟨a2, c2, rfl⟩ := own_sl hR2
      obtain ⟨a5, c5, rfl⟩ := own_sl hR5
      exact ⟨wanted_none rfl, _, run_b (qs := #[(0, .slice a2 p.mems.length c2), (1, .slice a5 p.locks.length c5)]) rfl (by simp [ev hv2, ev hv5]) (b_form _ _ _ _ _ _), ⟨_, _, rfl, hR2, hR5⟩⟩
    refine stepsL_cons (s_new fun a W hC hs => ?_) ?_
    · refine ⟨wanted_none rfl, _, _, run_al rfl (al_form W), hC.alloc hC.size _, Ext.al _ _, ⟨_, rfl, ?_, blk_new _ _ rfl⟩⟩
      exact hC.size
    exact stepsL_nil
  case hend =>
    intro σ V hC hR
    generalize hF : fillL _ _ _ _ _ = F
    simp [fillL, dstOf, List.range, List.range.loop, Act.put] at hF
    subst hF
    obtain ⟨q4, hq4, hqB, hqh⟩ : VAf w1.heap.size (σ 7) V := hR 7 (by simp)
    obtain ⟨mv, sv, h6, hmv, hsv⟩ : VFo w.heap.size p (σ 6) V := hR 6 (by simp)
    obtain ⟨a2, k2, rfl⟩ := own_sl hmv
    obtain ⟨a5, k5, rfl⟩ := own_sl hsv
    rw [hq4, h6]
    have hrV : V.heap[w.heap.size + 1]? = some (.cells fm0 30 (0, 0)) := (hC.block _ (by omega)).trans hrb.out
    have q2V := below_in hC q2.out
    have c0 := blk_cell hqh (j := 0) rfl
    have c1 := blk_cell hqh (j := 1) rfl
    have c2 := blk_cell hqh (j := 2) rfl
    have d0 := blk_free hqh 0
    have d1 := blk_free hqh 1
    have d2 := blk_free hqh 2
    have hg3 := grown3 V q4 (.slice a2 p.mems.length k2) (.slice a5 p.locks.length k5) (.slice none 0 0)
    have hD4 := Lib.hid (⟨heap_set3 hqh (.slice a2 p.mems.length k2) (.slice a5 p.locks.length k5) (.slice none 0 0), own_grown hmv hg3 (own_ty hmv hqh (by decide)), own_grown hsv hg3 (own_ty hsv hqh (by decide)), fun j f g _ h => by simp at h⟩ : OfD w.heap.size q4 p (.slice a2 p.mems.length k2) (.slice a5 p.locks.length k5) (.slice none 0 0) [] (((V.setCell ⟨q4, 0, none⟩ (.slice a2 p.mems.length k2)).setCell ⟨q4, 1, none⟩ (.slice a5 p.locks.length k5)).setCell ⟨q4, 2, none⟩ (.slice none 0 0)))
    have hr4 := Lib.hid ((hg3.block _ (Array.getElem?_eq_some_iff.1 hrV).1 (fun e => by have := Option.some.inj e; omega)).trans hrV)
    have q24 := cell_grown hg3 (show w.heap.size ≠ q4 by omega) q2V
    have hb4 := Lib.hid (below3 (hbw.out.trans (hC.mono hbw.out.size)) (show w.heap.size ≤ q4 by omega) (.slice a2 p.mems.length k2) (.slice a5 p.locks.length k5) (.slice none 0 0))
    clear hR hqh h6 hq4 hrV q2V hg3 hmv hsv hoM hoS q0 q1 q2 hrb hC
    unfold Oper.wp
    unfold execOp
    simp [go_sem, c0, c1, c2, d0, d1, d2]
    clear c0 c1 c2 d0 d1 d2
    generalize ((V.setCell ⟨q4, 0, none⟩ (.slice a2 p.mems.length k2)).setCell ⟨q4, 1, none⟩ (.slice a5 p.locks.length k5)).setCell ⟨q4, 2, none⟩ (.slice none 0 0) = W4 at *
    clear V
    generalize σ 0 = z0
    generalize σ 1 = z1
    generalize σ 2 = z2
    generalize σ 3 = z3
    generalize σ 4 = z4
    generalize σ 5 = z5
    generalize σ 6 = z6
    generalize σ 7 = z7
    go_wp2_with fail
    go_loopw [21] (fun i wr => ∃ k : Nat, k ≤ p.funs.length ∧ i = .int .i64 k ∧ Hid (∃ fv L, L.length = k ∧ OfD w.heap.size q4 p (.slice a2 p.mems.length k2) (.slice a5 p.locks.length k5) fv L wr ∧ wr.ownsRow w.heap.size 37 5 fv L.length (grCells L)) ∧ Hid (Below w.heap.size w wr) ∧ Hid (wr.heap[w.heap.size + 1]? = some (.cells fm0 30 (0, 0)))) (fun i _ => p.funs.length - (intOf i).toNat)
    case atStart => exact ⟨0, Nat.zero_le _, rfl, Lib.hid ⟨_, [], rfl, hD4.out, World.ownsRow_nil _ _ _ _⟩, hb4, hr4⟩
    case round =>
      clear hD4 hb4 hr4 q24
      obtain ⟨k, hk, rfl, hI, hb, hr⟩ := hrel
      by_cases hlt : k < p.funs.length
      · obtain ⟨f, hf⟩ : ∃ f, p.funs[k]? = some f := ⟨_, List.getElem?_eq_getElem hlt⟩
        obtain ⟨bb, off, ha, _, g0, g1, g2, g3, g4⟩ := fn_row (hfr.out wr hb.out) k f hf
        have hgf := Lib.hid (fun V hv => hgr.out f V (List.mem_of_getElem? hf) hv)
        have hi0' : (0 : Int) ≤ (k : Int) := by omega
        have hi1 : (k : Int) < (p.funs.length : Int) := by omega
        obtain ⟨fv, L, hL, hD, hF⟩ := hI.out
        obtain ⟨fa, fcap, rfl⟩ := own_sl hF
        have hbal := b_alloc wr (.cells #[.string f.name, .bool f.thread, .int .i64 f.params, .int .i64 f.regs, .slice f.ca f.code.length f.ccap] 52)
        have h7 := Lib.hid (⟨hb.out.trans (hbal.mono hb.out.size), (hbal.block _ (Array.getElem?_eq_some_iff.1 hr.out).1).trans hr.out, hD.keep hbal, blk_new _ _ rfl, fun _ => own_below hF hbal⟩ : C7 w.heap.size (w.heap.size + 1) q4 wr.heap.size w p f (.slice a2 p.mems.length k2) (.slice a5 p.locks.length k5) (.slice fa L.length fcap) L false (wr.alloc (.cells #[.string f.name, .bool f.thread, .int .i64 f.params, .int .i64 f.regs, .slice f.ca f.code.length f.ccap] 52)))
        rw [ha]
        clear hI hb hr hD hF hbal
        go_upto_region 7 with fail
        generalize hW6 : wr.alloc (.cells #[.string f.name, .bool f.thread, .int .i64 f.params, .int .i64 f.regs, .slice f.ca f.code.length f.ccap] 52) = W6 at *
        generalize wr.heap.size = q6 at *
        clear hW6 g0 g1 g2 g3 g4
        refine wp_region_tailP (P := Tryd.prog) 5 (C := fun t V => C7 w.heap.size (w.heap.size + 1) q4 q6 w p f (.slice a2 p.mems.length k2) (.slice a5 p.locks.length k5) (.slice fa L.length fcap) L t V) (E := Ext) (EP := fun _ _ => True) (R := fun t j => (raF7 w.heap.size q4 f (.slice fa L.length fcap) L t).getD j VT) (by kernel_rfl) (h7.out.keep (Nat.le_refl _) ((Below.refl _ _).drew)) (by kernel_rfl) (fun t j v w' w'' _ hE h => mono_get _ j raF7_mono v w' w'' hE h) (fun i v w' w'' hi _ _ h => raF7_on i v w' w'' hi h) (m := 7) (by omega) rfl rfl rfl (by kernel_rfl) ?hs2 rfl ?hp2 ?hend2
        case hs2 =>
          refine steps_but 5 7 (fun t => ?_) (fun t => ?_)
          · refine stepsL_cons (s_val fun a W hC hs => ?_) ?_
            · have h1 := old_of hs 4 (by kernel_rfl) (by rfl)
              exact ⟨wanted_none rfl, _, run_fa rfl (ev h1) fl_o2, rfl⟩
            refine stepsL_cons (s_val fun a W hC hs => ?_) ?_
            · obtain ⟨v, hv, hR⟩ := got_of hs 0 25 (by kernel_rfl) (by rfl)
              replace hR : v = _ := hR
              subst hR
              exact ⟨wanted_none rfl, _, run_ld rfl (ev hv) (by have := blk_cell hC.d.t4 (j := 2) rfl; simp [go_sem, this]), rfl⟩
            refine stepsL_cons (s_val fun a W hC hs => ?_) ?_
            · have h1 := old_of hs 6 (by kernel_rfl) (by rfl)
              have k0 := blk_cell hC.t6 (j := 0) rfl
              have k1 := blk_cell hC.t6 (j := 1) rfl
              have k2 := blk_cell hC.t6 (j := 2) rfl
              have k3 := blk_cell hC.t6 (j := 3) rfl
              have k4 := blk_cell hC.t6 (j := 4) rfl
              exact ⟨wanted_none rfl, _, run_ld (v := .agg ⟨f.vals⟩) rfl (ev h1) (by simp [go_sem, k0, k1, k2, k3, k4, Cd.Fn.vals]), rfl⟩
            refine stepsL_cons (s_call fun a W hC hs => ?_) ?_
            · obtain ⟨v, hv, hR⟩ := got_of hs 2 27 (by kernel_rfl) (by rfl)
              replace hR : v = _ := hR
              subst hR
              refine ⟨wanted_none rfl, 24, _, run_call1 rfl (ev hv) (fun _ _ => rfl), ((hgf.out W hC.below).mono ?_)⟩
              rintro e w' ⟨x, rfl, e1, e2, e3, e4, e5, e6⟩
              refine ⟨_, rfl, hC.keep (Nat.le_refl _) e6, e6, ?_⟩
              cases t
              · exact ⟨x, rfl, e1, e2, e3, e4, e5.low hC.below.size⟩
              · exact ⟨x, rfl⟩
            refine stepsL_cons (s_new fun a W hC hs => ?_) ?_
            · obtain ⟨v, hv, hR⟩ := got_of hs 3 28 (by kernel_rfl) (by rfl)
              cases t
              · obtain ⟨x, rfl, hx⟩ : VGr w.heap.size f v W := hR
                obtain ⟨xn, xt, xp, xr, xa, xc, xb⟩ := x
                refine ⟨wanted_none rfl, _, _, run_bs (qs := #[(0, .agg #[.string xn, .bool xt, .int .i64 xp, .int .i64 xr, .slice xa xb.length xc])]) rfl (by simp [ev hv, Gr.vals]) (mk_gr1 W _ _ _ _ _ _ _), hC.keep (Nat.le_refl _) (b_alloc _ _), b_alloc _ _, ⟨⟨xn, xt, xp, xr, xa, xc, xb⟩, _, rfl, blk_new _ _ rfl, hx.keep (b_alloc _ _)⟩⟩
              · obtain ⟨x, rfl⟩ : VGp v W := hR
                obtain ⟨xn, xt, xp, xr, xa, xc, xb⟩ := x
                exact ⟨wanted_none rfl, _, _, run_bs (qs := #[(0, .agg #[.string xn, .bool xt, .int .i64 xp, .int .i64 xr, .slice xa xb.length xc])]) rfl (by simp [ev hv, Gr.vals]) (mk_gr1 W _ _ _ _ _ _ _), hC.keep (Nat.le_refl _) (b_alloc _ _), b_alloc _ _, trivial⟩
            exact stepsL_nil
          · refine stepsL_cons (s_val fun a W hC hs => ?_) ?_
            · have h1 := old_of hs 4 (by kernel_rfl) (by rfl)
              exact ⟨wanted_none rfl, _, run_fa rfl (ev h1) fl_o2, rfl⟩
            exact stepsL_nil
        case hp2 =>
          intro a W hC hs
          obtain ⟨v1, hv1, hR1⟩ := got_of hs 1 26 (by kernel_rfl) (by rfl)
          replace hR1 : v1 = _ := hR1
          subst hR1
          obtain ⟨v4, hv4, hR4⟩ := got_of hs 4 29 (by kernel_rfl) (by rfl)
          obtain ⟨x, q, rfl, hxq, hx⟩ : VSl w.heap.size f v4 W := hR4
          refine ⟨wanted_none rfl, p_app (y := x) rfl (ev hv1) (ev hv4) (hC.frow rfl) hxq (by omega) hC.below.size fun v' w' h1 h2 => ?_⟩
          exact ⟨hC.app (Nat.le_refl _) h2, trivial, _, rfl, x, h1, hx.app (hC.frow rfl) h2⟩
        case hend2 =>
          intro σ V hC hR
          generalize hF : fillL _ _ _ _ _ = F
          simp [fillL, dstOf, List.range, List.range.loop, Act.put] at hF
          subst hF
          obtain ⟨x, hrow, hx⟩ : VAp w.heap.size f L (σ 5) V := hR 5 (by simp)
          have h6 : σ 6 = .pointer (some ⟨q4, 2, none⟩) := hR 6 (by simp)
          generalize σ 5 = v5 at *
          obtain ⟨xa, xc, rfl⟩ := own_sl hrow
          rw [h6]
          have e2 := blk_cell hC.d.t4 (j := 2) rfl
          have d2 := blk_free hC.d.t4 2
          have hgs := grown_set V q4 2 (.slice xa (L.length + 1) xc)
          have hI : Hid (∃ fv L', L'.length = k + 1 ∧ OfD w.heap.size q4 p (.slice a2 p.mems.length k2) (.slice a5 p.locks.length k5) fv L' (V.setCell ⟨q4, 2, none⟩ (.slice xa (L.length + 1) xc)) ∧ (V.setCell ⟨q4, 2, none⟩ (.slice xa (L.length + 1) xc)).ownsRow w.heap.size 37 5 fv L'.length (grCells L')) := Lib.hid (by
            refine ⟨_, L ++ [x], by simp [hL], hC.d.step hL hf hx, ?_⟩
            have h9 := own_grown hrow hgs (own_ty hrow hC.d.t4 (by decide))
            have h8 : grCells (L ++ [x]) = grCells L ++ x.vals := by unfold grCells; simp
            rw [h8, List.length_append]
            exact h9)
          have hb := Lib.hid (hC.below.setCell (p := ⟨q4, 2, none⟩) (show w.heap.size ≤ q4 by omega) (.slice xa (L.length + 1) xc))
          have hr := Lib.hid ((hgs.block _ (Array.getElem?_eq_some_iff.1 hC.r).1 (fun e => by have := Option.some.inj e; omega)).trans hC.r)
          clear hR hrow hx hgs hC h6 h7 hgf hL hf
          unfold Oper.wp
          unfold execOp
          simp [go_sem, e2, d2]
          clear e2 d2
          generalize V.setCell ⟨q4, 2, none⟩ (.slice xa (L.length + 1) xc) = W9 at *
          generalize σ 0 = y0
          generalize σ 1 = y1
          generalize σ 2 = y2
          generalize σ 3 = y3
          generalize σ 4 = y4
          go_wp2_with fail
          go_roundw
          case rel => exact ⟨k + 1, by omega, by go_num, hI, hb, hr⟩
          case measure => simp [intOf]; omega
      · have hk2 : k = p.funs.length := by omega
        subst hk2
        obtain ⟨fv, L, hL, hD, hF⟩ := hI.out
        obtain ⟨fa, fcap, rfl⟩ := own_sl hF
        replace hL := Lib.hid hL
        have e0 := blk_cell hD.t4 (j := 0) rfl
        have e1 := blk_cell hD.t4 (j := 1) rfl
        have e2 := blk_cell hD.t4 (j := 2) rfl
        have r0 := blk_cell hr.out (j := 0) rfl
        have r1 := blk_cell hr.out (j := 1) rfl
        have r2 := blk_cell hr.out (j := 2) rfl
        have f0 := blk_free hr.out 0
        have f1 := blk_free hr.out 1
        have f2 := blk_free hr.out 2
        have hl0 := World.block_lt_of_cell? _ _ e0
        have hl1 := World.block_lt_of_cell? _ _ r0
        replace hD := Lib.hid hD
        replace hF := Lib.hid hF
        clear hI
        go_wp2_with fail
        have hh := heap_set3 hr.out (.slice a2 p.mems.length k2) (.slice a5 p.locks.length k5) (.slice fa L.length fcap)
        have hg3 := grown3 wr (w.heap.size + 1) (.slice a2 p.mems.length k2) (.slice a5 p.locks.length k5) (.slice fa L.length fcap)
        have hD' := hD.out
        exact bodyPost_ret (v := .tuple #[.agg #[.slice a2 p.mems.length k2, .slice a5 p.locks.length k5, .slice fa L.length fcap], .int .i64 0]) (results_two Tryd.results8 _ _ (w.heap.size + 1) _ _ _ _ _ rfl hh Tryd.underlying30 rfl (by kernel_rfl) rfl) rfl ⟨⟨a2, k2, p.mems, a5, k5, p.locks, fa, fcap, L⟩, rfl,
          ⟨rfl, rfl, hL.out, own_grown hD'.mrow hg3 (own_ty hD'.mrow hr.out (by decide)), own_grown hD'.srow hg3 (own_ty hD'.srow hr.out (by decide)), own_grown hF.out hg3 (own_ty hF.out hr.out (by decide)), fun j f g h1 h2 => (hD'.grs j f g h1 h2).grown hg3 hr.out (by decide) (by decide) (by decide)⟩, below3 hb.out (by omega) _ _ _⟩
end Go.Proofs.YtkmlhijnkilfpaaDoor.Fw
