/- FlowSame answers true, of programs of no more than twenty graphs. Conditions: both programs of blocks lie in memory; names and lists of blocks are of bounded length; the packages' tables hold their lists. -/
import Derived.Test.YtkmlhijnkilfpaaDoorJOm
set_option linter.unusedSimpArgs false
set_option linter.unusedVariables false
namespace Go.Proofs.YtkmlhijnkilfpaaDoor.Fw
open Go Go.RowKit
open Go.Proofs.YtkmlhijnkilfpaaDoor.Lx Go.Proofs.YtkmlhijnkilfpaaDoor.Tr Go.Proofs.YtkmlhijnkilfpaaDoor.Cd
open Go.Proofs.YtkmlhijnkilfpaaDoor.Vq Go.Proofs.YtkmlhijnkilfpaaDoor.Qr Go.Proofs.YtkmlhijnkilfpaaDoor.QrT Go.Proofs.YtkmlhijnkilfpaaDoor.QrP
open Go.Proofs.YtkmlhijnkilfpaaDoor.Qg (run_call1 run_call2)

set_option maxHeartbeats 16000000 in
set_option maxRecDepth 100000 in
theorem flowSame_main (f g : Fm) (n : Int) (w : World) (hf : Fm.In w f) (hg : Fm.In w g) (hn : I64 n) (hT : OpTab w) (hsg : SignsIn w) (hnm : ∀ x ∈ f.funs, x.name.size ≤ 1048576 ∧ x.blocks.length ≤ 1048576) (hA : f.funs.length ≤ 20) (hB : g.funs.length ≤ 20) :
    Calls Tryd.prog 5 #[.agg ⟨f.vals⟩, .agg ⟨g.vals⟩, .int .i64 n] w fun e w' => e = .returned (.bool true) ∧ Below w.heap.size w w' := by
  obtain ⟨ci1, ci2⟩ := len_i hf.frow
  have hwk := Lib.hid (fun V (hv : Below w.heap.size w V) => works_c V (hT.keep hv) (hsg.below hsg.lt hv))
  have hst := Lib.hid (b_alloc2 w (.cells #[.slice f.ma f.mems.length f.mcap, .slice f.la f.locks.length f.lcap, .slice f.fa f.funs.length f.fcap] 30) (.cells #[.slice g.ma g.mems.length g.mcap, .slice g.la g.locks.length g.lcap, .slice g.fa g.funs.length g.fcap] 30))
  have hb2 := blk_new (w.alloc (.cells #[.slice f.ma f.mems.length f.mcap, .slice f.la f.locks.length f.lcap, .slice f.fa f.funs.length f.fcap] 30)) (.cells #[.slice g.ma g.mems.length g.mcap, .slice g.la g.locks.length g.lcap, .slice g.fa g.funs.length g.fcap] 30) (b := w.heap.size + 1) (by simp)
  have hc : Hid (∀ V, Below ((w.alloc (.cells #[.slice f.ma f.mems.length f.mcap, .slice f.la f.locks.length f.lcap, .slice f.fa f.funs.length f.fcap] 30)).alloc (.cells #[.slice g.ma g.mems.length g.mcap, .slice g.la g.locks.length g.lcap, .slice g.fa g.funs.length g.fcap] 30)).heap.size ((w.alloc (.cells #[.slice f.ma f.mems.length f.mcap, .slice f.la f.locks.length f.lcap, .slice f.fa f.funs.length f.fcap] 30)).alloc (.cells #[.slice g.ma g.mems.length g.mcap, .slice g.la g.locks.length g.lcap, .slice g.fa g.funs.length g.fcap] 30)) V → FmC f w.heap.size V ∧ FmC g (w.heap.size + 1) V) := Lib.hid (fun V hv => by
    obtain ⟨a0, a1, a2⟩ := box3 w f
    exact ⟨⟨below_in hv (below_in (b_alloc _ _) a0), below_in hv (below_in (b_alloc _ _) a1), below_in hv (below_in (b_alloc _ _) a2)⟩, below_in hv (blk_cell hb2 rfl), below_in hv (blk_cell hb2 rfl), below_in hv (blk_cell hb2 rfl)⟩)
  have hEr : Hid (∀ V, Below w.heap.size w V → Calls Tryd.prog 17 #[.agg #[.slice f.ma f.mems.length f.mcap, .slice f.la f.locks.length f.lcap, .slice f.fa f.funs.length f.fcap], .agg #[.slice f.ma f.mems.length f.mcap, .slice f.la f.locks.length f.lcap, .slice f.fa f.funs.length f.fcap]] V fun e w' => e = .returned (.bool true) ∧ Below V.heap.size V w') := Lib.hid (fun V hv => by
    have h := sameFm_any f f V (hf.keep hv) (hf.keep hv)
    rw [sameFm_refl] at h
    exact h)
  have hEf : Hid (∀ V, Below w.heap.size w V → Calls Tryd.prog 17 #[.agg #[.slice f.ma f.mems.length f.mcap, .slice f.la f.locks.length f.lcap, .slice f.fa f.funs.length f.fcap], .agg #[.slice g.ma g.mems.length g.mcap, .slice g.la g.locks.length g.lcap, .slice g.fa g.funs.length g.fcap]] V fun e w' => e = .returned (.bool (sameFm f g)) ∧ Below V.heap.size V w') := Lib.hid (fun V hv => sameFm_any f g V (hf.keep hv) (hg.keep hv))
  have hEg : Hid (∀ V, Below w.heap.size w V → Calls Tryd.prog 17 #[.agg #[.slice g.ma g.mems.length g.mcap, .slice g.la g.locks.length g.lcap, .slice g.fa g.funs.length g.fcap], .agg #[.slice f.ma f.mems.length f.mcap, .slice f.la f.locks.length f.lcap, .slice f.fa f.funs.length f.fcap]] V fun e w' => e = .returned (.bool (sameFm f g)) ∧ Below V.heap.size V w') := Lib.hid (fun V hv => by
    have h := sameFm_any g f V (hg.keep hv) (hf.keep hv)
    rw [sameFm_symm] at h
    exact h)
  have hfI := Lib.hid (fun V (hv : Below w.heap.size w V) => hf.keep hv)
  replace hnm := Lib.hid hnm
  clear hT hsg hb2 hf hg
  have hv1 : Value.agg ⟨f.vals⟩ = .agg #[.slice f.ma f.mems.length f.mcap, .slice f.la f.locks.length f.lcap, .slice f.fa f.funs.length f.fcap] := rfl
  have hv2 : Value.agg ⟨g.vals⟩ = .agg #[.slice g.ma g.mems.length g.mcap, .slice g.la g.locks.length g.lcap, .slice g.fa g.funs.length g.fcap] := rfl
  rw [hv1, hv2]
  clear hv1 hv2
  have h1 : ¬ 20 < (f.funs.length : Int) := by omega
  have h2 : ¬ 20 < (g.funs.length : Int) := by omega
  go_enter Tryd.func5, Tryd.ntmps5
  go_wp2_with fail
  refine (hwk.out _ hst.out).mono ?_
  rintro e w1 ⟨rfl, hb1⟩
  have g1 := Lib.hid (hst.out.trans (hb1.mono hst.out.size))
  obtain ⟨⟨a0, a1, a2⟩, ⟨e0, e1, e2⟩⟩ := hc.out w1 hb1
  clear hb1 hc hwk
  have hK : Hid (∀ V, Below w1.heap.size w1 V → FmC f w.heap.size V ∧ FmC g (w.heap.size + 1) V) := Lib.hid (fun V hv => ⟨⟨below_in hv a0, below_in hv a1, below_in hv a2⟩, below_in hv e0, below_in hv e1, below_in hv e2⟩)
  have hK2 := hK
  have hE1 := Lib.hid (fun V (hx : Below w1.heap.size w1 V) => hEr.out V (g1.out.trans (hx.mono g1.out.size)))
  have hE2 := Lib.hid (fun V (hx : Below w1.heap.size w1 V) => hEf.out V (g1.out.trans (hx.mono g1.out.size)))
  have hE3 := Lib.hid (fun V (hx : Below w1.heap.size w1 V) => hEg.out V (g1.out.trans (hx.mono g1.out.size)))
  go_upto_region 3 with fail
  refine wp_region_rel (C := fun V => Below w1.heap.size w1 V) (E := Ext) (R := fun i => (rse w.heap.size f g (sameFm f g)).getD i VT) (by kernel_rfl) ((Below.refl _ _).drew) (by kernel_rfl) (fun i v w' w'' _ hE h => mono_get _ i rse_mono v w' w'' hE h) (steps_all ?hse) ?hende
  case hse =>
    refine stepsL_cons (s_val fun a w5 hC hs => ?_) ?_
    · skip
      have hvx := old_of hs 3 (by kernel_rfl) (by rfl)
      exact ⟨wanted_none rfl, _, run_ld rfl (ev hvx) (ld_fm (hK.out w5 hC).1), rfl⟩
    refine stepsL_cons (s_val fun a w5 hC hs => ?_) ?_
    · skip
      have hvx := old_of hs 3 (by kernel_rfl) (by rfl)
      exact ⟨wanted_none rfl, _, run_ld rfl (ev hvx) (ld_fm (hK.out w5 hC).1), rfl⟩
    refine stepsL_cons (s_call fun a w5 hC hs => ?_) ?_
    · skip
      obtain ⟨vx, hvx, hRx⟩ := got_of hs 0 26 (by kernel_rfl) (by rfl)
      replace hRx : vx = _ := hRx
      subst hRx
      obtain ⟨vy, hvy, hRy⟩ := got_of hs 1 27 (by kernel_rfl) (by rfl)
      replace hRy : vy = _ := hRy
      subst hRy
      exact ⟨wanted_none rfl, 17, _, run_call2 rfl (ev hvx) (ev hvy) (fun _ _ => rfl), (hE1.out w5 hC).mono (fun e w' ⟨he, hb⟩ => ⟨_, he, hC.trans (hb.mono hC.size), hb, rfl⟩)⟩
    refine stepsL_cons (s_val fun a w5 hC hs => ?_) ?_
    · skip
      obtain ⟨vx, hvx, hRx⟩ := got_of hs 2 28 (by kernel_rfl) (by rfl)
      replace hRx : vx = _ := hRx
      subst hRx
      exact ⟨wanted_none rfl, _, run_notB rfl (ev hvx), rfl⟩
    refine stepsL_cons (s_val fun a w5 hC hs => ?_) ?_
    · skip
      obtain ⟨vx, hvx, hRx⟩ := got_of hs 3 29 (by kernel_rfl) (by rfl)
      replace hRx : vx = _ := hRx
      subst hRx
      exact ⟨wanted_none rfl, _, run_mv (.inl rfl) (ev hvx), rfl⟩
    refine stepsL_cons (s_val fun a w5 hC hs => ?_) ?_
    · skip
      obtain ⟨vg, hvg, hRg⟩ := got_of hs 4 30 (by kernel_rfl) (by rfl)
      replace hRg : vg = _ := hRg
      subst hRg
      have hvx := old_of hs 3 (by kernel_rfl) (by rfl)
      exact ⟨wanted_is (j := 4) (d := 30) (b := false) (by rfl) (by rfl) hvg, _, run_ld rfl (ev hvx) (ld_fm (hK.out w5 hC).1), rfl⟩
    refine stepsL_cons (s_val fun a w5 hC hs => ?_) ?_
    · skip
      obtain ⟨vg, hvg, hRg⟩ := got_of hs 4 30 (by kernel_rfl) (by rfl)
      replace hRg : vg = _ := hRg
      subst hRg
      have hvx := old_of hs 4 (by kernel_rfl) (by rfl)
      exact ⟨wanted_is (j := 4) (d := 30) (b := false) (by rfl) (by rfl) hvg, _, run_ld rfl (ev hvx) (ld_fm (hK.out w5 hC).2), rfl⟩
    refine stepsL_cons (s_call fun a w5 hC hs => ?_) ?_
    · skip
      obtain ⟨vg, hvg, hRg⟩ := got_of hs 4 30 (by kernel_rfl) (by rfl)
      replace hRg : vg = _ := hRg
      subst hRg
      obtain ⟨vx, hvx, hRx⟩ := got_of hs 5 31 (by kernel_rfl) (by rfl)
      replace hRx : vx = _ := hRx
      subst hRx
      obtain ⟨vy, hvy, hRy⟩ := got_of hs 6 32 (by kernel_rfl) (by rfl)
      replace hRy : vy = _ := hRy
      subst hRy
      exact ⟨wanted_is (j := 4) (d := 30) (b := false) (by rfl) (by rfl) hvg, 17, _, run_call2 rfl (ev hvx) (ev hvy) (fun _ _ => rfl), (hE2.out w5 hC).mono (fun e w' ⟨he, hb⟩ => ⟨_, he, hC.trans (hb.mono hC.size), hb, rfl⟩)⟩
    refine stepsL_cons (s_val fun a w5 hC hs => ?_) ?_
    · skip
      obtain ⟨vg, hvg, hRg⟩ := got_of hs 4 30 (by kernel_rfl) (by rfl)
      replace hRg : vg = _ := hRg
      subst hRg
      have hvx := old_of hs 4 (by kernel_rfl) (by rfl)
      exact ⟨wanted_is (j := 4) (d := 30) (b := false) (by rfl) (by rfl) hvg, _, run_ld rfl (ev hvx) (ld_fm (hK.out w5 hC).2), rfl⟩
    refine stepsL_cons (s_val fun a w5 hC hs => ?_) ?_
    · skip
      obtain ⟨vg, hvg, hRg⟩ := got_of hs 4 30 (by kernel_rfl) (by rfl)
      replace hRg : vg = _ := hRg
      subst hRg
      have hvx := old_of hs 3 (by kernel_rfl) (by rfl)
      exact ⟨wanted_is (j := 4) (d := 30) (b := false) (by rfl) (by rfl) hvg, _, run_ld rfl (ev hvx) (ld_fm (hK.out w5 hC).1), rfl⟩
    refine stepsL_cons (s_call fun a w5 hC hs => ?_) ?_
    · skip
      obtain ⟨vg, hvg, hRg⟩ := got_of hs 4 30 (by kernel_rfl) (by rfl)
      replace hRg : vg = _ := hRg
      subst hRg
      obtain ⟨vx, hvx, hRx⟩ := got_of hs 8 34 (by kernel_rfl) (by rfl)
      replace hRx : vx = _ := hRx
      subst hRx
      obtain ⟨vy, hvy, hRy⟩ := got_of hs 9 35 (by kernel_rfl) (by rfl)
      replace hRy : vy = _ := hRy
      subst hRy
      exact ⟨wanted_is (j := 4) (d := 30) (b := false) (by rfl) (by rfl) hvg, 17, _, run_call2 rfl (ev hvx) (ev hvy) (fun _ _ => rfl), (hE3.out w5 hC).mono (fun e w' ⟨he, hb⟩ => ⟨_, he, hC.trans (hb.mono hC.size), hb, rfl⟩)⟩
    refine stepsL_cons (s_val fun a w5 hC hs => ?_) ?_
    · skip
      obtain ⟨vg, hvg, hRg⟩ := got_of hs 4 30 (by kernel_rfl) (by rfl)
      replace hRg : vg = _ := hRg
      subst hRg
      obtain ⟨vx, hvx, hRx⟩ := got_of hs 7 33 (by kernel_rfl) (by rfl)
      replace hRx : vx = _ := hRx
      subst hRx
      obtain ⟨vy, hvy, hRy⟩ := got_of hs 10 36 (by kernel_rfl) (by rfl)
      replace hRy : vy = _ := hRy
      subst hRy
      exact ⟨wanted_is (j := 4) (d := 30) (b := false) (by rfl) (by rfl) hvg, _, run_neb rfl (ev hvx) (ev hvy), rfl⟩
    refine stepsL_cons (s_val fun a w5 hC hs => ?_) ?_
    · skip
      obtain ⟨vc, hvc, hRc⟩ := got_of hs 4 30 (by kernel_rfl) (by rfl)
      replace hRc : vc = _ := hRc
      subst hRc
      obtain ⟨vy, hvy, hRy⟩ := got_of hs 11 37 (by kernel_rfl) (by rfl)
      replace hRy : vy = _ := hRy
      subst hRy
      exact ⟨wanted_none rfl, _, run_pk (b := false) rfl (ev hvc) (by simp only [if_true, if_false, Bool.false_eq_true]; exact (ev hvy)), rfl⟩
    exact stepsL_nil
  case hende =>
    intro σ V3 hCV3 hRV3
    generalize hF : fillL _ _ _ _ _ = F
    simp [fillL, dstOf, List.range, List.range.loop, Act.put] at hF
    subst hF
    have hl : σ 12 = .bool false := hRV3 12 (by simp)
    rw [hl]
    clear hRV3 hl hK
    generalize σ 0 = ze0
    generalize σ 1 = ze1
    generalize σ 2 = ze2
    generalize σ 3 = ze3
    generalize σ 4 = ze4
    generalize σ 5 = ze5
    generalize σ 6 = ze6
    generalize σ 7 = ze7
    generalize σ 8 = ze8
    generalize σ 9 = ze9
    generalize σ 10 = ze10
    generalize σ 11 = ze11
    have g3 := Lib.hid (g1.out.trans (hCV3.mono g1.out.size))
    obtain ⟨⟨a0', a1', a2'⟩, _⟩ := hK2.out V3 hCV3
    have hlb := World.block_lt_of_cell? _ _ a0'
    clear hCV3 hE1 hE2 hE3 a0 a1 a2 e0 e1 e2 hK2 hEr hEf hEg
    by_cases hz : f.funs.length = 0
    · have hz0 : ((f.funs.length : Int) == 0) = true := by rw [hz]; rfl
      clear hz
      go_wp2_with fail
      go_ret
      exact ⟨rfl, g3.out⟩
    · obtain ⟨m, hm, hml⟩ := u_wrap n
      obtain ⟨k, hk⟩ : ∃ k, m % f.funs.length = k := ⟨_, rfl⟩
      have hkl : k < f.funs.length := by rw [← hk]; exact Nat.mod_lt _ (by omega)
      have htm : (m : Int).tmod (f.funs.length : Int) = (k : Int) := by rw [Int.tmod_eq_emod_of_nonneg (by omega), ← hk]; rfl
      have hlw : IntKind.u64.wrap (f.funs.length : Int) = (f.funs.length : Int) := by show (f.funs.length : Int) % 18446744073709551616 = _; omega
      have hz0 : ((f.funs.length : Int) == 0) = false := by rw [beq_eq_false_iff_ne]; omega
      have hz1 : ¬ (f.funs.length : Int) = 0 := by omega
      clear hz
      obtain ⟨u, hu⟩ : ∃ u, f.funs[k]? = some u := ⟨_, List.getElem?_eq_getElem hkl⟩
      obtain ⟨hu1, hu2⟩ := hnm.out u (List.mem_of_getElem? hu)
      go_upto_region 9 with fail
      have hbA := b_alloc V3 (.cells #[.slice f.ma f.mems.length f.mcap, .slice f.la f.locks.length f.lcap, .slice f.fa f.funs.length f.fcap] 30)
      have hbF := blk_new V3 (.cells #[.slice f.ma f.mems.length f.mcap, .slice f.la f.locks.length f.lcap, .slice f.fa f.funs.length f.fcap] 30) rfl
      have hszA : (V3.alloc (.cells #[.slice f.ma f.mems.length f.mcap, .slice f.la f.locks.length f.lcap, .slice f.fa f.funs.length f.fcap] 30)).heap.size = V3.heap.size + 1 := by simp
      generalize hVA : V3.alloc (.cells #[.slice f.ma f.mems.length f.mcap, .slice f.la f.locks.length f.lcap, .slice f.fa f.funs.length f.fcap] 30) = VA at *
      have hbE := b_alloc VA (.cells #[] 37)
      have hgE := g3.out.trans ((hbA.trans (hbE.mono (by omega))).mono g3.out.size)
      have hrowE := (hfI.out (VA.alloc (.cells #[] 37)) hgE).frow
      have hownE : (VA.alloc (.cells #[] 37)).ownsRow (V3.heap.size + 1) 37 5 (.slice (some ⟨VA.heap.size, 0, none⟩) 0 0) 0 [] := World.ownsRow_made VA #[] 0 (by omega) (by unfold maxLen; decide) rfl
      have r2 := below_in hbA a2'
      have hlr := World.block_lt_of_cell? _ _ r2
      have x2 := blk_cell hbF (j := 2) rfl
      have hxF := (hbE.block _ (by omega)).trans hbF
      obtain ⟨i0, z0, hi0, hz0', hz1', hz2', hz3'⟩ := info_gr5
      have hsE := Lib.hid (show V3.heap.size + 1 ≤ (VA.alloc (.cells #[] 37)).heap.size by simp; omega)
      replace hszA := Lib.hid hszA
      go_wp2_with (at_builtin; refine wpList_append_rowN _ rfl _ _ 28 rfl (V3.heap.size + 1) 37 i0 z0 5 64 Tryd.underlying28 hi0 hz0' hz1' hz2' hz3' (by decide) _ _ _ rfl hownE f.fa f.fcap f.funs.length (grCells f.funs) (gr_len _) rfl hrowE (gr_ones _) (by unfold maxLen; omega) (by omega) hsE.out ?_)
      intro v1 w9 hown9 hgr9 hat9
      replace hgr9 : (VA.alloc (.cells #[] 37)).grownBy w9 (some VA.heap.size) := hgr9
      obtain ⟨xq, xcap, rfl, hoG⟩ := OwnG.of hown9 (by omega)
      have hx9 := (hgr9.block V3.heap.size (by simp; have := hszA.out; omega) (fun e => by have := Option.some.inj e; have := hszA.out; omega)).trans hxF
      have x9 := blk_cell hx9 (j := 2) rfl
      have x9f := blk_free hx9 2
      have x9l := World.block_lt_of_cell? _ _ x9
      have hV9 := Lib.hid (((hbA.trans (hbE.mono hbA.size)).grown hgr9 (hbA.trans (hbE.mono hbA.size)).size (fun q e => by have := Option.some.inj e; have := hszA.out; omega)) : Below V3.heap.size V3 w9)
      have hb9 := Lib.hid ((hgE.grown hgr9 hgE.size (fun q e => by have := Option.some.inj e; have := hszA.out; omega) : Below w.heap.size w w9))
      have hxq := hoG.hB
      have hgs := grown_set w9 V3.heap.size 2 (.slice (some ⟨xq, 0, none⟩) f.funs.length xcap)
      have hoG2 := Lib.hid (hoG.grown hgs (by omega))
      have hb10 := Lib.hid (hb9.out.setCell (p := ⟨V3.heap.size, 2, none⟩) (show w.heap.size ≤ V3.heap.size by omega) (.slice (some ⟨xq, 0, none⟩) f.funs.length xcap))
      have hV10 := Lib.hid (hV9.out.setCell (p := ⟨V3.heap.size, 2, none⟩) (Nat.le_refl _) (.slice (some ⟨xq, 0, none⟩) f.funs.length xcap))
      have hx10 := heap_set1 hx9 2 (.slice (some ⟨xq, 0, none⟩) f.funs.length xcap)
      clear hgs hoG hown9 hgr9 hat9 hownE hrowE hgE hbE hxF x2 hbF hbA r2 hx9 hb9 hb10 hV9
      go_upto_region 10 with fail
      generalize w9.setCell ⟨V3.heap.size, 2, none⟩ (.slice (some ⟨xq, 0, none⟩) f.funs.length xcap) = w10 at *
      clear x9 x9f x9l
      obtain ⟨y0, y1, y2, y3, y4⟩ := hoG2.out.get hu
      have yf := hoG2.out.free (k * 5)
      have x10 := blk_cell hx10 (j := 2) rfl
      have hlx : V3.heap.size < w10.heap.size := World.block_lt_of_cell? _ _ x10
      have hly : xq < w10.heap.size := World.block_lt_of_cell? _ _ y0
      have had : ∀ W, (Op.stringOp .add u.name ⟨#[120]⟩).run Tryd.prog W = .ok (.string (u.name ++ ⟨#[120]⟩)) W := fun W => run_string_add W u.name ⟨#[120]⟩ (by omega) (by show ((1 : Nat) : Int) ≤ 8388608; decide)
      have hk0 : (0 : Int) ≤ (k : Int) := by omega
      have hk1 : (k : Int) < (f.funs.length : Int) := by omega
      go_region
      have hnp : OwnG (V3.heap.size + 1) xq xcap (f.funs.set k (nmX u)) (w10.setCell ⟨xq, k * 5, none⟩ (.string (u.name ++ ⟨#[120]⟩))) := hoG2.out.set (j := 0) (x' := nmX u) (v := .string (u.name ++ ⟨#[120]⟩)) hu (by omega) rfl
      have hoG3 := Lib.hid (hnp.keep ((Below.refl _ _).drew))
      have hV11 := Lib.hid ((hV10.out.setCell (p := ⟨xq, k * 5, none⟩) (show V3.heap.size ≤ xq by omega) (.string (u.name ++ ⟨#[120]⟩))).drew)
      have hx11 := (((Below.refl (w10.setCell ⟨xq, k * 5, none⟩ (.string (u.name ++ ⟨#[120]⟩))).heap.size (w10.setCell ⟨xq, k * 5, none⟩ (.string (u.name ++ ⟨#[120]⟩)))).drew).block _ (by simp [World.setCell]; omega)).trans (((grown_set w10 xq (k * 5) (.string (u.name ++ ⟨#[120]⟩))).block _ hlx (fun e => by have := Option.some.inj e; omega)).trans hx10)
      clear hnp hoG2 hV10 y0 y1 y2 y3 y4 yf x10 hlx hly hx10 had
      generalize (w10.setCell ⟨xq, k * 5, none⟩ (.string (u.name ++ ⟨#[120]⟩))).drew = w11 at *
      have hb11 := Lib.hid (g3.out.trans (hV11.out.mono g3.out.size))
      have hkf := Lib.hid (show (f.funs.set k (nmX u))[k]? = some (nmX u) from List.getElem?_set_self hkl)
      obtain ⟨b, off, hfa, _, c0, c1, c2, c3, c4⟩ := gr_row (hfI.out w11 hb11.out).frow k u hu
      have hK : Hid (∀ V, Below w11.heap.size w11 V → FmC f w.heap.size V ∧ (V.cell? ⟨V3.heap.size, 0, none⟩ = some (.slice f.ma f.mems.length f.mcap) ∧ V.cell? ⟨V3.heap.size, 1, none⟩ = some (.slice f.la f.locks.length f.lcap) ∧ V.cell? ⟨V3.heap.size, 2, none⟩ = some (.slice (some ⟨xq, 0, none⟩) f.funs.length xcap)) ∧ V.cell? ⟨w.heap.size, 2, none⟩ = some (.slice (some ⟨b, off, none⟩) f.funs.length f.fcap) ∧ GrC u b (off + k * 5) V ∧ GrC (nmX u) xq (0 + k * 5) V) := Lib.hid (fun V hv => by
        have hV := hV11.out.trans (hv.mono hV11.out.size)
        have e2 := below_in hV a2'
        have hxV := (hv.block _ (Array.getElem?_eq_some_iff.1 hx11).1).trans hx11
        refine ⟨⟨below_in hV a0', below_in hV a1', e2⟩, ⟨blk_cell hxV rfl, blk_cell hxV rfl, blk_cell hxV rfl⟩, ?_, ⟨below_in hv c0, below_in hv c1, below_in hv c2, below_in hv c3, below_in hv c4⟩, ?_⟩
        · rw [← hfa]; exact e2
        · rw [Nat.zero_add]
          exact (hoG3.out.keep hv).get hkf.out)
      have hK2 := hK
      have hj1 : (k : Int) < (f.funs.length : Int) := by omega
      have hum := List.mem_of_getElem? hu
      have hnI : Hid (∀ V, Below w.heap.size w V → Gr.In V (nmX u)) := Lib.hid (fun V hv => by
        have h := (hfI.out V hv).funs u hum
        refine ⟨?_, h.params, h.regs, h.row, h.blocks⟩
        show (u.name ++ ⟨#[120]⟩).size ≤ maxLen
        rw [ByteArray.size_append]
        have h1 : (⟨#[120]⟩ : ByteArray).size = 1 := rfl
        unfold maxLen
        omega)
      have hN1 : Hid (∀ V, Below w11.heap.size w11 V → Calls Tryd.prog 17 #[.agg #[.slice f.ma f.mems.length f.mcap, .slice f.la f.locks.length f.lcap, .slice f.fa f.funs.length f.fcap], .agg #[.slice f.ma f.mems.length f.mcap, .slice f.la f.locks.length f.lcap, .slice (some ⟨xq, 0, none⟩) f.funs.length xcap]] V fun e w' => e = .returned (.bool false) ∧ Below V.heap.size V w') := Lib.hid (fun V hv => by
        have hV := hb11.out.trans (hv.mono hb11.out.size)
        have h := sameFm_any f (setFm f k (nmX u) (some ⟨xq, 0, none⟩) xcap) V (hfI.out V hV) (set_in2 (hfI.out V hV) (hoG3.out.keep hv) (hnI.out V hV))
        rw [same_set hu (same_nm u)] at h
        have hvv : Value.agg ⟨(setFm f k (nmX u) (some ⟨xq, 0, none⟩) xcap).vals⟩ = .agg #[.slice f.ma f.mems.length f.mcap, .slice f.la f.locks.length f.lcap, .slice (some ⟨xq, 0, none⟩) f.funs.length xcap] := by unfold setFm Fm.vals; simp only [List.length_set]
        rw [hvv] at h
        exact h)
      have hN2 : Hid (∀ V, Below w11.heap.size w11 V → Calls Tryd.prog 13 #[.agg #[.string u.name, .bool u.thread, .int .i64 u.params, .int .i64 u.regs, .slice u.ba u.blocks.length u.bcap], .agg #[.string (u.name ++ ⟨#[120]⟩), .bool u.thread, .int .i64 u.params, .int .i64 u.regs, .slice u.ba u.blocks.length u.bcap]] V fun e w' => e = .returned (.bool false) ∧ Below V.heap.size V w') := Lib.hid (fun V hv => by
        have hV := hb11.out.trans (hv.mono hb11.out.size)
        have h := sameGraph_any u (nmX u) V ((hfI.out V hV).funs u hum) (hnI.out V hV)
        rw [same_nm u] at h
        exact h)
      have hN3 : Hid (∀ V, Below w11.heap.size w11 V → Calls Tryd.prog 13 #[.agg #[.string u.name, .bool u.thread, .int .i64 u.params, .int .i64 u.regs, .slice u.ba u.blocks.length u.bcap], .agg #[.string u.name, .bool u.thread, .int .i64 u.params, .int .i64 u.regs, .slice u.ba u.blocks.length u.bcap]] V fun e w' => e = .returned (.bool true) ∧ Below V.heap.size V w') := Lib.hid (fun V hv => by
        have hV := hb11.out.trans (hv.mono hb11.out.size)
        have h := sameGraph_any u u V ((hfI.out V hV).funs u hum) ((hfI.out V hV).funs u hum)
        rw [sameG_refl u] at h
        exact h)
      clear hx11 hoG3 hnI hkf
      unfold nmX at hK
      go_upto_region 11 with fail
      refine wp_region_rel (C := fun V => Below w11.heap.size w11 V) (E := Ext) (R := fun i => (rsn k w.heap.size V3.heap.size b off xq xcap f u (u.name ++ ⟨#[120]⟩)).getD i VT) (by kernel_rfl) ((Below.refl _ _).drew) (by kernel_rfl) (fun i v w' w'' _ hE h => mono_get _ i rsn_mono v w' w'' hE h) (steps_all ?hsn) ?hendn
      case hsn =>
        refine stepsL_cons (s_val fun a w5 hC hs => ?_) ?_
        · skip
          have hvx := old_of hs 3 (by kernel_rfl) (by rfl)
          exact ⟨wanted_none rfl, _, run_ld rfl (ev hvx) (ld_fm (hK.out w5 hC).1), rfl⟩
        refine stepsL_cons (s_val fun a w5 hC hs => ?_) ?_
        · skip
          have hvx := old_of hs 8 (by kernel_rfl) (by rfl)
          exact ⟨wanted_none rfl, _, run_ld rfl (ev hvx) (ld_fm3 (hK.out w5 hC).2.1), rfl⟩
        refine stepsL_cons (s_call fun a w5 hC hs => ?_) ?_
        · skip
          obtain ⟨vx, hvx, hRx⟩ := got_of hs 0 69 (by kernel_rfl) (by rfl)
          replace hRx : vx = _ := hRx
          subst hRx
          obtain ⟨vy, hvy, hRy⟩ := got_of hs 1 70 (by kernel_rfl) (by rfl)
          replace hRy : vy = _ := hRy
          subst hRy
          exact ⟨wanted_none rfl, 17, _, run_call2 rfl (ev hvx) (ev hvy) (fun _ _ => rfl), (hN1.out w5 hC).mono (fun e w' ⟨he, hb⟩ => ⟨_, he, hC.trans (hb.mono hC.size), hb, rfl⟩)⟩
        refine stepsL_cons (s_val fun a w5 hC hs => ?_) ?_
        · skip
          obtain ⟨vx, hvx, hRx⟩ := got_of hs 2 71 (by kernel_rfl) (by rfl)
          replace hRx : vx = _ := hRx
          subst hRx
          exact ⟨wanted_none rfl, _, run_mv (.inl rfl) (ev hvx), rfl⟩
        refine stepsL_cons (s_val fun a w5 hC hs => ?_) ?_
        · skip
          obtain ⟨vg, hvg, hRg⟩ := got_of hs 3 72 (by kernel_rfl) (by rfl)
          replace hRg : vg = _ := hRg
          subst hRg
          have hvx := old_of hs 3 (by kernel_rfl) (by rfl)
          exact ⟨wanted_is (j := 3) (d := 72) (b := false) (by rfl) (by rfl) hvg, _, run_fa rfl (ev hvx) fl_f2, rfl⟩
        refine stepsL_cons (s_val fun a w5 hC hs => ?_) ?_
        · skip
          obtain ⟨vg, hvg, hRg⟩ := got_of hs 3 72 (by kernel_rfl) (by rfl)
          replace hRg : vg = _ := hRg
          subst hRg
          obtain ⟨vx, hvx, hRx⟩ := got_of hs 4 73 (by kernel_rfl) (by rfl)
          replace hRx : vx = _ := hRx
          subst hRx
          exact ⟨wanted_is (j := 3) (d := 72) (b := false) (by rfl) (by rfl) hvg, _, run_ld rfl (ev hvx) (ld_grs (hK.out w5 hC).2.2.1), rfl⟩
        refine stepsL_cons (s_val fun a w5 hC hs => ?_) ?_
        · skip
          obtain ⟨vg, hvg, hRg⟩ := got_of hs 3 72 (by kernel_rfl) (by rfl)
          replace hRg : vg = _ := hRg
          subst hRg
          have hvx := old_of hs 7 (by kernel_rfl) (by rfl)
          exact ⟨wanted_is (j := 3) (d := 72) (b := false) (by rfl) (by rfl) hvg, _, run_mv (.inl rfl) (ev hvx), rfl⟩
        refine stepsL_cons (s_val fun a w5 hC hs => ?_) ?_
        · skip
          obtain ⟨vg, hvg, hRg⟩ := got_of hs 3 72 (by kernel_rfl) (by rfl)
          replace hRg : vg = _ := hRg
          subst hRg
          obtain ⟨vx, hvx, hRx⟩ := got_of hs 5 74 (by kernel_rfl) (by rfl)
          replace hRx : vx = _ := hRx
          subst hRx
          obtain ⟨vy, hvy, hRy⟩ := got_of hs 6 75 (by kernel_rfl) (by rfl)
          replace hRy : vy = _ := hRy
          subst hRy
          exact ⟨wanted_is (j := 3) (d := 72) (b := false) (by rfl) (by rfl) hvg, _, run_ix rfl (ev hvx) (ev hvy) (ix_gr hj1), rfl⟩
        refine stepsL_cons (s_val fun a w5 hC hs => ?_) ?_
        · skip
          obtain ⟨vg, hvg, hRg⟩ := got_of hs 3 72 (by kernel_rfl) (by rfl)
          replace hRg : vg = _ := hRg
          subst hRg
          obtain ⟨vx, hvx, hRx⟩ := got_of hs 7 76 (by kernel_rfl) (by rfl)
          replace hRx : vx = _ := hRx
          subst hRx
          exact ⟨wanted_is (j := 3) (d := 72) (b := false) (by rfl) (by rfl) hvg, _, run_ld rfl (ev hvx) (ld_gr1 (hK.out w5 hC).2.2.2.1), rfl⟩
        refine stepsL_cons (s_val fun a w5 hC hs => ?_) ?_
        · skip
          obtain ⟨vg, hvg, hRg⟩ := got_of hs 3 72 (by kernel_rfl) (by rfl)
          replace hRg : vg = _ := hRg
          subst hRg
          have hvx := old_of hs 8 (by kernel_rfl) (by rfl)
          exact ⟨wanted_is (j := 3) (d := 72) (b := false) (by rfl) (by rfl) hvg, _, run_fa rfl (ev hvx) fl_f2, rfl⟩
        refine stepsL_cons (s_val fun a w5 hC hs => ?_) ?_
        · skip
          obtain ⟨vg, hvg, hRg⟩ := got_of hs 3 72 (by kernel_rfl) (by rfl)
          replace hRg : vg = _ := hRg
          subst hRg
          obtain ⟨vx, hvx, hRx⟩ := got_of hs 9 78 (by kernel_rfl) (by rfl)
          replace hRx : vx = _ := hRx
          subst hRx
          exact ⟨wanted_is (j := 3) (d := 72) (b := false) (by rfl) (by rfl) hvg, _, run_ld rfl (ev hvx) (ld_grs (hK.out w5 hC).2.1.2.2), rfl⟩
        refine stepsL_cons (s_val fun a w5 hC hs => ?_) ?_
        · skip
          obtain ⟨vg, hvg, hRg⟩ := got_of hs 3 72 (by kernel_rfl) (by rfl)
          replace hRg : vg = _ := hRg
          subst hRg
          have hvx := old_of hs 7 (by kernel_rfl) (by rfl)
          exact ⟨wanted_is (j := 3) (d := 72) (b := false) (by rfl) (by rfl) hvg, _, run_mv (.inl rfl) (ev hvx), rfl⟩
        refine stepsL_cons (s_val fun a w5 hC hs => ?_) ?_
        · skip
          obtain ⟨vg, hvg, hRg⟩ := got_of hs 3 72 (by kernel_rfl) (by rfl)
          replace hRg : vg = _ := hRg
          subst hRg
          obtain ⟨vx, hvx, hRx⟩ := got_of hs 10 79 (by kernel_rfl) (by rfl)
          replace hRx : vx = _ := hRx
          subst hRx
          obtain ⟨vy, hvy, hRy⟩ := got_of hs 11 80 (by kernel_rfl) (by rfl)
          replace hRy : vy = _ := hRy
          subst hRy
          exact ⟨wanted_is (j := 3) (d := 72) (b := false) (by rfl) (by rfl) hvg, _, run_ix rfl (ev hvx) (ev hvy) (ix_gr hj1), rfl⟩
        refine stepsL_cons (s_val fun a w5 hC hs => ?_) ?_
        · skip
          obtain ⟨vg, hvg, hRg⟩ := got_of hs 3 72 (by kernel_rfl) (by rfl)
          replace hRg : vg = _ := hRg
          subst hRg
          obtain ⟨vx, hvx, hRx⟩ := got_of hs 12 81 (by kernel_rfl) (by rfl)
          replace hRx : vx = _ := hRx
          subst hRx
          exact ⟨wanted_is (j := 3) (d := 72) (b := false) (by rfl) (by rfl) hvg, _, run_ld rfl (ev hvx) (ld_gr5 (hK.out w5 hC).2.2.2.2), rfl⟩
        refine stepsL_cons (s_call fun a w5 hC hs => ?_) ?_
        · skip
          obtain ⟨vg, hvg, hRg⟩ := got_of hs 3 72 (by kernel_rfl) (by rfl)
          replace hRg : vg = _ := hRg
          subst hRg
          obtain ⟨vx, hvx, hRx⟩ := got_of hs 8 77 (by kernel_rfl) (by rfl)
          replace hRx : vx = _ := hRx
          subst hRx
          obtain ⟨vy, hvy, hRy⟩ := got_of hs 13 82 (by kernel_rfl) (by rfl)
          replace hRy : vy = _ := hRy
          subst hRy
          exact ⟨wanted_is (j := 3) (d := 72) (b := false) (by rfl) (by rfl) hvg, 13, _, run_call2 rfl (ev hvx) (ev hvy) (fun _ _ => rfl), (hN2.out w5 hC).mono (fun e w' ⟨he, hb⟩ => ⟨_, he, hC.trans (hb.mono hC.size), hb, rfl⟩)⟩
        refine stepsL_cons (s_val fun a w5 hC hs => ?_) ?_
        · skip
          obtain ⟨vc, hvc, hRc⟩ := got_of hs 3 72 (by kernel_rfl) (by rfl)
          replace hRc : vc = _ := hRc
          subst hRc
          obtain ⟨vy, hvy, hRy⟩ := got_of hs 14 83 (by kernel_rfl) (by rfl)
          replace hRy : vy = _ := hRy
          subst hRy
          exact ⟨wanted_none rfl, _, run_pk (b := false) rfl (ev hvc) (by simp only [if_true, if_false, Bool.false_eq_true]; exact (ev hvy)), rfl⟩
        refine stepsL_cons (s_val fun a w5 hC hs => ?_) ?_
        · skip
          obtain ⟨vx, hvx, hRx⟩ := got_of hs 15 84 (by kernel_rfl) (by rfl)
          replace hRx : vx = _ := hRx
          subst hRx
          exact ⟨wanted_none rfl, _, run_mv (.inl rfl) (ev hvx), rfl⟩
        refine stepsL_cons (s_val fun a w5 hC hs => ?_) ?_
        · skip
          obtain ⟨vg, hvg, hRg⟩ := got_of hs 16 85 (by kernel_rfl) (by rfl)
          replace hRg : vg = _ := hRg
          subst hRg
          have hvx := old_of hs 3 (by kernel_rfl) (by rfl)
          exact ⟨wanted_is (j := 16) (d := 85) (b := false) (by rfl) (by rfl) hvg, _, run_fa rfl (ev hvx) fl_f2, rfl⟩
        refine stepsL_cons (s_val fun a w5 hC hs => ?_) ?_
        · skip
          obtain ⟨vg, hvg, hRg⟩ := got_of hs 16 85 (by kernel_rfl) (by rfl)
          replace hRg : vg = _ := hRg
          subst hRg
          obtain ⟨vx, hvx, hRx⟩ := got_of hs 17 86 (by kernel_rfl) (by rfl)
          replace hRx : vx = _ := hRx
          subst hRx
          exact ⟨wanted_is (j := 16) (d := 85) (b := false) (by rfl) (by rfl) hvg, _, run_ld rfl (ev hvx) (ld_grs (hK.out w5 hC).2.2.1), rfl⟩
        refine stepsL_cons (s_val fun a w5 hC hs => ?_) ?_
        · skip
          obtain ⟨vg, hvg, hRg⟩ := got_of hs 16 85 (by kernel_rfl) (by rfl)
          replace hRg : vg = _ := hRg
          subst hRg
          have hvx := old_of hs 7 (by kernel_rfl) (by rfl)
          exact ⟨wanted_is (j := 16) (d := 85) (b := false) (by rfl) (by rfl) hvg, _, run_mv (.inl rfl) (ev hvx), rfl⟩
        refine stepsL_cons (s_val fun a w5 hC hs => ?_) ?_
        · skip
          obtain ⟨vg, hvg, hRg⟩ := got_of hs 16 85 (by kernel_rfl) (by rfl)
          replace hRg : vg = _ := hRg
          subst hRg
          obtain ⟨vx, hvx, hRx⟩ := got_of hs 18 87 (by kernel_rfl) (by rfl)
          replace hRx : vx = _ := hRx
          subst hRx
          obtain ⟨vy, hvy, hRy⟩ := got_of hs 19 88 (by kernel_rfl) (by rfl)
          replace hRy : vy = _ := hRy
          subst hRy
          exact ⟨wanted_is (j := 16) (d := 85) (b := false) (by rfl) (by rfl) hvg, _, run_ix rfl (ev hvx) (ev hvy) (ix_gr hj1), rfl⟩
        refine stepsL_cons (s_val fun a w5 hC hs => ?_) ?_
        · skip
          obtain ⟨vg, hvg, hRg⟩ := got_of hs 16 85 (by kernel_rfl) (by rfl)
          replace hRg : vg = _ := hRg
          subst hRg
          obtain ⟨vx, hvx, hRx⟩ := got_of hs 20 89 (by kernel_rfl) (by rfl)
          replace hRx : vx = _ := hRx
          subst hRx
          exact ⟨wanted_is (j := 16) (d := 85) (b := false) (by rfl) (by rfl) hvg, _, run_ld rfl (ev hvx) (ld_gr1 (hK.out w5 hC).2.2.2.1), rfl⟩
        refine stepsL_cons (s_val fun a w5 hC hs => ?_) ?_
        · skip
          obtain ⟨vg, hvg, hRg⟩ := got_of hs 16 85 (by kernel_rfl) (by rfl)
          replace hRg : vg = _ := hRg
          subst hRg
          have hvx := old_of hs 3 (by kernel_rfl) (by rfl)
          exact ⟨wanted_is (j := 16) (d := 85) (b := false) (by rfl) (by rfl) hvg, _, run_fa rfl (ev hvx) fl_f2, rfl⟩
        refine stepsL_cons (s_val fun a w5 hC hs => ?_) ?_
        · skip
          obtain ⟨vg, hvg, hRg⟩ := got_of hs 16 85 (by kernel_rfl) (by rfl)
          replace hRg : vg = _ := hRg
          subst hRg
          obtain ⟨vx, hvx, hRx⟩ := got_of hs 22 91 (by kernel_rfl) (by rfl)
          replace hRx : vx = _ := hRx
          subst hRx
          exact ⟨wanted_is (j := 16) (d := 85) (b := false) (by rfl) (by rfl) hvg, _, run_ld rfl (ev hvx) (ld_grs (hK.out w5 hC).2.2.1), rfl⟩
        refine stepsL_cons (s_val fun a w5 hC hs => ?_) ?_
        · skip
          obtain ⟨vg, hvg, hRg⟩ := got_of hs 16 85 (by kernel_rfl) (by rfl)
          replace hRg : vg = _ := hRg
          subst hRg
          have hvx := old_of hs 7 (by kernel_rfl) (by rfl)
          exact ⟨wanted_is (j := 16) (d := 85) (b := false) (by rfl) (by rfl) hvg, _, run_mv (.inl rfl) (ev hvx), rfl⟩
        refine stepsL_cons (s_val fun a w5 hC hs => ?_) ?_
        · skip
          obtain ⟨vg, hvg, hRg⟩ := got_of hs 16 85 (by kernel_rfl) (by rfl)
          replace hRg : vg = _ := hRg
          subst hRg
          obtain ⟨vx, hvx, hRx⟩ := got_of hs 23 92 (by kernel_rfl) (by rfl)
          replace hRx : vx = _ := hRx
          subst hRx
          obtain ⟨vy, hvy, hRy⟩ := got_of hs 24 93 (by kernel_rfl) (by rfl)
          replace hRy : vy = _ := hRy
          subst hRy
          exact ⟨wanted_is (j := 16) (d := 85) (b := false) (by rfl) (by rfl) hvg, _, run_ix rfl (ev hvx) (ev hvy) (ix_gr hj1), rfl⟩
        refine stepsL_cons (s_val fun a w5 hC hs => ?_) ?_
        · skip
          obtain ⟨vg, hvg, hRg⟩ := got_of hs 16 85 (by kernel_rfl) (by rfl)
          replace hRg : vg = _ := hRg
          subst hRg
          obtain ⟨vx, hvx, hRx⟩ := got_of hs 25 94 (by kernel_rfl) (by rfl)
          replace hRx : vx = _ := hRx
          subst hRx
          exact ⟨wanted_is (j := 16) (d := 85) (b := false) (by rfl) (by rfl) hvg, _, run_ld rfl (ev hvx) (ld_gr1 (hK.out w5 hC).2.2.2.1), rfl⟩
        refine stepsL_cons (s_call fun a w5 hC hs => ?_) ?_
        · skip
          obtain ⟨vg, hvg, hRg⟩ := got_of hs 16 85 (by kernel_rfl) (by rfl)
          replace hRg : vg = _ := hRg
          subst hRg
          obtain ⟨vx, hvx, hRx⟩ := got_of hs 21 90 (by kernel_rfl) (by rfl)
          replace hRx : vx = _ := hRx
          subst hRx
          obtain ⟨vy, hvy, hRy⟩ := got_of hs 26 95 (by kernel_rfl) (by rfl)
          replace hRy : vy = _ := hRy
          subst hRy
          exact ⟨wanted_is (j := 16) (d := 85) (b := false) (by rfl) (by rfl) hvg, 13, _, run_call2 rfl (ev hvx) (ev hvy) (fun _ _ => rfl), (hN3.out w5 hC).mono (fun e w' ⟨he, hb⟩ => ⟨_, he, hC.trans (hb.mono hC.size), hb, rfl⟩)⟩
        refine stepsL_cons (s_val fun a w5 hC hs => ?_) ?_
        · skip
          obtain ⟨vg, hvg, hRg⟩ := got_of hs 16 85 (by kernel_rfl) (by rfl)
          replace hRg : vg = _ := hRg
          subst hRg
          obtain ⟨vx, hvx, hRx⟩ := got_of hs 27 96 (by kernel_rfl) (by rfl)
          replace hRx : vx = _ := hRx
          subst hRx
          exact ⟨wanted_is (j := 16) (d := 85) (b := false) (by rfl) (by rfl) hvg, _, run_notB rfl (ev hvx), rfl⟩
        refine stepsL_cons (s_val fun a w5 hC hs => ?_) ?_
        · skip
          obtain ⟨vc, hvc, hRc⟩ := got_of hs 16 85 (by kernel_rfl) (by rfl)
          replace hRc : vc = _ := hRc
          subst hRc
          obtain ⟨vy, hvy, hRy⟩ := got_of hs 28 97 (by kernel_rfl) (by rfl)
          replace hRy : vy = _ := hRy
          subst hRy
          exact ⟨wanted_none rfl, _, run_pk (b := false) rfl (ev hvc) (by simp only [if_true, if_false, Bool.false_eq_true]; exact (ev hvy)), rfl⟩
        exact stepsL_nil
      case hendn =>
        intro σ V4 hCV4 hRV4
        generalize hF : fillL _ _ _ _ _ = F
        simp [fillL, dstOf, List.range, List.range.loop, Act.put] at hF
        subst hF
        have hl : σ 29 = .bool false := hRV4 29 (by simp)
        rw [hl]
        clear hRV4 hl hK
        generalize σ 0 = zn0
        generalize σ 1 = zn1
        generalize σ 2 = zn2
        generalize σ 3 = zn3
        generalize σ 4 = zn4
        generalize σ 5 = zn5
        generalize σ 6 = zn6
        generalize σ 7 = zn7
        generalize σ 8 = zn8
        generalize σ 9 = zn9
        generalize σ 10 = zn10
        generalize σ 11 = zn11
        generalize σ 12 = zn12
        generalize σ 13 = zn13
        generalize σ 14 = zn14
        generalize σ 15 = zn15
        generalize σ 16 = zn16
        generalize σ 17 = zn17
        generalize σ 18 = zn18
        generalize σ 19 = zn19
        generalize σ 20 = zn20
        generalize σ 21 = zn21
        generalize σ 22 = zn22
        generalize σ 23 = zn23
        generalize σ 24 = zn24
        generalize σ 25 = zn25
        generalize σ 26 = zn26
        generalize σ 27 = zn27
        generalize σ 28 = zn28
        have hb12 := Lib.hid (hb11.out.trans (hCV4.mono hb11.out.size))
        have hV12 := Lib.hid (hV11.out.trans (hCV4.mono hV11.out.size))
        obtain ⟨⟨p0, p1, p2⟩, _, p3, ⟨d0, d1, d2, d3, d4⟩, _⟩ := hK2.out V4 hCV4
        have hlw := World.block_lt_of_cell? _ _ p0
        have hld := World.block_lt_of_cell? _ _ d4
        clear hCV4 hN1 hN2 hN3 hK2 c0 c1 c2 c3 c4 hb11 hV11 d0 d1 d2 d3
        rw [hfa] at p2
        by_cases hy : u.blocks.length = 0
        · have hy0 : ((u.blocks.length : Int) == 0) = true := by rw [hy]; rfl
          clear hy
          go_wp2_with fail
          go_ret
          exact ⟨rfl, hb12.out⟩
        · have hy0 : ((u.blocks.length : Int) == 0) = false := by rw [beq_eq_false_iff_ne]; omega
          go_upto_region 16 with fail
          rw [← hfa] at p2
          clear hy0 p3 hfa
          go_upto_region 17 with fail
          have hbA := b_alloc V4 (.cells #[.slice f.ma f.mems.length f.mcap, .slice f.la f.locks.length f.lcap, .slice f.fa f.funs.length f.fcap] 30)
          have hbF := blk_new V4 (.cells #[.slice f.ma f.mems.length f.mcap, .slice f.la f.locks.length f.lcap, .slice f.fa f.funs.length f.fcap] 30) rfl
          have hszB : (V4.alloc (.cells #[.slice f.ma f.mems.length f.mcap, .slice f.la f.locks.length f.lcap, .slice f.fa f.funs.length f.fcap] 30)).heap.size = V4.heap.size + 1 := by simp
          generalize hVB : V4.alloc (.cells #[.slice f.ma f.mems.length f.mcap, .slice f.la f.locks.length f.lcap, .slice f.fa f.funs.length f.fcap] 30) = VB at *
          have hbE := b_alloc VB (.cells #[] 37)
          have hgE := hb12.out.trans ((hbA.trans (hbE.mono (by omega))).mono hb12.out.size)
          have hrowE := (hfI.out (VB.alloc (.cells #[] 37)) hgE).frow
          have hownE : (VB.alloc (.cells #[] 37)).ownsRow (V4.heap.size + 1) 37 5 (.slice (some ⟨VB.heap.size, 0, none⟩) 0 0) 0 [] := World.ownsRow_made VB #[] 0 (by omega) (by unfold maxLen; decide) rfl
          have r2 := below_in hbA p2
          have hlr := World.block_lt_of_cell? _ _ r2
          have x2 := blk_cell hbF (j := 2) rfl
          have hxF := (hbE.block _ (by omega)).trans hbF
          have hsE := Lib.hid (show V4.heap.size + 1 ≤ (VB.alloc (.cells #[] 37)).heap.size by simp; omega)
          replace hszB := Lib.hid hszB
          go_wp2_with (at_builtin; refine wpList_append_rowN _ rfl _ _ 28 rfl (V4.heap.size + 1) 37 i0 z0 5 64 Tryd.underlying28 hi0 hz0' hz1' hz2' hz3' (by decide) _ _ _ rfl hownE f.fa f.fcap f.funs.length (grCells f.funs) (gr_len _) rfl hrowE (gr_ones _) (by unfold maxLen; omega) (by omega) hsE.out ?_)
          intro v1 w13 hown9 hgr9 hat9
          replace hgr9 : (VB.alloc (.cells #[] 37)).grownBy w13 (some VB.heap.size) := hgr9
          obtain ⟨yq, ycap, rfl, hoG⟩ := OwnG.of hown9 (by omega)
          have hx9 := (hgr9.block V4.heap.size (by simp; have := hszB.out; omega) (fun e => by have := Option.some.inj e; have := hszB.out; omega)).trans hxF
          have x9 := blk_cell hx9 (j := 2) rfl
          have x9f := blk_free hx9 2
          have x9l : V4.heap.size < w13.heap.size := World.block_lt_of_cell? _ _ x9
          have hV13 := Lib.hid (((hbA.trans (hbE.mono hbA.size)).grown hgr9 (hbA.trans (hbE.mono hbA.size)).size (fun q e => by have := Option.some.inj e; have := hszB.out; omega)) : Below V4.heap.size V4 w13)
          have hyq := hoG.hB
          have hyl := hoG.lt
          have hgs := grown_set w13 V4.heap.size 2 (.slice (some ⟨yq, 0, none⟩) f.funs.length ycap)
          have hoG2 := Lib.hid (hoG.grown hgs (by omega))
          have hV14 := Lib.hid (hV13.out.setCell (p := ⟨V4.heap.size, 2, none⟩) (Nat.le_refl _) (.slice (some ⟨yq, 0, none⟩) f.funs.length ycap))
          have hx14 := heap_set1 hx9 2 (.slice (some ⟨yq, 0, none⟩) f.funs.length ycap)
          clear hgs hoG hown9 hgr9 hat9 hownE hrowE hgE hbE hxF x2 hbF hbA r2 hx9 hV13
          go_upto_region 18 with fail
          have hs14 : (w13.setCell ⟨V4.heap.size, 2, none⟩ (.slice (some ⟨yq, 0, none⟩) f.funs.length ycap)).heap.size = w13.heap.size := by simp [World.setCell]
          generalize w13.setCell ⟨V4.heap.size, 2, none⟩ (.slice (some ⟨yq, 0, none⟩) f.funs.length ycap) = w14 at *
          clear x9 x9f
          have hb14 := Lib.hid (hb12.out.trans (hV14.out.mono hb12.out.size))
          have hux := Lib.hid (fun V hv => ((hfI.out V hv).funs u hum))
          have hrB := (hux.out w14 hb14.out).row
          obtain ⟨bq, boff, hba, _, _⟩ := bk_row hrB 0 (u.blocks[0]'(by omega)) (List.getElem?_eq_getElem (by omega))
          obtain ⟨cb1, cb2⟩ := len_i hrB
          have hlen0 : 0 < u.blocks.length := by omega
          have hnb : Hid (∀ V, Below w14.heap.size w14 V → ∀ j v, (bkCells (u.blocks.take (u.blocks.length - 1)))[j]? = some v → V.cell? ((⟨bq, boff, none⟩ : Addr).add j) = some v) := Lib.hid (fun V hv j v hj => by
            have hall : (bkCells u.blocks)[j]? = some v := by
              have e : bkCells u.blocks = bkCells (u.blocks.take (u.blocks.length - 1)) ++ bkCells (u.blocks.drop (u.blocks.length - 1)) := by
                unfold bkCells
                rw [← List.flatMap_append, List.take_append_drop]
              rw [e, List.getElem?_append_left (List.getElem?_eq_some_iff.1 hj).1]
              exact hj
            obtain ⟨b4, o4, ha4, _, hc4⟩ := hrB.at_ j v hall
            rw [hba] at ha4
            cases ha4
            rw [Go.WideShapes.add_plain]
            exact below_in hv hc4)
          have x14 : Hid (∀ V, Below w14.heap.size w14 V → V.cell? ⟨V4.heap.size, 2, none⟩ = some (.slice (some ⟨yq, 0, none⟩) f.funs.length ycap)) := Lib.hid (fun V hv => below_in hv (blk_cell hx14 (j := 2) rfl))
          clear hrB hld x9l
          rw [hba]
          refine wp_region_tailP (P := Tryd.prog) 9 (C := fun _ V => Below w14.heap.size w14 V) (E := Ext) (EP := fun _ _ => True) (R := fun t j => (raY w14.heap.size V4.heap.size yq ycap f.funs.length k ⟨bq, boff, none⟩ u.blocks.length u.bcap (u.blocks.take (u.blocks.length - 1)) t).getD j VT) (by kernel_rfl) ((Below.refl _ _).drew) (by kernel_rfl) (fun t j v w' w'' _ hE h => mono_get _ j raY_mono v w' w'' hE h) (fun i v w' w'' hi _ _ h => raY_on i v w' w'' hi h) (m := 12) (by omega) rfl rfl rfl (by kernel_rfl) ?hsY rfl ?hpY ?hendY
          case hsY =>
            refine steps_but 9 12 (fun t => ?_) (fun t => ?_)
            · refine stepsL_cons (s_val fun a W hC hs => ?_) ?_
              · have h1 := old_of hs 10 (by kernel_rfl) (by rfl)
                exact ⟨wanted_none rfl, _, run_fa rfl (ev h1) fl_f2, rfl⟩
              refine stepsL_cons (s_val fun a W hC hs => ?_) ?_
              · obtain ⟨v, hv, hR⟩ := got_of hs 0 114 (by kernel_rfl) (by rfl)
                replace hR : v = _ := hR
                subst hR
                exact ⟨wanted_none rfl, _, run_ld rfl (ev hv) (ld_grs (x14.out W hC)), rfl⟩
              refine stepsL_cons (s_val fun a W hC hs => ?_) ?_
              · have h1 := old_of hs 7 (by kernel_rfl) (by rfl)
                exact ⟨wanted_none rfl, _, run_mv (.inl rfl) (ev h1), rfl⟩
              refine stepsL_cons (s_new fun a W hC hs => ?_) ?_
              · refine ⟨wanted_none rfl, _, _, run_bs (qs := #[]) rfl (by simp) (mk_bk0 W), hC.alloc hC.size _, b_alloc _ _, ?_⟩
                cases t
                · exact World.ownsRow_made W #[] 0 hC.size (by unfold maxLen; decide) rfl
                · trivial
              refine stepsL_cons (s_val fun a W hC hs => ?_) ?_
              · have h1 := old_of hs 9 (by kernel_rfl) (by rfl)
                exact ⟨wanted_none rfl, _, run_mv (.inl rfl) (ev h1), rfl⟩
              refine stepsL_cons (s_val fun a W hC hs => ?_) ?_
              · have h1 := old_of hs 9 (by kernel_rfl) (by rfl)
                exact ⟨wanted_none rfl, _, run_mv (.inl rfl) (ev h1), rfl⟩
              refine stepsL_cons (s_val fun a W hC hs => ?_) ?_
              · obtain ⟨v, hv, hR⟩ := got_of hs 5 119 (by kernel_rfl) (by rfl)
                replace hR : v = _ := hR
                subst hR
                exact ⟨wanted_none rfl, _, Go.Proofs.YtkmlhijnkilfpaaDoor.Qg.run_len rfl (ev hv) ln_bks, rfl⟩
              refine stepsL_cons (s_val fun a W hC hs => ?_) ?_
              · obtain ⟨v, hv, hR⟩ := got_of hs 6 120 (by kernel_rfl) (by rfl)
                replace hR : v = _ := hR
                subst hR
                exact ⟨wanted_none rfl, _, run_subB rfl (ev hv) hlen0 hu2, rfl⟩
              refine stepsL_cons (s_val fun a W hC hs => ?_) ?_
              · obtain ⟨v, hv, hR⟩ := got_of hs 4 118 (by kernel_rfl) (by rfl)
                replace hR : v = _ := hR
                subst hR
                obtain ⟨v7, hv7, hR7⟩ := got_of hs 7 121 (by kernel_rfl) (by rfl)
                replace hR7 : v7 = _ := hR7
                subst hR7
                exact ⟨wanted_none rfl, _, run_slN rfl (ev hv) (ev hv7) (sl_bk2 hlen0 (Nat.sub_le _ _) cb1), rfl⟩
              exact stepsL_nil
            · refine stepsL_cons (s_val fun a W hC hs => ?_) ?_
              · obtain ⟨v, hv, hR⟩ := got_of hs 1 115 (by kernel_rfl) (by rfl)
                replace hR : v = _ := hR
                subst hR
                obtain ⟨v2, hv2, hR2⟩ := got_of hs 2 116 (by kernel_rfl) (by rfl)
                replace hR2 : v2 = _ := hR2
                subst hR2
                exact ⟨wanted_none rfl, _, run_ix rfl (ev hv) (ev hv2) (ix_gr0 hj1), rfl⟩
              refine stepsL_cons (s_val fun a W hC hs => ?_) ?_
              · obtain ⟨v, hv, hR⟩ := got_of hs 10 124 (by kernel_rfl) (by rfl)
                replace hR : v = _ := hR
                subst hR
                exact ⟨wanted_none rfl, _, run_fa rfl (ev hv) fl_g4, rfl⟩
              exact stepsL_nil
          case hpY =>
            intro a W hC hs
            obtain ⟨v3, hv3, hR3⟩ := got_of hs 3 117 (by kernel_rfl) (by rfl)
            replace hR3 : VMk w14.heap.size v3 W := hR3
            obtain ⟨v8, hv8, hR8⟩ := got_of hs 8 122 (by kernel_rfl) (by rfl)
            replace hR8 : v8 = _ := hR8
            subst hR8
            refine ⟨wanted_none rfl, p_appB (L := u.blocks.take (u.blocks.length - 1)) rfl (ev hv3) (ev hv8) hR3 (by rw [List.length_take]; omega) (hnb.out W hC) (by omega) hC.size fun v' w' h1 h2 => ?_⟩
            exact ⟨hC.grown h2 hC.size (fun q e => (World.ownsRow.lt hR3 q e).1), trivial, _, rfl, h1⟩
          case hendY =>
            intro σ V5 hC5 hR5
            generalize hF : fillL _ _ _ _ _ = F
            simp [fillL, dstOf, List.range, List.range.loop, Act.put] at hF
            subst hF
            have hrow : VApB w14.heap.size (u.blocks.length - 1) (u.blocks.take (u.blocks.length - 1)) (σ 9) V5 := hR5 9 (by simp)
            have h11 : σ 11 = .pointer (some ⟨yq, k * 5 + 4, none⟩) := hR5 11 (by simp)
            generalize σ 9 = v9 at *
            obtain ⟨na, nc, rfl⟩ := own_sl hrow
            rw [h11]
            have hoG5 := hoG2.out.keep hC5
            obtain ⟨y0, y1, y2, y3, y4⟩ := hoG5.get hu
            have yf := hoG5.free (k * 5 + 4)
            have hnw := Lib.hid (hoG5.set (j := 4) (x' := blX u na nc) hu (by omega) blX_vals)
            have hgs5 := grown_set V5 yq (k * 5 + 4) (.slice na (u.blocks.length - 1) nc)
            obtain ⟨_, cur5, hcur5, _⟩ := hoG5
            have hrow5 := Lib.hid (own_grown hrow hgs5 (own_ty hrow hcur5 (by decide)))
            have hb5 := Lib.hid ((hb14.out.trans (hC5.mono hb14.out.size)).setCell (p := ⟨yq, k * 5 + 4, none⟩) (show w.heap.size ≤ yq by omega) (.slice na (u.blocks.length - 1) nc))
            have hV5 := (hV14.out.trans (hC5.mono hV14.out.size)).setCell (p := ⟨yq, k * 5 + 4, none⟩) (show V4.heap.size ≤ yq by omega) (.slice na (u.blocks.length - 1) nc)
            have hx5 := (hgs5.block V4.heap.size (by have := hC5.size; omega) (fun e => by have := Option.some.inj e; omega)).trans ((hC5.block _ (Array.getElem?_eq_some_iff.1 hx14).1).trans hx14)
            clear hR5 hC5 hrow h11 hcur5 hgs5 hnb x14
            unfold Oper.wp
            unfold execOp
            simp [go_sem, y4, yf]
            clear y0 y1 y2 y3 y4 yf
            generalize V5.setCell ⟨yq, k * 5 + 4, none⟩ (.slice na (u.blocks.length - 1) nc) = W5 at *
            generalize σ 0 = y0
            generalize σ 1 = y1
            generalize σ 2 = y2
            generalize σ 3 = y3
            generalize σ 4 = y4
            generalize σ 5 = y5
            generalize σ 6 = y6
            generalize σ 7 = y7
            generalize σ 8 = y8
            generalize σ 10 = y10
            have s0 := below_in hV5 p0
            have s1 := below_in hV5 p1
            have s2 := below_in hV5 p2
            have t0 := blk_cell hx5 (j := 0) rfl
            have t1 := blk_cell hx5 (j := 1) rfl
            have t2 := blk_cell hx5 (j := 2) rfl
            have hls := World.block_lt_of_cell? _ _ s0
            have hlt5 := World.block_lt_of_cell? _ _ t0
            have huI := hux.out W5 hb5.out
            have hbI : Gr.In W5 (blX u na nc) := ⟨huI.name, huI.params, huI.regs, by
              have e : (u.blocks.take (u.blocks.length - 1)).length = u.blocks.length - 1 := by rw [List.length_take]; omega
              have hr : W5.ownsRow w14.heap.size 42 4 (.slice na (u.blocks.take (u.blocks.length - 1)).length nc) (u.blocks.take (u.blocks.length - 1)).length (bkCells (u.blocks.take (u.blocks.length - 1))) := by
                rw [e]; exact hrow5.out
              obtain ⟨a9, c9, e9, hr9⟩ := own_rowB hr
              injection e9 with q1 q2 q3
              subst q1 q3
              exact hr9.mono fun _ _ => trivial, fun y hy => huI.blocks y (List.mem_of_mem_take hy)⟩
            have hcall := sameFm_any f (setFm f k (blX u na nc) (some ⟨yq, 0, none⟩) ycap) W5 (hfI.out W5 hb5.out) (set_in2 (hfI.out W5 hb5.out) hnw.out hbI)
            rw [same_set hu (same_bl u na nc hlen0)] at hcall
            have hvv : Value.agg ⟨(setFm f k (blX u na nc) (some ⟨yq, 0, none⟩) ycap).vals⟩ = .agg #[.slice f.ma f.mems.length f.mcap, .slice f.la f.locks.length f.lcap, .slice (some ⟨yq, 0, none⟩) f.funs.length ycap] := by unfold setFm Fm.vals; simp only [List.length_set]
            rw [hvv] at hcall
            replace hcall := Lib.hid hcall
            clear hV5 hx5 huI hbI hvv hnw hrow5 hux
            go_wp2_with fail
            refine hcall.out.mono ?_
            rintro e W6 ⟨rfl, hb6⟩
            have hbz := Lib.hid (hb5.out.trans (hb6.mono hb5.out.size))
            clear hb6 hcall
            go_wp2_with fail
            go_ret
            exact ⟨rfl, hbz.out⟩
end Go.Proofs.YtkmlhijnkilfpaaDoor.Fw
