/- Walk of the document's MayForm. Conditions: the program of blocks lies in memory; its lists are of bounded length. -/
import Derived.Test.YtckmgefailclcaaDoorJaQ
import Derived.Test.YtckmgefailclcaaDoorJaS
import Derived.Test.YtckmgefailclcaaDoorJCgC
import Derived.Test.YtckmgefailclcaaDoorJaL
import Derived.StillTailTactics
set_option linter.unusedSimpArgs false
set_option linter.unusedVariables false
namespace Go.Proofs.YtckmgefailclcaaDoor.Fw
open Go Go.RowKit
open Go.Proofs.YtckmgefailclcaaDoor.Lx Go.Proofs.YtckmgefailclcaaDoor.Tr Go.Proofs.YtckmgefailclcaaDoor.Cd Go.Proofs.YtckmgefailclcaaDoor.Pa

theorem prg_sml {f : Fm} {v : Option Addr} {cap k : Nat} {l : List Cd.Fn} {W : World} (h : Outs k l f.funs W) (hs : Fsm f) : Sml (prg f v cap l) := by
  refine ⟨?_, fun g hg i hi => ?_⟩
  · have h1 := h.len
    have h2 := hs.sum
    show f.mems.length + f.locks.length + l.length ≤ _
    omega
  · obtain ⟨x, hx, c, r, rfl, hh⟩ := h.at_ g hg
    rw [List.mem_singleton.1 hi]
    show (0 : Nat) ≤ _
    omega
set_option maxHeartbeats 16000000 in
set_option maxRecDepth 100000 in
theorem rmayForm_c (f : Fm) (w : World) (hf : Fm.In w f) (hs : Fsm f) :
    Calls Tryd.prog 16 #[.agg ⟨f.vals⟩] w fun e w' => e = .returned (.bool (mayFm f)) ∧ Below w.heap.size w w' := by
  obtain ⟨hc1, hc2⟩ := len_i hf.frow
  have hsum := hs.sum
  obtain ⟨i0, hi0, hz0, hz1, hz2⟩ := info_parts info_fn
  have hst := Lib.hid (b_alloc2 w (.cells #[.slice f.ma f.mems.length f.mcap, .slice f.la f.locks.length f.lcap, .slice f.fa f.funs.length f.fcap] 30) (.cells #[.slice f.ma f.mems.length f.mcap, .slice f.la f.locks.length f.lcap, .slice none 0 0] 26))
  have hq := Lib.hid (box3 w f)
  have hqp : Hid (((w.alloc (.cells #[.slice f.ma f.mems.length f.mcap, .slice f.la f.locks.length f.lcap, .slice f.fa f.funs.length f.fcap] 30)).alloc (.cells #[.slice f.ma f.mems.length f.mcap, .slice f.la f.locks.length f.lcap, .slice none 0 0] 26)).heap[w.heap.size + 1]? = some (.cells #[.slice f.ma f.mems.length f.mcap, .slice f.la f.locks.length f.lcap, .slice none 0 0] 26 (0, 0))) := Lib.hid (blk_new _ _ (by simp))
  have hR := Lib.hid (fun V (hv : Below w.heap.size w V) => hf.frow.below (Kps.of_below hv))
  have hXg := Lib.hid (fun (x : Gr) V (hx : x ∈ f.funs) (hv : Below w.heap.size w V) => (hf.keep hv).funs x hx)
  have hM := Lib.hid (fun (v : Option Addr) (B cap k : Nat) (l : List Cd.Fn) V (hv : Below w.heap.size w V) (h : Outs k l f.funs V) ho => rMay_any (prg f v cap l) V (prg_in (B := B) h (hf.keep hv) ho) (prg_sml h hs))
  have hG := Lib.hid (fun (x : Gr) V (hx : x ∈ f.funs) (hv : Below w.heap.size w V) => rmay_c x V ((hf.keep hv).funs x hx) (hs.args x hx))
  have h1 := Lib.hid (fun (x : Gr) (b : Bk) (i : Ins) (p : Pg) (n : Nat) V (hn : (n : Int) ≤ 1048576) (hx : x ∈ f.funs) (hb : b ∈ x.blocks) (hi : i ∈ b.code) (hv : Below w.heap.size w V) hrow => rmayIns_any p n i V (((((hf.keep hv).funs x hx).blocks b hb).code i hi).op) (((((hf.keep hv).funs x hx).blocks b hb).code i hi).n) (by unfold I64; omega) (((((hf.keep hv).funs x hx).blocks b hb).code i hi).row) (by have := hs.args x hx b hb i hi; omega) hrow)
  have hm : Hid (mayFm f = (mayP (outPg f 0) && funsOk f 0 f.funs)) := Lib.hid rfl
  rw [hm.out]
  clear hf hs hm
  have hfv : Value.agg ⟨f.vals⟩ = .agg #[.slice f.ma f.mems.length f.mcap, .slice f.la f.locks.length f.lcap, .slice f.fa f.funs.length f.fcap] := rfl
  rw [hfv]
  clear hfv
  generalize hfA : f.fa = fA at hc1 hst hq hqp hR ⊢
  replace hfA := Lib.hid hfA
  go_enter Tryd.func16, Tryd.ntmps16
  go_upto_region 2 with fail
  generalize hW0e : (w.alloc (.cells #[.slice f.ma f.mems.length f.mcap, .slice f.la f.locks.length f.lcap, .slice fA f.funs.length f.fcap] 30)).alloc (.cells #[.slice f.ma f.mems.length f.mcap, .slice f.la f.locks.length f.lcap, .slice none 0 0] 26) = W0 at *
  have hs0 : w.heap.size + 2 = W0.heap.size := by rw [← hW0e]; simp
  have hbf : Hid (∀ V, Below (w.heap.size + 1) W0 V → V.cell? ⟨w.heap.size, 2, none⟩ = some (.slice fA f.funs.length f.fcap)) := Lib.hid (fun V hv => by
    have h2 : W0.cell? ⟨w.heap.size, 2, none⟩ = some (.slice fA f.funs.length f.fcap) := by rw [← hW0e]; exact below_in (b_alloc _ _) hq.out.2.2
    have := hv.cell (p := ⟨w.heap.size, 2, none⟩) (by show w.heap.size < w.heap.size + 1; omega)
    rw [this]; exact h2)
  have hBx : Hid (Bx (w.heap.size + 1) (w.heap.size + 1) (.slice f.ma f.mems.length f.mcap) (.slice f.la f.locks.length f.lcap) [] W0) := Lib.hid ⟨Nat.le_refl _, none, 0, hqp.out, World.ownsRow_nil _ _ _ _⟩
  clear hW0e hq hqp
  go_wp2_with fail
  go_loopw [4] (fun i wr => ∃ k : Nat, k ≤ f.funs.length ∧ i = .int .i64 k ∧ ∃ l, Hid (Outs 0 l (f.funs.take k) wr) ∧ Hid (Bx (w.heap.size + 1) (w.heap.size + 1) (.slice f.ma f.mems.length f.mcap) (.slice f.la f.locks.length f.lcap) l wr) ∧ Hid (Below (w.heap.size + 1) W0 wr)) (fun i _ => f.funs.length - (intOf i).toNat)
  case atStart => exact ⟨0, Nat.zero_le _, rfl, [], Lib.hid (Outs.nil _ _), hBx, Lib.hid (Below.refl _ _)⟩
  case round =>
    clear hBx
    obtain ⟨k, hk, rfl, l, hO, hX, hb⟩ := hrel
    have hbw := Lib.hid (hst.out.trans (hb.out.mono (by omega)))
    have hsw := hb.out.size
    have hOl := hO.out.len
    rw [List.length_take] at hOl
    have q2 := hbf.out wr hb.out
    by_cases hlt : k < f.funs.length
    · obtain ⟨x, hx⟩ : ∃ x, f.funs[k]? = some x := ⟨_, List.getElem?_eq_getElem hlt⟩
      obtain ⟨b, off, ha, _, c0, c1, c2, c3, c4⟩ := gr_row (hR.out _ hbw.out) k x hx
      have hbl : b < wr.heap.size := World.block_lt_of_cell? _ _ c0
      have hi0' : (0 : Int) ≤ (k : Int) := by omega
      have hi1 : (k : Int) < (f.funs.length : Int) := by omega
      have hln : l.length = k := by omega
      subst ha
      have hbA := Lib.hid (b_alloc2 wr (.cells #[.string x.name, .bool x.thread, .int .i64 x.params, .int .i64 x.regs, .slice x.ba x.blocks.length x.bcap] 37) (.cells #[.int .u8 11, .int .i64 0, .int .i64 0, .int .i64 0, .int .i64 0, .slice none 0 0] 44))
      have s1 : ((wr.alloc (.cells #[.string x.name, .bool x.thread, .int .i64 x.params, .int .i64 x.regs, .slice x.ba x.blocks.length x.bcap] 37)).alloc (.cells #[.int .u8 11, .int .i64 0, .int .i64 0, .int .i64 0, .int .i64 0, .slice none 0 0] 44)).heap[wr.heap.size + 1]? = some (.cells #[.int .u8 11, .int .i64 0, .int .i64 0, .int .i64 0, .int .i64 0, .slice none 0 0] 44 (0, 0)) := blk_new _ _ (by simp)
      have hbA2 := Lib.hid (hb.out.trans (hbA.out.mono (by omega)))
      have hXA := Lib.hid (hX.out.keep hbA.out)
      have hOA := Lib.hid (hO.out.keep hbA.out)
      obtain ⟨v, cap, e0, e1, e2, ho, hbl2⟩ := hX.out.get
      have e2A := below_in hbA.out e2
      have hoA := own_below ho hbA.out
      have efr : wr.frozen? ⟨w.heap.size + 1, 2, none⟩ = false := by
        obtain ⟨_, _, _, h1, _⟩ := hX.out
        exact blk_free h1 _
      have hstep := Lib.hid (fun (w3 : World) (o : Obj) (v' : Value) hgr h3 => hXA.out.step (w3 := w3) (o := o) (v' := v') (x := outA x (wr.heap.size + 1) false) e2A hgr h3)
      have hoth := Lib.hid (fun (w3 : World) (o : Obj) (u : Value) (c : Nat) vs fr hgr hc => hXA.out.other (w3 := w3) (o := o) (u := u) (k := c) (vs := vs) (fr := fr) e2A hoA hgr hc)
      have hOs := Lib.hid (fun (W' : World) hk hc => hOA.out.snoc (W' := W') (c := wr.heap.size + 1) hx hk hc)
      have hown := Lib.hid hoA
      replace s1 := Lib.hid s1
      rw [hln] at e2 hstep hown hoth
      have hbb : Hid (∀ (o : Obj) (w3 : World) (u : Value), (((wr.alloc (.cells #[.string x.name, .bool x.thread, .int .i64 x.params, .int .i64 x.regs, .slice x.ba x.blocks.length x.bcap] 37)).alloc (.cells #[.int .u8 11, .int .i64 0, .int .i64 0, .int .i64 0, .int .i64 0, .slice none 0 0] 44)).alloc o).grownBy w3 (Value.slice v k cap).ownBlock → Below (w.heap.size + 1) W0 (w3.setCell ⟨w.heap.size + 1, 2, none⟩ u)) := Lib.hid (by
        intro o w3 u hg
        exact ((hbA2.out.alloc (by simp; omega) o).grown hg (by simp; omega) (fun q e => (hown.out.lt q e).1)).setCell (p := ⟨w.heap.size + 1, 2, none⟩) (Nat.le_refl _) _)
      clear hX hO hXA hOA ho e0 e1 hx e2A hoA
      go_wp2_with (at_builtin; refine wpList_append_own_at _ rfl _ _ 24 rfl (w.heap.size + 1) 52 i0 _ 5 64 Tryd.underlying24 hi0 hz0 hz1 hz2 rfl (by decide) _ _ _ rfl (own_below hown.out (b_alloc _ _)) _ 1 1 (outA x (wr.heap.size + 1) false).vals rfl rfl (row_at _ (outA x (wr.heap.size + 1) false).vals _ _ (by first | rfl | simp)) (by simp [Value.oneCell', outA, Cd.Fn.vals]) ?c1 ?c2 ?c3 ?_)
      case c1 => unfold maxLen; omega
      case c2 => omega
      case c3 => simp; omega
      intro v' w3 hown3 hg3 _ hat3
      obtain ⟨⟨va, vcap, rfl⟩, ⟨h3c, h3f, h3l⟩, hX2⟩ := hstep.out _ _ _ hg3 hown3
      have hb2 := Lib.hid (hbb.out _ _ (.slice va (k + 1) vcap) hg3)
      have hO2 := Lib.hid (hOs.out _ (fun c vs fr hc => hoth.out _ _ (.slice va (k + 1) vcap) c vs fr hg3 hc) (hoth.out _ _ (.slice va (k + 1) vcap) _ _ _ hg3 s1.out))
      replace hX2 := Lib.hid hX2
      clear hstep hown hbb hown3 hg3 hat3 e2 efr hOs hoth
      go_wp2_with fail
      go_roundw
      case rel => exact ⟨k + 1, by omega, by go_num, _, hO2, hX2, hb2⟩
      case measure => simp [intOf]; omega
    · have hk2 : k = f.funs.length := by omega
      have hlast1 : ¬ (k : Int) < (f.funs.length : Int) := by omega
      have hln : l.length = f.funs.length := by omega
      rw [hk2, List.take_length] at hO
      obtain ⟨v, cap, e0, e1, e2, ho, hbl2⟩ := hX.out.get
      have hMx := hM.out v (w.heap.size + 1) cap 0 l wr hbw.out hO.out ho
      rw [prg_may hO.out] at hMx
      have hpv : (prg f v cap l).val = .agg #[.slice f.ma f.mems.length f.mcap, .slice f.la f.locks.length f.lcap, .slice v l.length cap] := rfl
      rw [hpv] at hMx
      rw [hln] at hMx e2
      replace hMx := Lib.hid hMx
      have hbox : wr.heap[w.heap.size + 1]? = some (.cells #[.slice f.ma f.mems.length f.mcap, .slice f.la f.locks.length f.lcap, .slice v f.funs.length cap] 26 (0, 0)) := by
        obtain ⟨_, v5, c5, h5, _⟩ := hX.out
        have h6 := blk_cell h5 (j := 2) (u := .slice v5 l.length c5) rfl
        rw [hln] at h6
        rw [e2] at h6
        cases h6
        rw [← hln]; exact h5
      replace ho := Lib.hid ho
      replace hbox := Lib.hid hbox
      replace hln := Lib.hid hln
      clear hM hX hpv hOl hk2
      go_wp2_with fail
      refine hMx.out.mono ?_
      rintro e w2 ⟨rfl, hb2⟩
      have hOu2 := Lib.hid (hO.out.keep hb2)
      have hown2 := Lib.hid (own_below ho.out hb2)
      have hbox2 := Lib.hid ((hb2.block _ hbl2).trans hbox.out)
      have g3 := Lib.hid (hb.out.trans (hb2.mono (by omega)))
      have q3 := hbf.out w2 g3.out
      have g4 := Lib.hid (hbw.out.trans (hb2.mono hbw.out.size))
      clear hMx hb2 hbox ho hO e0 e1 e2 q2
      cases hmay : mayP (outPg f 0)
      · replace hmay := Lib.hid hmay
        clear hG h1 hR hXg
        go_wp2_with fail
        go_ret
        exact ⟨ret_bool (by rw [hmay.out]; rfl), g4.out⟩
      · replace hmay := Lib.hid hmay
        go_wp2_with fail
        go_loopw [6] (fun i wr => ∃ k : Nat, k ≤ f.funs.length ∧ i = .int .i64 k ∧ ∃ l, Hid (l.length = f.funs.length) ∧ Hid (Outs k l f.funs wr) ∧ Hid (wr.ownsRow (w.heap.size + 1) 52 5 (.slice v l.length cap) l.length (fnCells l)) ∧ Hid (funsOk f 0 (f.funs.take k) = true) ∧ Hid (wr.heap[w.heap.size + 1]? = some (.cells #[.slice f.ma f.mems.length f.mcap, .slice f.la f.locks.length f.lcap, .slice v f.funs.length cap] 26 (0, 0))) ∧ Hid (Below (w.heap.size + 1) W0 wr)) (fun i _ => f.funs.length - (intOf i).toNat)
        case atStart => exact ⟨0, Nat.zero_le _, rfl, l, hln, hOu2, Lib.hid (own_base hown2.out (Nat.le_refl _)), Lib.hid rfl, hbox2, g3⟩
        case round =>
          clear hOu2 hown2 hbox2 g3 g4 q3 hln hb hbw hsw hlast1
          obtain ⟨k, hk, rfl, l, hln, hOu, hown, hall, hbox, hb⟩ := hrel
          have hbw := Lib.hid (hst.out.trans (hb.out.mono (by omega)))
          have q2 := hbf.out wr hb.out
          by_cases hlt : k < f.funs.length
          · obtain ⟨x, hx⟩ : ∃ x, f.funs[k]? = some x := ⟨_, List.getElem?_eq_getElem hlt⟩
            obtain ⟨y, hy⟩ : ∃ y, l[k]? = some y := ⟨_, List.getElem?_eq_getElem (by rw [hln.out]; exact hlt)⟩
            obtain ⟨b, off, ha, _, c0, c1, c2, c3, c4⟩ := gr_row (hR.out _ hbw.out) k x hx
            have hi0' : (0 : Int) ≤ (k : Int) := by omega
            have hi1 : (k : Int) < (f.funs.length : Int) := by omega
            subst ha
            have hxm := Lib.hid (List.mem_of_getElem? hx)
            have hxk := Lib.hid hx
            have hGx := hG.out x wr hxm.out hbw.out
            have hgv : Value.agg ⟨x.vals⟩ = .agg #[.string x.name, .bool x.thread, .int .i64 x.params, .int .i64 x.regs, .slice x.ba x.blocks.length x.bcap] := rfl
            rw [hgv] at hGx
            have hno := Lib.hid (fun h => funsOk_no (f := f) hx h)
            have hyes := Lib.hid (funsOk_take (f := f) hx)
            have hfo : Hid (funOk f k x = (mayG x && x.blocks.all fun b => b.code.all (mayI (outPg f (k + 1)) k))) := Lib.hid rfl
            cases hmg : mayG x
            · rw [hmg] at hGx
              replace hGx := Lib.hid hGx
              have hfin := Lib.hid (hno.out (by rw [hfo.out, hmg]; rfl))
              clear hmg hno hyes hall hx hy
              go_wp2_with fail
              refine hGx.out.mono ?_
              rintro e w3 ⟨rfl, hb3⟩
              have k3 := Lib.hid (hbw.out.trans (hb3.mono hbw.out.size))
              clear hb3
              go_wp2_with fail
              go_ret
              exact ⟨ret_bool (by rw [hmay.out, hfin.out]; rfl), k3.out⟩
            · rw [hmg] at hGx
              replace hGx := Lib.hid hGx
              have hfo2 : Hid (funOk f k x = (x.blocks.all fun b => b.code.all (mayI (outPg f (k + 1)) k))) := Lib.hid (by rw [hfo.out, hmg]; rfl)
              clear hmg hfo
              go_wp2_with fail
              refine hGx.out.mono ?_
              rintro e w3 ⟨rfl, hb3⟩
              have g3 := Lib.hid (hb.out.trans (hb3.mono (by have := hb.out.size; omega)))
              have g3w := Lib.hid (hbw.out.trans (hb3.mono hbw.out.size))
              have q3 := hbf.out w3 g3.out
              obtain ⟨b5, off5, ha5, _, t0, t1, t2, t3, t4⟩ := gr_row (hR.out _ g3w.out) k x hx
              cases ha5
              have hown3 := own_below hown.out hb3
              have hbox3 := (hb3.block _ (Array.getElem?_eq_some_iff.1 hbox.out).1).trans hbox.out
              have hO3 := hOu.out.keep hb3
              obtain ⟨g', hv, hgB, hgw, e3, e3f, hset, hoth⟩ := frow_set hown3 hy x.regs
              have z2 : w3.cell? ⟨w.heap.size + 1, 2, none⟩ = some (.slice v f.funs.length cap) := blk_cell hbox3 (j := 2) (u := .slice v f.funs.length cap) rfl
              subst hv
              have hln0 := hln.out
              have hOu2 := Lib.hid (hO3.put hx hy (fun c vs T fr hc hT => hoth c vs T fr hc hT))
              have hbS := Lib.hid (g3.out.setCell (p := ⟨g', k * 5 + 3, none⟩) (by show w.heap.size + 1 ≤ g'; omega) (.int .i64 x.regs))
              have hbox4 := Lib.hid (hoth _ _ _ _ hbox3 (by decide))
              replace hset := Lib.hid hset
              clear hoth hx hy hown hOu hbox hb3 hown3 hbox3 hO3 c0 c1 c2 c3 c4 t0 t1 t2 t4 q2 hb hbw
              go_upto_region 14 with fail
              go_still_tail 9, (by kernel_rfl)
              change wpList _ _ _ _ _ w3.drew
              go_upto_region 15 with fail
              obtain ⟨W5, hW5⟩ : ∃ W5, W5 = (w3.setCell ⟨g', k * 5 + 3, none⟩ (.int .i64 x.regs)).drew := ⟨_, rfl⟩
              have hdr : Below (w3.setCell ⟨g', k * 5 + 3, none⟩ (.int .i64 x.regs)).heap.size (w3.setCell ⟨g', k * 5 + 3, none⟩ (.int .i64 x.regs)) W5 := by rw [hW5]; exact (Below.refl _ _).drew
              have hOu5 := Lib.hid (hOu2.out.keep hdr)
              have hown5 := own_below hset.out hdr
              have hbox5 := Lib.hid ((hdr.block _ (Array.getElem?_eq_some_iff.1 hbox4.out).1).trans hbox4.out)
              have hb5 := Lib.hid (hbS.out.trans (hdr.mono (by have := hbS.out.size; omega)))
              generalize hl2 : l.set k { y with regs := x.regs } = l2 at *
              have hl2n : l2.length = f.funs.length := by rw [← hl2, List.length_set]; exact hln0
              rw [hln0, ← hl2n] at hown5
              replace hown5 := Lib.hid hown5
              replace hl2n := Lib.hid hl2n
              have hw5 := Lib.hid (hst.out.trans (hb5.out.mono (by omega)))
              rw [← hW5]
              clear hW5 hdr hOu2 hset hbox4 hbS hl2 hln0 e3 e3f z2 t3 q3 g3 g3w hln
              have hcl : Hid (∀ (b : Bk) (i : Ins) V, b ∈ x.blocks → i ∈ b.code → Below W5.heap.size W5 V → Calls Tryd.prog 41 #[(prg f (some ⟨g', 0, none⟩) cap l2).val, .int .i64 k, i.val] V fun e w' => e = .returned (.bool (mayI (outPg f (k + 1)) k i)) ∧ Below V.heap.size V w') := Lib.hid (fun b i V hb hi hv => by
                have h := h1.out x b i (prg f (some ⟨g', 0, none⟩) cap l2) k V (by omega) hxm.out hb hi (hw5.out.trans (hv.mono hw5.out.size)) (by
                  obtain ⟨a5, c5, e5, r5⟩ := Cd.row_own (own_below hown5.out hv)
                  cases e5
                  exact r5.mono fun _ _ => trivial)
                rw [prg_mayI hOu5.out] at h
                exact h)
              have hpv : (prg f (some ⟨g', 0, none⟩) cap l2).val = .agg #[.slice f.ma f.mems.length f.mcap, .slice f.la f.locks.length f.lcap, .slice (some ⟨g', 0, none⟩) l2.length cap] := rfl
              rw [hpv, hl2n.out] at hcl
              clear hpv
              generalize hPb : (fun i : Ins => mayI (outPg f (k + 1)) k i) = P at *
              have hPx : Hid (∀ i, mayI (outPg f (k + 1)) k i = P i) := Lib.hid (fun i => by rw [← hPb])
              have hfo3 : Hid (funOk f k x = x.blocks.all fun b => b.code.all P) := Lib.hid (by rw [hfo2.out, ← hPb])
              have hcl2 := Lib.hid (fun b i V hb hi hv => (hPx.out i) ▸ hcl.out b i V hb hi hv)
              clear hPb hfo2 hcl hPx
              have hgc : Hid (∀ V, Below w.heap.size w V → V.cell? ⟨b, off + k * 5 + 4, none⟩ = some (.slice x.ba x.blocks.length x.bcap)) := Lib.hid (fun V hv => by
                obtain ⟨b6, off6, ha6, _, _, _, _, _, t4⟩ := gr_row (hR.out _ hv) k x hxk.out
                cases ha6
                exact t4)
              have hXx := Lib.hid (fun V (hv : Below w.heap.size w V) => hXg.out x V hxm.out hv)
              generalize hPB : (fun b : Bk => b.code.all P) = PB at *
              have hPB' : Hid (∀ b : Bk, PB b = b.code.all P) := Lib.hid (fun b => by rw [← hPB])
              clear hPB
              go_wp2_with fail
              go_loopw [7] (fun i wq => ∃ n : Nat, n ≤ x.blocks.length ∧ i = .int .i64 n ∧ Hid ((x.blocks.take n).all PB = true) ∧ Hid (Below W5.heap.size W5 wq)) (fun i _ => x.blocks.length - (intOf i).toNat)
              case atStart => exact ⟨0, Nat.zero_le _, rfl, Lib.hid rfl, Lib.hid (Below.refl _ _)⟩
              case round =>
                obtain ⟨n, hn, rfl, halln, hbn⟩ := hrel
                have gn := Lib.hid (hw5.out.trans (hbn.out.mono hw5.out.size))
                have gn1 := hb5.out.trans (hbn.out.mono (by have := hb5.out.size; omega))
                have q5 := hbf.out wr gn1
                have t5 := hgc.out wr gn.out
                replace gn1 := Lib.hid gn1
                obtain ⟨cb1, cb2⟩ := len_i (hXx.out wr gn.out).row
                by_cases hnt : n < x.blocks.length
                · obtain ⟨z, hz⟩ : ∃ z, x.blocks[n]? = some z := ⟨_, List.getElem?_eq_getElem hnt⟩
                  obtain ⟨b7, off7, ha7, _, u0, u1, u2, u3⟩ := bk_row (hXx.out wr gn.out).row n z hz
                  rw [ha7] at t5
                  have hn0 : (n : Int) < (x.blocks.length : Int) := by omega
                  have hzm := List.mem_of_getElem? hz
                  have hzI := Lib.hid (fun V (hv : Below w.heap.size w V) => ((hXx.out V hv).blocks z hzm).crow)
                  obtain ⟨cc1, cc2⟩ := len_i (hzI.out wr gn.out)
                  have hnoz := Lib.hid (fun h => all_no (f := PB) hz h)
                  have hyesz := Lib.hid (all_take (f := PB) hz)
                  have hPz := Lib.hid (hPB'.out z)
                  have hcz := Lib.hid (fun (i : Ins) V (hi : i ∈ z.code) hv => hcl2.out z i V hzm hi hv)
                  clear hz hzm ha7 hPB'
                  go_wp2_with fail
                  go_loopw [9] (fun i wq => ∃ m : Nat, m ≤ z.code.length ∧ i = .int .i64 m ∧ Hid ((z.code.take m).all P = true) ∧ Hid (Below wr.heap.size wr wq)) (fun i _ => z.code.length - (intOf i).toNat)
                  case atStart => exact ⟨0, Nat.zero_le _, rfl, Lib.hid rfl, Lib.hid (Below.refl _ _)⟩
                  case round =>
                    obtain ⟨m, hm, rfl, hallm, hbm⟩ := hrel
                    have hb6 := Lib.hid (hbn.out.trans (hbm.out.mono hbn.out.size))
                    have g6 := Lib.hid (hw5.out.trans (hb6.out.mono hw5.out.size))
                    by_cases hmt : m < z.code.length
                    · obtain ⟨y, hy⟩ : ∃ y, z.code[m]? = some y := ⟨_, List.getElem?_eq_getElem hmt⟩
                      obtain ⟨b8, off8, ha8, _, d0, d1, d2, d3, d4, d5⟩ := in_row (hzI.out _ g6.out) m y hy
                      have hm0 : (m : Int) < (z.code.length : Int) := by omega
                      have hnoy := Lib.hid (fun h => hnoz.out (by rw [hPz.out]; exact all_no (f := P) hy h))
                      have hyesy := Lib.hid (all_take (f := P) hy)
                      have hcy := Lib.hid (fun V (hv : Below wr.heap.size wr V) => hcz.out y V (List.mem_of_getElem? hy) (hb6.out.trans (hv.mono hb6.out.size)))
                      have hbx6 := (hb6.out.block _ (Array.getElem?_eq_some_iff.1 hbox5.out).1).trans hbox5.out
                      have p0 := up_cell (blk_cell hbx6 (j := 0) (u := .slice f.ma f.mems.length f.mcap) rfl)
                      have p1 := up_cell (blk_cell hbx6 (j := 1) (u := .slice f.la f.locks.length f.lcap) rfl)
                      have p2 := up_cell (blk_cell hbx6 (j := 2) (u := .slice (some ⟨g', 0, none⟩) f.funs.length cap) rfl)
                      have v0 := up_cell d0
                      have v1 := up_cell d1
                      have v2 := up_cell d2
                      have v3 := up_cell d3
                      have v4 := up_cell d4
                      have v5 := up_cell d5
                      have hiv : y.val = .agg #[.int .u8 y.op, .int .i64 y.r, .int .i64 y.a, .int .i64 y.b, .int .i64 y.n, .slice y.aa y.args.length y.acap] := rfl
                      rw [hiv] at hcy
                      rw [ha8]
                      clear hy ha8 hbx6 hiv d0 d1 d2 d3 d4 d5
                      cases hv : P y
                      · rw [hv] at hcy
                        have hfin := Lib.hid (hno.out (by rw [hfo3.out, hnoy.out hv]))
                        have s6 := Lib.hid (up_call (w := wr) (f := 41) (args := #[.agg #[.slice f.ma f.mems.length f.mcap, .slice f.la f.locks.length f.lcap, .slice (some ⟨g', 0, none⟩) f.funs.length cap], .int .i64 k, .agg #[.int .u8 y.op, .int .i64 y.r, .int .i64 y.a, .int .i64 y.b, .int .i64 y.n, .slice y.aa y.args.length y.acap]]) (fun V hb => hcy.out V hb))
                        clear hv hnoy hyesy hallm hcy hno hyes
                        go_upto_region 22 with fail
                        refine quiet_lit (C := fun V => ∃ U : UpW wr, V = U.val) (by kernel_rfl) (by kernel_rfl) ⟨⟨wr.drew, (Below.refl _ _).drew⟩, by show _ = wr.drew; rfl⟩ ?_
                        iterate 6 (quiet_step (fail))
                        quiet_step (exact s6.out _)
                        iterate 1 (quiet_step (fail))
                        refine wpQuiet_nil ?_
                        rintro U ⟨⟨_, hU⟩, rfl⟩
                        have hbU := Lib.hid (g6.out.trans (hU.mono g6.out.size))
                        clear hU s6 p0 p1 p2 v0 v1 v2 v3 v4 v5
                        go_wp2_with fail
                        go_ret
                        exact ⟨ret_bool (by rw [hmay.out, hfin.out]; rfl), hbU.out⟩
                      · rw [hv] at hcy
                        have hn2 : Hid ((z.code.take (m + 1)).all P = true) := Lib.hid (by rw [hyesy.out, hallm.out, hv]; rfl)
                        have s6 := Lib.hid (up_call (w := wr) (f := 41) (args := #[.agg #[.slice f.ma f.mems.length f.mcap, .slice f.la f.locks.length f.lcap, .slice (some ⟨g', 0, none⟩) f.funs.length cap], .int .i64 k, .agg #[.int .u8 y.op, .int .i64 y.r, .int .i64 y.a, .int .i64 y.b, .int .i64 y.n, .slice y.aa y.args.length y.acap]]) (fun V hb => hcy.out V hb))
                        clear hv hnoy hyesy hallm hcy
                        go_upto_region 22 with fail
                        refine quiet_lit (C := fun V => ∃ U : UpW wr, V = U.val) (by kernel_rfl) (by kernel_rfl) ⟨⟨wr.drew, (Below.refl _ _).drew⟩, by show _ = wr.drew; rfl⟩ ?_
                        iterate 6 (quiet_step (fail))
                        quiet_step (exact s6.out _)
                        iterate 1 (quiet_step (fail))
                        refine wpQuiet_nil ?_
                        rintro U ⟨⟨_, hU⟩, rfl⟩
                        have hbU := Lib.hid (hbm.out.trans (hU.mono hbm.out.size))
                        clear hU s6 p0 p1 p2 v0 v1 v2 v3 v4 v5
                        go_wp2_with fail
                        go_roundw
                        case rel => exact ⟨m + 1, by omega, by go_num, hn2, hbU⟩
                        case measure => simp [intOf]; omega
                    · have hmm : m = z.code.length := by omega
                      have hm1 : ¬ (m : Int) < (z.code.length : Int) := by omega
                      have hn2 : Hid ((x.blocks.take (n + 1)).all PB = true) := Lib.hid (by
                        rw [hyesz.out, halln.out, hPz.out]
                        have := hallm.out
                        rw [hmm, List.take_length] at this
                        rw [this]; rfl)
                      clear hallm hmm halln
                      go_wp2_with fail
                      go_roundw
                      case rel => exact ⟨n + 1, by omega, by go_num, hn2, hb6⟩
                      case measure => simp [intOf]; omega
                · have hnn : n = x.blocks.length := by omega
                  have hn1 : ¬ (n : Int) < (x.blocks.length : Int) := by omega
                  have hna : Hid (funsOk f 0 (f.funs.take (k + 1)) = true) := Lib.hid (by
                    rw [hyes.out, hall.out, hfo3.out]
                    have := halln.out
                    rw [hnn, List.take_length] at this
                    rw [this]; rfl)
                  have hOu6 := Lib.hid (hOu5.out.keep hbn.out)
                  have hown6 := Lib.hid (own_below hown5.out hbn.out)
                  have hbox6 := Lib.hid ((hbn.out.block _ (Array.getElem?_eq_some_iff.1 hbox5.out).1).trans hbox5.out)
                  clear halln hnn hall
                  go_wp2_with fail
                  go_roundw
                  case rel => exact ⟨k + 1, by omega, by go_num, l2, hl2n, hOu6, hown6, hna, hbox6, gn1⟩
                  case measure => simp [intOf]; omega
          · have hk2 : k = f.funs.length := by omega
            subst hk2
            rw [List.take_length] at hall
            clear hOu hown hbox
            go_wp2_with fail
            go_ret
            exact ⟨ret_bool (by rw [hmay.out, hall.out]; rfl), hbw.out⟩
end Go.Proofs.YtckmgefailclcaaDoor.Fw
