/- Walk of the document's Cut. Conditions: the instructions lie in memory, and lead to instructions; the last one is a jump or a return. -/
import Derived.Test.YthiiahlgncngoaaDoorRRJM14
set_option maxHeartbeats 16000000
set_option maxRecDepth 100000
set_option linter.unusedVariables false
set_option linter.unusedSimpArgs false
namespace Go.Proofs.YthiiahlgncngoaaDoorRR.Fw
open Go Go.RowKit
open Go.Proofs.YthiiahlgncngoaaDoorRR.Lx Go.Proofs.YthiiahlgncngoaaDoorRR.Tr Go.Proofs.YthiiahlgncngoaaDoorRR.Cd
open Go.Proofs.YthiiahlgncngoaaDoorRR.Vq Go.Proofs.YthiiahlgncngoaaDoorRR.Qr Go.Proofs.YthiiahlgncngoaaDoorRR.QrT Go.Proofs.YthiiahlgncngoaaDoorRR.QrP
theorem rcut_b (fs : Bool) (a : Option Addr) (cap : Nat) (l : List Ins) (w : World) (hrow : RowAt w Tt a cap l.length (Q8 l)) (hin : ∀ y ∈ l, Ins.In w Tt y) (h0 : 0 < l.length) (hl : l.length ≤ 65536) (hg : ∀ y ∈ l, (glP y).2 = true → 0 ≤ (glP y).1 ∧ (glP y).1 < (l.length : Int)) (hlast : Zv l = 11 ∨ Zv l = 13) (hmF : mkF 0 l 0 = fs) :
 Calls Tryd.prog 50 #[.slice a l.length cap] w fun e w' => ∃ g bs, e = .returned (.slice (some ⟨g, 0, none⟩) bs.length bs.length) ∧ CtP l l.length bs ∧ CtI (g + 1) g bs w' ∧ w.heap.size ≤ g ∧ Below w.heap.size w w' := by
 cases fs
 all_goals
  skip
  obtain ⟨hc1, hc2⟩ := Q2 hrow
  have hmks := rmarks_c a cap l w hrow hin (by omega) hg
  rw [hmF] at hmks
  replace hmks := Lh hmks
  have hR := Lh (fun V (hv : Below w.heap.size w V) => (row_old hrow).below (Kps.of_below hv))
  have hI := Lh (fun (x : Ins) V (hx : x ∈ l) (hv : Below w.heap.size w V) => (hin x hx).below (Kps.of_below hv))
  have hbl := begL_len l
  have hbp := begL_pos h0
  have hbn0 : True := trivial
  first
  | skip
    have hfs : mkF 0 l 0 = true := by first | exact hmF | exact hmF.out
    have hb0 : ((bgN l 0).length : Int) - 1 = 0 := by rw [bgN_zero, hmF]; rfl
  | skip
    have hfs : mkF 0 l 0 = false := by first | exact hmF | exact hmF.out
    have hb0 : ((bgN l 0).length : Int) - 1 = -1 := by rw [bgN_zero, hmF]; rfl
  replace hg := Lh hg
  replace hmF := Lh hmF
  clear hrow hin
  go_enter Tryd.func50, Tryd.ntmps50
  go_wp2_with fail
  refine hmks.out.mono ?_
  rintro e w1 ⟨gm, rfl, hgm, hM1, hb1⟩
  replace hb1 := Lh hb1
  have hmk : (Instr.makeSlice 40 (.int .i64 ((l.length : Int) + 1)) (.int .i64 ((l.length : Int) + 1))).run Tryd.prog w1 = .ok (.slice (some ⟨w1.heap.size, 0, none⟩) (l.length + 1) (l.length + 1)) (w1.alloc (.cells (Array.replicate (l.length + 1) (.int .i64 0)) 3)) := make_in (l.length + 1) (by omega) w1
  have hal := Qh w1 (.cells (Array.replicate (l.length + 1) (.int .i64 0)) 3)
  have hN0 := Lh ((InB.start w1 (l.length + 1)).cong (f' := fun i => if i < 0 then (posN l i : Int) else 0) (fun k _ => by simp))
  have hM2 := Lh (hM1.keep hal)
  have hb2 := Lh (hb1.out.trans (hal.mono hb1.out.size))
  have hl0 : l.length + 1 ≤ 9223372036854775807 := by omega
  have hgm1 := hM1.lt
  clear hmks hM1 hal
  go_wp2_with fail
  go_loopw [6, 7] (fun kv i wr => ∃ n : Nat, n ≤ l.length ∧ i = .int .i64 n ∧ kv = .int .i64 (((bgN l n).length : Int) - 1) ∧ Hid (InB w1.heap.size (l.length + 1) (fun i => if i < n then (posN l i : Int) else 0) wr) ∧ Hid (MkB gm (l.length + 1) (mkD l) wr) ∧ Hid (Below w.heap.size w wr)) (fun _ i _ => l.length - (intOf i).toNat)
  case atStart => exact ⟨0, Nat.zero_le _, rfl, by rw [hb0], hN0, hM2, hb2⟩
  case round =>
   clear hN0 hM2 hb2 hmk hb1
   obtain ⟨n, hn, rfl, rfl, hN, hM, hb⟩ := hrel
   by_cases hlt : n < l.length
   · obtain ⟨t1, t2⟩ := hM.out.get (show n < l.length + 1 by omega)
     obtain ⟨s1, s2⟩ := hN.out.get (show n < l.length + 1 by omega)
     have hgl := hM.out.lt
     have hnl := hN.out.lt
     have hbn := bgN_len l n
     have hi0' : (0 : Int) ≤ (n : Int) := by omega
     have hi1 : (n : Int) < (l.length : Int) + 1 := by omega
     have hi2 : (n : Int) < (l.length : Int) := by omega
     obtain ⟨hp1, hp2⟩ := pos_lt hlt
     have hM2 := Lh (hM.out.grown (Q9 wr w1.heap.size n (.int .i64 (posN l n : Int))) (fun e => by have := Option.some.inj e; omega))
     have hN2 := Lh (hN.out.set (show n < l.length + 1 by omega) (posN l n : Int) (fun i => if i < n + 1 then (posN l i : Int) else 0) (fun i _ => by
      by_cases e : i = n
      · subst e; rw [if_pos (by omega), if_pos rfl]
      · rw [if_neg e]
        by_cases e2 : i < n
        · rw [if_pos e2, if_pos (by omega)]
        · rw [if_neg e2, if_neg (by omega)]))
     have hb2 := Lh (hb.out.setCell (p := ⟨w1.heap.size, n, none⟩) (show w.heap.size ≤ w1.heap.size by omega) (.int .i64 (posN l n : Int)))
     cases hmk' : mkD l n
     · rw [hmk'] at t1
       have hq : bgN l (n + 1) = bgN l n := bgN_no (by rw [mkD_b]; exact hmk')
       have hv : ((bgN l n).length : Int) - 1 = (posN l n : Int) := by rw [hq] at hp2; omega
       have hv2 := Lh (show ((bgN l (n + 1)).length : Int) - 1 = (posN l n : Int) by rw [hq]; exact hv)
       clear hN hM hb hq hmk'
       rw [hv]
       go_wp2_with fail
       go_roundw
       case rel => exact ⟨n + 1, by omega, by go_num, by rw [hv2.out], hN2, hM2, hb2⟩
       case measure => simp [intOf]; omega
     · rw [hmk'] at t1
       have hq : (bgN l (n + 1)).length = (bgN l n).length + 1 := by rw [bgN_yes (k := n) (by rw [mkD_b]; exact hmk')]; simp
       have hv : ((bgN l n).length : Int) - 1 = (posN l n : Int) - 1 := by omega
       have hv2 := Lh (show ((bgN l (n + 1)).length : Int) - 1 = (posN l n : Int) by omega)
       clear hN hM hb hq hmk'
       rw [hv]
       go_wp2_with fail
       go_roundw
       case rel => exact ⟨n + 1, by omega, by go_num, by rw [hv2.out], hN2, hM2, hb2⟩
       case measure => simp [intOf]; omega
   · have hk2 : n = l.length := by omega
     subst hk2
     have hv : ((bgN l l.length).length : Int) - 1 = ((begL l).length : Int) - 1 := rfl
     have hw : ((begL l).length : Int) - 1 + 1 = ((begL l).length : Int) := by omega
     have hBl : (begL l).length ≤ 65537 := by omega
     have hmk2 := make_bk (begL l).length (by omega) wr
     have hbs0 : Hid (∀ (j : Nat) (x : Bk), (List.replicate (begL l).length Bk0)[j]? = some x → x = Bk0) := Lh (fun j x hx => by
      rw [List.getElem?_replicate] at hx
      split at hx
      · cases hx; rfl
      · cases hx)
     have hal := Qh wr (.cells ⟨Qu (List.replicate (begL l).length Bk0)⟩ 42)
     have hC0 : Hid (CtI (wr.heap.size + 1) wr.heap.size (List.replicate (begL l).length Bk0) (wr.alloc (.cells ⟨Qu (List.replicate (begL l).length Bk0)⟩ 42))) := Lh
      ⟨OwnB.start wr _, fun j x hx => (by rw [hbs0.out j x hx]; exact World.ownsRow_nil _ _ _ _), fun j x hx => (by rw [hbs0.out j x hx]; exact World.ownsRow_nil _ _ _ _),
       fun i j x y _ hx hy q hq => (by rw [hbs0.out j y hy] at hq; cases hq), fun i j x y _ hx hy q hq => (by rw [hbs0.out j y hy] at hq; cases hq)⟩
     have hM2 := Lh (hM.out.keep hal)
     have hN2 := Lh (hN.out.keep hal)
     have hb2 := Lh (hb.out.trans (hal.mono hb.out.size))
     have hgw : gm < wr.heap.size := hM.out.lt
     have hnw : w1.heap.size < wr.heap.size := hN.out.lt
     have hww := hb.out.size
     clear hN hM hb hal hb0 hbn0
     rw [hv]
     go_upto_region 13 with fail
     generalize hgb : wr.heap.size = gb at *
     have hgl2 : gb < (wr.alloc (.cells ⟨Qu (List.replicate (begL l).length Bk0)⟩ 42)).heap.size := by simp; omega
     generalize hW2 : wr.alloc (.cells ⟨Qu (List.replicate (begL l).length Bk0)⟩ 42) = W2 at *
     clear hW2 hgb hmk2
     first
     | skip
       have hfs : mkF 0 l 0 = true := by first | exact hmF | exact hmF.out
       have hx0 : (List.replicate (begL l).length Bk0)[0]? = some Bk0 := by rw [List.getElem?_replicate, if_pos hbp]
       have ho1 : (W2.alloc (.cells #[.int .i64 1] 3)).ownsRow (gb + 1) 3 1 (.slice (some ⟨W2.heap.size, 0, none⟩) 1 1) (Bk0.tt.length + 1) (Qc Bk0.tt ++ [.int .i64 1]) :=
        ⟨rfl, .inr ⟨W2.heap.size, 1, #[.int .i64 1], rfl, by omega, Qt _ _ rfl, Nat.le_refl _, by unfold maxLen; decide, rfl, rfl⟩⟩
       obtain ⟨ta, tc, hte, hC1⟩ := hC0.out.addTo hx0 (World.grownBy_alloc W2 (.cells #[.int .i64 1] 3) _) ho1 (.inr rfl)
       have hal2 := Qh W2 (.cells #[.int .i64 1] 3)
       obtain ⟨f0, f1, f2, f3⟩ := hC0.out.own.get (by rw [List.length_replicate]; unfold maxLen; omega) hx0
       have ff := hC0.out.own.free (0 * 4 + 3)
       have hCP : Hid (∃ bs, CtP l 0 bs ∧ CtI (gb + 1) gb bs ((W2.alloc (.cells #[.int .i64 1] 3)).setCell ⟨gb, 0 * 4 + 3, none⟩ (.slice (some ⟨W2.heap.size, 0, none⟩) 1 1))) := Lh ⟨_, CtP.start h0 (by simp) (fun j y hy => by
        rcases Xs hx0 hy with ⟨rfl, rfl⟩ | ⟨e, hy'⟩
        · exact ⟨rfl, ⟨rfl, rfl, rfl⟩, ⟨rfl, rfl, rfl⟩, by rw [if_pos ⟨rfl, hmF.out⟩]; rfl⟩
        · rw [hbs0.out j y hy']
          exact ⟨rfl, ⟨rfl, rfl, rfl⟩, ⟨rfl, rfl, rfl⟩, by rw [if_neg (fun h => e h.1)]; rfl⟩), hC1⟩
       have hgs := Q9 (W2.alloc (.cells #[.int .i64 1] 3)) gb (0 * 4 + 3) (.slice (some ⟨W2.heap.size, 0, none⟩) 1 1)
       have hN3 := Lh ((hN2.out.keep hal2).grown hgs (fun e => by have := Option.some.inj e; omega))
       have hM3 := Lh ((hM2.out.keep hal2).grown hgs (fun e => by have := Option.some.inj e; omega))
       have hb3 := Lh ((hb2.out.trans (hal2.mono hb2.out.size)).setCell (p := ⟨gb, 0 * 4 + 3, none⟩) (show w.heap.size ≤ gb by omega) (.slice (some ⟨W2.heap.size, 0, none⟩) 1 1))
       have hbz : (0 : Int) < ((begL l).length : Int) := by omega
       rw [World.setCell_alloc_past (w := W2) (.cells #[.int .i64 1] 3) _ _ _ hgl2] at hCP hN3 hM3 hb3
       rw [show (0 * 4 + 3 : Nat) = 3 from rfl] at hCP hN3 hM3 hb3 f3 ff
       clear hC0 hN2 hM2 hb2 hC1 ho1 hal2 hgs f0 f1 f2 hx0 hte
       go_upto_region 15 with fail
       generalize (W2.setCell ⟨gb, 3, none⟩ (.slice (some ⟨W2.heap.size, 0, none⟩) 1 1)).alloc (.cells #[.int .i64 1] 3) = W3 at *
       clear f3 ff
     | skip
       have hfs : mkF 0 l 0 = false := by first | exact hmF | exact hmF.out
       have hCP : Hid (∃ bs, CtP l 0 bs ∧ CtI (gb + 1) gb bs W2) := Lh ⟨_, CtP.start h0 (by simp) (fun j y hy => by
        rw [hbs0.out j y hy]
        exact ⟨rfl, ⟨rfl, rfl, rfl⟩, ⟨rfl, rfl, rfl⟩, by rw [if_neg (fun h => by have := hmF.out; rw [h.2] at this; cases this)]; rfl⟩), hC0.out⟩
       have hN3 := hN2
       have hM3 := hM2
       have hb3 := hb2
       clear hC0 hN2 hM2 hb2
     go_wp2_with fail
     have hrep : (begL l).length ≤ 65537 := hBl
     go_loopw [9] (fun i wq => ∃ n : Nat, n ≤ l.length ∧ i = .int .i64 n ∧ Hid (∃ bs, CtP l n bs ∧ CtI (gb + 1) gb bs wq) ∧ Hid (InB w1.heap.size (l.length + 1) (fun i => if i < l.length then (posN l i : Int) else 0) wq) ∧ Hid (MkB gm (l.length + 1) (mkD l) wq) ∧ Hid (Below w.heap.size w wq)) (fun i _ => l.length - (intOf i).toNat)
     case atStart => exact ⟨0, Nat.zero_le _, rfl, hCP, hN3, hM3, hb3⟩
     case round =>
      clear hCP hN3 hM3 hb3
      obtain ⟨n, hn, rfl, hC, hN, hM, hb⟩ := hrel
      by_cases hlt : n < l.length
      · obtain ⟨xi, hxi⟩ : ∃ x, l[n]? = some x := ⟨_, List.getElem?_eq_getElem hlt⟩
        have hxm := List.mem_of_getElem? hxi
        obtain ⟨b, off, ha, ⟨_, hbx⟩, c0, c1, c2, c3, c4, c5⟩ := X1 (hR.out _ hb.out) n xi hxi
        have hbl : b < wr.heap.size := World.block_lt_of_cell? _ _ c0
        have hi0' : (0 : Int) ≤ (n : Int) := by omega
        have hi1 : (n : Int) < (l.length : Int) := by omega
        have hi2 : (n : Int) < (l.length : Int) + 1 := by omega
        have hn1 : n + 1 < l.length + 1 := by omega
        obtain ⟨hpl, _⟩ := pos_lt hlt
        have hpi : (posN l n : Int) < ((begL l).length : Int) := by omega
        have hpi0 : (0 : Int) ≤ (posN l n : Int) := by omega
        obtain ⟨bs, hP, hCt⟩ := hC.out
        obtain ⟨xb, hxb⟩ : ∃ x, bs[posN l n]? = some x := ⟨_, List.getElem?_eq_getElem (by rw [hP.len]; exact hpl)⟩
        have htt := Lh (hP.tt_old hlt hxb)
        have htl : xb.tt.length ≤ 65536 := by rw [htt.out]; exact Nat.zero_le _
        have hcl : xb.code.length ≤ 65536 := by have := hP.code_le hxb; omega
        have hbsl : bs.length ≤ 65537 := by rw [hP.len]; exact hrep
        have hpj : posN l n < bs.length := (List.getElem?_eq_some_iff.1 hxb).1
        have hwb := hb.out.size
        have hgq : gb < wr.heap.size := hCt.own.lt
        have hxq := Lh (fun (k : Nat) (e : (cdV xb).ownBlock = some k) => (Nat.ne_of_lt ((hCt.code _ _ hxb).lt k e).2 : k ≠ wr.heap.size))
        have hal := Lh (Qh wr (.cells #[.int .u8 xi.op, .int .i64 xi.r, .int .i64 xi.a, .int .i64 xi.b, .int .i64 xi.n, .slice xi.aa xi.args.length xi.acap] 44))
        have hG := Lh (fun V => rgoal_any xi V (hI.out xi wr hxm hb.out).n)
        have hbox0 : Hid ((wr.alloc (.cells #[.int .u8 xi.op, .int .i64 xi.r, .int .i64 xi.a, .int .i64 xi.b, .int .i64 xi.n, .slice xi.aa xi.args.length xi.acap] 44)).heap[wr.heap.size]? = some (.cells ⟨xi.vals⟩ 44 (0, 0))) := Lh (Qt _ _ rfl)
        replace hxb := Lh hxb
        replace hP := Lh hP
        replace hxi := Lh hxi
        replace hCt := Lh hCt
        have hgxi := Lh (hg.out xi hxm)
        obtain ⟨fnn, hfn⟩ : ∃ f : Nat → Int, Hid (f = fun i => if i < l.length then (posN l i : Int) else 0) := ⟨_, Lh rfl⟩
        rw [← hfn.out] at hN
        have hn0 : fnn n = (posN l n : Int) := by rw [hfn.out]; exact if_pos hlt
        unfold Ins.val at hG
        clear hxm hR hI hg hC
        subst ha
        go_upto_region 19 with fail
        generalize wr.alloc (.cells #[.int .u8 xi.op, .int .i64 xi.r, .int .i64 xi.a, .int .i64 xi.b, .int .i64 xi.n, .slice xi.aa xi.args.length xi.acap] 44) = W4 at *
        clear c0 c1 c2 c3 c4 c5
        have b0 := Qk hbox0.out (j := 0) rfl
        have b1 := Qk hbox0.out (j := 1) rfl
        have b2 := Qk hbox0.out (j := 2) rfl
        have b3 := Qk hbox0.out (j := 3) rfl
        have b4 := Qk hbox0.out (j := 4) rfl
        have b5 := Qk hbox0.out (j := 5) rfl
        by_cases hop : xi.op = 11
        · skip
          obtain ⟨hq0, hq1⟩ := hgxi.out (by rw [gl_op, if_pos (by omega)])
          obtain ⟨gn, hgn⟩ : ∃ g : Nat, (g : Int) = (glP xi).1 := ⟨(glP xi).1.toNat, by omega⟩
          rw [← hgn] at hq0 hq1
          have hgp : glP xi = ((gn : Int), true) := Prod.ext hgn.symm (by show (glP xi).2 = true; rw [gl_op, if_pos (by omega)])
          have hgl : gn < l.length := by omega
          have hgy : fnn gn = (posN l gn : Int) := by rw [hfn.out]; exact if_pos hgl
          have hgm2 : (gn : Int) < (l.length : Int) + 1 := by omega
          rw [hgp] at hG
          replace hgp := Lh hgp
          clear hgxi hgn
          go_wp2_with fail
          refine (hG.out W4).mono ?_
          rintro e w5 ⟨rfl, hb5⟩
          have hl4 := (Array.getElem?_eq_some_iff.1 hbox0.out).1
          have hbox5 := (hb5.block _ hl4).trans hbox0.out
          have hbw5 := hal.out.trans (hb5.mono hal.out.size)
          clear hG hb5 hal hbox0 b0 b1 b2 b3 b4 b5
          have hbox6 := Lh (show (w5.setCell ⟨wr.heap.size, 4, none⟩ (.int .i64 0)).heap[wr.heap.size]? = some (.cells ⟨(Zs xi).vals⟩ 44 (0, 0)) from by rw [bare_goes hgp.out, Qy hbox5]; rfl)
          have hb6 := Lh (hbw5.setCell (p := ⟨wr.heap.size, 4, none⟩) (Nat.le_refl _) (.int .i64 0))
          have d4 := Qd hbox5 4
          have d5 := Qk hbox5 (j := 4) rfl
          obtain ⟨s1, s2⟩ := (hN.out.keep hb6.out).get (show n < l.length + 1 by omega)
          rw [hn0] at s1
          replace hbox5 := Lh hbox5
          replace hbw5 := Lh hbw5
          go_upto_region 23 with fail
          generalize w5.setCell ⟨wr.heap.size, 4, none⟩ (.int .i64 0) = W6 at *
          clear hbox5 hbw5 d4 d5 s1 s2
          have hC23 : Hid (C9 (gb + 1) gb gm w1.heap.size wr.heap.size (l.length + 1) w bs (Zs xi) (mkD l) fnn false W6) := Lh ⟨hb.out.trans (hb6.out.mono hb.out.size), hbox6.out, hM.out.keep hb6.out, hN.out.keep hb6.out, hCt.out.own.keep hb6.out, fun _ => hCt.out.keep hb6.out⟩
          clear hbox6 hb6 hb hM hN hCt hn0
          generalize wr.heap.size = q at *
          refine Zl (P := Tryd.prog) 7 (C := fun t V => C9 (gb + 1) gb gm w1.heap.size q (l.length + 1) w bs (Zs xi) (mkD l) fnn t V) (E := Ext) (EP := fun _ _ => True) (R := fun t i => (rcA (gb + 1) gb (posN l n) bs xb (Zs xi) t).getD i VT) (by kernel_rfl) (hC23.out.keep ((Below.refl _ _).drew)) (by kernel_rfl) (fun t i v w' w'' _ hE h => Zr _ i rcA_mono v w' w'' hE h) (fun i v w' w'' hi _ _ h => rcA_on i v w' w'' hi h) (m := 10) (by omega) rfl rfl rfl (by kernel_rfl) ?_ rfl ?_ ?_
          next =>
           refine X0 7 10 (fun t => ?_) (fun t => ?_)
           · skip
             refine Qa (Ql fun a W hC hs => ?_) ?_
             · have h1 := Qo hs 13 (by kernel_rfl) (by rfl)
               exact ⟨Qb rfl, _, Qw (.inl rfl) (ev h1), rfl⟩
             refine Qa (Ql fun a W hC hs => ?_) ?_
             · have h1 := Qo hs 13 (by kernel_rfl) (by rfl)
               exact ⟨Qb rfl, _, Qw (.inl rfl) (ev h1), rfl⟩
             refine Qa (Ql fun a W hC hs => ?_) ?_
             · obtain ⟨va, hva, hRa⟩ := Qf hs 1 72 (by kernel_rfl) (by rfl)
               replace hRa : va = _ := hRa
               subst hRa
               exact ⟨Qb rfl, _, Xx rfl (ev hva), rfl⟩
             refine Qa (Ql fun a W hC hs => ?_) ?_
             · obtain ⟨va, hva, hRa⟩ := Qf hs 2 73 (by kernel_rfl) (by rfl)
               replace hRa : va = _ := hRa
               subst hRa
               exact ⟨Qb rfl, _, Q4 rfl (ev hva) fl_c1, rfl⟩
             refine Qa (Ql fun a W hC hs => ?_) ?_
             · obtain ⟨va, hva, hRa⟩ := Qf hs 3 74 (by kernel_rfl) (by rfl)
               replace hRa : va = _ := hRa
               subst hRa
               exact ⟨Qb rfl, _, Qz rfl (ev hva) (ld_ins0 (hC.own.get (by unfold maxLen; omega) hxb.out).2.1), rfl⟩
             refine Qa (Ql fun a W hC hs => ?_) ?_
             · have h1 := Qo hs 10 (by kernel_rfl) (by rfl)
               exact ⟨Qb rfl, _, Qz rfl (ev h1) (ld_insV hC.box), rfl⟩
             refine Qa (s_new fun a W hC hs => ?_) ?_
             · obtain ⟨va, hva, hRa⟩ := Qf hs 5 76 (by kernel_rfl) (by rfl)
               replace hRa : va = _ := hRa
               subst hRa
               refine ⟨Qb rfl, _, _, run_bs (qs := #[(0, .agg ⟨(Zs xi).vals⟩)]) rfl (by simp [ev hva]) (mk_ins1 W _), hC.keep (Qh _ _), Qh _ _, ?_⟩
               cases t
               · exact ⟨_, rfl, Qt _ _ rfl⟩
               · trivial
             exact Qx
           · skip
             refine Qa (Ql fun a W hC hs => ?_) ?_
             · obtain ⟨va, hva, hRa⟩ := Qf hs 0 71 (by kernel_rfl) (by rfl)
               replace hRa : va = _ := hRa
               subst hRa
               exact ⟨Qb rfl, _, Xx rfl (ev hva), rfl⟩
             refine Qa (Ql fun a W hC hs => ?_) ?_
             · obtain ⟨va, hva, hRa⟩ := Qf hs 8 79 (by kernel_rfl) (by rfl)
               replace hRa : va = _ := hRa
               subst hRa
               exact ⟨Qb rfl, _, Q4 rfl (ev hva) fl_c1, rfl⟩
             exact Qx
          next =>
           intro a W hC hs
           obtain ⟨va, hva, hRa⟩ := Qf hs 4 75 (by kernel_rfl) (by rfl)
           replace hRa : va = _ := hRa
           subst hRa
           obtain ⟨vb, hvb, hRb⟩ := Qf hs 6 77 (by kernel_rfl) (by rfl)
           obtain ⟨qs, rfl, hqs⟩ : VSI (Zs xi) vb W := hRb
           obtain ⟨i0, z0, hi0, hz0, hz1, hz2, hz3⟩ := info_ins1
           have hct := hC.ct rfl
           have hrw := hct.code _ _ hxb.out
           refine ⟨Qb rfl, p_app1 (t := 39) (e := 44) rfl (by kernel_rfl) hi0 hz0 hz1 hz2 hz3 (by decide) (ev hva) (ev hvb) hrw rfl hqs (ins_ones _) (by omega) (by omega) (by have := hC.own.lt; omega) fun v' w' k1 k2 k3 => ?_⟩
           obtain ⟨na, nc, rfl, hnew⟩ := hct.addCode hxb.out k2 k1 k3
           exact ⟨hC.app k2 (fun k e => ⟨(hrw.lt k e).1, hxq.out k e⟩) (by omega) (by omega) (by omega) (by omega), trivial, _, rfl, na, nc, rfl, Xg hct.own k2 (Zb hrw hct.own.ex (by decide)), hnew⟩
          intro σ V23 hCV hRV
          generalize hF : Q6 _ _ _ _ _ = F
          simp [Q6, dstOf, List.range, List.range.loop, Act.put] at hF
          subst hF
          obtain ⟨na23, nc23, hv9, ho9, hct9⟩ : VApI (gb + 1) gb bs (posN l n) xb (Zs xi) (σ 7) V23 := hRV 7 (by simp)
          have hp9 : σ 9 = .pointer (some ⟨gb, posN l n * 4 + 1, none⟩) := hRV 9 (by simp)
          obtain ⟨f0, f1, f2, f3⟩ := ho9.get (by unfold maxLen; omega) hxb.out
          have ff := ho9.free (posN l n * 4 + 1)
          have hC24 := Lh (hCV.put hct9 (by omega))
          refine wp_storeI (v := σ 7) rfl rfl hp9 rfl ⟨_, _, _, hv9⟩ f1 ff ?_
          clear hRV hCV hp9 ho9 hct9 hv9 f0 f1 f2 f3 ff
          generalize V23.setCell ⟨gb, posN l n * 4 + 1, none⟩ (σ 7) = W24 at *
          clear V23
          generalize σ 0 = z23_0
          generalize σ 1 = z23_1
          generalize σ 2 = z23_2
          generalize σ 3 = z23_3
          generalize σ 4 = z23_4
          generalize σ 5 = z23_5
          generalize σ 6 = z23_6
          generalize σ 7 = z23_7
          generalize σ 8 = z23_8
          generalize σ 9 = z23_9
          obtain ⟨xb1, hx1⟩ : ∃ x : Bk, Hid (x = { xb with ca := na23, ccap := nc23, code := xb.code ++ [Zs xi] }) := ⟨_, Lh rfl⟩
          rw [← hx1.out] at hC24
          have htt1 : xb1.tt = xb.tt := by rw [hx1.out]
          have htl1 : xb1.tt.length ≤ 65536 := by rw [htt1]; exact htl
          have hbsl1 : (bs.set (posN l n) xb1).length ≤ 65537 := by rw [List.length_set]; exact hbsl
          have hxb1 : Hid ((bs.set (posN l n) xb1)[posN l n]? = some xb1) := Lh (List.getElem?_set_self hpj)
          replace htt1 := Lh htt1
          obtain ⟨m1, m2⟩ := hC24.out.mks.get hn1
          have o0 : W24.cell? ⟨q, 0, none⟩ = some (.int .u8 xi.op) := Qk hC24.out.box (j := 0) rfl
          have hk2 : (n : Int) + 1 < (l.length : Int) + 1 := by omega
          have hk3 : ((n : Int) + 1).toNat = n + 1 := by omega
          have hk4 : (0 : Int) ≤ (n : Int) + 1 := by omega
          rw [show mkD l (n + 1) = true from mk_end hxi.out (by rw [hop]; rfl)] at m1
          rw [hop] at o0
          go_upto_region 28 with fail
          clear m1 m2 o0
          have hC28 := hC24
          clear hC24
          refine Zl (P := Tryd.prog) 10 (C := fun t V => C9 (gb + 1) gb gm w1.heap.size q (l.length + 1) w (bs.set (posN l n) xb1) (Zs xi) (mkD l) fnn t V) (E := Ext) (EP := fun _ _ => True) (R := fun t i => (rcC (gb + 1) gb (posN l n) w1.heap.size (l.length + 1) gn (bs.set (posN l n) xb1) xb1 ((posN l gn : Int)) t).getD i VT) (by kernel_rfl) (hC28.out.keep ((Below.refl _ _).drew)) (by kernel_rfl) (fun t i v w' w'' _ hE h => Zr _ i rcC_mono v w' w'' hE h) (fun i v w' w'' hi _ _ h => rcC_on i v w' w'' hi h) (m := 13) (by omega) rfl rfl rfl (by kernel_rfl) ?_ rfl ?_ ?_
          next =>
           refine X0 10 13 (fun t => ?_) (fun t => ?_)
           · skip
             refine Qa (Ql fun a W hC hs => ?_) ?_
             · have h1 := Qo hs 13 (by kernel_rfl) (by rfl)
               exact ⟨Qb rfl, _, Qw (.inl rfl) (ev h1), rfl⟩
             refine Qa (Ql fun a W hC hs => ?_) ?_
             · have h1 := Qo hs 13 (by kernel_rfl) (by rfl)
               exact ⟨Qb rfl, _, Qw (.inl rfl) (ev h1), rfl⟩
             refine Qa (Ql fun a W hC hs => ?_) ?_
             · obtain ⟨va, hva, hRa⟩ := Qf hs 1 117 (by kernel_rfl) (by rfl)
               replace hRa : va = _ := hRa
               subst hRa
               exact ⟨Qb rfl, _, Xx rfl (ev hva), rfl⟩
             refine Qa (Ql fun a W hC hs => ?_) ?_
             · obtain ⟨va, hva, hRa⟩ := Qf hs 2 118 (by kernel_rfl) (by rfl)
               replace hRa : va = _ := hRa
               subst hRa
               exact ⟨Qb rfl, _, Q4 rfl (ev hva) fl_c3, rfl⟩
             refine Qa (Ql fun a W hC hs => ?_) ?_
             · obtain ⟨va, hva, hRa⟩ := Qf hs 3 119 (by kernel_rfl) (by rfl)
               replace hRa : va = _ := hRa
               subst hRa
               exact ⟨Qb rfl, _, Qz rfl (ev hva) (ld_int0 (hC.own.get (by unfold maxLen; omega) hxb1.out).2.2.2), rfl⟩
             refine Qa (Ql fun a W hC hs => ?_) ?_
             · have h1 := Qo hs 5 (by kernel_rfl) (by rfl)
               exact ⟨Qb rfl, _, Qw (.inl rfl) (ev h1), rfl⟩
             refine Qa (Ql fun a W hC hs => ?_) ?_
             · have h1 := Qo hs 11 (by kernel_rfl) (by rfl)
               exact ⟨Qb rfl, _, Qw (.inl rfl) (ev h1), rfl⟩
             refine Qa (Ql fun a W hC hs => ?_) ?_
             · obtain ⟨va, hva, hRa⟩ := Qf hs 5 121 (by kernel_rfl) (by rfl)
               replace hRa : va = _ := hRa
               subst hRa
               obtain ⟨vb, hvb, hRb⟩ := Qf hs 6 122 (by kernel_rfl) (by rfl)
               replace hRb : vb = _ := hRb
               subst hRb
               exact ⟨Qb rfl, _, run_ixB rfl (ev hva) (ev hvb) (ix_intN (show gn < l.length + 1 by omega)), rfl⟩
             refine Qa (Ql fun a W hC hs => ?_) ?_
             · obtain ⟨va, hva, hRa⟩ := Qf hs 7 123 (by kernel_rfl) (by rfl)
               replace hRa : va = _ := hRa
               subst hRa
               exact ⟨Qb rfl, _, Qz rfl (ev hva) (ld_intV (by rw [(hC.nb.get (show gn < l.length + 1 by omega)).1]; exact congrArg (fun z => some (Value.int .i64 z)) hgy)), rfl⟩
             refine Qa (s_new fun a W hC hs => ?_) ?_
             · obtain ⟨va, hva, hRa⟩ := Qf hs 8 124 (by kernel_rfl) (by rfl)
               replace hRa : va = _ := hRa
               subst hRa
               refine ⟨Qb rfl, _, _, run_bs (qs := #[(0, .int .i64 ((posN l gn : Int)))]) rfl (by simp [ev hva]) (mk_int1 W _), hC.keep (Qh _ _), Qh _ _, ?_⟩
               cases t
               · exact ⟨_, rfl, Qt _ _ rfl⟩
               · trivial
             exact Qx
           · skip
             refine Qa (Ql fun a W hC hs => ?_) ?_
             · obtain ⟨va, hva, hRa⟩ := Qf hs 0 116 (by kernel_rfl) (by rfl)
               replace hRa : va = _ := hRa
               subst hRa
               exact ⟨Qb rfl, _, Xx rfl (ev hva), rfl⟩
             refine Qa (Ql fun a W hC hs => ?_) ?_
             · obtain ⟨va, hva, hRa⟩ := Qf hs 11 127 (by kernel_rfl) (by rfl)
               replace hRa : va = _ := hRa
               subst hRa
               exact ⟨Qb rfl, _, Q4 rfl (ev hva) fl_c3, rfl⟩
             exact Qx
          next =>
           intro a W hC hs
           obtain ⟨va, hva, hRa⟩ := Qf hs 4 120 (by kernel_rfl) (by rfl)
           replace hRa : va = _ := hRa
           subst hRa
           obtain ⟨vb, hvb, hRb⟩ := Qf hs 9 125 (by kernel_rfl) (by rfl)
           obtain ⟨qs, rfl, hqs⟩ : VSN ((posN l gn : Int)) vb W := hRb
           obtain ⟨i0, z0, hi0, hz0, hz1, hz2, hz3⟩ := info_int1
           have hct := hC.ct rfl
           have hrw := hct.to _ _ hxb1.out
           refine ⟨Qb rfl, p_app1 (t := 40) (e := 3) rfl (by kernel_rfl) hi0 hz0 hz1 hz2 hz3 (by decide) (ev hva) (ev hvb) hrw rfl hqs (one_int _) (by omega) (by omega) (by have := hC.own.lt; omega) fun v' w' k1 k2 k3 => ?_⟩
           obtain ⟨na, nc, rfl, hnew⟩ := hct.addTo hxb1.out k2 k1 k3
           exact ⟨hC.app k2 (fun k e => ⟨(hrw.lt k e).1, fun e' => Zb hrw hC.box (by decide) (e.trans (congrArg some e'))⟩) (by omega) (by omega) (by omega) (by omega), trivial, _, rfl, na, nc, rfl, Xg hct.own k2 (Zb hrw hct.own.ex (by decide)), hnew⟩
          intro σ V28 hCV hRV
          generalize hF : Q6 _ _ _ _ _ = F
          simp [Q6, dstOf, List.range, List.range.loop, Act.put] at hF
          subst hF
          obtain ⟨na28, nc28, hv9, ho9, hct9⟩ : VApT (gb + 1) gb (bs.set (posN l n) xb1) (posN l n) xb1 ((posN l gn : Int)) (σ 10) V28 := hRV 10 (by simp)
          have hp9 : σ 12 = .pointer (some ⟨gb, posN l n * 4 + 3, none⟩) := hRV 12 (by simp)
          obtain ⟨f0, f1, f2, f3⟩ := ho9.get (by unfold maxLen; omega) hxb1.out
          have ff := ho9.free (posN l n * 4 + 3)
          have hC29 := Lh (hCV.put hct9 (by omega))
          refine wp_storeN (v := σ 10) rfl rfl hp9 rfl ⟨_, _, _, hv9⟩ f3 ff ?_
          clear hRV hCV hp9 ho9 hct9 hv9 f0 f1 f2 f3 ff
          generalize V28.setCell ⟨gb, posN l n * 4 + 3, none⟩ (σ 10) = W29 at *
          clear V28
          generalize σ 0 = z28_0
          generalize σ 1 = z28_1
          generalize σ 2 = z28_2
          generalize σ 3 = z28_3
          generalize σ 4 = z28_4
          generalize σ 5 = z28_5
          generalize σ 6 = z28_6
          generalize σ 7 = z28_7
          generalize σ 8 = z28_8
          generalize σ 9 = z28_9
          generalize σ 10 = z28_10
          generalize σ 11 = z28_11
          generalize σ 12 = z28_12
          obtain ⟨xb3, hx3⟩ : ∃ x : Bk, Hid (x = { xb1 with ta := na28, tcap := nc28, tt := xb1.tt ++ [(posN l gn : Int)] }) := ⟨_, Lh rfl⟩
          rw [← hx3.out, List.set_set] at hC29
          go_wp2_with fail
          go_roundw
          case rel => exact ⟨n + 1, by omega, by go_num, Lh ⟨_, hP.out.one (T := xb1.tt ++ [(posN l gn : Int)]) hlt hxi.out hxb.out (by rw [hx3.out, hx1.out]) (by rw [htt1.out, htt.out]; exact tt_jump hlt hxi.out hop hgp.out hgl), hC29.out.ct rfl⟩, Lh (by have h := hC29.out.nb; rw [hfn.out] at h; exact h), Lh hC29.out.mks, Lh hC29.out.below⟩
          case measure => simp [intOf]; omega
        have h11 := hop
        clear hop
        by_cases hop : xi.op = 12
        · skip
          clear h11
          obtain ⟨hq0, hq1⟩ := hgxi.out (by rw [gl_op, if_pos (by omega)])
          obtain ⟨gn, hgn⟩ : ∃ g : Nat, (g : Int) = (glP xi).1 := ⟨(glP xi).1.toNat, by omega⟩
          rw [← hgn] at hq0 hq1
          have hgp : glP xi = ((gn : Int), true) := Prod.ext hgn.symm (by show (glP xi).2 = true; rw [gl_op, if_pos (by omega)])
          have hgl : gn < l.length := by omega
          have hgy : fnn gn = (posN l gn : Int) := by rw [hfn.out]; exact if_pos hgl
          have hgm2 : (gn : Int) < (l.length : Int) + 1 := by omega
          rw [hgp] at hG
          replace hgp := Lh hgp
          clear hgxi hgn
          go_wp2_with fail
          refine (hG.out W4).mono ?_
          rintro e w5 ⟨rfl, hb5⟩
          have hl4 := (Array.getElem?_eq_some_iff.1 hbox0.out).1
          have hbox5 := (hb5.block _ hl4).trans hbox0.out
          have hbw5 := hal.out.trans (hb5.mono hal.out.size)
          clear hG hb5 hal hbox0 b0 b1 b2 b3 b4 b5
          have hbox6 := Lh (show (w5.setCell ⟨wr.heap.size, 4, none⟩ (.int .i64 0)).heap[wr.heap.size]? = some (.cells ⟨(Zs xi).vals⟩ 44 (0, 0)) from by rw [bare_goes hgp.out, Qy hbox5]; rfl)
          have hb6 := Lh (hbw5.setCell (p := ⟨wr.heap.size, 4, none⟩) (Nat.le_refl _) (.int .i64 0))
          have d4 := Qd hbox5 4
          have d5 := Qk hbox5 (j := 4) rfl
          obtain ⟨s1, s2⟩ := (hN.out.keep hb6.out).get (show n < l.length + 1 by omega)
          rw [hn0] at s1
          replace hbox5 := Lh hbox5
          replace hbw5 := Lh hbw5
          go_upto_region 23 with fail
          generalize w5.setCell ⟨wr.heap.size, 4, none⟩ (.int .i64 0) = W6 at *
          clear hbox5 hbw5 d4 d5 s1 s2
          have hC23 : Hid (C9 (gb + 1) gb gm w1.heap.size wr.heap.size (l.length + 1) w bs (Zs xi) (mkD l) fnn false W6) := Lh ⟨hb.out.trans (hb6.out.mono hb.out.size), hbox6.out, hM.out.keep hb6.out, hN.out.keep hb6.out, hCt.out.own.keep hb6.out, fun _ => hCt.out.keep hb6.out⟩
          clear hbox6 hb6 hb hM hN hCt hn0
          generalize wr.heap.size = q at *
          refine Zl (P := Tryd.prog) 7 (C := fun t V => C9 (gb + 1) gb gm w1.heap.size q (l.length + 1) w bs (Zs xi) (mkD l) fnn t V) (E := Ext) (EP := fun _ _ => True) (R := fun t i => (rcA (gb + 1) gb (posN l n) bs xb (Zs xi) t).getD i VT) (by kernel_rfl) (hC23.out.keep ((Below.refl _ _).drew)) (by kernel_rfl) (fun t i v w' w'' _ hE h => Zr _ i rcA_mono v w' w'' hE h) (fun i v w' w'' hi _ _ h => rcA_on i v w' w'' hi h) (m := 10) (by omega) rfl rfl rfl (by kernel_rfl) ?_ rfl ?_ ?_
          next =>
           refine X0 7 10 (fun t => ?_) (fun t => ?_)
           · skip
             refine Qa (Ql fun a W hC hs => ?_) ?_
             · have h1 := Qo hs 13 (by kernel_rfl) (by rfl)
               exact ⟨Qb rfl, _, Qw (.inl rfl) (ev h1), rfl⟩
             refine Qa (Ql fun a W hC hs => ?_) ?_
             · have h1 := Qo hs 13 (by kernel_rfl) (by rfl)
               exact ⟨Qb rfl, _, Qw (.inl rfl) (ev h1), rfl⟩
             refine Qa (Ql fun a W hC hs => ?_) ?_
             · obtain ⟨va, hva, hRa⟩ := Qf hs 1 72 (by kernel_rfl) (by rfl)
               replace hRa : va = _ := hRa
               subst hRa
               exact ⟨Qb rfl, _, Xx rfl (ev hva), rfl⟩
             refine Qa (Ql fun a W hC hs => ?_) ?_
             · obtain ⟨va, hva, hRa⟩ := Qf hs 2 73 (by kernel_rfl) (by rfl)
               replace hRa : va = _ := hRa
               subst hRa
               exact ⟨Qb rfl, _, Q4 rfl (ev hva) fl_c1, rfl⟩
             refine Qa (Ql fun a W hC hs => ?_) ?_
             · obtain ⟨va, hva, hRa⟩ := Qf hs 3 74 (by kernel_rfl) (by rfl)
               replace hRa : va = _ := hRa
               subst hRa
               exact ⟨Qb rfl, _, Qz rfl (ev hva) (ld_ins0 (hC.own.get (by unfold maxLen; omega) hxb.out).2.1), rfl⟩
             refine Qa (Ql fun a W hC hs => ?_) ?_
             · have h1 := Qo hs 10 (by kernel_rfl) (by rfl)
               exact ⟨Qb rfl, _, Qz rfl (ev h1) (ld_insV hC.box), rfl⟩
             refine Qa (s_new fun a W hC hs => ?_) ?_
             · obtain ⟨va, hva, hRa⟩ := Qf hs 5 76 (by kernel_rfl) (by rfl)
               replace hRa : va = _ := hRa
               subst hRa
               refine ⟨Qb rfl, _, _, run_bs (qs := #[(0, .agg ⟨(Zs xi).vals⟩)]) rfl (by simp [ev hva]) (mk_ins1 W _), hC.keep (Qh _ _), Qh _ _, ?_⟩
               cases t
               · exact ⟨_, rfl, Qt _ _ rfl⟩
               · trivial
             exact Qx
           · skip
             refine Qa (Ql fun a W hC hs => ?_) ?_
             · obtain ⟨va, hva, hRa⟩ := Qf hs 0 71 (by kernel_rfl) (by rfl)
               replace hRa : va = _ := hRa
               subst hRa
               exact ⟨Qb rfl, _, Xx rfl (ev hva), rfl⟩
             refine Qa (Ql fun a W hC hs => ?_) ?_
             · obtain ⟨va, hva, hRa⟩ := Qf hs 8 79 (by kernel_rfl) (by rfl)
               replace hRa : va = _ := hRa
               subst hRa
               exact ⟨Qb rfl, _, Q4 rfl (ev hva) fl_c1, rfl⟩
             exact Qx
          next =>
           intro a W hC hs
           obtain ⟨va, hva, hRa⟩ := Qf hs 4 75 (by kernel_rfl) (by rfl)
           replace hRa : va = _ := hRa
           subst hRa
           obtain ⟨vb, hvb, hRb⟩ := Qf hs 6 77 (by kernel_rfl) (by rfl)
           obtain ⟨qs, rfl, hqs⟩ : VSI (Zs xi) vb W := hRb
           obtain ⟨i0, z0, hi0, hz0, hz1, hz2, hz3⟩ := info_ins1
           have hct := hC.ct rfl
           have hrw := hct.code _ _ hxb.out
           refine ⟨Qb rfl, p_app1 (t := 39) (e := 44) rfl (by kernel_rfl) hi0 hz0 hz1 hz2 hz3 (by decide) (ev hva) (ev hvb) hrw rfl hqs (ins_ones _) (by omega) (by omega) (by have := hC.own.lt; omega) fun v' w' k1 k2 k3 => ?_⟩
           obtain ⟨na, nc, rfl, hnew⟩ := hct.addCode hxb.out k2 k1 k3
           exact ⟨hC.app k2 (fun k e => ⟨(hrw.lt k e).1, hxq.out k e⟩) (by omega) (by omega) (by omega) (by omega), trivial, _, rfl, na, nc, rfl, Xg hct.own k2 (Zb hrw hct.own.ex (by decide)), hnew⟩
          intro σ V23 hCV hRV
          generalize hF : Q6 _ _ _ _ _ = F
          simp [Q6, dstOf, List.range, List.range.loop, Act.put] at hF
          subst hF
          obtain ⟨na23, nc23, hv9, ho9, hct9⟩ : VApI (gb + 1) gb bs (posN l n) xb (Zs xi) (σ 7) V23 := hRV 7 (by simp)
          have hp9 : σ 9 = .pointer (some ⟨gb, posN l n * 4 + 1, none⟩) := hRV 9 (by simp)
          obtain ⟨f0, f1, f2, f3⟩ := ho9.get (by unfold maxLen; omega) hxb.out
          have ff := ho9.free (posN l n * 4 + 1)
          have hC24 := Lh (hCV.put hct9 (by omega))
          refine wp_storeI (v := σ 7) rfl rfl hp9 rfl ⟨_, _, _, hv9⟩ f1 ff ?_
          clear hRV hCV hp9 ho9 hct9 hv9 f0 f1 f2 f3 ff
          generalize V23.setCell ⟨gb, posN l n * 4 + 1, none⟩ (σ 7) = W24 at *
          clear V23
          generalize σ 0 = z23_0
          generalize σ 1 = z23_1
          generalize σ 2 = z23_2
          generalize σ 3 = z23_3
          generalize σ 4 = z23_4
          generalize σ 5 = z23_5
          generalize σ 6 = z23_6
          generalize σ 7 = z23_7
          generalize σ 8 = z23_8
          generalize σ 9 = z23_9
          obtain ⟨xb1, hx1⟩ : ∃ x : Bk, Hid (x = { xb with ca := na23, ccap := nc23, code := xb.code ++ [Zs xi] }) := ⟨_, Lh rfl⟩
          rw [← hx1.out] at hC24
          have htt1 : xb1.tt = xb.tt := by rw [hx1.out]
          have htl1 : xb1.tt.length ≤ 65536 := by rw [htt1]; exact htl
          have hbsl1 : (bs.set (posN l n) xb1).length ≤ 65537 := by rw [List.length_set]; exact hbsl
          have hxb1 : Hid ((bs.set (posN l n) xb1)[posN l n]? = some xb1) := Lh (List.getElem?_set_self hpj)
          replace htt1 := Lh htt1
          obtain ⟨m1, m2⟩ := hC24.out.mks.get hn1
          have o0 : W24.cell? ⟨q, 0, none⟩ = some (.int .u8 xi.op) := Qk hC24.out.box (j := 0) rfl
          have hk2 : (n : Int) + 1 < (l.length : Int) + 1 := by omega
          have hk3 : ((n : Int) + 1).toNat = n + 1 := by omega
          have hk4 : (0 : Int) ≤ (n : Int) + 1 := by omega
          have hnl1 := last_not hlast hxi.out (by omega) (by omega)
          have hny : fnn (n + 1) = (posN l n : Int) + 1 := by
           rw [hfn.out]
           show (if n + 1 < l.length then (posN l (n + 1) : Int) else 0) = _
           rw [if_pos hnl1, pos_next hnl1, if_pos (mk_end hxi.out (by rw [hop]; rfl))]
           rfl
          rw [show mkD l (n + 1) = true from mk_end hxi.out (by rw [hop]; rfl)] at m1
          rw [hop] at o0
          go_upto_region 26 with fail
          clear m1 m2 o0
          have hC26 := hC24
          clear hC24
          refine Zl (P := Tryd.prog) 11 (C := fun t V => C9 (gb + 1) gb gm w1.heap.size q (l.length + 1) w (bs.set (posN l n) xb1) (Zs xi) (mkD l) fnn t V) (E := Ext) (EP := fun _ _ => True) (R := fun t i => (rcB (gb + 1) gb (posN l n) w1.heap.size (l.length + 1) n (bs.set (posN l n) xb1) xb1 ((posN l n : Int) + 1) t).getD i VT) (by kernel_rfl) (hC26.out.keep ((Below.refl _ _).drew)) (by kernel_rfl) (fun t i v w' w'' _ hE h => Zr _ i rcB_mono v w' w'' hE h) (fun i v w' w'' hi _ _ h => rcB_on i v w' w'' hi h) (m := 14) (by omega) rfl rfl rfl (by kernel_rfl) ?_ rfl ?_ ?_
          next =>
           refine X0 11 14 (fun t => ?_) (fun t => ?_)
           · skip
             refine Qa (Ql fun a W hC hs => ?_) ?_
             · have h1 := Qo hs 13 (by kernel_rfl) (by rfl)
               exact ⟨Qb rfl, _, Qw (.inl rfl) (ev h1), rfl⟩
             refine Qa (Ql fun a W hC hs => ?_) ?_
             · have h1 := Qo hs 13 (by kernel_rfl) (by rfl)
               exact ⟨Qb rfl, _, Qw (.inl rfl) (ev h1), rfl⟩
             refine Qa (Ql fun a W hC hs => ?_) ?_
             · obtain ⟨va, hva, hRa⟩ := Qf hs 1 102 (by kernel_rfl) (by rfl)
               replace hRa : va = _ := hRa
               subst hRa
               exact ⟨Qb rfl, _, Xx rfl (ev hva), rfl⟩
             refine Qa (Ql fun a W hC hs => ?_) ?_
             · obtain ⟨va, hva, hRa⟩ := Qf hs 2 103 (by kernel_rfl) (by rfl)
               replace hRa : va = _ := hRa
               subst hRa
               exact ⟨Qb rfl, _, Q4 rfl (ev hva) fl_c3, rfl⟩
             refine Qa (Ql fun a W hC hs => ?_) ?_
             · obtain ⟨va, hva, hRa⟩ := Qf hs 3 104 (by kernel_rfl) (by rfl)
               replace hRa : va = _ := hRa
               subst hRa
               exact ⟨Qb rfl, _, Qz rfl (ev hva) (ld_int0 (hC.own.get (by unfold maxLen; omega) hxb1.out).2.2.2), rfl⟩
             refine Qa (Ql fun a W hC hs => ?_) ?_
             · have h1 := Qo hs 5 (by kernel_rfl) (by rfl)
               exact ⟨Qb rfl, _, Qw (.inl rfl) (ev h1), rfl⟩
             refine Qa (Ql fun a W hC hs => ?_) ?_
             · have h1 := Qo hs 9 (by kernel_rfl) (by rfl)
               exact ⟨Qb rfl, _, Qw (.inl rfl) (ev h1), rfl⟩
             refine Qa (Ql fun a W hC hs => ?_) ?_
             · obtain ⟨va, hva, hRa⟩ := Qf hs 6 107 (by kernel_rfl) (by rfl)
               replace hRa : va = _ := hRa
               subst hRa
               exact ⟨Qb rfl, _, run_addB rfl (ev hva) (by omega) (by omega), rfl⟩
             refine Qa (Ql fun a W hC hs => ?_) ?_
             · obtain ⟨va, hva, hRa⟩ := Qf hs 5 106 (by kernel_rfl) (by rfl)
               replace hRa : va = _ := hRa
               subst hRa
               obtain ⟨vb, hvb, hRb⟩ := Qf hs 7 108 (by kernel_rfl) (by rfl)
               replace hRb : vb = _ := hRb
               subst hRb
               exact ⟨Qb rfl, _, run_ixB rfl (ev hva) (ev hvb) (ix_intS (show n + 1 < l.length + 1 by omega)), rfl⟩
             refine Qa (Ql fun a W hC hs => ?_) ?_
             · obtain ⟨va, hva, hRa⟩ := Qf hs 8 109 (by kernel_rfl) (by rfl)
               replace hRa : va = _ := hRa
               subst hRa
               exact ⟨Qb rfl, _, Qz rfl (ev hva) (ld_intV (by rw [(hC.nb.get (show n + 1 < l.length + 1 by omega)).1]; exact congrArg (fun z => some (Value.int .i64 z)) hny)), rfl⟩
             refine Qa (s_new fun a W hC hs => ?_) ?_
             · obtain ⟨va, hva, hRa⟩ := Qf hs 9 110 (by kernel_rfl) (by rfl)
               replace hRa : va = _ := hRa
               subst hRa
               refine ⟨Qb rfl, _, _, run_bs (qs := #[(0, .int .i64 ((posN l n : Int) + 1))]) rfl (by simp [ev hva]) (mk_int1 W _), hC.keep (Qh _ _), Qh _ _, ?_⟩
               cases t
               · exact ⟨_, rfl, Qt _ _ rfl⟩
               · trivial
             exact Qx
           · skip
             refine Qa (Ql fun a W hC hs => ?_) ?_
             · obtain ⟨va, hva, hRa⟩ := Qf hs 0 101 (by kernel_rfl) (by rfl)
               replace hRa : va = _ := hRa
               subst hRa
               exact ⟨Qb rfl, _, Xx rfl (ev hva), rfl⟩
             refine Qa (Ql fun a W hC hs => ?_) ?_
             · obtain ⟨va, hva, hRa⟩ := Qf hs 12 113 (by kernel_rfl) (by rfl)
               replace hRa : va = _ := hRa
               subst hRa
               exact ⟨Qb rfl, _, Q4 rfl (ev hva) fl_c3, rfl⟩
             exact Qx
          next =>
           intro a W hC hs
           obtain ⟨va, hva, hRa⟩ := Qf hs 4 105 (by kernel_rfl) (by rfl)
           replace hRa : va = _ := hRa
           subst hRa
           obtain ⟨vb, hvb, hRb⟩ := Qf hs 10 111 (by kernel_rfl) (by rfl)
           obtain ⟨qs, rfl, hqs⟩ : VSN ((posN l n : Int) + 1) vb W := hRb
           obtain ⟨i0, z0, hi0, hz0, hz1, hz2, hz3⟩ := info_int1
           have hct := hC.ct rfl
           have hrw := hct.to _ _ hxb1.out
           refine ⟨Qb rfl, p_app1 (t := 40) (e := 3) rfl (by kernel_rfl) hi0 hz0 hz1 hz2 hz3 (by decide) (ev hva) (ev hvb) hrw rfl hqs (one_int _) (by omega) (by omega) (by have := hC.own.lt; omega) fun v' w' k1 k2 k3 => ?_⟩
           obtain ⟨na, nc, rfl, hnew⟩ := hct.addTo hxb1.out k2 k1 k3
           exact ⟨hC.app k2 (fun k e => ⟨(hrw.lt k e).1, fun e' => Zb hrw hC.box (by decide) (e.trans (congrArg some e'))⟩) (by omega) (by omega) (by omega) (by omega), trivial, _, rfl, na, nc, rfl, Xg hct.own k2 (Zb hrw hct.own.ex (by decide)), hnew⟩
          intro σ V26 hCV hRV
          generalize hF : Q6 _ _ _ _ _ = F
          simp [Q6, dstOf, List.range, List.range.loop, Act.put] at hF
          subst hF
          obtain ⟨na26, nc26, hv9, ho9, hct9⟩ : VApT (gb + 1) gb (bs.set (posN l n) xb1) (posN l n) xb1 ((posN l n : Int) + 1) (σ 11) V26 := hRV 11 (by simp)
          have hp9 : σ 13 = .pointer (some ⟨gb, posN l n * 4 + 3, none⟩) := hRV 13 (by simp)
          obtain ⟨f0, f1, f2, f3⟩ := ho9.get (by unfold maxLen; omega) hxb1.out
          have ff := ho9.free (posN l n * 4 + 3)
          have hC27 := Lh (hCV.put hct9 (by omega))
          refine wp_storeN (v := σ 11) rfl rfl hp9 rfl ⟨_, _, _, hv9⟩ f3 ff ?_
          clear hRV hCV hp9 ho9 hct9 hv9 f0 f1 f2 f3 ff
          generalize V26.setCell ⟨gb, posN l n * 4 + 3, none⟩ (σ 11) = W27 at *
          clear V26
          generalize σ 0 = z26_0
          generalize σ 1 = z26_1
          generalize σ 2 = z26_2
          generalize σ 3 = z26_3
          generalize σ 4 = z26_4
          generalize σ 5 = z26_5
          generalize σ 6 = z26_6
          generalize σ 7 = z26_7
          generalize σ 8 = z26_8
          generalize σ 9 = z26_9
          generalize σ 10 = z26_10
          generalize σ 11 = z26_11
          generalize σ 12 = z26_12
          generalize σ 13 = z26_13
          obtain ⟨xb2, hx2⟩ : ∃ x : Bk, Hid (x = { xb1 with ta := na26, tcap := nc26, tt := xb1.tt ++ [(posN l n : Int) + 1] }) := ⟨_, Lh rfl⟩
          rw [← hx2.out, List.set_set] at hC27
          have htl2 : xb2.tt.length ≤ 65536 := by rw [hx2.out, htt1.out, htt.out]; simp
          have hbsl2 : (bs.set (posN l n) xb2).length ≤ 65537 := by rw [List.length_set]; exact hbsl
          have hxb2 : Hid ((bs.set (posN l n) xb2)[posN l n]? = some xb2) := Lh (List.getElem?_set_self hpj)
          go_upto_region 28 with fail
          have hC28 := hC27
          clear hC27
          refine Zl (P := Tryd.prog) 10 (C := fun t V => C9 (gb + 1) gb gm w1.heap.size q (l.length + 1) w (bs.set (posN l n) xb2) (Zs xi) (mkD l) fnn t V) (E := Ext) (EP := fun _ _ => True) (R := fun t i => (rcC (gb + 1) gb (posN l n) w1.heap.size (l.length + 1) gn (bs.set (posN l n) xb2) xb2 ((posN l gn : Int)) t).getD i VT) (by kernel_rfl) (hC28.out.keep ((Below.refl _ _).drew)) (by kernel_rfl) (fun t i v w' w'' _ hE h => Zr _ i rcC_mono v w' w'' hE h) (fun i v w' w'' hi _ _ h => rcC_on i v w' w'' hi h) (m := 13) (by omega) rfl rfl rfl (by kernel_rfl) ?_ rfl ?_ ?_
          next =>
           refine X0 10 13 (fun t => ?_) (fun t => ?_)
           · skip
             refine Qa (Ql fun a W hC hs => ?_) ?_
             · have h1 := Qo hs 13 (by kernel_rfl) (by rfl)
               exact ⟨Qb rfl, _, Qw (.inl rfl) (ev h1), rfl⟩
             refine Qa (Ql fun a W hC hs => ?_) ?_
             · have h1 := Qo hs 13 (by kernel_rfl) (by rfl)
               exact ⟨Qb rfl, _, Qw (.inl rfl) (ev h1), rfl⟩
             refine Qa (Ql fun a W hC hs => ?_) ?_
             · obtain ⟨va, hva, hRa⟩ := Qf hs 1 117 (by kernel_rfl) (by rfl)
               replace hRa : va = _ := hRa
               subst hRa
               exact ⟨Qb rfl, _, Xx rfl (ev hva), rfl⟩
             refine Qa (Ql fun a W hC hs => ?_) ?_
             · obtain ⟨va, hva, hRa⟩ := Qf hs 2 118 (by kernel_rfl) (by rfl)
               replace hRa : va = _ := hRa
               subst hRa
               exact ⟨Qb rfl, _, Q4 rfl (ev hva) fl_c3, rfl⟩
             refine Qa (Ql fun a W hC hs => ?_) ?_
             · obtain ⟨va, hva, hRa⟩ := Qf hs 3 119 (by kernel_rfl) (by rfl)
               replace hRa : va = _ := hRa
               subst hRa
               exact ⟨Qb rfl, _, Qz rfl (ev hva) (ld_int0 (hC.own.get (by unfold maxLen; omega) hxb2.out).2.2.2), rfl⟩
             refine Qa (Ql fun a W hC hs => ?_) ?_
             · have h1 := Qo hs 5 (by kernel_rfl) (by rfl)
               exact ⟨Qb rfl, _, Qw (.inl rfl) (ev h1), rfl⟩
             refine Qa (Ql fun a W hC hs => ?_) ?_
             · have h1 := Qo hs 11 (by kernel_rfl) (by rfl)
               exact ⟨Qb rfl, _, Qw (.inl rfl) (ev h1), rfl⟩
             refine Qa (Ql fun a W hC hs => ?_) ?_
             · obtain ⟨va, hva, hRa⟩ := Qf hs 5 121 (by kernel_rfl) (by rfl)
               replace hRa : va = _ := hRa
               subst hRa
               obtain ⟨vb, hvb, hRb⟩ := Qf hs 6 122 (by kernel_rfl) (by rfl)
               replace hRb : vb = _ := hRb
               subst hRb
               exact ⟨Qb rfl, _, run_ixB rfl (ev hva) (ev hvb) (ix_intN (show gn < l.length + 1 by omega)), rfl⟩
             refine Qa (Ql fun a W hC hs => ?_) ?_
             · obtain ⟨va, hva, hRa⟩ := Qf hs 7 123 (by kernel_rfl) (by rfl)
               replace hRa : va = _ := hRa
               subst hRa
               exact ⟨Qb rfl, _, Qz rfl (ev hva) (ld_intV (by rw [(hC.nb.get (show gn < l.length + 1 by omega)).1]; exact congrArg (fun z => some (Value.int .i64 z)) hgy)), rfl⟩
             refine Qa (s_new fun a W hC hs => ?_) ?_
             · obtain ⟨va, hva, hRa⟩ := Qf hs 8 124 (by kernel_rfl) (by rfl)
               replace hRa : va = _ := hRa
               subst hRa
               refine ⟨Qb rfl, _, _, run_bs (qs := #[(0, .int .i64 ((posN l gn : Int)))]) rfl (by simp [ev hva]) (mk_int1 W _), hC.keep (Qh _ _), Qh _ _, ?_⟩
               cases t
               · exact ⟨_, rfl, Qt _ _ rfl⟩
               · trivial
             exact Qx
           · skip
             refine Qa (Ql fun a W hC hs => ?_) ?_
             · obtain ⟨va, hva, hRa⟩ := Qf hs 0 116 (by kernel_rfl) (by rfl)
               replace hRa : va = _ := hRa
               subst hRa
               exact ⟨Qb rfl, _, Xx rfl (ev hva), rfl⟩
             refine Qa (Ql fun a W hC hs => ?_) ?_
             · obtain ⟨va, hva, hRa⟩ := Qf hs 11 127 (by kernel_rfl) (by rfl)
               replace hRa : va = _ := hRa
               subst hRa
               exact ⟨Qb rfl, _, Q4 rfl (ev hva) fl_c3, rfl⟩
             exact Qx
          next =>
           intro a W hC hs
           obtain ⟨va, hva, hRa⟩ := Qf hs 4 120 (by kernel_rfl) (by rfl)
           replace hRa : va = _ := hRa
           subst hRa
           obtain ⟨vb, hvb, hRb⟩ := Qf hs 9 125 (by kernel_rfl) (by rfl)
           obtain ⟨qs, rfl, hqs⟩ : VSN ((posN l gn : Int)) vb W := hRb
           obtain ⟨i0, z0, hi0, hz0, hz1, hz2, hz3⟩ := info_int1
           have hct := hC.ct rfl
           have hrw := hct.to _ _ hxb2.out
           refine ⟨Qb rfl, p_app1 (t := 40) (e := 3) rfl (by kernel_rfl) hi0 hz0 hz1 hz2 hz3 (by decide) (ev hva) (ev hvb) hrw rfl hqs (one_int _) (by omega) (by omega) (by have := hC.own.lt; omega) fun v' w' k1 k2 k3 => ?_⟩
           obtain ⟨na, nc, rfl, hnew⟩ := hct.addTo hxb2.out k2 k1 k3
           exact ⟨hC.app k2 (fun k e => ⟨(hrw.lt k e).1, fun e' => Zb hrw hC.box (by decide) (e.trans (congrArg some e'))⟩) (by omega) (by omega) (by omega) (by omega), trivial, _, rfl, na, nc, rfl, Xg hct.own k2 (Zb hrw hct.own.ex (by decide)), hnew⟩
          intro σ V28 hCV hRV
          generalize hF : Q6 _ _ _ _ _ = F
          simp [Q6, dstOf, List.range, List.range.loop, Act.put] at hF
          subst hF
          obtain ⟨na28, nc28, hv9, ho9, hct9⟩ : VApT (gb + 1) gb (bs.set (posN l n) xb2) (posN l n) xb2 ((posN l gn : Int)) (σ 10) V28 := hRV 10 (by simp)
          have hp9 : σ 12 = .pointer (some ⟨gb, posN l n * 4 + 3, none⟩) := hRV 12 (by simp)
          obtain ⟨f0, f1, f2, f3⟩ := ho9.get (by unfold maxLen; omega) hxb2.out
          have ff := ho9.free (posN l n * 4 + 3)
          have hC29 := Lh (hCV.put hct9 (by omega))
          refine wp_storeN (v := σ 10) rfl rfl hp9 rfl ⟨_, _, _, hv9⟩ f3 ff ?_
          clear hRV hCV hp9 ho9 hct9 hv9 f0 f1 f2 f3 ff
          generalize V28.setCell ⟨gb, posN l n * 4 + 3, none⟩ (σ 10) = W29 at *
          clear V28
          generalize σ 0 = z28_0
          generalize σ 1 = z28_1
          generalize σ 2 = z28_2
          generalize σ 3 = z28_3
          generalize σ 4 = z28_4
          generalize σ 5 = z28_5
          generalize σ 6 = z28_6
          generalize σ 7 = z28_7
          generalize σ 8 = z28_8
          generalize σ 9 = z28_9
          generalize σ 10 = z28_10
          generalize σ 11 = z28_11
          generalize σ 12 = z28_12
          obtain ⟨xb3, hx3⟩ : ∃ x : Bk, Hid (x = { xb2 with ta := na28, tcap := nc28, tt := xb2.tt ++ [(posN l gn : Int)] }) := ⟨_, Lh rfl⟩
          rw [← hx3.out, List.set_set] at hC29
          go_wp2_with fail
          go_roundw
          case rel => exact ⟨n + 1, by omega, by go_num, Lh ⟨_, hP.out.one (T := (xb1.tt ++ [(posN l n : Int) + 1]) ++ [(posN l gn : Int)]) hlt hxi.out hxb.out (by rw [hx3.out, hx2.out, hx1.out]) (by rw [htt1.out, htt.out]; exact tt_branch hlt hxi.out hop hgp.out hgl), hC29.out.ct rfl⟩, Lh (by have h := hC29.out.nb; rw [hfn.out] at h; exact h), Lh hC29.out.mks, Lh hC29.out.below⟩
          case measure => simp [intOf]; omega
        have h12 := hop
        clear hop
        by_cases hop : xi.op = 13
        · skip
          have hop2 := hop
          have hgp : glP xi = (0, false) := by rw [gl_op, if_neg (by omega)]
          rw [hgp] at hG
          replace hgp := Lh hgp
          clear hgxi
          go_wp2_with fail
          refine (hG.out W4).mono ?_
          rintro e w5 ⟨rfl, hb5⟩
          have hl4 := (Array.getElem?_eq_some_iff.1 hbox0.out).1
          have hbox5 := (hb5.block _ hl4).trans hbox0.out
          have hbw5 := hal.out.trans (hb5.mono hal.out.size)
          clear hG hb5 hal hbox0 b0 b1 b2 b3 b4 b5
          have hbox6 := Lh (show w5.heap[wr.heap.size]? = some (.cells ⟨(Zs xi).vals⟩ 44 (0, 0)) from by rw [bare_not hgp.out]; exact hbox5)
          have hb6 := Lh hbw5
          obtain ⟨s1, s2⟩ := (hN.out.keep hb6.out).get (show n < l.length + 1 by omega)
          rw [hn0] at s1
          clear hbox5 hbw5
          go_upto_region 23 with fail
          generalize w5 = W6 at *
          clear s1 s2
          have hC23 : Hid (C9 (gb + 1) gb gm w1.heap.size wr.heap.size (l.length + 1) w bs (Zs xi) (mkD l) fnn false W6) := Lh ⟨hb.out.trans (hb6.out.mono hb.out.size), hbox6.out, hM.out.keep hb6.out, hN.out.keep hb6.out, hCt.out.own.keep hb6.out, fun _ => hCt.out.keep hb6.out⟩
          clear hbox6 hb6 hb hM hN hCt hn0
          generalize wr.heap.size = q at *
          refine Zl (P := Tryd.prog) 7 (C := fun t V => C9 (gb + 1) gb gm w1.heap.size q (l.length + 1) w bs (Zs xi) (mkD l) fnn t V) (E := Ext) (EP := fun _ _ => True) (R := fun t i => (rcA (gb + 1) gb (posN l n) bs xb (Zs xi) t).getD i VT) (by kernel_rfl) (hC23.out.keep ((Below.refl _ _).drew)) (by kernel_rfl) (fun t i v w' w'' _ hE h => Zr _ i rcA_mono v w' w'' hE h) (fun i v w' w'' hi _ _ h => rcA_on i v w' w'' hi h) (m := 10) (by omega) rfl rfl rfl (by kernel_rfl) ?_ rfl ?_ ?_
          next =>
           refine X0 7 10 (fun t => ?_) (fun t => ?_)
           · skip
             refine Qa (Ql fun a W hC hs => ?_) ?_
             · have h1 := Qo hs 13 (by kernel_rfl) (by rfl)
               exact ⟨Qb rfl, _, Qw (.inl rfl) (ev h1), rfl⟩
             refine Qa (Ql fun a W hC hs => ?_) ?_
             · have h1 := Qo hs 13 (by kernel_rfl) (by rfl)
               exact ⟨Qb rfl, _, Qw (.inl rfl) (ev h1), rfl⟩
             refine Qa (Ql fun a W hC hs => ?_) ?_
             · obtain ⟨va, hva, hRa⟩ := Qf hs 1 72 (by kernel_rfl) (by rfl)
               replace hRa : va = _ := hRa
               subst hRa
               exact ⟨Qb rfl, _, Xx rfl (ev hva), rfl⟩
             refine Qa (Ql fun a W hC hs => ?_) ?_
             · obtain ⟨va, hva, hRa⟩ := Qf hs 2 73 (by kernel_rfl) (by rfl)
               replace hRa : va = _ := hRa
               subst hRa
               exact ⟨Qb rfl, _, Q4 rfl (ev hva) fl_c1, rfl⟩
             refine Qa (Ql fun a W hC hs => ?_) ?_
             · obtain ⟨va, hva, hRa⟩ := Qf hs 3 74 (by kernel_rfl) (by rfl)
               replace hRa : va = _ := hRa
               subst hRa
               exact ⟨Qb rfl, _, Qz rfl (ev hva) (ld_ins0 (hC.own.get (by unfold maxLen; omega) hxb.out).2.1), rfl⟩
             refine Qa (Ql fun a W hC hs => ?_) ?_
             · have h1 := Qo hs 10 (by kernel_rfl) (by rfl)
               exact ⟨Qb rfl, _, Qz rfl (ev h1) (ld_insV hC.box), rfl⟩
             refine Qa (s_new fun a W hC hs => ?_) ?_
             · obtain ⟨va, hva, hRa⟩ := Qf hs 5 76 (by kernel_rfl) (by rfl)
               replace hRa : va = _ := hRa
               subst hRa
               refine ⟨Qb rfl, _, _, run_bs (qs := #[(0, .agg ⟨(Zs xi).vals⟩)]) rfl (by simp [ev hva]) (mk_ins1 W _), hC.keep (Qh _ _), Qh _ _, ?_⟩
               cases t
               · exact ⟨_, rfl, Qt _ _ rfl⟩
               · trivial
             exact Qx
           · skip
             refine Qa (Ql fun a W hC hs => ?_) ?_
             · obtain ⟨va, hva, hRa⟩ := Qf hs 0 71 (by kernel_rfl) (by rfl)
               replace hRa : va = _ := hRa
               subst hRa
               exact ⟨Qb rfl, _, Xx rfl (ev hva), rfl⟩
             refine Qa (Ql fun a W hC hs => ?_) ?_
             · obtain ⟨va, hva, hRa⟩ := Qf hs 8 79 (by kernel_rfl) (by rfl)
               replace hRa : va = _ := hRa
               subst hRa
               exact ⟨Qb rfl, _, Q4 rfl (ev hva) fl_c1, rfl⟩
             exact Qx
          next =>
           intro a W hC hs
           obtain ⟨va, hva, hRa⟩ := Qf hs 4 75 (by kernel_rfl) (by rfl)
           replace hRa : va = _ := hRa
           subst hRa
           obtain ⟨vb, hvb, hRb⟩ := Qf hs 6 77 (by kernel_rfl) (by rfl)
           obtain ⟨qs, rfl, hqs⟩ : VSI (Zs xi) vb W := hRb
           obtain ⟨i0, z0, hi0, hz0, hz1, hz2, hz3⟩ := info_ins1
           have hct := hC.ct rfl
           have hrw := hct.code _ _ hxb.out
           refine ⟨Qb rfl, p_app1 (t := 39) (e := 44) rfl (by kernel_rfl) hi0 hz0 hz1 hz2 hz3 (by decide) (ev hva) (ev hvb) hrw rfl hqs (ins_ones _) (by omega) (by omega) (by have := hC.own.lt; omega) fun v' w' k1 k2 k3 => ?_⟩
           obtain ⟨na, nc, rfl, hnew⟩ := hct.addCode hxb.out k2 k1 k3
           exact ⟨hC.app k2 (fun k e => ⟨(hrw.lt k e).1, hxq.out k e⟩) (by omega) (by omega) (by omega) (by omega), trivial, _, rfl, na, nc, rfl, Xg hct.own k2 (Zb hrw hct.own.ex (by decide)), hnew⟩
          intro σ V23 hCV hRV
          generalize hF : Q6 _ _ _ _ _ = F
          simp [Q6, dstOf, List.range, List.range.loop, Act.put] at hF
          subst hF
          obtain ⟨na23, nc23, hv9, ho9, hct9⟩ : VApI (gb + 1) gb bs (posN l n) xb (Zs xi) (σ 7) V23 := hRV 7 (by simp)
          have hp9 : σ 9 = .pointer (some ⟨gb, posN l n * 4 + 1, none⟩) := hRV 9 (by simp)
          obtain ⟨f0, f1, f2, f3⟩ := ho9.get (by unfold maxLen; omega) hxb.out
          have ff := ho9.free (posN l n * 4 + 1)
          have hC24 := Lh (hCV.put hct9 (by omega))
          refine wp_storeI (v := σ 7) rfl rfl hp9 rfl ⟨_, _, _, hv9⟩ f1 ff ?_
          clear hRV hCV hp9 ho9 hct9 hv9 f0 f1 f2 f3 ff
          generalize V23.setCell ⟨gb, posN l n * 4 + 1, none⟩ (σ 7) = W24 at *
          clear V23
          generalize σ 0 = z23_0
          generalize σ 1 = z23_1
          generalize σ 2 = z23_2
          generalize σ 3 = z23_3
          generalize σ 4 = z23_4
          generalize σ 5 = z23_5
          generalize σ 6 = z23_6
          generalize σ 7 = z23_7
          generalize σ 8 = z23_8
          generalize σ 9 = z23_9
          obtain ⟨xb1, hx1⟩ : ∃ x : Bk, Hid (x = { xb with ca := na23, ccap := nc23, code := xb.code ++ [Zs xi] }) := ⟨_, Lh rfl⟩
          rw [← hx1.out] at hC24
          have htt1 : xb1.tt = xb.tt := by rw [hx1.out]
          have htl1 : xb1.tt.length ≤ 65536 := by rw [htt1]; exact htl
          have hbsl1 : (bs.set (posN l n) xb1).length ≤ 65537 := by rw [List.length_set]; exact hbsl
          have hxb1 : Hid ((bs.set (posN l n) xb1)[posN l n]? = some xb1) := Lh (List.getElem?_set_self hpj)
          replace htt1 := Lh htt1
          obtain ⟨m1, m2⟩ := hC24.out.mks.get hn1
          have o0 : W24.cell? ⟨q, 0, none⟩ = some (.int .u8 xi.op) := Qk hC24.out.box (j := 0) rfl
          have hk2 : (n : Int) + 1 < (l.length : Int) + 1 := by omega
          have hk3 : ((n : Int) + 1).toNat = n + 1 := by omega
          have hk4 : (0 : Int) ≤ (n : Int) + 1 := by omega
          rw [show mkD l (n + 1) = true from mk_end hxi.out (by rw [hop]; rfl)] at m1
          rw [hop] at o0
          go_wp2_with fail
          go_roundw
          case rel => exact ⟨n + 1, by omega, by go_num, Lh ⟨_, hP.out.one (T := xb.tt) hlt hxi.out hxb.out (by rw [hx1.out]) (by rw [htt.out]; exact tt_ret hlt hxi.out hop), hC24.out.ct rfl⟩, Lh (by have h := hC24.out.nb; rw [hfn.out] at h; exact h), Lh hC24.out.mks, Lh hC24.out.below⟩
          case measure => simp [intOf]; omega
        have h13 := hop
        clear hop
        have hgp : glP xi = (0, false) := by rw [gl_op, if_neg (by omega)]
        rw [hgp] at hG
        replace hgp := Lh hgp
        clear hgxi
        go_wp2_with fail
        refine (hG.out W4).mono ?_
        rintro e w5 ⟨rfl, hb5⟩
        have hl4 := (Array.getElem?_eq_some_iff.1 hbox0.out).1
        have hbox5 := (hb5.block _ hl4).trans hbox0.out
        have hbw5 := hal.out.trans (hb5.mono hal.out.size)
        clear hG hb5 hal hbox0 b0 b1 b2 b3 b4 b5
        have hbox6 := Lh (show w5.heap[wr.heap.size]? = some (.cells ⟨(Zs xi).vals⟩ 44 (0, 0)) from by rw [bare_not hgp.out]; exact hbox5)
        have hb6 := Lh hbw5
        obtain ⟨s1, s2⟩ := (hN.out.keep hb6.out).get (show n < l.length + 1 by omega)
        rw [hn0] at s1
        clear hbox5 hbw5
        go_upto_region 23 with fail
        generalize w5 = W6 at *
        clear s1 s2
        have hC23 : Hid (C9 (gb + 1) gb gm w1.heap.size wr.heap.size (l.length + 1) w bs (Zs xi) (mkD l) fnn false W6) := Lh ⟨hb.out.trans (hb6.out.mono hb.out.size), hbox6.out, hM.out.keep hb6.out, hN.out.keep hb6.out, hCt.out.own.keep hb6.out, fun _ => hCt.out.keep hb6.out⟩
        clear hbox6 hb6 hb hM hN hCt hn0
        generalize wr.heap.size = q at *
        refine Zl (P := Tryd.prog) 7 (C := fun t V => C9 (gb + 1) gb gm w1.heap.size q (l.length + 1) w bs (Zs xi) (mkD l) fnn t V) (E := Ext) (EP := fun _ _ => True) (R := fun t i => (rcA (gb + 1) gb (posN l n) bs xb (Zs xi) t).getD i VT) (by kernel_rfl) (hC23.out.keep ((Below.refl _ _).drew)) (by kernel_rfl) (fun t i v w' w'' _ hE h => Zr _ i rcA_mono v w' w'' hE h) (fun i v w' w'' hi _ _ h => rcA_on i v w' w'' hi h) (m := 10) (by omega) rfl rfl rfl (by kernel_rfl) ?_ rfl ?_ ?_
        next =>
         refine X0 7 10 (fun t => ?_) (fun t => ?_)
         · skip
           refine Qa (Ql fun a W hC hs => ?_) ?_
           · have h1 := Qo hs 13 (by kernel_rfl) (by rfl)
             exact ⟨Qb rfl, _, Qw (.inl rfl) (ev h1), rfl⟩
           refine Qa (Ql fun a W hC hs => ?_) ?_
           · have h1 := Qo hs 13 (by kernel_rfl) (by rfl)
             exact ⟨Qb rfl, _, Qw (.inl rfl) (ev h1), rfl⟩
           refine Qa (Ql fun a W hC hs => ?_) ?_
           · obtain ⟨va, hva, hRa⟩ := Qf hs 1 72 (by kernel_rfl) (by rfl)
             replace hRa : va = _ := hRa
             subst hRa
             exact ⟨Qb rfl, _, Xx rfl (ev hva), rfl⟩
           refine Qa (Ql fun a W hC hs => ?_) ?_
           · obtain ⟨va, hva, hRa⟩ := Qf hs 2 73 (by kernel_rfl) (by rfl)
             replace hRa : va = _ := hRa
             subst hRa
             exact ⟨Qb rfl, _, Q4 rfl (ev hva) fl_c1, rfl⟩
           refine Qa (Ql fun a W hC hs => ?_) ?_
           · obtain ⟨va, hva, hRa⟩ := Qf hs 3 74 (by kernel_rfl) (by rfl)
             replace hRa : va = _ := hRa
             subst hRa
             exact ⟨Qb rfl, _, Qz rfl (ev hva) (ld_ins0 (hC.own.get (by unfold maxLen; omega) hxb.out).2.1), rfl⟩
           refine Qa (Ql fun a W hC hs => ?_) ?_
           · have h1 := Qo hs 10 (by kernel_rfl) (by rfl)
             exact ⟨Qb rfl, _, Qz rfl (ev h1) (ld_insV hC.box), rfl⟩
           refine Qa (s_new fun a W hC hs => ?_) ?_
           · obtain ⟨va, hva, hRa⟩ := Qf hs 5 76 (by kernel_rfl) (by rfl)
             replace hRa : va = _ := hRa
             subst hRa
             refine ⟨Qb rfl, _, _, run_bs (qs := #[(0, .agg ⟨(Zs xi).vals⟩)]) rfl (by simp [ev hva]) (mk_ins1 W _), hC.keep (Qh _ _), Qh _ _, ?_⟩
             cases t
             · exact ⟨_, rfl, Qt _ _ rfl⟩
             · trivial
           exact Qx
         · skip
           refine Qa (Ql fun a W hC hs => ?_) ?_
           · obtain ⟨va, hva, hRa⟩ := Qf hs 0 71 (by kernel_rfl) (by rfl)
             replace hRa : va = _ := hRa
             subst hRa
             exact ⟨Qb rfl, _, Xx rfl (ev hva), rfl⟩
           refine Qa (Ql fun a W hC hs => ?_) ?_
           · obtain ⟨va, hva, hRa⟩ := Qf hs 8 79 (by kernel_rfl) (by rfl)
             replace hRa : va = _ := hRa
             subst hRa
             exact ⟨Qb rfl, _, Q4 rfl (ev hva) fl_c1, rfl⟩
           exact Qx
        next =>
         intro a W hC hs
         obtain ⟨va, hva, hRa⟩ := Qf hs 4 75 (by kernel_rfl) (by rfl)
         replace hRa : va = _ := hRa
         subst hRa
         obtain ⟨vb, hvb, hRb⟩ := Qf hs 6 77 (by kernel_rfl) (by rfl)
         obtain ⟨qs, rfl, hqs⟩ : VSI (Zs xi) vb W := hRb
         obtain ⟨i0, z0, hi0, hz0, hz1, hz2, hz3⟩ := info_ins1
         have hct := hC.ct rfl
         have hrw := hct.code _ _ hxb.out
         refine ⟨Qb rfl, p_app1 (t := 39) (e := 44) rfl (by kernel_rfl) hi0 hz0 hz1 hz2 hz3 (by decide) (ev hva) (ev hvb) hrw rfl hqs (ins_ones _) (by omega) (by omega) (by have := hC.own.lt; omega) fun v' w' k1 k2 k3 => ?_⟩
         obtain ⟨na, nc, rfl, hnew⟩ := hct.addCode hxb.out k2 k1 k3
         exact ⟨hC.app k2 (fun k e => ⟨(hrw.lt k e).1, hxq.out k e⟩) (by omega) (by omega) (by omega) (by omega), trivial, _, rfl, na, nc, rfl, Xg hct.own k2 (Zb hrw hct.own.ex (by decide)), hnew⟩
        intro σ V23 hCV hRV
        generalize hF : Q6 _ _ _ _ _ = F
        simp [Q6, dstOf, List.range, List.range.loop, Act.put] at hF
        subst hF
        obtain ⟨na23, nc23, hv9, ho9, hct9⟩ : VApI (gb + 1) gb bs (posN l n) xb (Zs xi) (σ 7) V23 := hRV 7 (by simp)
        have hp9 : σ 9 = .pointer (some ⟨gb, posN l n * 4 + 1, none⟩) := hRV 9 (by simp)
        obtain ⟨f0, f1, f2, f3⟩ := ho9.get (by unfold maxLen; omega) hxb.out
        have ff := ho9.free (posN l n * 4 + 1)
        have hC24 := Lh (hCV.put hct9 (by omega))
        refine wp_storeI (v := σ 7) rfl rfl hp9 rfl ⟨_, _, _, hv9⟩ f1 ff ?_
        clear hRV hCV hp9 ho9 hct9 hv9 f0 f1 f2 f3 ff
        generalize V23.setCell ⟨gb, posN l n * 4 + 1, none⟩ (σ 7) = W24 at *
        clear V23
        generalize σ 0 = z23_0
        generalize σ 1 = z23_1
        generalize σ 2 = z23_2
        generalize σ 3 = z23_3
        generalize σ 4 = z23_4
        generalize σ 5 = z23_5
        generalize σ 6 = z23_6
        generalize σ 7 = z23_7
        generalize σ 8 = z23_8
        generalize σ 9 = z23_9
        obtain ⟨xb1, hx1⟩ : ∃ x : Bk, Hid (x = { xb with ca := na23, ccap := nc23, code := xb.code ++ [Zs xi] }) := ⟨_, Lh rfl⟩
        rw [← hx1.out] at hC24
        have htt1 : xb1.tt = xb.tt := by rw [hx1.out]
        have htl1 : xb1.tt.length ≤ 65536 := by rw [htt1]; exact htl
        have hbsl1 : (bs.set (posN l n) xb1).length ≤ 65537 := by rw [List.length_set]; exact hbsl
        have hxb1 : Hid ((bs.set (posN l n) xb1)[posN l n]? = some xb1) := Lh (List.getElem?_set_self hpj)
        replace htt1 := Lh htt1
        obtain ⟨m1, m2⟩ := hC24.out.mks.get hn1
        have o0 : W24.cell? ⟨q, 0, none⟩ = some (.int .u8 xi.op) := Qk hC24.out.box (j := 0) rfl
        have hk2 : (n : Int) + 1 < (l.length : Int) + 1 := by omega
        have hk3 : ((n : Int) + 1).toNat = n + 1 := by omega
        have hk4 : (0 : Int) ≤ (n : Int) + 1 := by omega
        have hnl2 := last_not hlast hxi.out h11 h13
        have hnl3 : (n : Int) + 1 ≠ (l.length : Int) := by omega
        have e11 : (xi.op != 11) = true := by simp [h11]
        have e13 : (xi.op != 13) = true := by simp [h13]
        cases hmk' : mkD l (n + 1)
        · rw [hmk'] at m1
          have hTT := Lh (tt_not hnl2 hmk')
          clear h11 h12 h13 hmk'
          go_wp2_with fail
          go_roundw
          case rel => exact ⟨n + 1, by omega, by go_num, Lh ⟨_, hP.out.one (T := xb.tt) hlt hxi.out hxb.out (by rw [hx1.out]) (by rw [htt.out]; exact hTT.out), hC24.out.ct rfl⟩, Lh (by have h := hC24.out.nb; rw [hfn.out] at h; exact h), Lh hC24.out.mks, Lh hC24.out.below⟩
          case measure => simp [intOf]; omega
        · rw [hmk'] at m1
          have hTT := Lh (tt_next hlt hxi.out h11 h12 h13 hmk')
          have hnl1 := last_not hlast hxi.out (by omega) (by omega)
          have hny : fnn (n + 1) = (posN l n : Int) + 1 := by
           rw [hfn.out]
           show (if n + 1 < l.length then (posN l (n + 1) : Int) else 0) = _
           rw [if_pos hnl1, pos_next hnl1, if_pos hmk']
           rfl
          clear h11 h12 h13 hmk'
          go_upto_region 26 with fail
          clear m1 m2 o0
          have hC26 := hC24
          clear hC24
          refine Zl (P := Tryd.prog) 11 (C := fun t V => C9 (gb + 1) gb gm w1.heap.size q (l.length + 1) w (bs.set (posN l n) xb1) (Zs xi) (mkD l) fnn t V) (E := Ext) (EP := fun _ _ => True) (R := fun t i => (rcB (gb + 1) gb (posN l n) w1.heap.size (l.length + 1) n (bs.set (posN l n) xb1) xb1 ((posN l n : Int) + 1) t).getD i VT) (by kernel_rfl) (hC26.out.keep ((Below.refl _ _).drew)) (by kernel_rfl) (fun t i v w' w'' _ hE h => Zr _ i rcB_mono v w' w'' hE h) (fun i v w' w'' hi _ _ h => rcB_on i v w' w'' hi h) (m := 14) (by omega) rfl rfl rfl (by kernel_rfl) ?_ rfl ?_ ?_
          next =>
           refine X0 11 14 (fun t => ?_) (fun t => ?_)
           · skip
             refine Qa (Ql fun a W hC hs => ?_) ?_
             · have h1 := Qo hs 13 (by kernel_rfl) (by rfl)
               exact ⟨Qb rfl, _, Qw (.inl rfl) (ev h1), rfl⟩
             refine Qa (Ql fun a W hC hs => ?_) ?_
             · have h1 := Qo hs 13 (by kernel_rfl) (by rfl)
               exact ⟨Qb rfl, _, Qw (.inl rfl) (ev h1), rfl⟩
             refine Qa (Ql fun a W hC hs => ?_) ?_
             · obtain ⟨va, hva, hRa⟩ := Qf hs 1 102 (by kernel_rfl) (by rfl)
               replace hRa : va = _ := hRa
               subst hRa
               exact ⟨Qb rfl, _, Xx rfl (ev hva), rfl⟩
             refine Qa (Ql fun a W hC hs => ?_) ?_
             · obtain ⟨va, hva, hRa⟩ := Qf hs 2 103 (by kernel_rfl) (by rfl)
               replace hRa : va = _ := hRa
               subst hRa
               exact ⟨Qb rfl, _, Q4 rfl (ev hva) fl_c3, rfl⟩
             refine Qa (Ql fun a W hC hs => ?_) ?_
             · obtain ⟨va, hva, hRa⟩ := Qf hs 3 104 (by kernel_rfl) (by rfl)
               replace hRa : va = _ := hRa
               subst hRa
               exact ⟨Qb rfl, _, Qz rfl (ev hva) (ld_int0 (hC.own.get (by unfold maxLen; omega) hxb1.out).2.2.2), rfl⟩
             refine Qa (Ql fun a W hC hs => ?_) ?_
             · have h1 := Qo hs 5 (by kernel_rfl) (by rfl)
               exact ⟨Qb rfl, _, Qw (.inl rfl) (ev h1), rfl⟩
             refine Qa (Ql fun a W hC hs => ?_) ?_
             · have h1 := Qo hs 9 (by kernel_rfl) (by rfl)
               exact ⟨Qb rfl, _, Qw (.inl rfl) (ev h1), rfl⟩
             refine Qa (Ql fun a W hC hs => ?_) ?_
             · obtain ⟨va, hva, hRa⟩ := Qf hs 6 107 (by kernel_rfl) (by rfl)
               replace hRa : va = _ := hRa
               subst hRa
               exact ⟨Qb rfl, _, run_addB rfl (ev hva) (by omega) (by omega), rfl⟩
             refine Qa (Ql fun a W hC hs => ?_) ?_
             · obtain ⟨va, hva, hRa⟩ := Qf hs 5 106 (by kernel_rfl) (by rfl)
               replace hRa : va = _ := hRa
               subst hRa
               obtain ⟨vb, hvb, hRb⟩ := Qf hs 7 108 (by kernel_rfl) (by rfl)
               replace hRb : vb = _ := hRb
               subst hRb
               exact ⟨Qb rfl, _, run_ixB rfl (ev hva) (ev hvb) (ix_intS (show n + 1 < l.length + 1 by omega)), rfl⟩
             refine Qa (Ql fun a W hC hs => ?_) ?_
             · obtain ⟨va, hva, hRa⟩ := Qf hs 8 109 (by kernel_rfl) (by rfl)
               replace hRa : va = _ := hRa
               subst hRa
               exact ⟨Qb rfl, _, Qz rfl (ev hva) (ld_intV (by rw [(hC.nb.get (show n + 1 < l.length + 1 by omega)).1]; exact congrArg (fun z => some (Value.int .i64 z)) hny)), rfl⟩
             refine Qa (s_new fun a W hC hs => ?_) ?_
             · obtain ⟨va, hva, hRa⟩ := Qf hs 9 110 (by kernel_rfl) (by rfl)
               replace hRa : va = _ := hRa
               subst hRa
               refine ⟨Qb rfl, _, _, run_bs (qs := #[(0, .int .i64 ((posN l n : Int) + 1))]) rfl (by simp [ev hva]) (mk_int1 W _), hC.keep (Qh _ _), Qh _ _, ?_⟩
               cases t
               · exact ⟨_, rfl, Qt _ _ rfl⟩
               · trivial
             exact Qx
           · skip
             refine Qa (Ql fun a W hC hs => ?_) ?_
             · obtain ⟨va, hva, hRa⟩ := Qf hs 0 101 (by kernel_rfl) (by rfl)
               replace hRa : va = _ := hRa
               subst hRa
               exact ⟨Qb rfl, _, Xx rfl (ev hva), rfl⟩
             refine Qa (Ql fun a W hC hs => ?_) ?_
             · obtain ⟨va, hva, hRa⟩ := Qf hs 12 113 (by kernel_rfl) (by rfl)
               replace hRa : va = _ := hRa
               subst hRa
               exact ⟨Qb rfl, _, Q4 rfl (ev hva) fl_c3, rfl⟩
             exact Qx
          next =>
           intro a W hC hs
           obtain ⟨va, hva, hRa⟩ := Qf hs 4 105 (by kernel_rfl) (by rfl)
           replace hRa : va = _ := hRa
           subst hRa
           obtain ⟨vb, hvb, hRb⟩ := Qf hs 10 111 (by kernel_rfl) (by rfl)
           obtain ⟨qs, rfl, hqs⟩ : VSN ((posN l n : Int) + 1) vb W := hRb
           obtain ⟨i0, z0, hi0, hz0, hz1, hz2, hz3⟩ := info_int1
           have hct := hC.ct rfl
           have hrw := hct.to _ _ hxb1.out
           refine ⟨Qb rfl, p_app1 (t := 40) (e := 3) rfl (by kernel_rfl) hi0 hz0 hz1 hz2 hz3 (by decide) (ev hva) (ev hvb) hrw rfl hqs (one_int _) (by omega) (by omega) (by have := hC.own.lt; omega) fun v' w' k1 k2 k3 => ?_⟩
           obtain ⟨na, nc, rfl, hnew⟩ := hct.addTo hxb1.out k2 k1 k3
           exact ⟨hC.app k2 (fun k e => ⟨(hrw.lt k e).1, fun e' => Zb hrw hC.box (by decide) (e.trans (congrArg some e'))⟩) (by omega) (by omega) (by omega) (by omega), trivial, _, rfl, na, nc, rfl, Xg hct.own k2 (Zb hrw hct.own.ex (by decide)), hnew⟩
          intro σ V26 hCV hRV
          generalize hF : Q6 _ _ _ _ _ = F
          simp [Q6, dstOf, List.range, List.range.loop, Act.put] at hF
          subst hF
          obtain ⟨na26, nc26, hv9, ho9, hct9⟩ : VApT (gb + 1) gb (bs.set (posN l n) xb1) (posN l n) xb1 ((posN l n : Int) + 1) (σ 11) V26 := hRV 11 (by simp)
          have hp9 : σ 13 = .pointer (some ⟨gb, posN l n * 4 + 3, none⟩) := hRV 13 (by simp)
          obtain ⟨f0, f1, f2, f3⟩ := ho9.get (by unfold maxLen; omega) hxb1.out
          have ff := ho9.free (posN l n * 4 + 3)
          have hC27 := Lh (hCV.put hct9 (by omega))
          refine wp_storeN (v := σ 11) rfl rfl hp9 rfl ⟨_, _, _, hv9⟩ f3 ff ?_
          clear hRV hCV hp9 ho9 hct9 hv9 f0 f1 f2 f3 ff
          generalize V26.setCell ⟨gb, posN l n * 4 + 3, none⟩ (σ 11) = W27 at *
          clear V26
          generalize σ 0 = z26_0
          generalize σ 1 = z26_1
          generalize σ 2 = z26_2
          generalize σ 3 = z26_3
          generalize σ 4 = z26_4
          generalize σ 5 = z26_5
          generalize σ 6 = z26_6
          generalize σ 7 = z26_7
          generalize σ 8 = z26_8
          generalize σ 9 = z26_9
          generalize σ 10 = z26_10
          generalize σ 11 = z26_11
          generalize σ 12 = z26_12
          generalize σ 13 = z26_13
          obtain ⟨xb2, hx2⟩ : ∃ x : Bk, Hid (x = { xb1 with ta := na26, tcap := nc26, tt := xb1.tt ++ [(posN l n : Int) + 1] }) := ⟨_, Lh rfl⟩
          rw [← hx2.out, List.set_set] at hC27
          have htl2 : xb2.tt.length ≤ 65536 := by rw [hx2.out, htt1.out, htt.out]; simp
          have hbsl2 : (bs.set (posN l n) xb2).length ≤ 65537 := by rw [List.length_set]; exact hbsl
          have hxb2 : Hid ((bs.set (posN l n) xb2)[posN l n]? = some xb2) := Lh (List.getElem?_set_self hpj)
          go_wp2_with fail
          go_roundw
          case rel => exact ⟨n + 1, by omega, by go_num, Lh ⟨_, hP.out.one (T := xb1.tt ++ [(posN l n : Int) + 1]) hlt hxi.out hxb.out (by rw [hx2.out, hx1.out]) (by rw [htt1.out, htt.out]; exact hTT.out), hC27.out.ct rfl⟩, Lh (by have h := hC27.out.nb; rw [hfn.out] at h; exact h), Lh hC27.out.mks, Lh hC27.out.below⟩
          case measure => simp [intOf]; omega
      · have hk2 : n = l.length := by omega
        subst hk2
        go_wp2_with fail
        go_ret
        obtain ⟨bs, hP, hCt⟩ := hC.out
        exact ⟨gb, bs, by rw [hP.len]; rfl, hP, hCt, by omega, hb.out⟩
end Go.Proofs.YthiiahlgncngoaaDoorRR.Fw
