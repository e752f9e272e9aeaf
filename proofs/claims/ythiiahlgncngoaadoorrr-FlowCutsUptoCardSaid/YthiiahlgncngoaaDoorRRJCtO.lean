/- Walk of FlowCuts. Conditions: the program lies in memory, its lists are of bounded length; the packages' tables hold their lists. -/
import Derived.Test.YthiiahlgncngoaaDoorRRJCtM
import Derived.Test.YthiiahlgncngoaaDoorRRJGrG
set_option maxHeartbeats 16000000
set_option maxRecDepth 100000
set_option linter.unusedVariables false
set_option linter.unusedSimpArgs false
namespace Go.Proofs.YthiiahlgncngoaaDoorRR.Fw
open Go Go.RowKit
open Go.Proofs.YthiiahlgncngoaaDoorRR.Lx Go.Proofs.YthiiahlgncngoaaDoorRR.Tr Go.Proofs.YthiiahlgncngoaaDoorRR.Cd
theorem Chg.box {B q : Nat} {W V : World} {cur : Array Value} {T : TypeId} (h : Chg B W V) (hq : W.heap[q]? = some (.cells cur T (0, 0))) (h1 : T ≠ 44) (h2 : T ≠ 3) (h3 : T ≠ 9) : V.heap[q]? = some (.cells cur T (0, 0)) := h.keep q cur T hq h1 h2 h3
theorem Chg.zero {B q o : Nat} {W V : World} {cur : Array Value} {y : Ins} (h : Chg B W V) (hq : W.heap[q]? = some (.cells cur 44 (0, 0))) (hB : B ≤ q) (hv : ∀ (j : Nat) (u : Value), y.vals[j]? = some u → cur[o + j]? = some u) :
 Chg B W ((((((V.setCell ⟨q, o, none⟩ (.int .u8 0)).setCell ⟨q, o + 1, none⟩ (.int .i64 0)).setCell ⟨q, o + 2, none⟩ (.int .i64 0)).setCell ⟨q, o + 3, none⟩ (.int .i64 0)).setCell ⟨q, o + 4, none⟩ (.int .i64 0)).setCell ⟨q, o + 5, none⟩ (.slice none 0 0)) := by
 have h0 := hv 0 _ rfl
 have h1 := hv 1 _ rfl
 have h2 := hv 2 _ rfl
 have h3 := hv 3 _ rfl
 have h4 := hv 4 _ rfl
 rw [Nat.add_zero] at h0
 exact (((((h.setIns hq hB (.inr fun a n c e => by rw [h0] at e; cases e)).setIns hq hB (.inr fun a n c e => by rw [h1] at e; cases e)).setIns hq hB (.inr fun a n c e => by rw [h2] at e; cases e)).setIns hq hB (.inr fun a n c e => by rw [h3] at e; cases e)).setIns hq hB (.inr fun a n c e => by rw [h4] at e; cases e)).setIns hq hB (.inl rfl)
theorem set_other6 {V : World} {q o k : Nat} {a b c d e f : Value} {x : Obj} (h : V.heap[k]? = some x) (hne : k ≠ q) : ((((((V.setCell ⟨q, o, none⟩ a).setCell ⟨q, o + 1, none⟩ b).setCell ⟨q, o + 2, none⟩ c).setCell ⟨q, o + 3, none⟩ d).setCell ⟨q, o + 4, none⟩ e).setCell ⟨q, o + 5, none⟩ f).heap[k]? = some x :=
 Xf (Xf (Xf (Xf (Xf (Xf h hne) hne) hne) hne) hne) hne
theorem flowCuts_law (p : Pg) (w : World) (hp : Pg.In w Tt p) (hT : OpTab w) (hsg : SignsIn w) (hS : Sml p) :
 Calls Tryd.prog 3 #[p.val] w fun e w' => e = .returned (.bool true) ∧ Below w.heap.size w w' := by
 have hmany := Lh (fun V (hv : Below w.heap.size w V) => many_any p V (hp.below (Kps.of_below hv)))
 have hro := Lh (fun V (hv : Below w.heap.size w V) => rof_any p V (hp.below (Kps.of_below hv)) hS)
 have hof := Lh (fun V (hv : Below w.heap.size w V) => of_any p V (hp.below (Kps.of_below hv)) (hT.keep hv) (hsg.below hsg.lt hv) hS)
 have hst := Lh (Qh w (.cells #[.slice p.ma p.mems.length p.mcap, .slice p.la p.locks.length p.lcap, .slice p.fa p.funs.length p.fcap] 26))
 have hq := Lh (Qt w (.cells #[.slice p.ma p.mems.length p.mcap, .slice p.la p.locks.length p.lcap, .slice p.fa p.funs.length p.fcap] 26) rfl)
 obtain ⟨kk, hkk⟩ : ∃ k : Int, k = (if mayP p = true then 0 else 4) := ⟨_, rfl⟩
 rw [← hkk] at hro hof
 clear hp hT hsg hS hkk
 unfold Cd.Pg.val
 unfold Cd.Pg.val at hmany hro hof
 go_enter Tryd.func3, Tryd.ntmps3
 go_wp2_with fail
 refine (hmany.out _ hst.out).mono ?_
 rintro e w1 ⟨⟨bm, rfl⟩, hb1⟩
 have hq1 := (hb1.block _ (Array.getElem?_eq_some_iff.1 hq.out).1).trans hq.out
 have q0 := Qk hq1 (j := 0) rfl
 have q1 := Qk hq1 (j := 1) rfl
 have q2 := Qk hq1 (j := 2) rfl
 have hbw := Lh (hst.out.trans (hb1.mono hst.out.size))
 have hwl := (Array.getElem?_eq_some_iff.1 hq1).1
 replace hq1 := Lh hq1
 clear hmany hst hq hb1
 cases bm
 · go_wp2_with fail
   refine (hro.out w1 hbw.out).mono ?_
   rintro e w2 ⟨y, rfl, hy, hyk, hb2⟩
   unfold Fm.vals
   have hal := Qh w2 (.cells #[.slice y.ma y.mems.length y.mcap, .slice y.la y.locks.length y.lcap, .slice y.fa y.funs.length y.fcap] 30)
   have hq2 := Lh (Qt w2 (.cells #[.slice y.ma y.mems.length y.mcap, .slice y.la y.locks.length y.lcap, .slice y.fa y.funs.length y.fcap] 30) rfl)
   have hb3 := Lh (hbw.out.trans ((hb2.trans (hal.mono hb2.size)).mono hbw.out.size))
   have hq3 := Lh (((hb2.trans (hal.mono hb2.size)).block _ hwl).trans hq1.out)
   have hy3 := Lh (hy.keep hal)
   have hw2 := hb2.size
   replace hyk := Lh hyk
   clear hro hbw hq1 q0 q1 q2 hy hb2 hal
   go_upto_region 4 with fail
   generalize w2.alloc (.cells #[.slice y.ma y.mems.length y.mcap, .slice y.la y.locks.length y.lcap, .slice y.fa y.funs.length y.fcap] 30) = W3 at *
   have hl3 := (Array.getElem?_eq_some_iff.1 hq2.out).1
   have hB3 := Lh (Below.refl W3.heap.size W3)
   go_wp2_with fail
   go_loopw [5] (fun i wr => ∃ r : Nat, r ≤ 2 ∧ i = .int .i64 r ∧ Hid (Below W3.heap.size W3 wr)) (fun i _ => 2 - (intOf i).toNat)
   case atStart => exact ⟨0, by omega, rfl, hB3⟩
   case round =>
    clear hB3
    obtain ⟨r, hr, rfl, hB⟩ := hrel
    by_cases hlt : r < 2
    · have hbr := Lh (hb3.out.trans (hB.out.mono hb3.out.size))
      have hqr := (hB.out.block _ (Nat.lt_trans hwl (by omega))).trans hq3.out
      have q0 := Qk hqr (j := 0) rfl
      have q1 := Qk hqr (j := 1) rfl
      have q2 := Qk hqr (j := 2) rfl
      have hyr := Lh ((hB.out.block _ hl3).trans hq2.out)
      have hyR := Lh (hy3.out.keep hB.out)
      have hr1 : (r : Int) < 2 := by omega
      have hr0 : (0 : Int) ≤ (r : Int) := by omega
      clear hqr
      go_wp2_with fail
      refine (hof.out wr hbr.out).mono ?_
      rintro e w4 ⟨x, rfl, hx, hxk, hb4⟩
      unfold Fm.vals
      have hal := Qh w4 (.cells #[.slice x.ma x.mems.length x.mcap, .slice x.la x.locks.length x.lcap, .slice x.fa x.funs.length x.fcap] 30)
      have hx5 := Lh (Qt w4 (.cells #[.slice x.ma x.mems.length x.mcap, .slice x.la x.locks.length x.lcap, .slice x.fa x.funs.length x.fcap] 30) rfl)
      have hb5 := hb4.trans (hal.mono hb4.size)
      have hy5 := (hb5.block _ (Array.getElem?_eq_some_iff.1 hyr.out).1).trans hyr.out
      have y0 := Qk hy5 (j := 0) rfl
      have y1 := Qk hy5 (j := 1) rfl
      have y2 := Qk hy5 (j := 2) rfl
      have hsm := rsame1_c x y (w4.alloc (.cells #[.slice x.ma x.mems.length x.mcap, .slice x.la x.locks.length x.lcap, .slice x.fa x.funs.length x.fcap] 30)) (hx.mem.keep hal) (hyR.out.keep hb5)
      rw [any_same hxk hyk.out] at hsm
      replace hsm := Lh hsm
      have hP5 := Lh (hx.keep hal (hx.mem.keep hal))
      replace hb5 := Lh hb5
      have hw4 := hb4.size
      have hly := (Array.getElem?_eq_some_iff.1 hy5).1
      clear hx hxk hb4 hal hy5 hyr hyR q0 q1 q2
      unfold Fm.vals at hsm
      go_upto_region 8 with fail
      generalize w4.alloc (.cells #[.slice x.ma x.mems.length x.mcap, .slice x.la x.locks.length x.lcap, .slice x.fa x.funs.length x.fcap] 30) = W5 at *
      have x0 := Qk hx5.out (j := 0) rfl
      have x1 := Qk hx5.out (j := 1) rfl
      have x2 := Qk hx5.out (j := 2) rfl
      have hl5 := (Array.getElem?_eq_some_iff.1 hx5.out).1
      go_wp2_with fail
      refine hsm.out.mono ?_
      rintro e W6 ⟨rfl, hb6⟩
      have hP := Lh (hP5.out.keep hb6 (hP5.out.mem.keep hb6))
      have hx6 := Lh ((hb6.block _ hl5).trans hx5.out)
      have hb36 := Lh (hb5.out.trans (hb6.mono hb5.out.size))
      have hC0 := Lh (Chg.refl wr.heap.size W6)
      have hBr := hB.out.size
      have hB36 := hb36.out.size
      obtain ⟨W7, hW7⟩ : ∃ W, W = wr := ⟨_, rfl⟩
      subst hW7
      clear hsm hb5 hb6 hP5 hx5 x0 x1 x2 y0 y1 y2
      obtain ⟨lf1, lf2⟩ := Q2 hP.out.mem.frow
      obtain ⟨ll1, ll2⟩ := Q2 hP.out.mem.lrow
      go_wp2_with fail
      go_loopw [8] (fun i wq => ∃ k : Nat, k ≤ x.funs.length ∧ i = .int .i64 k ∧ Hid (Chg W7.heap.size W6 wq)) (fun i _ => x.funs.length - (intOf i).toNat)
      case atStart => exact ⟨0, Nat.zero_le _, rfl, hC0⟩
      case round =>
       clear hC0
       obtain ⟨k, hk, rfl, hC⟩ := hrel
       have hbx := hC.out.box hx6.out (by decide) (by decide) (by decide)
       have x1 := Qk hbx (j := 1) rfl
       have x2 := Qk hbx (j := 2) rfl
       have hxl := (Array.getElem?_eq_some_iff.1 hbx).1
       clear hbx
       by_cases hlk : k < x.funs.length
       · obtain ⟨g, hg⟩ : ∃ g, x.funs[k]? = some g := ⟨_, List.getElem?_eq_getElem hlk⟩
         have hgm := Lh (List.mem_of_getElem? hg)
         have hk0 : (0 : Int) ≤ (k : Int) := by omega
         have hk1 : (k : Int) < (x.funs.length : Int) := by omega
         replace hg := Lh hg
         obtain ⟨lg1, lg2⟩ := Q2 (Z1 (hP.out.br g hgm.out))
         go_wp2_with fail
         clear x1 x2
         go_loopw [9] (fun i wq => ∃ n : Nat, n ≤ g.blocks.length ∧ i = .int .i64 n ∧ Hid (Chg W7.heap.size W6 wq)) (fun i _ => g.blocks.length - (intOf i).toNat)
         case atStart => exact ⟨0, Nat.zero_le _, rfl, hC⟩
         case round =>
          clear hC
          obtain ⟨n, hn, rfl, hC⟩ := hrel
          have hbx := hC.out.box hx6.out (by decide) (by decide) (by decide)
          have x2 := Qk hbx (j := 2) rfl
          have hxl := (Array.getElem?_eq_some_iff.1 hbx).1
          obtain ⟨gb, goff, hga, _, _, _, _, _, g4⟩ := gr_row (Z1 (hC.out.own hP.out.fr (by decide) (by decide) (by decide))) k g hg.out
          rw [hga] at x2
          clear hga hbx
          by_cases hln : n < g.blocks.length
          · obtain ⟨b, hb⟩ : ∃ b, g.blocks[n]? = some b := ⟨_, List.getElem?_eq_getElem hln⟩
            obtain ⟨bb, boff, hba, _, b0, b1, b2, b3⟩ := X4 (Z1 (hC.out.own (hP.out.br g hgm.out) (by decide) (by decide) (by decide))) n b hb
            rw [hba] at g4
            have hwr := Lh (hP.out.wr g hgm.out b (List.mem_of_getElem? hb))
            have hbI := hP.out.mem.funs g hgm.out |>.blocks b (List.mem_of_getElem? hb)
            obtain ⟨lc1, lc2⟩ := Q2 hbI.crow
            obtain ⟨lt1, lt2⟩ := Q2 hbI.trow
            have hn0 : (0 : Int) ≤ (n : Int) := by omega
            have hn1 : (n : Int) < (g.blocks.length : Int) := by omega
            have hal := Qh wr (.cells #[.slice b.pa b.phis.length b.pcap, .slice b.ca b.code.length b.ccap, .slice b.fa b.fm.length b.fcap, .slice b.ta b.tt.length b.tcap] 42)
            have hbq := Lh (Qt wr (.cells #[.slice b.pa b.phis.length b.pcap, .slice b.ca b.code.length b.ccap, .slice b.fa b.fm.length b.fcap, .slice b.ta b.tt.length b.tcap] 42) rfl)
            have hC1 := Lh (hC.out.next (by have := hC.out.below.size; omega) hal)
            have hqb : W6.heap.size ≤ wr.heap.size := hC.out.size
            clear hb hba hbI hal hC
            go_upto_region 17 with fail
            generalize hW8 : wr.alloc (.cells #[.slice b.pa b.phis.length b.pcap, .slice b.ca b.code.length b.ccap, .slice b.fa b.fm.length b.fcap, .slice b.ta b.tt.length b.tcap] 42) = W8 at *
            generalize hqb2 : wr.heap.size = qb at *
            clear x2 g4 b0 b1 b2 b3 hW8
            go_wp2_with fail
            go_loopw [11] (fun i wq => ∃ m : Nat, m ≤ b.code.length ∧ i = .int .i64 m ∧ Hid (Chg W7.heap.size W6 wq) ∧ Hid (wq.heap[qb]? = some (.cells #[.slice b.pa b.phis.length b.pcap, .slice b.ca b.code.length b.ccap, .slice b.fa b.fm.length b.fcap, .slice b.ta b.tt.length b.tcap] 42 (0, 0)))) (fun i _ => b.code.length - (intOf i).toNat)
            case atStart => exact ⟨0, Nat.zero_le _, rfl, hC1, hbq⟩
            case round =>
             clear hC1 hbq
             obtain ⟨m, hm, rfl, hC, hbq⟩ := hrel
             have b1 := Qk hbq.out (j := 1) rfl
             have b3 := Qk hbq.out (j := 3) rfl
             have hbl := (Array.getElem?_eq_some_iff.1 hbq.out).1
             by_cases hlm : m < b.code.length
             · clear b3
               obtain ⟨y9, hy9⟩ : ∃ y, b.code[m]? = some y := ⟨_, List.getElem?_eq_getElem hlm⟩
               obtain ⟨qc, off, cur, hca, hcB, hcq, hcv, hca2⟩ := hwr.out.code m y9 hy9
               have hm0 : (0 : Int) ≤ (m : Int) := by omega
               have hm1 : (m : Int) < (b.code.length : Int) := by omega
               have hqc6 : qc < W6.heap.size := (Array.getElem?_eq_some_iff.1 hcq).1
               have hlen9 := (Q2 (Z1 hca2)).1
               have hlen8 := (Q2 (Z1 hca2)).2
               replace hcq := Lh hcq
               replace hcv := Lh hcv
               replace hca := Lh hca
               replace hca2 := Lh hca2
               clear hy9
               go_wp2_with fail
               clear b1
               go_loopw [12] (fun i wq => ∃ z : Nat, z ≤ y9.args.length ∧ i = .int .i64 z ∧ Hid (Chg W7.heap.size W6 wq) ∧ Hid (wq.heap[qb]? = some (.cells #[.slice b.pa b.phis.length b.pcap, .slice b.ca b.code.length b.ccap, .slice b.fa b.fm.length b.fcap, .slice b.ta b.tt.length b.tcap] 42 (0, 0)))) (fun i _ => y9.args.length - (intOf i).toNat)
               case atStart => exact ⟨0, Nat.zero_le _, rfl, hC, hbq⟩
               case round =>
                clear hC hbq
                obtain ⟨z, hz, rfl, hC, hbq⟩ := hrel
                have b1 := Qk hbq.out (j := 1) rfl
                have hbl := (Array.getElem?_eq_some_iff.1 hbq.out).1
                replace b1 := b1.trans (by rw [hca.out])
                have hz0 : (0 : Int) ≤ (z : Int) := by omega
                rcases hC.out.args hcq.out (hcv.out 5 _ rfl) with e5 | e5
                · by_cases hlz : z < y9.args.length
                  · obtain ⟨qa, cur2, haa, haB, haq, hal⟩ := row_blk hca2.out hlz
                    rw [haa] at e5
                    have hqa6 : qa < W6.heap.size := (Array.getElem?_eq_some_iff.1 haq).1
                    obtain ⟨⟨u9, k1⟩, k2, k3⟩ := hC.out.cell haq hal
                    have hz1 : (z : Int) < (y9.args.length : Int) := by omega
                    have hC2 := Lh (hC.out.setNum (o := z) (v := .int .i64 (-1)) haq (.inl rfl) haB)
                    have hb2 := Lh (Xf (q := qa) (o := z) (v := .int .i64 (-1)) hbq.out (by omega))
                    clear haa haq hal hC hbq
                    go_wp2_with fail
                    go_roundw
                    case rel => exact ⟨z + 1, by omega, by go_num, hC2, hb2⟩
                    case measure => simp [intOf]; omega
                  · have hz2 : z = y9.args.length := by omega
                    subst hz2
                    have hC6 := Lh (hC.out.zero (o := off + m * 6) hcq.out hcB (fun j u hu => hcv.out j u hu))
                    have hb6' := Lh (set_other6 (q := qc) (o := off + m * 6) (a := .int .u8 0) (b := .int .i64 0) (c := .int .i64 0) (d := .int .i64 0) (e := .int .i64 0) (f := .slice none 0 0) hbq.out (show qb ≠ qc by omega))
                    have cl : ∀ (j : Nat) (u : Value), y9.vals[j]? = some u → (∃ u, wr.cell? ⟨qc, off + m * 6 + j, none⟩ = some u) ∧ wr.frozen? ⟨qc, off + m * 6 + j, none⟩ = false ∧ qc < wr.heap.size := fun j u hu => hC.out.cell hcq.out (Array.getElem?_eq_some_iff.1 (hcv.out j u hu)).1
                    obtain ⟨⟨v0, p0⟩, f0, hqv⟩ := cl 0 _ rfl
                    obtain ⟨⟨v1, p1⟩, f1, _⟩ := cl 1 _ rfl
                    obtain ⟨⟨v2, p2⟩, f2, _⟩ := cl 2 _ rfl
                    obtain ⟨⟨v3, p3⟩, f3, _⟩ := cl 3 _ rfl
                    obtain ⟨⟨v4, p4⟩, f4, _⟩ := cl 4 _ rfl
                    obtain ⟨⟨v5, p5⟩, f5, _⟩ := cl 5 _ rfl
                    rw [Nat.add_zero] at p0 f0
                    clear cl hC hbq
                    go_upto_region 19 with fail
                    generalize (((((wr.setCell ⟨qc, off + m * 6, none⟩ (.int .u8 0)).setCell ⟨qc, off + m * 6 + 1, none⟩ (.int .i64 0)).setCell ⟨qc, off + m * 6 + 2, none⟩ (.int .i64 0)).setCell ⟨qc, off + m * 6 + 3, none⟩ (.int .i64 0)).setCell ⟨qc, off + m * 6 + 4, none⟩ (.int .i64 0)).setCell ⟨qc, off + m * 6 + 5, none⟩ (.slice none 0 0) = W9 at *
                    clear p0 p1 p2 p3 p4 p5 f0 f1 f2 f3 f4 f5 e5 b1
                    go_wp2_with fail
                    go_roundw
                    case rel => exact ⟨m + 1, by omega, by go_num, hC6, hb6'⟩
                    case measure => simp [intOf]; omega
                · skip
                  have hz9 : ¬ (z : Int) < 0 := by omega
                  have hz8 : decide ((z : Int) < 0) = false := decide_eq_false hz9
                  have hC6 := Lh (hC.out.zero (o := off + m * 6) hcq.out hcB (fun j u hu => hcv.out j u hu))
                  have hb6' := Lh (set_other6 (q := qc) (o := off + m * 6) (a := .int .u8 0) (b := .int .i64 0) (c := .int .i64 0) (d := .int .i64 0) (e := .int .i64 0) (f := .slice none 0 0) hbq.out (show qb ≠ qc by omega))
                  have cl : ∀ (j : Nat) (u : Value), y9.vals[j]? = some u → (∃ u, wr.cell? ⟨qc, off + m * 6 + j, none⟩ = some u) ∧ wr.frozen? ⟨qc, off + m * 6 + j, none⟩ = false ∧ qc < wr.heap.size := fun j u hu => hC.out.cell hcq.out (Array.getElem?_eq_some_iff.1 (hcv.out j u hu)).1
                  obtain ⟨⟨v0, p0⟩, f0, hqv⟩ := cl 0 _ rfl
                  obtain ⟨⟨v1, p1⟩, f1, _⟩ := cl 1 _ rfl
                  obtain ⟨⟨v2, p2⟩, f2, _⟩ := cl 2 _ rfl
                  obtain ⟨⟨v3, p3⟩, f3, _⟩ := cl 3 _ rfl
                  obtain ⟨⟨v4, p4⟩, f4, _⟩ := cl 4 _ rfl
                  obtain ⟨⟨v5, p5⟩, f5, _⟩ := cl 5 _ rfl
                  rw [Nat.add_zero] at p0 f0
                  clear cl hC hbq
                  go_upto_region 19 with fail
                  generalize (((((wr.setCell ⟨qc, off + m * 6, none⟩ (.int .u8 0)).setCell ⟨qc, off + m * 6 + 1, none⟩ (.int .i64 0)).setCell ⟨qc, off + m * 6 + 2, none⟩ (.int .i64 0)).setCell ⟨qc, off + m * 6 + 3, none⟩ (.int .i64 0)).setCell ⟨qc, off + m * 6 + 4, none⟩ (.int .i64 0)).setCell ⟨qc, off + m * 6 + 5, none⟩ (.slice none 0 0) = W9 at *
                  clear p0 p1 p2 p3 p4 p5 f0 f1 f2 f3 f4 f5 e5 b1
                  go_wp2_with fail
                  go_roundw
                  case rel => exact ⟨m + 1, by omega, by go_num, hC6, hb6'⟩
                  case measure => simp [intOf]; omega
             · skip
               have hm3 : m = b.code.length := by omega
               subst hm3
               have hwt := Lh hwr.out.to
               go_wp2_with fail
               clear b3 b1
               go_loopw [13] (fun i wq => ∃ z : Nat, z ≤ b.tt.length ∧ i = .int .i64 z ∧ Hid (Chg W7.heap.size W6 wq) ∧ Hid (wq.heap[qb]? = some (.cells #[.slice b.pa b.phis.length b.pcap, .slice b.ca b.code.length b.ccap, .slice b.fa b.fm.length b.fcap, .slice b.ta b.tt.length b.tcap] 42 (0, 0)))) (fun i _ => b.tt.length - (intOf i).toNat)
               case atStart => exact ⟨0, Nat.zero_le _, rfl, hC, hbq⟩
               case round =>
                clear hC hbq
                obtain ⟨z, hz, rfl, hC, hbq⟩ := hrel
                have b3 := Qk hbq.out (j := 3) rfl
                have hbl := (Array.getElem?_eq_some_iff.1 hbq.out).1
                have hz0 : (0 : Int) ≤ (z : Int) := by omega
                by_cases hlz : z < b.tt.length
                · obtain ⟨qa, cur2, haa, haB, haq, hal⟩ := row_blk hwt.out hlz
                  replace b3 := b3.trans (by rw [haa])
                  have hqa6 : qa < W6.heap.size := (Array.getElem?_eq_some_iff.1 haq).1
                  obtain ⟨⟨u9, k1⟩, k2, k3⟩ := hC.out.cell haq hal
                  have hz1 : (z : Int) < (b.tt.length : Int) := by omega
                  have hC2 := Lh (hC.out.setNum (o := z) (v := .int .i64 (-1)) haq (.inl rfl) haB)
                  have hb2 := Lh (Xf (q := qa) (o := z) (v := .int .i64 (-1)) hbq.out (by omega))
                  clear haa haq hal hC hbq
                  go_wp2_with fail
                  go_roundw
                  case rel => exact ⟨z + 1, by omega, by go_num, hC2, hb2⟩
                  case measure => simp [intOf]; omega
                · have hz3 : z = b.tt.length := by omega
                  subst hz3
                  go_wp2_with fail
                  go_roundw
                  case rel => exact ⟨n + 1, by omega, by go_num, hC⟩
                  case measure => simp [intOf]; omega
          · have hn3 : n = g.blocks.length := by omega
            subst hn3
            go_wp2_with fail
            go_roundw
            case rel => exact ⟨k + 1, by omega, by go_num, hC⟩
            case measure => simp [intOf]; omega
       · skip
         have hk3 : k = x.funs.length := by omega
         subst hk3
         have hlk := Lh hP.out.lk
         go_wp2_with fail
         clear x1 x2
         go_loopw [14] (fun i wq => ∃ z : Nat, z ≤ x.locks.length ∧ i = .int .i64 z ∧ Hid (Chg W7.heap.size W6 wq)) (fun i _ => x.locks.length - (intOf i).toNat)
         case atStart => exact ⟨0, Nat.zero_le _, rfl, hC⟩
         case round =>
          clear hC
          obtain ⟨z, hz, rfl, hC⟩ := hrel
          have hbx := hC.out.box hx6.out (by decide) (by decide) (by decide)
          have x1 := Qk hbx (j := 1) rfl
          have hxl := (Array.getElem?_eq_some_iff.1 hbx).1
          clear hbx
          have hz0 : (0 : Int) ≤ (z : Int) := by omega
          by_cases hlz : z < x.locks.length
          · obtain ⟨qa, cur2, haa, haB, haq, hal⟩ := row_blk hlk.out hlz
            replace x1 := x1.trans (by rw [haa])
            obtain ⟨⟨u9, k1⟩, k2, k3⟩ := hC.out.cell haq hal
            have hz1 : (z : Int) < (x.locks.length : Int) := by omega
            have hC2 := Lh (hC.out.setNum (o := z) (v := .string ⟨#[63]⟩) haq (.inr rfl) haB)
            clear haa haq hal hC
            go_wp2_with fail
            go_roundw
            case rel => exact ⟨z + 1, by omega, by go_num, hC2⟩
            case measure => simp [intOf]; omega
          · have hz3 : z = x.locks.length := by omega
            subst hz3
            have hBn := Lh (hB.out.trans ((hb36.out.trans hC.out.below).mono hBr))
            go_wp2_with fail
            go_roundw
            case rel => exact ⟨r + 1, by omega, by go_num, hBn⟩
            case measure => simp [intOf]; omega
    · have hr2 : r = 2 := by omega
      subst hr2
      go_wp2_with fail
      go_ret
      exact ⟨rfl, hb3.out.trans (hB.out.mono hb3.out.size)⟩
 · go_wp2_with fail
   go_ret
   exact ⟨rfl, hbw.out⟩
end Go.Proofs.YthiiahlgncngoaaDoorRR.Fw
