/- Walk of the document's mayIns, one operation after the other. Conditions: the program's Funs and the instruction's Args lie in memory. -/
import Derived.Test.YthiiahlgncngoaaDoorRRJCfE
import Derived.Test.YthiiahlgncngoaaDoorRRJCfE2
set_option maxHeartbeats 16000000
set_option maxRecDepth 100000
namespace Go.Proofs.YthiiahlgncngoaaDoorRR.Cd
open Go Go.RowKit
open Go.Proofs.YthiiahlgncngoaaDoorRR.Lx Go.Proofs.YthiiahlgncngoaaDoorRR.Tr Go.Proofs.YthiiahlgncngoaaDoorRR.Pa
theorem rwithin_q (n m : Int) (w : World) : Calls Tryd.prog 78 #[.int .i64 n, .int .i64 m] w fun e w' => e = .returned (.bool (inP n m)) ∧ w' = w := by
 by_cases h1 : 0 ≤ n
 · by_cases h2 : n < m
   · go_enter Tryd.func78, Tryd.ntmps78
     go_wp2_with fail
     go_ret
     exact ⟨Qi (by simp [inP, h1, h2]), rfl⟩
   · go_enter Tryd.func78, Tryd.ntmps78
     go_wp2_with fail
     go_ret
     exact ⟨Qi (by simp [inP, h2]), rfl⟩
 · go_enter Tryd.func78, Tryd.ntmps78
   go_wp2_with fail
   go_ret
   exact ⟨Qi (by rw [inP, decide_eq_false (by omega : ¬ 0 ≤ n)]; rfl), rfl⟩
theorem rmay_o10 (p : Pg) (f : Fn) (r a b n : Int) (aa : Option Addr) (acap : Nat) (args : List Int) (w : World) (hri : RowAt w (fun _ => True) aa acap args.length (Qc args)) (hl : args.length ≤ 17592186044400) (hS : Zi (⟨10, r, a, b, n, aa, acap, args⟩ : Ins) (Q3 (⟨10, r, a, b, n, aa, acap, args⟩ : Ins)) = true) (hrow : RowAt w (fun _ => True) p.fa p.fcap p.funs.length (Zw p.funs)) (hn : I64 n) :
 Calls Tryd.prog 47 #[p.val, f.val, (⟨10, r, a, b, n, aa, acap, args⟩ : Ins).val] w fun e w' => e = .returned (.bool (Zu p f (⟨10, r, a, b, n, aa, acap, args⟩ : Ins))) ∧ Below w.heap.size w w' := by
 have hm : Zu p f (⟨10, r, a, b, n, aa, acap, args⟩ : Ins) = ((rdP (⟨10, r, a, b, n, aa, acap, args⟩ : Ins) ++ [r]).all (fun x => inP x f.regs) && opN p f (⟨10, r, a, b, n, aa, acap, args⟩ : Ins)) := by
  rw [Xl, hS]; simp [Zf, hasR]
 generalize Zu p f (⟨10, r, a, b, n, aa, acap, args⟩ : Ins) = RV at *
 replace hm := Lh hm
 have hw := Lh (fun V => Q5 (⟨10, r, a, b, n, aa, acap, args⟩ : Ins) V)
 have hwv : wrP (⟨10, r, a, b, n, aa, acap, args⟩ : Ins) = (r, true) := rfl
 rw [hwv] at hw
 clear hwv
 have hst := Lh (Qs w (.cells ⟨p.vals⟩ 26) (.cells ⟨f.vals⟩ 50) (.cells ⟨(⟨10, r, a, b, n, aa, acap, args⟩ : Ins).vals⟩ 44))
 have hbx := Lh (Bx3.new w p f (⟨10, r, a, b, n, aa, acap, args⟩ : Ins))
 have hsm := fun (V : World) (hb : Below w.heap.size w V) => Zj (⟨10, r, a, b, n, aa, acap, args⟩ : Ins) (Q3 (⟨10, r, a, b, n, aa, acap, args⟩ : Ins)) V (hri.below (Kps.of_below hb)) (Xt (i := (⟨10, r, a, b, n, aa, acap, args⟩ : Ins)) (hri.below (Kps.of_below hb)))
 rw [hS] at hsm
 replace hsm := Lh hsm
 have hkp := Lh (fun (V : World) => Xu (⟨10, r, a, b, n, aa, acap, args⟩ : Ins) V rfl)
 have hrd := Lh (fun (V : World) (hb : Below w.heap.size w V) => Z6 (⟨10, r, a, b, n, aa, acap, args⟩ : Ins) V (hri.below (Kps.of_below hb)) (Nat.le_trans hl (by decide)))
 have hLlen : (rdP (⟨10, r, a, b, n, aa, acap, args⟩ : Ins)).length ≤ 17592186044400 := by have h1 : args.length ≤ 17592186044400 := hl; simpa [rdP, rdA, rdB, rdC, hasA, hasB, hasF, numK] using h1
 clear hri hl hS
 go_enter Tryd.func47, Tryd.ntmps47
 go_upto_region 1 with fail
 generalize hW0 : ((w.alloc (.cells ⟨p.vals⟩ 26)).alloc (.cells ⟨f.vals⟩ 50)).alloc (.cells ⟨(⟨10, r, a, b, n, aa, acap, args⟩ : Ins).vals⟩ 44) = W0 at hbx hst
 have hsz0 : W0.heap.size = w.heap.size + 3 := by rw [← hW0]; simp
 obtain ⟨r0, r1, r2, r3, r4, r5⟩ := Qm hbx.out.ic
 have u0 := Qj r0
 have u1 := Qj r1
 have u2 := Qj r2
 have u3 := Qj r3
 have u4 := Qj r4
 have u5 := Qj r5
 have s1 := Lh (Qq (w := W0) (f := 75) (args := #[(⟨10, r, a, b, n, aa, acap, args⟩ : Ins).val]) (fun V hb => hkp.out V))
 have s2 := Lh (Qq (w := W0) (f := 41) (args := #[(⟨10, r, a, b, n, aa, acap, args⟩ : Ins).val, (Q3 (⟨10, r, a, b, n, aa, acap, args⟩ : Ins)).val]) (fun V hb => hsm.out V (hst.out.trans (hb.mono hst.out.size))))
 clear r0 r1 r2 r3 r4 r5 hkp hsm
 refine Qp (C := fun V => ∃ U : UpW W0, V = U.val) (by kernel_rfl) (by kernel_rfl) ⟨⟨W0.drew, (Below.refl _ _).drew⟩, by show _ = W0.drew; rw [← hW0]; rfl⟩ ?_
 iterate 11 (quiet_step (fail))
 quiet_step (exact s1.out _)
 quiet_step (exact s2.out _)
 iterate 2 (quiet_step (fail))
 refine wpQuiet_nil ?_
 rintro U ⟨⟨_, hU⟩, rfl⟩
 clear u0 u1 u2 u3 u4 u5 s1 s2 hW0
 have hbU : Hid (Below w.heap.size w U) := Lh (hst.out.trans (hU.mono hst.out.size))
 have hbxU := Lh (hbx.out.below hU)
 have hszU : w.heap.size + 3 ≤ U.heap.size := by have := hU.size; omega
 clear hsz0
 replace hU := Lh hU
 obtain ⟨r0, r1, r2, r3, r4, r5⟩ := Qm hbxU.out.ic
 go_wp2_with fail
 refine (hrd.out U hbU.out).mono ?_
 rintro e w1 ⟨lv, rfl, hown1, hb1⟩
 generalize hLR : rdP (⟨10, r, a, b, n, aa, acap, args⟩ : Ins) = LR at *
 have hbW1 : Hid (Below W0.heap.size W0 w1) := Lh (hU.out.trans (hb1.mono hU.out.size))
 have hs1 : U.heap.size ≤ w1.heap.size := hb1.size
 clear r0 r1 r2 r3 r4 r5 hbxU
 have hbx1 := Lh (hbx.out.below hbW1.out)
 obtain ⟨r0, r1, r2, r3, r4, r5⟩ := Qm hbx1.out.ic
 have hown1' := Lh hown1
 clear hb1 hrd hown1 hU hbU
 go_wp2_with fail
 refine (hw.out w1).mono ?_
 rintro e w2 ⟨rfl, hb2⟩
 have hbW2 : Hid (Below W0.heap.size W0 w2) := Lh (hbW1.out.trans (hb2.mono hbW1.out.size))
 have hown2 := Lh (Qn hown1'.out hb2)
 have hs2 : w1.heap.size ≤ w2.heap.size := hb2.size
 clear r0 r1 r2 r3 r4 r5 hbx1 hown1' hb2 hbW1 hw
 obtain ⟨i0, hi0, hz0, hz1, hz2⟩ := Xn
 have hLn := Lh hLlen
 obtain ⟨ra0, rc0, rfl, _⟩ := row_own hown2.out
 have hlit : Hid ((w2.alloc (.cells #[] 3)).ownsRow W0.heap.size 3 1 (.slice (some ⟨w2.heap.size, 0, none⟩) 0 0) 0 []) := Lh (World.ownsRow_lit (base := W0.heap.size) (e := 3) (size := 1) w2 #[] 0 hbW2.out.size (Nat.zero_le _) rfl)
 have hown4 := Lh (Qn hown2.out (Qh w2 (.cells #[] 3)))
 go_wp2_with (at_builtin; refine Xe _ rfl _ _ 40 rfl W0.heap.size 3 i0 _ 8 Tryd.underlying40 hi0 hz0 hz1 hz2 rfl _ _ _ rfl hlit.out U.heap.size (.slice ra0 LR.length rc0) LR.length (Qc LR) rfl hown4.out (num_one LR) ?c1 ?c2 ?c3 ?_)
 case c1 => unfold maxLen; omega
 case c2 => omega
 case c3 => have := hbW2.out.size; simp; omega
 intro v3 w3 hown3 hg3 _
 have hbW3 : Hid (Below W0.heap.size W0 w3) := Lh ((hbW2.out.alloc hbW2.out.size _).grown hg3 (by have := hbW2.out.size; simp; omega) (fun q e => by cases e; exact hbW2.out.size))
 replace hown3 := Lh hown3
 clear hg3 hlit hown4
 go_wp2_with (at_builtin; refine wpList_append_own_at _ rfl _ _ 40 rfl W0.heap.size 3 i0 _ 1 8 Tryd.underlying40 hi0 hz0 hz1 hz2 rfl (by decide) _ _ _ rfl (Qn hown3.out (Qh _ _)) _ 1 1 [.int .i64 r] rfl rfl (one_at _ _ _ _ (by first | rfl | simp)) (by simp [Value.oneCell']) ?c1 ?c2 ?c3 ?_)
 case c1 => unfold maxLen; omega
 case c2 => omega
 case c3 => have := hbW3.out.size; simp; omega
 intro v4 w4 hown4 hg4 _ _
 have hbW4 : Hid (Below W0.heap.size W0 w4) := Lh ((hbW3.out.alloc (by have := hbW3.out.size; omega) _).grown hg4 (by have := hbW3.out.size; simp; omega) (fun q e => (hown3.out.lt q e).1))
 have hown4' : Hid (w4.ownsRow W0.heap.size 3 1 v4 (LR ++ [r]).length (Qc (LR ++ [r]))) := Lh (by
  rw [nums_ap, List.length_append]; simpa using hown4)
 have hLl : (LR ++ [r]).length ≤ 17592186044417 := by simp; omega
 clear hown4 hg4 hown3 hbW3 hown2 hbW2 hi0 hz0 hz1 hz2
 clear hLR
 generalize LR ++ [r] = L at *
 obtain ⟨ra, rc, rfl, hrL⟩ := row_own hown4'.out
 clear hown4'
 replace hrL := Lh hrL
 clear hLlen
 have hcl : (L.length : Int) ≤ 9223372036854775807 := by omega
 go_wp2_with fail
 go_loopw [10] (fun i wr => ∃ j : Nat, j ≤ L.length ∧ i = .int .i64 j ∧ Hid ((L.take j).all (fun x => inP x f.regs) = true) ∧ Below w4.heap.size w4 wr) (fun i _ => L.length - (intOf i).toNat)
 case atStart => exact ⟨0, Nat.zero_le _, rfl, Lh rfl, Below.refl _ _⟩
 case round =>
  obtain ⟨j, hj, rfl, hall, hbr⟩ := hrel
  have hbWr : Hid (Below W0.heap.size W0 wr) := Lh (hbW4.out.trans (hbr.mono hbW4.out.size))
  by_cases hjl : j < L.length
  · obtain ⟨x, hx⟩ : ∃ x, L[j]? = some x := ⟨L[j], by simp [hjl]⟩
    obtain ⟨cb, off, rfl, _, hcell⟩ := hrL.out.at_ j (.int .i64 x) (by unfold Qc; rw [List.getElem?_map, hx]; rfl)
    have hcl2 := Qj (Qe hbr hcell)
    have hbxr := Lh (hbx.out.below hbWr.out)
    obtain ⟨k0, k1, k2, k3, k4⟩ := Zm hbxr.out.fc
    have q3 := Qj k3
    clear k0 k1 k2 k3 k4 hcell hbxr
    replace hx := Lh hx
    have hj1 : (j : Int) < (L.length : Int) := by omega
    have hj0 : (0 : Int) ≤ (j : Int) := by omega
    by_cases hin : inP x f.regs = true
    · have HT := Lh (Xz hx.out hall.out hin)
      have s3 := Lh (Qq (w := wr) (f := 78) (args := #[.int .i64 x, .int .i64 f.regs]) (fun V hb => by have := Qv x f.regs V; rw [hin] at this; exact this))
      clear hin hall
      go_upto_region 10 with fail
      refine Qp (C := fun V => ∃ U : UpW wr, V = U.val) (by kernel_rfl) (by kernel_rfl) ⟨⟨wr.drew, (Below.refl _ _).drew⟩, rfl⟩ ?_
      iterate 6 (quiet_step (fail))
      quiet_step (exact s3.out _)
      quiet_step (fail)
      refine wpQuiet_nil ?_
      rintro U' ⟨⟨_, hU'⟩, rfl⟩
      have hbn := Lh (hbr.trans (hU'.mono hbr.size))
      clear hbr hU' hcl2 q3 s3 hx
      go_wp2_with fail
      go_roundw
      case rel => exact ⟨j + 1, by omega, by go_num, HT, hbn.out⟩
      case measure => simp [intOf]; omega
    · have hin' : inP x f.regs = false := by simpa using hin
      have HF := Lh (X5 (g := fun x => inP x f.regs) hx.out hin')
      have s3 := Lh (Qq (w := wr) (f := 78) (args := #[.int .i64 x, .int .i64 f.regs]) (fun V hb => by have := Qv x f.regs V; rw [hin'] at this; exact this))
      clear hin hin' hall
      go_upto_region 10 with fail
      refine Qp (C := fun V => ∃ U : UpW wr, V = U.val) (by kernel_rfl) (by kernel_rfl) ⟨⟨wr.drew, (Below.refl _ _).drew⟩, rfl⟩ ?_
      iterate 6 (quiet_step (fail))
      quiet_step (exact s3.out _)
      quiet_step (fail)
      refine wpQuiet_nil ?_
      rintro U' ⟨⟨_, hU'⟩, rfl⟩
      have hbn := Lh (hst.out.trans ((hbWr.out.trans (hU'.mono hbWr.out.size)).mono hst.out.size))
      clear hbr hU' hcl2 q3 s3 hx
      go_wp2_with fail
      go_ret
      exact ⟨Qi (by rw [hm.out, HF.out]; rfl), hbn.out⟩
  · have hje : j = L.length := by omega
    have HA : Hid (L.all (fun x => inP x f.regs) = true) := Lh (by have := hall.out; rwa [List.take_of_length_le (by omega)] at this)
    have hj1 : ¬ (j : Int) < (L.length : Int) := by omega
    have hbxr := Lh (hbx.out.below hbWr.out)
    obtain ⟨r0, r1, r2, r3, r4, r5⟩ := Qm hbxr.out.ic
    obtain ⟨k0, k1, k2, k3, k4⟩ := Zm hbxr.out.fc
    obtain ⟨g0, g1, g2⟩ := Xm hbxr.out.pc
    have hbn := Lh (hst.out.trans (hbWr.out.mono hst.out.size))
    have hv : RV = opN p f (⟨10, r, a, b, n, aa, acap, args⟩ : Ins) := by rw [hm.out, HA.out, Bool.true_and]
    replace hv := Lh hv
    clear hm HA hall hbr hbx hbxr hst
    clear r1 r2 r3 k0 k1 k2 k3 k4 g0 g1
    by_cases hin : inP n p.funs.length = true
    · have h2 : 0 ≤ n ∧ n < p.funs.length := by simpa [inP] using hin
      obtain ⟨h20, h21⟩ := h2
      obtain ⟨m, rfl⟩ : ∃ m : Nat, n = m := ⟨n.toNat, by omega⟩
      have hml : m < p.funs.length := by omega
      obtain ⟨g, hg⟩ : ∃ g, p.funs[m]? = some g := ⟨p.funs[m], by simp [hml]⟩
      obtain ⟨fb, fo, hfa, _, z0, z1, z2, z3, z4⟩ := Yd hrow m g hg
      rw [hfa] at g2
      have hbz := hbn.out
      have hop : opN p f (⟨10, r, a, b, m, aa, acap, args⟩ : Ins) = (!g.thread && decide ((args.length : Int) = g.params)) := by simp [opN, hin, hg]
      rw [hop] at hv
      have t1 := Qe hbz z1
      have t2 := Qe hbz z2
      have s3 := Lh (fun V : World => (by have := rwithin_q m p.funs.length V; rw [hin] at this; exact this : Calls Tryd.prog 78 #[.int .i64 m, .int .i64 p.funs.length] V fun e w' => e = .returned (.bool true) ∧ w' = V))
      clear hop hbz z0 z1 z2 z3 z4 hfa hrow hin hg
      have hm63 : (m : Int) ≤ 9223372036854775807 := by have := hn; unfold I64 at this; omega
      cases ht : g.thread
      · rw [ht] at t1
        by_cases hpp : (args.length : Int) = g.params
        · go_upto_region 27 with fail
          go_quiet (exact Calls.quiet_of_same (s3.out _))
          have hbq := Lh (hbn.out.trans (⟨rfl, rfl, rfl, Nat.le_refl _, fun _ _ => rfl⟩ : Below w.heap.size wr (wr.drewN nq)))
          go_wp2_with fail
          go_ret
          exact ⟨Qi (by rw [hv.out, ht]; simp [hpp]), hbq.out⟩
        · have hpf := ne_b hpp
          go_upto_region 27 with fail
          go_quiet (exact Calls.quiet_of_same (s3.out _))
          have hbq := Lh (hbn.out.trans (⟨rfl, rfl, rfl, Nat.le_refl _, fun _ _ => rfl⟩ : Below w.heap.size wr (wr.drewN nq)))
          go_wp2_with fail
          go_ret
          exact ⟨Qi (by rw [hv.out, ht]; simp [hpp]), hbq.out⟩
      · rw [ht] at t1
        go_upto_region 27 with fail
        go_quiet (exact Calls.quiet_of_same (s3.out _))
        have hbq := Lh (hbn.out.trans (⟨rfl, rfl, rfl, Nat.le_refl _, fun _ _ => rfl⟩ : Below w.heap.size wr (wr.drewN nq)))
        go_wp2_with fail
        go_ret
        exact ⟨Qi (by rw [hv.out, ht]; simp), hbq.out⟩
    · have hin' : inP n p.funs.length = false := by simpa using hin
      have hop : opN p f (⟨10, r, a, b, n, aa, acap, args⟩ : Ins) = false := by simp [opN, hin']
      rw [hop] at hv
      have s3 := Lh (fun V : World => (by have := rwithin_q n p.funs.length V; rw [hin'] at this; exact this : Calls Tryd.prog 78 #[.int .i64 n, .int .i64 p.funs.length] V fun e w' => e = .returned (.bool false) ∧ w' = V))
      clear hop hin hin' hrow
      go_upto_region 27 with fail
      go_quiet (exact Calls.quiet_of_same (s3.out _))
      have hbq := Lh (hbn.out.trans (⟨rfl, rfl, rfl, Nat.le_refl _, fun _ _ => rfl⟩ : Below w.heap.size wr (wr.drewN nq)))
      go_wp2_with fail
      go_ret
      exact ⟨Qi (by rw [hv.out]), hbq.out⟩
theorem rmay_any (p : Pg) (f : Fn) (i : Ins) (w : World) (hi : U8 i.op) (hn : I64 i.n) (hri : RowAt w (fun _ => True) i.aa i.acap i.args.length (Qc i.args)) (hl : i.args.length ≤ 17592186044400) (hrow : RowAt w (fun _ => True) p.fa p.fcap p.funs.length (Zw p.funs)) :
 Calls Tryd.prog 47 #[p.val, f.val, i.val] w fun e w' => e = .returned (.bool (Zu p f i)) ∧ Below w.heap.size w w' := by
 cases hk : Zf i.op with
 | false => exact rmay_unknown p f i w hi hk
 | true =>
   cases hS : Zi i (Q3 i) with
   | false => exact rmay_notkept p f i w hri hk hS
   | true =>
     obtain ⟨op, r, a, b, n, aa, acap, args⟩ := i
     have h1 : 1 ≤ op ∧ op ≤ 13 := by simpa [Zf] using hk
     have h13 : op = 1 ∨ op = 2 ∨ op = 3 ∨ op = 4 ∨ op = 5 ∨ op = 6 ∨ op = 7 ∨ op = 8 ∨ op = 9 ∨ op = 10 ∨ op = 11 ∨ op = 12 ∨ op = 13 := by omega
     rcases h13 with rfl | rfl | rfl | rfl | rfl | rfl | rfl | rfl | rfl | rfl | rfl | rfl | rfl
     · exact rmay_o1 p f r a b n aa acap args w hri hl hS
     · exact rmay_o2 p f r a b n aa acap args w hri hl hS
     · exact rmay_o3 p f r a b n aa acap args w hri hl hS
     · exact rmay_o4 p f r a b n aa acap args w hri hl hS
     · exact rmay_o5 p f r a b n aa acap args w hri hl hS
     · exact rmay_o6 p f r a b n aa acap args w hri hl hS
     · exact rmay_o7 p f r a b n aa acap args w hri hl hS
     · exact rmay_o8 p f r a b n aa acap args w hri hl hS
     · exact rmay_o9 p f r a b n aa acap args w hri hl hS
     · exact rmay_o10 p f r a b n aa acap args w hri hl hS hrow hn
     · exact rmay_o11 p f r a b n aa acap args w hri hl hS
     · exact rmay_o12 p f r a b n aa acap args w hri hl hS
     · exact rmay_o13 p f r a b n aa acap args w hri hl hS
end Go.Proofs.YthiiahlgncngoaaDoorRR.Cd
