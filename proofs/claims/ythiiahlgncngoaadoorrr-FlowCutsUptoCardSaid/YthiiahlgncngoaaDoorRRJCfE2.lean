/- Walk of the document's mayIns, one operation after the other. Conditions: the program's Funs and the instruction's Args lie in memory. -/
import Derived.Test.YthiiahlgncngoaaDoorRRJaL
set_option maxHeartbeats 16000000
set_option maxRecDepth 100000
namespace Go.Proofs.YthiiahlgncngoaaDoorRR.Cd
open Go Go.RowKit
open Go.Proofs.YthiiahlgncngoaaDoorRR.Lx Go.Proofs.YthiiahlgncngoaaDoorRR.Tr Go.Proofs.YthiiahlgncngoaaDoorRR.Pa
theorem rmay_o7 (p : Pg) (f : Fn) (r a b n : Int) (aa : Option Addr) (acap : Nat) (args : List Int) (w : World) (hri : RowAt w (fun _ => True) aa acap args.length (Qc args)) (hl : args.length ≤ 17592186044400) (hS : Zi (⟨7, r, a, b, n, aa, acap, args⟩ : Ins) (Q3 (⟨7, r, a, b, n, aa, acap, args⟩ : Ins)) = true) :
 Calls Tryd.prog 47 #[p.val, f.val, (⟨7, r, a, b, n, aa, acap, args⟩ : Ins).val] w fun e w' => e = .returned (.bool (Zu p f (⟨7, r, a, b, n, aa, acap, args⟩ : Ins))) ∧ Below w.heap.size w w' := by
 have hm : Zu p f (⟨7, r, a, b, n, aa, acap, args⟩ : Ins) = ((rdP (⟨7, r, a, b, n, aa, acap, args⟩ : Ins)).all (fun x => inP x f.regs) && opN p f (⟨7, r, a, b, n, aa, acap, args⟩ : Ins)) := by
  rw [Xl, hS]; simp [Zf, hasR]
 generalize Zu p f (⟨7, r, a, b, n, aa, acap, args⟩ : Ins) = RV at *
 replace hm := Lh hm
 have hw := Lh (fun V => Q5 (⟨7, r, a, b, n, aa, acap, args⟩ : Ins) V)
 have hwv : wrP (⟨7, r, a, b, n, aa, acap, args⟩ : Ins) = (0, false) := rfl
 rw [hwv] at hw
 clear hwv
 have hst := Lh (Qs w (.cells ⟨p.vals⟩ 26) (.cells ⟨f.vals⟩ 50) (.cells ⟨(⟨7, r, a, b, n, aa, acap, args⟩ : Ins).vals⟩ 44))
 have hbx := Lh (Bx3.new w p f (⟨7, r, a, b, n, aa, acap, args⟩ : Ins))
 have hsm := fun (V : World) (hb : Below w.heap.size w V) => Zj (⟨7, r, a, b, n, aa, acap, args⟩ : Ins) (Q3 (⟨7, r, a, b, n, aa, acap, args⟩ : Ins)) V (hri.below (Kps.of_below hb)) (Xt (i := (⟨7, r, a, b, n, aa, acap, args⟩ : Ins)) (hri.below (Kps.of_below hb)))
 rw [hS] at hsm
 replace hsm := Lh hsm
 have hkp := Lh (fun (V : World) => Xu (⟨7, r, a, b, n, aa, acap, args⟩ : Ins) V rfl)
 have hrd := Lh (fun (V : World) (hb : Below w.heap.size w V) => Z6 (⟨7, r, a, b, n, aa, acap, args⟩ : Ins) V (hri.below (Kps.of_below hb)) (Nat.le_trans hl (by decide)))
 have hLlen : (rdP (⟨7, r, a, b, n, aa, acap, args⟩ : Ins)).length ≤ 17592186044400 := by have h1 : args.length ≤ 17592186044400 := hl; simp only [rdP, rdA, rdB, rdC, List.length_append]; repeat' split; all_goals simp_all [numK]
 clear hri hl hS
 go_enter Tryd.func47, Tryd.ntmps47
 go_upto_region 1 with fail
 generalize hW0 : ((w.alloc (.cells ⟨p.vals⟩ 26)).alloc (.cells ⟨f.vals⟩ 50)).alloc (.cells ⟨(⟨7, r, a, b, n, aa, acap, args⟩ : Ins).vals⟩ 44) = W0 at hbx hst
 have hsz0 : W0.heap.size = w.heap.size + 3 := by rw [← hW0]; simp
 obtain ⟨r0, r1, r2, r3, r4, r5⟩ := Qm hbx.out.ic
 have u0 := Qj r0
 have u1 := Qj r1
 have u2 := Qj r2
 have u3 := Qj r3
 have u4 := Qj r4
 have u5 := Qj r5
 have s1 := Lh (Qq (w := W0) (f := 75) (args := #[(⟨7, r, a, b, n, aa, acap, args⟩ : Ins).val]) (fun V hb => hkp.out V))
 have s2 := Lh (Qq (w := W0) (f := 41) (args := #[(⟨7, r, a, b, n, aa, acap, args⟩ : Ins).val, (Q3 (⟨7, r, a, b, n, aa, acap, args⟩ : Ins)).val]) (fun V hb => hsm.out V (hst.out.trans (hb.mono hst.out.size))))
 clear r0 r1 r2 r3 r4 r5 hkp hsm
 refine Qp (C := fun V => ∃ U : UpW W0, V = U.val) (by kernel_rfl) (by kernel_rfl) ⟨⟨W0.drew, (Below.refl _ _).drew⟩, by show _ = W0.drew; rw [← hW0]; rfl⟩ ?_
 iterate 11 (quiet_step (fail))
 quiet_step (exact s1.out _)
 quiet_step (exact s2.out _)
 iterate 2 (quiet_step (fail))
 refine wpQuiet_nil ?_
 rintro U ⟨⟨_, hU⟩, rfl⟩
 clear u0 u1 u2 u3 u4 u5 s1 s2 hW0
 have hbU : Hid (Below w.heap.size w U) := Lh (hst.out.trans (hU.mono hst.out.size))
 have hbxU := Lh (hbx.out.below hU)
 have hszU : w.heap.size + 3 ≤ U.heap.size := by have := hU.size; omega
 clear hsz0
 replace hU := Lh hU
 obtain ⟨r0, r1, r2, r3, r4, r5⟩ := Qm hbxU.out.ic
 go_wp2_with fail
 refine (hrd.out U hbU.out).mono ?_
 rintro e w1 ⟨lv, rfl, hown1, hb1⟩
 generalize hLR : rdP (⟨7, r, a, b, n, aa, acap, args⟩ : Ins) = LR at *
 have hbW1 : Hid (Below W0.heap.size W0 w1) := Lh (hU.out.trans (hb1.mono hU.out.size))
 have hs1 : U.heap.size ≤ w1.heap.size := hb1.size
 clear r0 r1 r2 r3 r4 r5 hbxU
 have hbx1 := Lh (hbx.out.below hbW1.out)
 obtain ⟨r0, r1, r2, r3, r4, r5⟩ := Qm hbx1.out.ic
 have hown1' := Lh hown1
 clear hb1 hrd hown1 hU hbU
 go_wp2_with fail
 refine (hw.out w1).mono ?_
 rintro e w2 ⟨rfl, hb2⟩
 have hbW2 : Hid (Below W0.heap.size W0 w2) := Lh (hbW1.out.trans (hb2.mono hbW1.out.size))
 have hown2 := Lh (Qn hown1'.out hb2)
 have hs2 : w1.heap.size ≤ w2.heap.size := hb2.size
 clear r0 r1 r2 r3 r4 r5 hbx1 hown1' hb2 hbW1 hw
 have hLl : LR.length ≤ 17592186044417 := by omega
 obtain ⟨ra, rc, rfl, hrL⟩ := row_own hown2.out
 clear hLR hown2
 generalize LR = L at *
 replace hrL := Lh hrL
 clear hLlen
 have hcl : (L.length : Int) ≤ 9223372036854775807 := by omega
 go_wp2_with fail
 go_loopw [10] (fun i wr => ∃ j : Nat, j ≤ L.length ∧ i = .int .i64 j ∧ Hid ((L.take j).all (fun x => inP x f.regs) = true) ∧ Below w2.heap.size w2 wr) (fun i _ => L.length - (intOf i).toNat)
 case atStart => exact ⟨0, Nat.zero_le _, rfl, Lh rfl, Below.refl _ _⟩
 case round =>
  obtain ⟨j, hj, rfl, hall, hbr⟩ := hrel
  have hbWr : Hid (Below W0.heap.size W0 wr) := Lh (hbW2.out.trans (hbr.mono hbW2.out.size))
  by_cases hjl : j < L.length
  · obtain ⟨x, hx⟩ : ∃ x, L[j]? = some x := ⟨L[j], by simp [hjl]⟩
    obtain ⟨cb, off, rfl, _, hcell⟩ := hrL.out.at_ j (.int .i64 x) (by unfold Qc; rw [List.getElem?_map, hx]; rfl)
    have hcl2 := Qj (Qe hbr hcell)
    have hbxr := Lh (hbx.out.below hbWr.out)
    obtain ⟨k0, k1, k2, k3, k4⟩ := Zm hbxr.out.fc
    have q3 := Qj k3
    clear k0 k1 k2 k3 k4 hcell hbxr
    replace hx := Lh hx
    have hj1 : (j : Int) < (L.length : Int) := by omega
    have hj0 : (0 : Int) ≤ (j : Int) := by omega
    by_cases hin : inP x f.regs = true
    · have HT := Lh (Xz hx.out hall.out hin)
      have s3 := Lh (Qq (w := wr) (f := 78) (args := #[.int .i64 x, .int .i64 f.regs]) (fun V hb => by have := Qv x f.regs V; rw [hin] at this; exact this))
      clear hin hall
      go_upto_region 10 with fail
      refine Qp (C := fun V => ∃ U : UpW wr, V = U.val) (by kernel_rfl) (by kernel_rfl) ⟨⟨wr.drew, (Below.refl _ _).drew⟩, rfl⟩ ?_
      iterate 6 (quiet_step (fail))
      quiet_step (exact s3.out _)
      quiet_step (fail)
      refine wpQuiet_nil ?_
      rintro U' ⟨⟨_, hU'⟩, rfl⟩
      have hbn := Lh (hbr.trans (hU'.mono hbr.size))
      clear hbr hU' hcl2 q3 s3 hx
      go_wp2_with fail
      go_roundw
      case rel => exact ⟨j + 1, by omega, by go_num, HT, hbn.out⟩
      case measure => simp [intOf]; omega
    · have hin' : inP x f.regs = false := by simpa using hin
      have HF := Lh (X5 (g := fun x => inP x f.regs) hx.out hin')
      have s3 := Lh (Qq (w := wr) (f := 78) (args := #[.int .i64 x, .int .i64 f.regs]) (fun V hb => by have := Qv x f.regs V; rw [hin'] at this; exact this))
      clear hin hin' hall
      go_upto_region 10 with fail
      refine Qp (C := fun V => ∃ U : UpW wr, V = U.val) (by kernel_rfl) (by kernel_rfl) ⟨⟨wr.drew, (Below.refl _ _).drew⟩, rfl⟩ ?_
      iterate 6 (quiet_step (fail))
      quiet_step (exact s3.out _)
      quiet_step (fail)
      refine wpQuiet_nil ?_
      rintro U' ⟨⟨_, hU'⟩, rfl⟩
      have hbn := Lh (hst.out.trans ((hbWr.out.trans (hU'.mono hbWr.out.size)).mono hst.out.size))
      clear hbr hU' hcl2 q3 s3 hx
      go_wp2_with fail
      go_ret
      exact ⟨Qi (by rw [hm.out, HF.out]; rfl), hbn.out⟩
  · have hje : j = L.length := by omega
    have HA : Hid (L.all (fun x => inP x f.regs) = true) := Lh (by have := hall.out; rwa [List.take_of_length_le (by omega)] at this)
    have hj1 : ¬ (j : Int) < (L.length : Int) := by omega
    have hbxr := Lh (hbx.out.below hbWr.out)
    obtain ⟨r0, r1, r2, r3, r4, r5⟩ := Qm hbxr.out.ic
    obtain ⟨k0, k1, k2, k3, k4⟩ := Zm hbxr.out.fc
    obtain ⟨g0, g1, g2⟩ := Xm hbxr.out.pc
    have hbn := Lh (hst.out.trans (hbWr.out.mono hst.out.size))
    have hv : RV = opN p f (⟨7, r, a, b, n, aa, acap, args⟩ : Ins) := by rw [hm.out, HA.out, Bool.true_and]
    replace hv := Lh hv
    clear hm HA hall hbr hbx hbxr hst
    go_wp2_with fail
    refine (Qv n p.locks.length _).mono ?_
    rintro e w9 ⟨rfl, hb9⟩
    have hb10 := Lh (hbn.out.trans (hb9.mono hbn.out.size))
    go_wp2_with fail
    go_ret
    exact ⟨Qi (by rw [hv.out]; simp [opN]), hb10.out⟩
theorem rmay_o8 (p : Pg) (f : Fn) (r a b n : Int) (aa : Option Addr) (acap : Nat) (args : List Int) (w : World) (hri : RowAt w (fun _ => True) aa acap args.length (Qc args)) (hl : args.length ≤ 17592186044400) (hS : Zi (⟨8, r, a, b, n, aa, acap, args⟩ : Ins) (Q3 (⟨8, r, a, b, n, aa, acap, args⟩ : Ins)) = true) :
 Calls Tryd.prog 47 #[p.val, f.val, (⟨8, r, a, b, n, aa, acap, args⟩ : Ins).val] w fun e w' => e = .returned (.bool (Zu p f (⟨8, r, a, b, n, aa, acap, args⟩ : Ins))) ∧ Below w.heap.size w w' := by
 have hm : Zu p f (⟨8, r, a, b, n, aa, acap, args⟩ : Ins) = ((rdP (⟨8, r, a, b, n, aa, acap, args⟩ : Ins)).all (fun x => inP x f.regs) && opN p f (⟨8, r, a, b, n, aa, acap, args⟩ : Ins)) := by
  rw [Xl, hS]; simp [Zf, hasR]
 generalize Zu p f (⟨8, r, a, b, n, aa, acap, args⟩ : Ins) = RV at *
 replace hm := Lh hm
 have hw := Lh (fun V => Q5 (⟨8, r, a, b, n, aa, acap, args⟩ : Ins) V)
 have hwv : wrP (⟨8, r, a, b, n, aa, acap, args⟩ : Ins) = (0, false) := rfl
 rw [hwv] at hw
 clear hwv
 have hst := Lh (Qs w (.cells ⟨p.vals⟩ 26) (.cells ⟨f.vals⟩ 50) (.cells ⟨(⟨8, r, a, b, n, aa, acap, args⟩ : Ins).vals⟩ 44))
 have hbx := Lh (Bx3.new w p f (⟨8, r, a, b, n, aa, acap, args⟩ : Ins))
 have hsm := fun (V : World) (hb : Below w.heap.size w V) => Zj (⟨8, r, a, b, n, aa, acap, args⟩ : Ins) (Q3 (⟨8, r, a, b, n, aa, acap, args⟩ : Ins)) V (hri.below (Kps.of_below hb)) (Xt (i := (⟨8, r, a, b, n, aa, acap, args⟩ : Ins)) (hri.below (Kps.of_below hb)))
 rw [hS] at hsm
 replace hsm := Lh hsm
 have hkp := Lh (fun (V : World) => Xu (⟨8, r, a, b, n, aa, acap, args⟩ : Ins) V rfl)
 have hrd := Lh (fun (V : World) (hb : Below w.heap.size w V) => Z6 (⟨8, r, a, b, n, aa, acap, args⟩ : Ins) V (hri.below (Kps.of_below hb)) (Nat.le_trans hl (by decide)))
 have hLlen : (rdP (⟨8, r, a, b, n, aa, acap, args⟩ : Ins)).length ≤ 17592186044400 := by have h1 : args.length ≤ 17592186044400 := hl; simp only [rdP, rdA, rdB, rdC, List.length_append]; repeat' split; all_goals simp_all [numK]
 clear hri hl hS
 go_enter Tryd.func47, Tryd.ntmps47
 go_upto_region 1 with fail
 generalize hW0 : ((w.alloc (.cells ⟨p.vals⟩ 26)).alloc (.cells ⟨f.vals⟩ 50)).alloc (.cells ⟨(⟨8, r, a, b, n, aa, acap, args⟩ : Ins).vals⟩ 44) = W0 at hbx hst
 have hsz0 : W0.heap.size = w.heap.size + 3 := by rw [← hW0]; simp
 obtain ⟨r0, r1, r2, r3, r4, r5⟩ := Qm hbx.out.ic
 have u0 := Qj r0
 have u1 := Qj r1
 have u2 := Qj r2
 have u3 := Qj r3
 have u4 := Qj r4
 have u5 := Qj r5
 have s1 := Lh (Qq (w := W0) (f := 75) (args := #[(⟨8, r, a, b, n, aa, acap, args⟩ : Ins).val]) (fun V hb => hkp.out V))
 have s2 := Lh (Qq (w := W0) (f := 41) (args := #[(⟨8, r, a, b, n, aa, acap, args⟩ : Ins).val, (Q3 (⟨8, r, a, b, n, aa, acap, args⟩ : Ins)).val]) (fun V hb => hsm.out V (hst.out.trans (hb.mono hst.out.size))))
 clear r0 r1 r2 r3 r4 r5 hkp hsm
 refine Qp (C := fun V => ∃ U : UpW W0, V = U.val) (by kernel_rfl) (by kernel_rfl) ⟨⟨W0.drew, (Below.refl _ _).drew⟩, by show _ = W0.drew; rw [← hW0]; rfl⟩ ?_
 iterate 11 (quiet_step (fail))
 quiet_step (exact s1.out _)
 quiet_step (exact s2.out _)
 iterate 2 (quiet_step (fail))
 refine wpQuiet_nil ?_
 rintro U ⟨⟨_, hU⟩, rfl⟩
 clear u0 u1 u2 u3 u4 u5 s1 s2 hW0
 have hbU : Hid (Below w.heap.size w U) := Lh (hst.out.trans (hU.mono hst.out.size))
 have hbxU := Lh (hbx.out.below hU)
 have hszU : w.heap.size + 3 ≤ U.heap.size := by have := hU.size; omega
 clear hsz0
 replace hU := Lh hU
 obtain ⟨r0, r1, r2, r3, r4, r5⟩ := Qm hbxU.out.ic
 go_wp2_with fail
 refine (hrd.out U hbU.out).mono ?_
 rintro e w1 ⟨lv, rfl, hown1, hb1⟩
 generalize hLR : rdP (⟨8, r, a, b, n, aa, acap, args⟩ : Ins) = LR at *
 have hbW1 : Hid (Below W0.heap.size W0 w1) := Lh (hU.out.trans (hb1.mono hU.out.size))
 have hs1 : U.heap.size ≤ w1.heap.size := hb1.size
 clear r0 r1 r2 r3 r4 r5 hbxU
 have hbx1 := Lh (hbx.out.below hbW1.out)
 obtain ⟨r0, r1, r2, r3, r4, r5⟩ := Qm hbx1.out.ic
 have hown1' := Lh hown1
 clear hb1 hrd hown1 hU hbU
 go_wp2_with fail
 refine (hw.out w1).mono ?_
 rintro e w2 ⟨rfl, hb2⟩
 have hbW2 : Hid (Below W0.heap.size W0 w2) := Lh (hbW1.out.trans (hb2.mono hbW1.out.size))
 have hown2 := Lh (Qn hown1'.out hb2)
 have hs2 : w1.heap.size ≤ w2.heap.size := hb2.size
 clear r0 r1 r2 r3 r4 r5 hbx1 hown1' hb2 hbW1 hw
 have hLl : LR.length ≤ 17592186044417 := by omega
 obtain ⟨ra, rc, rfl, hrL⟩ := row_own hown2.out
 clear hLR hown2
 generalize LR = L at *
 replace hrL := Lh hrL
 clear hLlen
 have hcl : (L.length : Int) ≤ 9223372036854775807 := by omega
 go_wp2_with fail
 go_loopw [10] (fun i wr => ∃ j : Nat, j ≤ L.length ∧ i = .int .i64 j ∧ Hid ((L.take j).all (fun x => inP x f.regs) = true) ∧ Below w2.heap.size w2 wr) (fun i _ => L.length - (intOf i).toNat)
 case atStart => exact ⟨0, Nat.zero_le _, rfl, Lh rfl, Below.refl _ _⟩
 case round =>
  obtain ⟨j, hj, rfl, hall, hbr⟩ := hrel
  have hbWr : Hid (Below W0.heap.size W0 wr) := Lh (hbW2.out.trans (hbr.mono hbW2.out.size))
  by_cases hjl : j < L.length
  · obtain ⟨x, hx⟩ : ∃ x, L[j]? = some x := ⟨L[j], by simp [hjl]⟩
    obtain ⟨cb, off, rfl, _, hcell⟩ := hrL.out.at_ j (.int .i64 x) (by unfold Qc; rw [List.getElem?_map, hx]; rfl)
    have hcl2 := Qj (Qe hbr hcell)
    have hbxr := Lh (hbx.out.below hbWr.out)
    obtain ⟨k0, k1, k2, k3, k4⟩ := Zm hbxr.out.fc
    have q3 := Qj k3
    clear k0 k1 k2 k3 k4 hcell hbxr
    replace hx := Lh hx
    have hj1 : (j : Int) < (L.length : Int) := by omega
    have hj0 : (0 : Int) ≤ (j : Int) := by omega
    by_cases hin : inP x f.regs = true
    · have HT := Lh (Xz hx.out hall.out hin)
      have s3 := Lh (Qq (w := wr) (f := 78) (args := #[.int .i64 x, .int .i64 f.regs]) (fun V hb => by have := Qv x f.regs V; rw [hin] at this; exact this))
      clear hin hall
      go_upto_region 10 with fail
      refine Qp (C := fun V => ∃ U : UpW wr, V = U.val) (by kernel_rfl) (by kernel_rfl) ⟨⟨wr.drew, (Below.refl _ _).drew⟩, rfl⟩ ?_
      iterate 6 (quiet_step (fail))
      quiet_step (exact s3.out _)
      quiet_step (fail)
      refine wpQuiet_nil ?_
      rintro U' ⟨⟨_, hU'⟩, rfl⟩
      have hbn := Lh (hbr.trans (hU'.mono hbr.size))
      clear hbr hU' hcl2 q3 s3 hx
      go_wp2_with fail
      go_roundw
      case rel => exact ⟨j + 1, by omega, by go_num, HT, hbn.out⟩
      case measure => simp [intOf]; omega
    · have hin' : inP x f.regs = false := by simpa using hin
      have HF := Lh (X5 (g := fun x => inP x f.regs) hx.out hin')
      have s3 := Lh (Qq (w := wr) (f := 78) (args := #[.int .i64 x, .int .i64 f.regs]) (fun V hb => by have := Qv x f.regs V; rw [hin'] at this; exact this))
      clear hin hin' hall
      go_upto_region 10 with fail
      refine Qp (C := fun V => ∃ U : UpW wr, V = U.val) (by kernel_rfl) (by kernel_rfl) ⟨⟨wr.drew, (Below.refl _ _).drew⟩, rfl⟩ ?_
      iterate 6 (quiet_step (fail))
      quiet_step (exact s3.out _)
      quiet_step (fail)
      refine wpQuiet_nil ?_
      rintro U' ⟨⟨_, hU'⟩, rfl⟩
      have hbn := Lh (hst.out.trans ((hbWr.out.trans (hU'.mono hbWr.out.size)).mono hst.out.size))
      clear hbr hU' hcl2 q3 s3 hx
      go_wp2_with fail
      go_ret
      exact ⟨Qi (by rw [hm.out, HF.out]; rfl), hbn.out⟩
  · have hje : j = L.length := by omega
    have HA : Hid (L.all (fun x => inP x f.regs) = true) := Lh (by have := hall.out; rwa [List.take_of_length_le (by omega)] at this)
    have hj1 : ¬ (j : Int) < (L.length : Int) := by omega
    have hbxr := Lh (hbx.out.below hbWr.out)
    obtain ⟨r0, r1, r2, r3, r4, r5⟩ := Qm hbxr.out.ic
    obtain ⟨k0, k1, k2, k3, k4⟩ := Zm hbxr.out.fc
    obtain ⟨g0, g1, g2⟩ := Xm hbxr.out.pc
    have hbn := Lh (hst.out.trans (hbWr.out.mono hst.out.size))
    have hv : RV = opN p f (⟨8, r, a, b, n, aa, acap, args⟩ : Ins) := by rw [hm.out, HA.out, Bool.true_and]
    replace hv := Lh hv
    clear hm HA hall hbr hbx hbxr hst
    go_wp2_with fail
    refine (Qv n p.locks.length _).mono ?_
    rintro e w9 ⟨rfl, hb9⟩
    have hb10 := Lh (hbn.out.trans (hb9.mono hbn.out.size))
    go_wp2_with fail
    go_ret
    exact ⟨Qi (by rw [hv.out]; simp [opN]), hb10.out⟩
theorem rmay_o9 (p : Pg) (f : Fn) (r a b n : Int) (aa : Option Addr) (acap : Nat) (args : List Int) (w : World) (hri : RowAt w (fun _ => True) aa acap args.length (Qc args)) (hl : args.length ≤ 17592186044400) (hS : Zi (⟨9, r, a, b, n, aa, acap, args⟩ : Ins) (Q3 (⟨9, r, a, b, n, aa, acap, args⟩ : Ins)) = true) :
 Calls Tryd.prog 47 #[p.val, f.val, (⟨9, r, a, b, n, aa, acap, args⟩ : Ins).val] w fun e w' => e = .returned (.bool (Zu p f (⟨9, r, a, b, n, aa, acap, args⟩ : Ins))) ∧ Below w.heap.size w w' := by
 have hm : Zu p f (⟨9, r, a, b, n, aa, acap, args⟩ : Ins) = ((rdP (⟨9, r, a, b, n, aa, acap, args⟩ : Ins)).all (fun x => inP x f.regs) && opN p f (⟨9, r, a, b, n, aa, acap, args⟩ : Ins)) := by
  rw [Xl, hS]; simp [Zf, hasR]
 generalize Zu p f (⟨9, r, a, b, n, aa, acap, args⟩ : Ins) = RV at *
 replace hm := Lh hm
 have hw := Lh (fun V => Q5 (⟨9, r, a, b, n, aa, acap, args⟩ : Ins) V)
 have hwv : wrP (⟨9, r, a, b, n, aa, acap, args⟩ : Ins) = (0, false) := rfl
 rw [hwv] at hw
 clear hwv
 have hst := Lh (Qs w (.cells ⟨p.vals⟩ 26) (.cells ⟨f.vals⟩ 50) (.cells ⟨(⟨9, r, a, b, n, aa, acap, args⟩ : Ins).vals⟩ 44))
 have hbx := Lh (Bx3.new w p f (⟨9, r, a, b, n, aa, acap, args⟩ : Ins))
 have hsm := fun (V : World) (hb : Below w.heap.size w V) => Zj (⟨9, r, a, b, n, aa, acap, args⟩ : Ins) (Q3 (⟨9, r, a, b, n, aa, acap, args⟩ : Ins)) V (hri.below (Kps.of_below hb)) (Xt (i := (⟨9, r, a, b, n, aa, acap, args⟩ : Ins)) (hri.below (Kps.of_below hb)))
 rw [hS] at hsm
 replace hsm := Lh hsm
 have hkp := Lh (fun (V : World) => Xu (⟨9, r, a, b, n, aa, acap, args⟩ : Ins) V rfl)
 have hrd := Lh (fun (V : World) (hb : Below w.heap.size w V) => Z6 (⟨9, r, a, b, n, aa, acap, args⟩ : Ins) V (hri.below (Kps.of_below hb)) (Nat.le_trans hl (by decide)))
 have hLlen : (rdP (⟨9, r, a, b, n, aa, acap, args⟩ : Ins)).length ≤ 17592186044400 := by have h1 : args.length ≤ 17592186044400 := hl; simp only [rdP, rdA, rdB, rdC, List.length_append]; repeat' split; all_goals simp_all [numK]
 clear hri hl hS
 go_enter Tryd.func47, Tryd.ntmps47
 go_upto_region 1 with fail
 generalize hW0 : ((w.alloc (.cells ⟨p.vals⟩ 26)).alloc (.cells ⟨f.vals⟩ 50)).alloc (.cells ⟨(⟨9, r, a, b, n, aa, acap, args⟩ : Ins).vals⟩ 44) = W0 at hbx hst
 have hsz0 : W0.heap.size = w.heap.size + 3 := by rw [← hW0]; simp
 obtain ⟨r0, r1, r2, r3, r4, r5⟩ := Qm hbx.out.ic
 have u0 := Qj r0
 have u1 := Qj r1
 have u2 := Qj r2
 have u3 := Qj r3
 have u4 := Qj r4
 have u5 := Qj r5
 have s1 := Lh (Qq (w := W0) (f := 75) (args := #[(⟨9, r, a, b, n, aa, acap, args⟩ : Ins).val]) (fun V hb => hkp.out V))
 have s2 := Lh (Qq (w := W0) (f := 41) (args := #[(⟨9, r, a, b, n, aa, acap, args⟩ : Ins).val, (Q3 (⟨9, r, a, b, n, aa, acap, args⟩ : Ins)).val]) (fun V hb => hsm.out V (hst.out.trans (hb.mono hst.out.size))))
 clear r0 r1 r2 r3 r4 r5 hkp hsm
 refine Qp (C := fun V => ∃ U : UpW W0, V = U.val) (by kernel_rfl) (by kernel_rfl) ⟨⟨W0.drew, (Below.refl _ _).drew⟩, by show _ = W0.drew; rw [← hW0]; rfl⟩ ?_
 iterate 11 (quiet_step (fail))
 quiet_step (exact s1.out _)
 quiet_step (exact s2.out _)
 iterate 2 (quiet_step (fail))
 refine wpQuiet_nil ?_
 rintro U ⟨⟨_, hU⟩, rfl⟩
 clear u0 u1 u2 u3 u4 u5 s1 s2 hW0
 have hbU : Hid (Below w.heap.size w U) := Lh (hst.out.trans (hU.mono hst.out.size))
 have hbxU := Lh (hbx.out.below hU)
 have hszU : w.heap.size + 3 ≤ U.heap.size := by have := hU.size; omega
 clear hsz0
 replace hU := Lh hU
 obtain ⟨r0, r1, r2, r3, r4, r5⟩ := Qm hbxU.out.ic
 go_wp2_with fail
 refine (hrd.out U hbU.out).mono ?_
 rintro e w1 ⟨lv, rfl, hown1, hb1⟩
 generalize hLR : rdP (⟨9, r, a, b, n, aa, acap, args⟩ : Ins) = LR at *
 have hbW1 : Hid (Below W0.heap.size W0 w1) := Lh (hU.out.trans (hb1.mono hU.out.size))
 have hs1 : U.heap.size ≤ w1.heap.size := hb1.size
 clear r0 r1 r2 r3 r4 r5 hbxU
 have hbx1 := Lh (hbx.out.below hbW1.out)
 obtain ⟨r0, r1, r2, r3, r4, r5⟩ := Qm hbx1.out.ic
 have hown1' := Lh hown1
 clear hb1 hrd hown1 hU hbU
 go_wp2_with fail
 refine (hw.out w1).mono ?_
 rintro e w2 ⟨rfl, hb2⟩
 have hbW2 : Hid (Below W0.heap.size W0 w2) := Lh (hbW1.out.trans (hb2.mono hbW1.out.size))
 have hown2 := Lh (Qn hown1'.out hb2)
 have hs2 : w1.heap.size ≤ w2.heap.size := hb2.size
 clear r0 r1 r2 r3 r4 r5 hbx1 hown1' hb2 hbW1 hw
 have hLl : LR.length ≤ 17592186044417 := by omega
 obtain ⟨ra, rc, rfl, hrL⟩ := row_own hown2.out
 clear hLR hown2
 generalize LR = L at *
 replace hrL := Lh hrL
 clear hLlen
 have hcl : (L.length : Int) ≤ 9223372036854775807 := by omega
 go_wp2_with fail
 go_loopw [10] (fun i wr => ∃ j : Nat, j ≤ L.length ∧ i = .int .i64 j ∧ Hid ((L.take j).all (fun x => inP x f.regs) = true) ∧ Below w2.heap.size w2 wr) (fun i _ => L.length - (intOf i).toNat)
 case atStart => exact ⟨0, Nat.zero_le _, rfl, Lh rfl, Below.refl _ _⟩
 case round =>
  obtain ⟨j, hj, rfl, hall, hbr⟩ := hrel
  have hbWr : Hid (Below W0.heap.size W0 wr) := Lh (hbW2.out.trans (hbr.mono hbW2.out.size))
  by_cases hjl : j < L.length
  · obtain ⟨x, hx⟩ : ∃ x, L[j]? = some x := ⟨L[j], by simp [hjl]⟩
    obtain ⟨cb, off, rfl, _, hcell⟩ := hrL.out.at_ j (.int .i64 x) (by unfold Qc; rw [List.getElem?_map, hx]; rfl)
    have hcl2 := Qj (Qe hbr hcell)
    have hbxr := Lh (hbx.out.below hbWr.out)
    obtain ⟨k0, k1, k2, k3, k4⟩ := Zm hbxr.out.fc
    have q3 := Qj k3
    clear k0 k1 k2 k3 k4 hcell hbxr
    replace hx := Lh hx
    have hj1 : (j : Int) < (L.length : Int) := by omega
    have hj0 : (0 : Int) ≤ (j : Int) := by omega
    by_cases hin : inP x f.regs = true
    · have HT := Lh (Xz hx.out hall.out hin)
      have s3 := Lh (Qq (w := wr) (f := 78) (args := #[.int .i64 x, .int .i64 f.regs]) (fun V hb => by have := Qv x f.regs V; rw [hin] at this; exact this))
      clear hin hall
      go_upto_region 10 with fail
      refine Qp (C := fun V => ∃ U : UpW wr, V = U.val) (by kernel_rfl) (by kernel_rfl) ⟨⟨wr.drew, (Below.refl _ _).drew⟩, rfl⟩ ?_
      iterate 6 (quiet_step (fail))
      quiet_step (exact s3.out _)
      quiet_step (fail)
      refine wpQuiet_nil ?_
      rintro U' ⟨⟨_, hU'⟩, rfl⟩
      have hbn := Lh (hbr.trans (hU'.mono hbr.size))
      clear hbr hU' hcl2 q3 s3 hx
      go_wp2_with fail
      go_roundw
      case rel => exact ⟨j + 1, by omega, by go_num, HT, hbn.out⟩
      case measure => simp [intOf]; omega
    · have hin' : inP x f.regs = false := by simpa using hin
      have HF := Lh (X5 (g := fun x => inP x f.regs) hx.out hin')
      have s3 := Lh (Qq (w := wr) (f := 78) (args := #[.int .i64 x, .int .i64 f.regs]) (fun V hb => by have := Qv x f.regs V; rw [hin'] at this; exact this))
      clear hin hin' hall
      go_upto_region 10 with fail
      refine Qp (C := fun V => ∃ U : UpW wr, V = U.val) (by kernel_rfl) (by kernel_rfl) ⟨⟨wr.drew, (Below.refl _ _).drew⟩, rfl⟩ ?_
      iterate 6 (quiet_step (fail))
      quiet_step (exact s3.out _)
      quiet_step (fail)
      refine wpQuiet_nil ?_
      rintro U' ⟨⟨_, hU'⟩, rfl⟩
      have hbn := Lh (hst.out.trans ((hbWr.out.trans (hU'.mono hbWr.out.size)).mono hst.out.size))
      clear hbr hU' hcl2 q3 s3 hx
      go_wp2_with fail
      go_ret
      exact ⟨Qi (by rw [hm.out, HF.out]; rfl), hbn.out⟩
  · have hje : j = L.length := by omega
    have HA : Hid (L.all (fun x => inP x f.regs) = true) := Lh (by have := hall.out; rwa [List.take_of_length_le (by omega)] at this)
    have hj1 : ¬ (j : Int) < (L.length : Int) := by omega
    have hbxr := Lh (hbx.out.below hbWr.out)
    obtain ⟨r0, r1, r2, r3, r4, r5⟩ := Qm hbxr.out.ic
    obtain ⟨k0, k1, k2, k3, k4⟩ := Zm hbxr.out.fc
    obtain ⟨g0, g1, g2⟩ := Xm hbxr.out.pc
    have hbn := Lh (hst.out.trans (hbWr.out.mono hst.out.size))
    have hv : RV = opN p f (⟨9, r, a, b, n, aa, acap, args⟩ : Ins) := by rw [hm.out, HA.out, Bool.true_and]
    replace hv := Lh hv
    clear hm HA hall hbr hbx hbxr hst
    go_wp2_with fail
    go_ret
    exact ⟨Qi (by rw [hv.out]; simp [opN]), hbn.out⟩
theorem rmay_o11 (p : Pg) (f : Fn) (r a b n : Int) (aa : Option Addr) (acap : Nat) (args : List Int) (w : World) (hri : RowAt w (fun _ => True) aa acap args.length (Qc args)) (hl : args.length ≤ 17592186044400) (hS : Zi (⟨11, r, a, b, n, aa, acap, args⟩ : Ins) (Q3 (⟨11, r, a, b, n, aa, acap, args⟩ : Ins)) = true) :
 Calls Tryd.prog 47 #[p.val, f.val, (⟨11, r, a, b, n, aa, acap, args⟩ : Ins).val] w fun e w' => e = .returned (.bool (Zu p f (⟨11, r, a, b, n, aa, acap, args⟩ : Ins))) ∧ Below w.heap.size w w' := by
 have hm : Zu p f (⟨11, r, a, b, n, aa, acap, args⟩ : Ins) = ((rdP (⟨11, r, a, b, n, aa, acap, args⟩ : Ins)).all (fun x => inP x f.regs) && opN p f (⟨11, r, a, b, n, aa, acap, args⟩ : Ins)) := by
  rw [Xl, hS]; simp [Zf, hasR]
 generalize Zu p f (⟨11, r, a, b, n, aa, acap, args⟩ : Ins) = RV at *
 replace hm := Lh hm
 have hw := Lh (fun V => Q5 (⟨11, r, a, b, n, aa, acap, args⟩ : Ins) V)
 have hwv : wrP (⟨11, r, a, b, n, aa, acap, args⟩ : Ins) = (0, false) := rfl
 rw [hwv] at hw
 clear hwv
 have hst := Lh (Qs w (.cells ⟨p.vals⟩ 26) (.cells ⟨f.vals⟩ 50) (.cells ⟨(⟨11, r, a, b, n, aa, acap, args⟩ : Ins).vals⟩ 44))
 have hbx := Lh (Bx3.new w p f (⟨11, r, a, b, n, aa, acap, args⟩ : Ins))
 have hsm := fun (V : World) (hb : Below w.heap.size w V) => Zj (⟨11, r, a, b, n, aa, acap, args⟩ : Ins) (Q3 (⟨11, r, a, b, n, aa, acap, args⟩ : Ins)) V (hri.below (Kps.of_below hb)) (Xt (i := (⟨11, r, a, b, n, aa, acap, args⟩ : Ins)) (hri.below (Kps.of_below hb)))
 rw [hS] at hsm
 replace hsm := Lh hsm
 have hkp := Lh (fun (V : World) => Xu (⟨11, r, a, b, n, aa, acap, args⟩ : Ins) V rfl)
 have hrd := Lh (fun (V : World) (hb : Below w.heap.size w V) => Z6 (⟨11, r, a, b, n, aa, acap, args⟩ : Ins) V (hri.below (Kps.of_below hb)) (Nat.le_trans hl (by decide)))
 have hLlen : (rdP (⟨11, r, a, b, n, aa, acap, args⟩ : Ins)).length ≤ 17592186044400 := by have h1 : args.length ≤ 17592186044400 := hl; simp only [rdP, rdA, rdB, rdC, List.length_append]; repeat' split; all_goals simp_all [numK]
 clear hri hl hS
 go_enter Tryd.func47, Tryd.ntmps47
 go_upto_region 1 with fail
 generalize hW0 : ((w.alloc (.cells ⟨p.vals⟩ 26)).alloc (.cells ⟨f.vals⟩ 50)).alloc (.cells ⟨(⟨11, r, a, b, n, aa, acap, args⟩ : Ins).vals⟩ 44) = W0 at hbx hst
 have hsz0 : W0.heap.size = w.heap.size + 3 := by rw [← hW0]; simp
 obtain ⟨r0, r1, r2, r3, r4, r5⟩ := Qm hbx.out.ic
 have u0 := Qj r0
 have u1 := Qj r1
 have u2 := Qj r2
 have u3 := Qj r3
 have u4 := Qj r4
 have u5 := Qj r5
 have s1 := Lh (Qq (w := W0) (f := 75) (args := #[(⟨11, r, a, b, n, aa, acap, args⟩ : Ins).val]) (fun V hb => hkp.out V))
 have s2 := Lh (Qq (w := W0) (f := 41) (args := #[(⟨11, r, a, b, n, aa, acap, args⟩ : Ins).val, (Q3 (⟨11, r, a, b, n, aa, acap, args⟩ : Ins)).val]) (fun V hb => hsm.out V (hst.out.trans (hb.mono hst.out.size))))
 clear r0 r1 r2 r3 r4 r5 hkp hsm
 refine Qp (C := fun V => ∃ U : UpW W0, V = U.val) (by kernel_rfl) (by kernel_rfl) ⟨⟨W0.drew, (Below.refl _ _).drew⟩, by show _ = W0.drew; rw [← hW0]; rfl⟩ ?_
 iterate 11 (quiet_step (fail))
 quiet_step (exact s1.out _)
 quiet_step (exact s2.out _)
 iterate 2 (quiet_step (fail))
 refine wpQuiet_nil ?_
 rintro U ⟨⟨_, hU⟩, rfl⟩
 clear u0 u1 u2 u3 u4 u5 s1 s2 hW0
 have hbU : Hid (Below w.heap.size w U) := Lh (hst.out.trans (hU.mono hst.out.size))
 have hbxU := Lh (hbx.out.below hU)
 have hszU : w.heap.size + 3 ≤ U.heap.size := by have := hU.size; omega
 clear hsz0
 replace hU := Lh hU
 obtain ⟨r0, r1, r2, r3, r4, r5⟩ := Qm hbxU.out.ic
 go_wp2_with fail
 refine (hrd.out U hbU.out).mono ?_
 rintro e w1 ⟨lv, rfl, hown1, hb1⟩
 generalize hLR : rdP (⟨11, r, a, b, n, aa, acap, args⟩ : Ins) = LR at *
 have hbW1 : Hid (Below W0.heap.size W0 w1) := Lh (hU.out.trans (hb1.mono hU.out.size))
 have hs1 : U.heap.size ≤ w1.heap.size := hb1.size
 clear r0 r1 r2 r3 r4 r5 hbxU
 have hbx1 := Lh (hbx.out.below hbW1.out)
 obtain ⟨r0, r1, r2, r3, r4, r5⟩ := Qm hbx1.out.ic
 have hown1' := Lh hown1
 clear hb1 hrd hown1 hU hbU
 go_wp2_with fail
 refine (hw.out w1).mono ?_
 rintro e w2 ⟨rfl, hb2⟩
 have hbW2 : Hid (Below W0.heap.size W0 w2) := Lh (hbW1.out.trans (hb2.mono hbW1.out.size))
 have hown2 := Lh (Qn hown1'.out hb2)
 have hs2 : w1.heap.size ≤ w2.heap.size := hb2.size
 clear r0 r1 r2 r3 r4 r5 hbx1 hown1' hb2 hbW1 hw
 have hLl : LR.length ≤ 17592186044417 := by omega
 obtain ⟨ra, rc, rfl, hrL⟩ := row_own hown2.out
 clear hLR hown2
 generalize LR = L at *
 replace hrL := Lh hrL
 clear hLlen
 have hcl : (L.length : Int) ≤ 9223372036854775807 := by omega
 go_wp2_with fail
 go_loopw [10] (fun i wr => ∃ j : Nat, j ≤ L.length ∧ i = .int .i64 j ∧ Hid ((L.take j).all (fun x => inP x f.regs) = true) ∧ Below w2.heap.size w2 wr) (fun i _ => L.length - (intOf i).toNat)
 case atStart => exact ⟨0, Nat.zero_le _, rfl, Lh rfl, Below.refl _ _⟩
 case round =>
  obtain ⟨j, hj, rfl, hall, hbr⟩ := hrel
  have hbWr : Hid (Below W0.heap.size W0 wr) := Lh (hbW2.out.trans (hbr.mono hbW2.out.size))
  by_cases hjl : j < L.length
  · obtain ⟨x, hx⟩ : ∃ x, L[j]? = some x := ⟨L[j], by simp [hjl]⟩
    obtain ⟨cb, off, rfl, _, hcell⟩ := hrL.out.at_ j (.int .i64 x) (by unfold Qc; rw [List.getElem?_map, hx]; rfl)
    have hcl2 := Qj (Qe hbr hcell)
    have hbxr := Lh (hbx.out.below hbWr.out)
    obtain ⟨k0, k1, k2, k3, k4⟩ := Zm hbxr.out.fc
    have q3 := Qj k3
    clear k0 k1 k2 k3 k4 hcell hbxr
    replace hx := Lh hx
    have hj1 : (j : Int) < (L.length : Int) := by omega
    have hj0 : (0 : Int) ≤ (j : Int) := by omega
    by_cases hin : inP x f.regs = true
    · have HT := Lh (Xz hx.out hall.out hin)
      have s3 := Lh (Qq (w := wr) (f := 78) (args := #[.int .i64 x, .int .i64 f.regs]) (fun V hb => by have := Qv x f.regs V; rw [hin] at this; exact this))
      clear hin hall
      go_upto_region 10 with fail
      refine Qp (C := fun V => ∃ U : UpW wr, V = U.val) (by kernel_rfl) (by kernel_rfl) ⟨⟨wr.drew, (Below.refl _ _).drew⟩, rfl⟩ ?_
      iterate 6 (quiet_step (fail))
      quiet_step (exact s3.out _)
      quiet_step (fail)
      refine wpQuiet_nil ?_
      rintro U' ⟨⟨_, hU'⟩, rfl⟩
      have hbn := Lh (hbr.trans (hU'.mono hbr.size))
      clear hbr hU' hcl2 q3 s3 hx
      go_wp2_with fail
      go_roundw
      case rel => exact ⟨j + 1, by omega, by go_num, HT, hbn.out⟩
      case measure => simp [intOf]; omega
    · have hin' : inP x f.regs = false := by simpa using hin
      have HF := Lh (X5 (g := fun x => inP x f.regs) hx.out hin')
      have s3 := Lh (Qq (w := wr) (f := 78) (args := #[.int .i64 x, .int .i64 f.regs]) (fun V hb => by have := Qv x f.regs V; rw [hin'] at this; exact this))
      clear hin hin' hall
      go_upto_region 10 with fail
      refine Qp (C := fun V => ∃ U : UpW wr, V = U.val) (by kernel_rfl) (by kernel_rfl) ⟨⟨wr.drew, (Below.refl _ _).drew⟩, rfl⟩ ?_
      iterate 6 (quiet_step (fail))
      quiet_step (exact s3.out _)
      quiet_step (fail)
      refine wpQuiet_nil ?_
      rintro U' ⟨⟨_, hU'⟩, rfl⟩
      have hbn := Lh (hst.out.trans ((hbWr.out.trans (hU'.mono hbWr.out.size)).mono hst.out.size))
      clear hbr hU' hcl2 q3 s3 hx
      go_wp2_with fail
      go_ret
      exact ⟨Qi (by rw [hm.out, HF.out]; rfl), hbn.out⟩
  · have hje : j = L.length := by omega
    have HA : Hid (L.all (fun x => inP x f.regs) = true) := Lh (by have := hall.out; rwa [List.take_of_length_le (by omega)] at this)
    have hj1 : ¬ (j : Int) < (L.length : Int) := by omega
    have hbxr := Lh (hbx.out.below hbWr.out)
    obtain ⟨r0, r1, r2, r3, r4, r5⟩ := Qm hbxr.out.ic
    obtain ⟨k0, k1, k2, k3, k4⟩ := Zm hbxr.out.fc
    obtain ⟨g0, g1, g2⟩ := Xm hbxr.out.pc
    have hbn := Lh (hst.out.trans (hbWr.out.mono hst.out.size))
    have hv : RV = opN p f (⟨11, r, a, b, n, aa, acap, args⟩ : Ins) := by rw [hm.out, HA.out, Bool.true_and]
    replace hv := Lh hv
    clear hm HA hall hbr hbx hbxr hst
    go_wp2_with fail
    refine (Qv n f.code.length _).mono ?_
    rintro e w9 ⟨rfl, hb9⟩
    have hb10 := Lh (hbn.out.trans (hb9.mono hbn.out.size))
    go_wp2_with fail
    go_ret
    exact ⟨Qi (by rw [hv.out]; simp [opN]), hb10.out⟩
theorem rmay_o12 (p : Pg) (f : Fn) (r a b n : Int) (aa : Option Addr) (acap : Nat) (args : List Int) (w : World) (hri : RowAt w (fun _ => True) aa acap args.length (Qc args)) (hl : args.length ≤ 17592186044400) (hS : Zi (⟨12, r, a, b, n, aa, acap, args⟩ : Ins) (Q3 (⟨12, r, a, b, n, aa, acap, args⟩ : Ins)) = true) :
 Calls Tryd.prog 47 #[p.val, f.val, (⟨12, r, a, b, n, aa, acap, args⟩ : Ins).val] w fun e w' => e = .returned (.bool (Zu p f (⟨12, r, a, b, n, aa, acap, args⟩ : Ins))) ∧ Below w.heap.size w w' := by
 have hm : Zu p f (⟨12, r, a, b, n, aa, acap, args⟩ : Ins) = ((rdP (⟨12, r, a, b, n, aa, acap, args⟩ : Ins)).all (fun x => inP x f.regs) && opN p f (⟨12, r, a, b, n, aa, acap, args⟩ : Ins)) := by
  rw [Xl, hS]; simp [Zf, hasR]
 generalize Zu p f (⟨12, r, a, b, n, aa, acap, args⟩ : Ins) = RV at *
 replace hm := Lh hm
 have hw := Lh (fun V => Q5 (⟨12, r, a, b, n, aa, acap, args⟩ : Ins) V)
 have hwv : wrP (⟨12, r, a, b, n, aa, acap, args⟩ : Ins) = (0, false) := rfl
 rw [hwv] at hw
 clear hwv
 have hst := Lh (Qs w (.cells ⟨p.vals⟩ 26) (.cells ⟨f.vals⟩ 50) (.cells ⟨(⟨12, r, a, b, n, aa, acap, args⟩ : Ins).vals⟩ 44))
 have hbx := Lh (Bx3.new w p f (⟨12, r, a, b, n, aa, acap, args⟩ : Ins))
 have hsm := fun (V : World) (hb : Below w.heap.size w V) => Zj (⟨12, r, a, b, n, aa, acap, args⟩ : Ins) (Q3 (⟨12, r, a, b, n, aa, acap, args⟩ : Ins)) V (hri.below (Kps.of_below hb)) (Xt (i := (⟨12, r, a, b, n, aa, acap, args⟩ : Ins)) (hri.below (Kps.of_below hb)))
 rw [hS] at hsm
 replace hsm := Lh hsm
 have hkp := Lh (fun (V : World) => Xu (⟨12, r, a, b, n, aa, acap, args⟩ : Ins) V rfl)
 have hrd := Lh (fun (V : World) (hb : Below w.heap.size w V) => Z6 (⟨12, r, a, b, n, aa, acap, args⟩ : Ins) V (hri.below (Kps.of_below hb)) (Nat.le_trans hl (by decide)))
 have hLlen : (rdP (⟨12, r, a, b, n, aa, acap, args⟩ : Ins)).length ≤ 17592186044400 := by have h1 : args.length ≤ 17592186044400 := hl; simp only [rdP, rdA, rdB, rdC, List.length_append]; repeat' split; all_goals simp_all [numK]
 clear hri hl hS
 go_enter Tryd.func47, Tryd.ntmps47
 go_upto_region 1 with fail
 generalize hW0 : ((w.alloc (.cells ⟨p.vals⟩ 26)).alloc (.cells ⟨f.vals⟩ 50)).alloc (.cells ⟨(⟨12, r, a, b, n, aa, acap, args⟩ : Ins).vals⟩ 44) = W0 at hbx hst
 have hsz0 : W0.heap.size = w.heap.size + 3 := by rw [← hW0]; simp
 obtain ⟨r0, r1, r2, r3, r4, r5⟩ := Qm hbx.out.ic
 have u0 := Qj r0
 have u1 := Qj r1
 have u2 := Qj r2
 have u3 := Qj r3
 have u4 := Qj r4
 have u5 := Qj r5
 have s1 := Lh (Qq (w := W0) (f := 75) (args := #[(⟨12, r, a, b, n, aa, acap, args⟩ : Ins).val]) (fun V hb => hkp.out V))
 have s2 := Lh (Qq (w := W0) (f := 41) (args := #[(⟨12, r, a, b, n, aa, acap, args⟩ : Ins).val, (Q3 (⟨12, r, a, b, n, aa, acap, args⟩ : Ins)).val]) (fun V hb => hsm.out V (hst.out.trans (hb.mono hst.out.size))))
 clear r0 r1 r2 r3 r4 r5 hkp hsm
 refine Qp (C := fun V => ∃ U : UpW W0, V = U.val) (by kernel_rfl) (by kernel_rfl) ⟨⟨W0.drew, (Below.refl _ _).drew⟩, by show _ = W0.drew; rw [← hW0]; rfl⟩ ?_
 iterate 11 (quiet_step (fail))
 quiet_step (exact s1.out _)
 quiet_step (exact s2.out _)
 iterate 2 (quiet_step (fail))
 refine wpQuiet_nil ?_
 rintro U ⟨⟨_, hU⟩, rfl⟩
 clear u0 u1 u2 u3 u4 u5 s1 s2 hW0
 have hbU : Hid (Below w.heap.size w U) := Lh (hst.out.trans (hU.mono hst.out.size))
 have hbxU := Lh (hbx.out.below hU)
 have hszU : w.heap.size + 3 ≤ U.heap.size := by have := hU.size; omega
 clear hsz0
 replace hU := Lh hU
 obtain ⟨r0, r1, r2, r3, r4, r5⟩ := Qm hbxU.out.ic
 go_wp2_with fail
 refine (hrd.out U hbU.out).mono ?_
 rintro e w1 ⟨lv, rfl, hown1, hb1⟩
 generalize hLR : rdP (⟨12, r, a, b, n, aa, acap, args⟩ : Ins) = LR at *
 have hbW1 : Hid (Below W0.heap.size W0 w1) := Lh (hU.out.trans (hb1.mono hU.out.size))
 have hs1 : U.heap.size ≤ w1.heap.size := hb1.size
 clear r0 r1 r2 r3 r4 r5 hbxU
 have hbx1 := Lh (hbx.out.below hbW1.out)
 obtain ⟨r0, r1, r2, r3, r4, r5⟩ := Qm hbx1.out.ic
 have hown1' := Lh hown1
 clear hb1 hrd hown1 hU hbU
 go_wp2_with fail
 refine (hw.out w1).mono ?_
 rintro e w2 ⟨rfl, hb2⟩
 have hbW2 : Hid (Below W0.heap.size W0 w2) := Lh (hbW1.out.trans (hb2.mono hbW1.out.size))
 have hown2 := Lh (Qn hown1'.out hb2)
 have hs2 : w1.heap.size ≤ w2.heap.size := hb2.size
 clear r0 r1 r2 r3 r4 r5 hbx1 hown1' hb2 hbW1 hw
 have hLl : LR.length ≤ 17592186044417 := by omega
 obtain ⟨ra, rc, rfl, hrL⟩ := row_own hown2.out
 clear hLR hown2
 generalize LR = L at *
 replace hrL := Lh hrL
 clear hLlen
 have hcl : (L.length : Int) ≤ 9223372036854775807 := by omega
 go_wp2_with fail
 go_loopw [10] (fun i wr => ∃ j : Nat, j ≤ L.length ∧ i = .int .i64 j ∧ Hid ((L.take j).all (fun x => inP x f.regs) = true) ∧ Below w2.heap.size w2 wr) (fun i _ => L.length - (intOf i).toNat)
 case atStart => exact ⟨0, Nat.zero_le _, rfl, Lh rfl, Below.refl _ _⟩
 case round =>
  obtain ⟨j, hj, rfl, hall, hbr⟩ := hrel
  have hbWr : Hid (Below W0.heap.size W0 wr) := Lh (hbW2.out.trans (hbr.mono hbW2.out.size))
  by_cases hjl : j < L.length
  · obtain ⟨x, hx⟩ : ∃ x, L[j]? = some x := ⟨L[j], by simp [hjl]⟩
    obtain ⟨cb, off, rfl, _, hcell⟩ := hrL.out.at_ j (.int .i64 x) (by unfold Qc; rw [List.getElem?_map, hx]; rfl)
    have hcl2 := Qj (Qe hbr hcell)
    have hbxr := Lh (hbx.out.below hbWr.out)
    obtain ⟨k0, k1, k2, k3, k4⟩ := Zm hbxr.out.fc
    have q3 := Qj k3
    clear k0 k1 k2 k3 k4 hcell hbxr
    replace hx := Lh hx
    have hj1 : (j : Int) < (L.length : Int) := by omega
    have hj0 : (0 : Int) ≤ (j : Int) := by omega
    by_cases hin : inP x f.regs = true
    · have HT := Lh (Xz hx.out hall.out hin)
      have s3 := Lh (Qq (w := wr) (f := 78) (args := #[.int .i64 x, .int .i64 f.regs]) (fun V hb => by have := Qv x f.regs V; rw [hin] at this; exact this))
      clear hin hall
      go_upto_region 10 with fail
      refine Qp (C := fun V => ∃ U : UpW wr, V = U.val) (by kernel_rfl) (by kernel_rfl) ⟨⟨wr.drew, (Below.refl _ _).drew⟩, rfl⟩ ?_
      iterate 6 (quiet_step (fail))
      quiet_step (exact s3.out _)
      quiet_step (fail)
      refine wpQuiet_nil ?_
      rintro U' ⟨⟨_, hU'⟩, rfl⟩
      have hbn := Lh (hbr.trans (hU'.mono hbr.size))
      clear hbr hU' hcl2 q3 s3 hx
      go_wp2_with fail
      go_roundw
      case rel => exact ⟨j + 1, by omega, by go_num, HT, hbn.out⟩
      case measure => simp [intOf]; omega
    · have hin' : inP x f.regs = false := by simpa using hin
      have HF := Lh (X5 (g := fun x => inP x f.regs) hx.out hin')
      have s3 := Lh (Qq (w := wr) (f := 78) (args := #[.int .i64 x, .int .i64 f.regs]) (fun V hb => by have := Qv x f.regs V; rw [hin'] at this; exact this))
      clear hin hin' hall
      go_upto_region 10 with fail
      refine Qp (C := fun V => ∃ U : UpW wr, V = U.val) (by kernel_rfl) (by kernel_rfl) ⟨⟨wr.drew, (Below.refl _ _).drew⟩, rfl⟩ ?_
      iterate 6 (quiet_step (fail))
      quiet_step (exact s3.out _)
      quiet_step (fail)
      refine wpQuiet_nil ?_
      rintro U' ⟨⟨_, hU'⟩, rfl⟩
      have hbn := Lh (hst.out.trans ((hbWr.out.trans (hU'.mono hbWr.out.size)).mono hst.out.size))
      clear hbr hU' hcl2 q3 s3 hx
      go_wp2_with fail
      go_ret
      exact ⟨Qi (by rw [hm.out, HF.out]; rfl), hbn.out⟩
  · have hje : j = L.length := by omega
    have HA : Hid (L.all (fun x => inP x f.regs) = true) := Lh (by have := hall.out; rwa [List.take_of_length_le (by omega)] at this)
    have hj1 : ¬ (j : Int) < (L.length : Int) := by omega
    have hbxr := Lh (hbx.out.below hbWr.out)
    obtain ⟨r0, r1, r2, r3, r4, r5⟩ := Qm hbxr.out.ic
    obtain ⟨k0, k1, k2, k3, k4⟩ := Zm hbxr.out.fc
    obtain ⟨g0, g1, g2⟩ := Xm hbxr.out.pc
    have hbn := Lh (hst.out.trans (hbWr.out.mono hst.out.size))
    have hv : RV = opN p f (⟨12, r, a, b, n, aa, acap, args⟩ : Ins) := by rw [hm.out, HA.out, Bool.true_and]
    replace hv := Lh hv
    clear hm HA hall hbr hbx hbxr hst
    go_wp2_with fail
    refine (Qv n f.code.length _).mono ?_
    rintro e w9 ⟨rfl, hb9⟩
    have hb10 := Lh (hbn.out.trans (hb9.mono hbn.out.size))
    go_wp2_with fail
    go_ret
    exact ⟨Qi (by rw [hv.out]; simp [opN]), hb10.out⟩
theorem rmay_o13 (p : Pg) (f : Fn) (r a b n : Int) (aa : Option Addr) (acap : Nat) (args : List Int) (w : World) (hri : RowAt w (fun _ => True) aa acap args.length (Qc args)) (hl : args.length ≤ 17592186044400) (hS : Zi (⟨13, r, a, b, n, aa, acap, args⟩ : Ins) (Q3 (⟨13, r, a, b, n, aa, acap, args⟩ : Ins)) = true) :
 Calls Tryd.prog 47 #[p.val, f.val, (⟨13, r, a, b, n, aa, acap, args⟩ : Ins).val] w fun e w' => e = .returned (.bool (Zu p f (⟨13, r, a, b, n, aa, acap, args⟩ : Ins))) ∧ Below w.heap.size w w' := by
 have hm : Zu p f (⟨13, r, a, b, n, aa, acap, args⟩ : Ins) = ((rdP (⟨13, r, a, b, n, aa, acap, args⟩ : Ins)).all (fun x => inP x f.regs) && opN p f (⟨13, r, a, b, n, aa, acap, args⟩ : Ins)) := by
  rw [Xl, hS]; simp [Zf, hasR]
 generalize Zu p f (⟨13, r, a, b, n, aa, acap, args⟩ : Ins) = RV at *
 replace hm := Lh hm
 have hw := Lh (fun V => Q5 (⟨13, r, a, b, n, aa, acap, args⟩ : Ins) V)
 have hwv : wrP (⟨13, r, a, b, n, aa, acap, args⟩ : Ins) = (0, false) := rfl
 rw [hwv] at hw
 clear hwv
 have hst := Lh (Qs w (.cells ⟨p.vals⟩ 26) (.cells ⟨f.vals⟩ 50) (.cells ⟨(⟨13, r, a, b, n, aa, acap, args⟩ : Ins).vals⟩ 44))
 have hbx := Lh (Bx3.new w p f (⟨13, r, a, b, n, aa, acap, args⟩ : Ins))
 have hsm := fun (V : World) (hb : Below w.heap.size w V) => Zj (⟨13, r, a, b, n, aa, acap, args⟩ : Ins) (Q3 (⟨13, r, a, b, n, aa, acap, args⟩ : Ins)) V (hri.below (Kps.of_below hb)) (Xt (i := (⟨13, r, a, b, n, aa, acap, args⟩ : Ins)) (hri.below (Kps.of_below hb)))
 rw [hS] at hsm
 replace hsm := Lh hsm
 have hkp := Lh (fun (V : World) => Xu (⟨13, r, a, b, n, aa, acap, args⟩ : Ins) V rfl)
 have hrd := Lh (fun (V : World) (hb : Below w.heap.size w V) => Z6 (⟨13, r, a, b, n, aa, acap, args⟩ : Ins) V (hri.below (Kps.of_below hb)) (Nat.le_trans hl (by decide)))
 have hLlen : (rdP (⟨13, r, a, b, n, aa, acap, args⟩ : Ins)).length ≤ 17592186044400 := by have h1 : args.length ≤ 17592186044400 := hl; simp only [rdP, rdA, rdB, rdC, List.length_append]; repeat' split; all_goals simp_all [numK]
 clear hri hl hS
 go_enter Tryd.func47, Tryd.ntmps47
 go_upto_region 1 with fail
 generalize hW0 : ((w.alloc (.cells ⟨p.vals⟩ 26)).alloc (.cells ⟨f.vals⟩ 50)).alloc (.cells ⟨(⟨13, r, a, b, n, aa, acap, args⟩ : Ins).vals⟩ 44) = W0 at hbx hst
 have hsz0 : W0.heap.size = w.heap.size + 3 := by rw [← hW0]; simp
 obtain ⟨r0, r1, r2, r3, r4, r5⟩ := Qm hbx.out.ic
 have u0 := Qj r0
 have u1 := Qj r1
 have u2 := Qj r2
 have u3 := Qj r3
 have u4 := Qj r4
 have u5 := Qj r5
 have s1 := Lh (Qq (w := W0) (f := 75) (args := #[(⟨13, r, a, b, n, aa, acap, args⟩ : Ins).val]) (fun V hb => hkp.out V))
 have s2 := Lh (Qq (w := W0) (f := 41) (args := #[(⟨13, r, a, b, n, aa, acap, args⟩ : Ins).val, (Q3 (⟨13, r, a, b, n, aa, acap, args⟩ : Ins)).val]) (fun V hb => hsm.out V (hst.out.trans (hb.mono hst.out.size))))
 clear r0 r1 r2 r3 r4 r5 hkp hsm
 refine Qp (C := fun V => ∃ U : UpW W0, V = U.val) (by kernel_rfl) (by kernel_rfl) ⟨⟨W0.drew, (Below.refl _ _).drew⟩, by show _ = W0.drew; rw [← hW0]; rfl⟩ ?_
 iterate 11 (quiet_step (fail))
 quiet_step (exact s1.out _)
 quiet_step (exact s2.out _)
 iterate 2 (quiet_step (fail))
 refine wpQuiet_nil ?_
 rintro U ⟨⟨_, hU⟩, rfl⟩
 clear u0 u1 u2 u3 u4 u5 s1 s2 hW0
 have hbU : Hid (Below w.heap.size w U) := Lh (hst.out.trans (hU.mono hst.out.size))
 have hbxU := Lh (hbx.out.below hU)
 have hszU : w.heap.size + 3 ≤ U.heap.size := by have := hU.size; omega
 clear hsz0
 replace hU := Lh hU
 obtain ⟨r0, r1, r2, r3, r4, r5⟩ := Qm hbxU.out.ic
 go_wp2_with fail
 refine (hrd.out U hbU.out).mono ?_
 rintro e w1 ⟨lv, rfl, hown1, hb1⟩
 generalize hLR : rdP (⟨13, r, a, b, n, aa, acap, args⟩ : Ins) = LR at *
 have hbW1 : Hid (Below W0.heap.size W0 w1) := Lh (hU.out.trans (hb1.mono hU.out.size))
 have hs1 : U.heap.size ≤ w1.heap.size := hb1.size
 clear r0 r1 r2 r3 r4 r5 hbxU
 have hbx1 := Lh (hbx.out.below hbW1.out)
 obtain ⟨r0, r1, r2, r3, r4, r5⟩ := Qm hbx1.out.ic
 have hown1' := Lh hown1
 clear hb1 hrd hown1 hU hbU
 go_wp2_with fail
 refine (hw.out w1).mono ?_
 rintro e w2 ⟨rfl, hb2⟩
 have hbW2 : Hid (Below W0.heap.size W0 w2) := Lh (hbW1.out.trans (hb2.mono hbW1.out.size))
 have hown2 := Lh (Qn hown1'.out hb2)
 have hs2 : w1.heap.size ≤ w2.heap.size := hb2.size
 clear r0 r1 r2 r3 r4 r5 hbx1 hown1' hb2 hbW1 hw
 have hLl : LR.length ≤ 17592186044417 := by omega
 obtain ⟨ra, rc, rfl, hrL⟩ := row_own hown2.out
 clear hLR hown2
 generalize LR = L at *
 replace hrL := Lh hrL
 clear hLlen
 have hcl : (L.length : Int) ≤ 9223372036854775807 := by omega
 go_wp2_with fail
 go_loopw [10] (fun i wr => ∃ j : Nat, j ≤ L.length ∧ i = .int .i64 j ∧ Hid ((L.take j).all (fun x => inP x f.regs) = true) ∧ Below w2.heap.size w2 wr) (fun i _ => L.length - (intOf i).toNat)
 case atStart => exact ⟨0, Nat.zero_le _, rfl, Lh rfl, Below.refl _ _⟩
 case round =>
  obtain ⟨j, hj, rfl, hall, hbr⟩ := hrel
  have hbWr : Hid (Below W0.heap.size W0 wr) := Lh (hbW2.out.trans (hbr.mono hbW2.out.size))
  by_cases hjl : j < L.length
  · obtain ⟨x, hx⟩ : ∃ x, L[j]? = some x := ⟨L[j], by simp [hjl]⟩
    obtain ⟨cb, off, rfl, _, hcell⟩ := hrL.out.at_ j (.int .i64 x) (by unfold Qc; rw [List.getElem?_map, hx]; rfl)
    have hcl2 := Qj (Qe hbr hcell)
    have hbxr := Lh (hbx.out.below hbWr.out)
    obtain ⟨k0, k1, k2, k3, k4⟩ := Zm hbxr.out.fc
    have q3 := Qj k3
    clear k0 k1 k2 k3 k4 hcell hbxr
    replace hx := Lh hx
    have hj1 : (j : Int) < (L.length : Int) := by omega
    have hj0 : (0 : Int) ≤ (j : Int) := by omega
    by_cases hin : inP x f.regs = true
    · have HT := Lh (Xz hx.out hall.out hin)
      have s3 := Lh (Qq (w := wr) (f := 78) (args := #[.int .i64 x, .int .i64 f.regs]) (fun V hb => by have := Qv x f.regs V; rw [hin] at this; exact this))
      clear hin hall
      go_upto_region 10 with fail
      refine Qp (C := fun V => ∃ U : UpW wr, V = U.val) (by kernel_rfl) (by kernel_rfl) ⟨⟨wr.drew, (Below.refl _ _).drew⟩, rfl⟩ ?_
      iterate 6 (quiet_step (fail))
      quiet_step (exact s3.out _)
      quiet_step (fail)
      refine wpQuiet_nil ?_
      rintro U' ⟨⟨_, hU'⟩, rfl⟩
      have hbn := Lh (hbr.trans (hU'.mono hbr.size))
      clear hbr hU' hcl2 q3 s3 hx
      go_wp2_with fail
      go_roundw
      case rel => exact ⟨j + 1, by omega, by go_num, HT, hbn.out⟩
      case measure => simp [intOf]; omega
    · have hin' : inP x f.regs = false := by simpa using hin
      have HF := Lh (X5 (g := fun x => inP x f.regs) hx.out hin')
      have s3 := Lh (Qq (w := wr) (f := 78) (args := #[.int .i64 x, .int .i64 f.regs]) (fun V hb => by have := Qv x f.regs V; rw [hin'] at this; exact this))
      clear hin hin' hall
      go_upto_region 10 with fail
      refine Qp (C := fun V => ∃ U : UpW wr, V = U.val) (by kernel_rfl) (by kernel_rfl) ⟨⟨wr.drew, (Below.refl _ _).drew⟩, rfl⟩ ?_
      iterate 6 (quiet_step (fail))
      quiet_step (exact s3.out _)
      quiet_step (fail)
      refine wpQuiet_nil ?_
      rintro U' ⟨⟨_, hU'⟩, rfl⟩
      have hbn := Lh (hst.out.trans ((hbWr.out.trans (hU'.mono hbWr.out.size)).mono hst.out.size))
      clear hbr hU' hcl2 q3 s3 hx
      go_wp2_with fail
      go_ret
      exact ⟨Qi (by rw [hm.out, HF.out]; rfl), hbn.out⟩
  · have hje : j = L.length := by omega
    have HA : Hid (L.all (fun x => inP x f.regs) = true) := Lh (by have := hall.out; rwa [List.take_of_length_le (by omega)] at this)
    have hj1 : ¬ (j : Int) < (L.length : Int) := by omega
    have hbxr := Lh (hbx.out.below hbWr.out)
    obtain ⟨r0, r1, r2, r3, r4, r5⟩ := Qm hbxr.out.ic
    obtain ⟨k0, k1, k2, k3, k4⟩ := Zm hbxr.out.fc
    obtain ⟨g0, g1, g2⟩ := Xm hbxr.out.pc
    have hbn := Lh (hst.out.trans (hbWr.out.mono hst.out.size))
    have hv : RV = opN p f (⟨13, r, a, b, n, aa, acap, args⟩ : Ins) := by rw [hm.out, HA.out, Bool.true_and]
    replace hv := Lh hv
    clear hm HA hall hbr hbx hbxr hst
    go_wp2_with fail
    go_ret
    exact ⟨Qi (by rw [hv.out]; simp [opN]), hbn.out⟩
end Go.Proofs.YthiiahlgncngoaaDoorRR.Cd
