/- Walk of the document's block. Conditions: the blocks lie in memory; Args are of bounded length. -/
import Derived.Test.YtckmgefailclcaaDoorJGrA
import Derived.Test.YtckmgefailclcaaDoorJGrB
import Derived.Test.YtckmgefailclcaaDoorJQvF
import Derived.Deep.CutBlock
import Derived.Deep.Cut
import Derived.Deep.DeepCutAuto
import Derived.Test.YtckmgefailclcaaDoorJFwO
set_option linter.unusedSimpArgs false
set_option linter.unusedVariables false
namespace Go.Proofs.YtckmgefailclcaaDoor.Fw
open Go Go.RowKit
open Go.Proofs.YtckmgefailclcaaDoor.Lx Go.Proofs.YtckmgefailclcaaDoor.Tr Go.Proofs.YtckmgefailclcaaDoor.Cd
open Go.Proofs.YtckmgefailclcaaDoor.Vq Go.Proofs.YtckmgefailclcaaDoor.Qr
open Go.Proofs.YtckmgefailclcaaDoor.Qg (run_call2)

def blkD (N k : Nat) (regs : Int) (b : Bk) : Bool := b.code.all (mayA regs) && (endsB N b && phisB regs k b)

def rrk0 (k j b2 off2 bx : Nat) (x : Bk) (y : Ph) (regs : Int) : List (Value → World → Prop) :=
  [VK (.int .i64 k), VK (.bool true), VK (.bool true), VK undef, VK undef, VK undef, VK undef, VK undef, VK undef, VK undef, VK undef, VK undef, VK undef, VK (.bool true), VK (.bool true), VK undef, VK undef, VK undef, VK undef, VK undef, VK undef, VK undef, VK undef, VK undef, VK (.bool true), VK (.bool true), VK undef, VK undef, VK undef, VK undef, VK undef, VK undef, VK undef, VK undef, VK undef, VK undef, VK undef, VK (.bool true)]
theorem rrk0_mono {k j b2 off2 bx : Nat} {x : Bk} {y : Ph} {regs : Int} : MonoL (rrk0 k j b2 off2 bx x y regs) := ⟨VK.mono, VK.mono, VK.mono, VK.mono, VK.mono, VK.mono, VK.mono, VK.mono, VK.mono, VK.mono, VK.mono, VK.mono, VK.mono, VK.mono, VK.mono, VK.mono, VK.mono, VK.mono, VK.mono, VK.mono, VK.mono, VK.mono, VK.mono, VK.mono, VK.mono, VK.mono, VK.mono, VK.mono, VK.mono, VK.mono, VK.mono, VK.mono, VK.mono, VK.mono, VK.mono, VK.mono, VK.mono, VK.mono, trivial⟩

def rrA (k j b2 off2 bx : Nat) (x : Bk) (y : Ph) (regs : Int) : List (Value → World → Prop) :=
  [VK (.int .i64 k), VK (.bool false), VK (.bool false), VK (.pointer (some ⟨bx, 0, none⟩)), VK (.slice (some ⟨b2, off2, none⟩) x.phis.length x.pcap), VK (.int .i64 j), VK (.pointer (some ⟨b2, off2 + j * 2, none⟩)), VK (.pointer (some ⟨b2, off2 + j * 2, none⟩)), VK (.int .i64 y.r), VN1 (y.r), VK (.int .i64 regs), VK (.bool false), VK (.bool true), VK (.bool true), VK (.bool true), VK undef, VK undef, VK undef, VK undef, VK undef, VK undef, VK undef, VK undef, VK undef, VK (.bool true), VK (.bool true), VK undef, VK undef, VK undef, VK undef, VK undef, VK undef, VK undef, VK undef, VK undef, VK undef, VK undef, VK (.bool true)]
theorem rrA_mono {k j b2 off2 bx : Nat} {x : Bk} {y : Ph} {regs : Int} : MonoL (rrA k j b2 off2 bx x y regs) := ⟨VK.mono, VK.mono, VK.mono, VK.mono, VK.mono, VK.mono, VK.mono, VK.mono, VK.mono, VN1.mono, VK.mono, VK.mono, VK.mono, VK.mono, VK.mono, VK.mono, VK.mono, VK.mono, VK.mono, VK.mono, VK.mono, VK.mono, VK.mono, VK.mono, VK.mono, VK.mono, VK.mono, VK.mono, VK.mono, VK.mono, VK.mono, VK.mono, VK.mono, VK.mono, VK.mono, VK.mono, VK.mono, VK.mono, trivial⟩

def rrB (k j b2 off2 bx : Nat) (x : Bk) (y : Ph) (regs : Int) : List (Value → World → Prop) :=
  [VK (.int .i64 k), VK (.bool false), VK (.bool false), VK (.pointer (some ⟨bx, 0, none⟩)), VK (.slice (some ⟨b2, off2, none⟩) x.phis.length x.pcap), VK (.int .i64 j), VK (.pointer (some ⟨b2, off2 + j * 2, none⟩)), VK (.pointer (some ⟨b2, off2 + j * 2, none⟩)), VK (.int .i64 y.r), VN1 (y.r), VK (.int .i64 regs), VK (.bool true), VK (.bool false), VK (.bool false), VK (.bool false), VK (.pointer (some ⟨bx, 0, none⟩)), VK (.slice (some ⟨b2, off2, none⟩) x.phis.length x.pcap), VK (.int .i64 j), VK (.pointer (some ⟨b2, off2 + j * 2, none⟩)), VK (.pointer (some ⟨b2, off2 + j * 2 + 1, none⟩)), VK (.slice y.aa y.args.length y.acap), VK (.int .i64 regs), VK (.bool false), VK (.bool true), VK (.bool true), VK (.bool true), VK undef, VK undef, VK undef, VK undef, VK undef, VK undef, VK undef, VK undef, VK undef, VK undef, VK undef, VK (.bool true)]
theorem rrB_mono {k j b2 off2 bx : Nat} {x : Bk} {y : Ph} {regs : Int} : MonoL (rrB k j b2 off2 bx x y regs) := ⟨VK.mono, VK.mono, VK.mono, VK.mono, VK.mono, VK.mono, VK.mono, VK.mono, VK.mono, VN1.mono, VK.mono, VK.mono, VK.mono, VK.mono, VK.mono, VK.mono, VK.mono, VK.mono, VK.mono, VK.mono, VK.mono, VK.mono, VK.mono, VK.mono, VK.mono, VK.mono, VK.mono, VK.mono, VK.mono, VK.mono, VK.mono, VK.mono, VK.mono, VK.mono, VK.mono, VK.mono, VK.mono, VK.mono, trivial⟩

def rrC (k j b2 off2 bx : Nat) (x : Bk) (y : Ph) (regs : Int) : List (Value → World → Prop) :=
  [VK (.int .i64 k), VK (.bool false), VK (.bool false), VK (.pointer (some ⟨bx, 0, none⟩)), VK (.slice (some ⟨b2, off2, none⟩) x.phis.length x.pcap), VK (.int .i64 j), VK (.pointer (some ⟨b2, off2 + j * 2, none⟩)), VK (.pointer (some ⟨b2, off2 + j * 2, none⟩)), VK (.int .i64 y.r), VN1 (y.r), VK (.int .i64 regs), VK (.bool true), VK (.bool false), VK (.bool false), VK (.bool false), VK (.pointer (some ⟨bx, 0, none⟩)), VK (.slice (some ⟨b2, off2, none⟩) x.phis.length x.pcap), VK (.int .i64 j), VK (.pointer (some ⟨b2, off2 + j * 2, none⟩)), VK (.pointer (some ⟨b2, off2 + j * 2 + 1, none⟩)), VK (.slice y.aa y.args.length y.acap), VK (.int .i64 regs), VK (.bool true), VK (.bool false), VK (.bool false), VK (.bool false), VK (.pointer (some ⟨bx, 0, none⟩)), VK (.slice (some ⟨b2, off2, none⟩) x.phis.length x.pcap), VK (.int .i64 j), VK (.pointer (some ⟨b2, off2 + j * 2, none⟩)), VK (.pointer (some ⟨b2, off2 + j * 2 + 1, none⟩)), VK (.slice y.aa y.args.length y.acap), VK (.int .i64 y.args.length), VK (.pointer (some ⟨bx, 2, none⟩)), VK (.slice x.fa x.fm.length x.fcap), VK (.int .i64 x.fm.length), VK (.bool true), VK (.bool true)]
theorem rrC_mono {k j b2 off2 bx : Nat} {x : Bk} {y : Ph} {regs : Int} : MonoL (rrC k j b2 off2 bx x y regs) := ⟨VK.mono, VK.mono, VK.mono, VK.mono, VK.mono, VK.mono, VK.mono, VK.mono, VK.mono, VN1.mono, VK.mono, VK.mono, VK.mono, VK.mono, VK.mono, VK.mono, VK.mono, VK.mono, VK.mono, VK.mono, VK.mono, VK.mono, VK.mono, VK.mono, VK.mono, VK.mono, VK.mono, VK.mono, VK.mono, VK.mono, VK.mono, VK.mono, VK.mono, VK.mono, VK.mono, VK.mono, VK.mono, VK.mono, trivial⟩

def rrok (k j b2 off2 bx : Nat) (x : Bk) (y : Ph) (regs : Int) : List (Value → World → Prop) :=
  [VK (.int .i64 k), VK (.bool false), VK (.bool false), VK (.pointer (some ⟨bx, 0, none⟩)), VK (.slice (some ⟨b2, off2, none⟩) x.phis.length x.pcap), VK (.int .i64 j), VK (.pointer (some ⟨b2, off2 + j * 2, none⟩)), VK (.pointer (some ⟨b2, off2 + j * 2, none⟩)), VK (.int .i64 y.r), VN1 (y.r), VK (.int .i64 regs), VK (.bool true), VK (.bool false), VK (.bool false), VK (.bool false), VK (.pointer (some ⟨bx, 0, none⟩)), VK (.slice (some ⟨b2, off2, none⟩) x.phis.length x.pcap), VK (.int .i64 j), VK (.pointer (some ⟨b2, off2 + j * 2, none⟩)), VK (.pointer (some ⟨b2, off2 + j * 2 + 1, none⟩)), VK (.slice y.aa y.args.length y.acap), VK (.int .i64 regs), VK (.bool true), VK (.bool false), VK (.bool false), VK (.bool false), VK (.pointer (some ⟨bx, 0, none⟩)), VK (.slice (some ⟨b2, off2, none⟩) x.phis.length x.pcap), VK (.int .i64 j), VK (.pointer (some ⟨b2, off2 + j * 2, none⟩)), VK (.pointer (some ⟨b2, off2 + j * 2 + 1, none⟩)), VK (.slice y.aa y.args.length y.acap), VK (.int .i64 y.args.length), VK (.pointer (some ⟨bx, 2, none⟩)), VK (.slice x.fa x.fm.length x.fcap), VK (.int .i64 x.fm.length), VK (.bool false), VK (.bool false)]
theorem rrok_mono {k j b2 off2 bx : Nat} {x : Bk} {y : Ph} {regs : Int} : MonoL (rrok k j b2 off2 bx x y regs) := ⟨VK.mono, VK.mono, VK.mono, VK.mono, VK.mono, VK.mono, VK.mono, VK.mono, VK.mono, VN1.mono, VK.mono, VK.mono, VK.mono, VK.mono, VK.mono, VK.mono, VK.mono, VK.mono, VK.mono, VK.mono, VK.mono, VK.mono, VK.mono, VK.mono, VK.mono, VK.mono, VK.mono, VK.mono, VK.mono, VK.mono, VK.mono, VK.mono, VK.mono, VK.mono, VK.mono, VK.mono, VK.mono, VK.mono, trivial⟩

set_option maxHeartbeats 16000000 in
set_option maxRecDepth 100000 in
theorem rblock_c (l : List Bk) (k : Nat) (x : Bk) (regs : Int) (a : Option Addr) (cap : Nat) (w : World) (hx : l[k]? = some x) (hrow : RowAt w Tt a cap l.length (bkCells l)) (hin : Bk.In w x) (hs : ∀ y ∈ x.code, y.args.length ≤ 1048576) :
    Calls Tryd.prog 31 #[.slice a l.length cap, .int .i64 k, .int .i64 regs] w fun e w' => e = .returned (.bool (blkD l.length k regs x)) ∧ Below w.heap.size w w' := by
  obtain ⟨hc1', hc2'⟩ := len_i hrow
  have hkl : k < l.length := (List.getElem?_eq_some_iff.1 hx).1
  obtain ⟨b, off, ha, _, c0, c1, c2, c3⟩ := bk_row hrow k x hx
  have hi0' : (0 : Int) ≤ (k : Int) := by omega
  have hi1 : (k : Int) < (l.length : Int) := by omega
  have hX := Lib.hid (fun V (hv : Below w.heap.size w V) => hin.keep hv)
  have hst := Lib.hid (b_alloc w (.cells #[.slice x.pa x.phis.length x.pcap, .slice x.ca x.code.length x.ccap, .slice x.fa x.fm.length x.fcap, .slice x.ta x.tt.length x.tcap] 42))
  have hq := Lib.hid (box4 w x)
  have hM := Lib.hid (fun (y : Ins) V (hy : y ∈ x.code) (hv : Below w.heap.size w V) => rmayIns1_c y regs V (hin.code y hy).op (hin.code y hy).n (((hin.keep hv).code y hy).row) (hs y hy))
  have hEn := Lib.hid (fun op V => rends_c op V)
  have hL := Lib.hid (fun V (hv : Below w.heap.size w V) => rlast_c x V (hin.keep hv).crow)
  have hE1 := Lib.hid (fun V (hv : Below w.heap.size w V) => rwithin1_c x.tt l.length x.ta x.tcap V (hin.keep hv).trow)
  obtain ⟨cl1, cl2⟩ := len_i hin.crow
  obtain ⟨cp1, cp2⟩ := len_i hin.prow
  obtain ⟨ct1, ct2⟩ := len_i hin.trow
  have hQ := Lib.hid (endsB_eq l.length x)
  rw [lastI_op] at hQ
  subst ha
  clear hrow hin hs hx
  go_enter Tryd.func31, Tryd.ntmps31
  go_upto_region 2 with fail
  generalize hW0 : w.alloc (.cells #[.slice x.pa x.phis.length x.pcap, .slice x.ca x.code.length x.ccap, .slice x.fa x.fm.length x.fcap, .slice x.ta x.tt.length x.tcap] 42) = W0 at *
  have hbox : Hid (∀ V, Below W0.heap.size W0 V → V.cell? ⟨w.heap.size, 0, none⟩ = some (.slice x.pa x.phis.length x.pcap) ∧ V.cell? ⟨w.heap.size, 1, none⟩ = some (.slice x.ca x.code.length x.ccap) ∧ V.cell? ⟨w.heap.size, 2, none⟩ = some (.slice x.fa x.fm.length x.fcap) ∧ V.cell? ⟨w.heap.size, 3, none⟩ = some (.slice x.ta x.tt.length x.tcap)) := Lib.hid (fun V hv => by
    obtain ⟨q0, q1, q2, q3⟩ := hq.out
    exact ⟨below_in hv q0, below_in hv q1, below_in hv q2, below_in hv q3⟩)
  clear hW0 hq c0 c1 c2 c3
  go_wp2_with fail
  go_loopw [8] (fun i wr => ∃ j : Nat, j ≤ x.code.length ∧ i = .int .i64 j ∧ Hid ((x.code.take j).all (mayA regs) = true) ∧ Hid (((x.code.take (x.code.length - 1)).take j).all (fun i => !opEnds i.op) = true) ∧ Hid (Below W0.heap.size W0 wr)) (fun i _ => x.code.length - (intOf i).toNat)
  case atStart => exact ⟨0, Nat.zero_le _, rfl, Lib.hid rfl, Lib.hid rfl, Lib.hid (Below.refl _ _)⟩
  case round =>
    obtain ⟨j, hj, rfl, hall, hends, hb⟩ := hrel
    have g1 := Lib.hid (hst.out.trans (hb.out.mono hst.out.size))
    obtain ⟨x0, x1, x2, x3⟩ := hbox.out wr hb.out
    by_cases hjt : j < x.code.length
    · obtain ⟨y, hy⟩ : ∃ y, x.code[j]? = some y := ⟨_, List.getElem?_eq_getElem hjt⟩
      obtain ⟨b', off', ha', _, d0, d1, d2, d3, d4, d5⟩ := in_row (hX.out wr g1.out).crow j y hy
      have hj0' : (0 : Int) ≤ (j : Int) := by omega
      have hj1 : (j : Int) < (x.code.length : Int) := by omega
      have hMy := hM.out y wr (List.mem_of_getElem? hy) g1.out
      have hno := Lib.hid (fun h => show blkD l.length k regs x = false by unfold blkD; rw [all_no (f := mayA regs) hy h]; rfl)
      have hyes := Lib.hid (all_take (f := mayA regs) hy)
      have hbd : Hid (∀ V, Below W0.heap.size W0 V → V.cell? ⟨w.heap.size, 1, none⟩ = some (.slice (some ⟨b', off', none⟩) x.code.length x.ccap)) := Lib.hid (fun V hv => by
        have := (hbox.out V hv).2.1
        rw [ha'] at this
        exact this)
      have x1' := hbd.out wr hb.out
      clear x0 x1 x2 x3
      cases hv : mayA regs y
      · rw [hv] at hMy
        replace hMy := Lib.hid hMy
        have hfin := Lib.hid (hno.out hv)
        clear hv hno hyes hall hends hy ha' hbd
        go_wp2_with fail
        refine hMy.out.mono ?_
        rintro e w1 ⟨rfl, hb1⟩
        have g2 := Lib.hid (g1.out.trans (hb1.mono g1.out.size))
        clear hb1
        go_wp2_with fail
        go_ret
        exact ⟨ret_bool hfin.out.symm, g2.out⟩
      · rw [hv] at hMy
        replace hMy := Lib.hid hMy
        have hn : Hid ((x.code.take (j + 1)).all (mayA regs) = true) := Lib.hid (by rw [hyes.out, hall.out, hv]; rfl)
        by_cases hjl : (j : Int) < (x.code.length : Int) - 1
        · have hyl : Hid ((x.code.take (x.code.length - 1))[j]? = some y) := Lib.hid (by rw [List.getElem?_take, if_pos (by omega)]; exact hy)
          have hno2 := Lib.hid (fun (h : (!opEnds y.op) = false) => show blkD l.length k regs x = false by unfold blkD; rw [hQ.out, all_no (f := fun i : Ins => !opEnds i.op) hyl.out h]; simp)
          have hyes2 := Lib.hid (all_take (f := fun i : Ins => !opEnds i.op) hyl.out)
          clear hv hno hyes hall hy ha' hyl
          go_wp2_with fail
          refine hMy.out.mono ?_
          rintro e w1 ⟨rfl, hb1⟩
          have hb2 := Lib.hid (hb.out.trans (hb1.mono hb.out.size))
          have d0' := below_in hb1 d0
          have x1'' := hbd.out w1 hb2.out
          have g2 := Lib.hid (g1.out.trans (hb1.mono g1.out.size))
          clear hb1 d0 d1 d2 d3 d4 d5 x1' hMy
          go_wp2_with fail
          refine (hEn.out _ _).mono ?_
          rintro e w2 ⟨rfl, hb3⟩
          have hb4 := Lib.hid (hb2.out.trans (hb3.mono hb2.out.size))
          have g3 := Lib.hid (g2.out.trans (hb3.mono g2.out.size))
          clear hb3 hbd
          cases hz : opEnds y.op
          · have hn2 : Hid (((x.code.take (x.code.length - 1)).take (j + 1)).all (fun i => !opEnds i.op) = true) := Lib.hid (by rw [hyes2.out, hends.out, hz]; rfl)
            clear hz hno2 hyes2 hends
            go_wp2_with fail
            go_roundw
            case rel => exact ⟨j + 1, by omega, by go_num, hn, hn2, hb4⟩
            case measure => simp [intOf]; omega
          · have hfin := Lib.hid (hno2.out (by rw [hz]; rfl))
            clear hz hno2 hyes2 hends
            go_wp2_with fail
            go_ret
            exact ⟨ret_bool hfin.out.symm, g3.out⟩
        · have hn2 : Hid (((x.code.take (x.code.length - 1)).take (j + 1)).all (fun i => !opEnds i.op) = true) := Lib.hid (by
            have := hends.out
            rw [List.take_of_length_le (by rw [List.length_take]; omega)] at this
            rw [List.take_of_length_le (by rw [List.length_take]; omega)]
            exact this)
          clear hv hno hyes hall hy ha' hends
          go_wp2_with fail
          refine hMy.out.mono ?_
          rintro e w1 ⟨rfl, hb1⟩
          have hb2 := Lib.hid (hb.out.trans (hb1.mono hb.out.size))
          have x1'' := hbd.out w1 hb2.out
          clear hb1 d0 d1 d2 d3 d4 d5 x1' hMy
          go_wp2_with fail
          go_roundw
          case rel => exact ⟨j + 1, by omega, by go_num, hn, hn2, hb2⟩
          case measure => simp [intOf]; omega
    · have hjj : j = x.code.length := by omega
      subst hjj
      rw [List.take_length] at hall
      have hends2 : Hid ((x.code.take (x.code.length - 1)).all (fun i => !opEnds i.op) = true) := Lib.hid (by
        have := hends.out
        rw [List.take_of_length_le (by rw [List.length_take]; omega)] at this
        exact this)
      have hnoE := Lib.hid (fun (h : endsB l.length x = false) => show blkD l.length k regs x = false by unfold blkD; rw [h]; simp)
      have hyesE := Lib.hid (fun (h : endsB l.length x = true) => show blkD l.length k regs x = phisB regs k x by unfold blkD; rw [hall.out, h]; simp)
      clear hends hall hM hEn
      replace hends2 := hends2
      have hends := hends2
      clear hends2
      have hc1 := hb
      clear hb
      obtain ⟨w1, hw1⟩ : ∃ w1, w1 = wr := ⟨_, rfl⟩
      rw [← hw1] at hc1 g1 x0 x1 x2 x3
      generalize hlo : lastOp x.code = lo at *
      clear hlo
      rw [← hw1]
      clear hw1
      go_wp2_with fail
      refine (hL.out w1 g1.out).mono ?_
      rintro e wA ⟨rfl, hbA⟩
      have hcA := Lib.hid (hc1.out.trans (hbA.mono hc1.out.size))
      have gA := Lib.hid (hst.out.trans (hcA.out.mono hst.out.size))
      clear hbA x0 x1 x2 x3
      obtain ⟨x0, x1, x2, x3⟩ := hbox.out wA hcA.out
      have hdef1 : Hid (∀ c, c = (if lo = 12 then (2 : Int) else 1) → True) := Lib.hid (fun _ _ => trivial)
      clear hdef1
      go_upto_if 49 with fail
      go_cut [9] from 9 to 9 (fun n wx => (∃ c, n = .int .i64 c ∧ Hid (c = if lo = 12 then 2 else 1)) ∧ wx = wA)
      case first =>
        by_cases h12 : lo = 12
        · have e12 : (lo == 12) = true := by simp [h12]
          replace h12 := Lib.hid h12
          go_wp2_with fail
          go_meet
          case rel => exact ⟨⟨_, rfl, Lib.hid (by rw [if_pos h12.out])⟩, rfl⟩
        · have e12 := ne_b h12
          replace h12 := Lib.hid h12
          go_wp2_with fail
          go_meet
          case rel => exact ⟨⟨_, rfl, Lib.hid (by rw [if_neg h12.out])⟩, rfl⟩
      case rest =>
        obtain ⟨⟨c1v, rfl, hc1v⟩, rfl⟩ := hcut
        go_wp2_with fail
        refine (hL.out _ gA.out).mono ?_
        rintro e w2 ⟨rfl, hb2⟩
        have hc2' := Lib.hid (hcA.out.trans (hb2.mono hcA.out.size))
        have g2 := Lib.hid (hst.out.trans (hc2'.out.mono hst.out.size))
        clear hb2 x0 x1 x2 x3 hL
        obtain ⟨x0, x1, x2, x3⟩ := hbox.out w2 hc2'.out
        go_upto_if 52 with fail
        go_cut [9] from 9 to 9 (fun n wx => n = .int .i64 (opCount lo) ∧ wx = w2)
        case first =>
          by_cases h13 : lo = 13
          · have e13 : (lo == 13) = true := by simp [h13]
            have hc : opCount lo = 0 := by simp [opCount, h13]
            replace hc := Lib.hid hc
            clear h13
            go_wp2_with fail
            go_meet
            case rel => exact ⟨by rw [hc.out], rfl⟩
          · have e13 := ne_b h13
            have hc : opCount lo = c1v := by rw [hc1v.out]; unfold opCount; split <;> simp [h13]
            replace hc := Lib.hid hc
            clear h13
            go_wp2_with fail
            go_meet
            case rel => exact ⟨by rw [hc.out], rfl⟩
        case rest =>
          obtain ⟨rfl, rfl⟩ := hcut
          generalize hcnt : opCount lo = cnt at *
          replace hcnt := Lib.hid hcnt
          by_cases h1 : (x.tt.length : Int) = cnt
          · have e1 : ((x.tt.length : Int) != cnt) = false := by rw [h1]; simp
            cases hv : x.tt.all (fun y => inP y l.length)
            · have hE2 := hE1.out _ g2.out
              rw [hv] at hE2
              replace hE2 := Lib.hid hE2
              have hfin := Lib.hid (hnoE.out (by rw [hQ.out, hv]; simp))
              clear hv hE1 hnoE hQ hyesE h1
              go_wp2_with fail
              refine hE2.out.mono ?_
              rintro e w3 ⟨rfl, hb3⟩
              have g3 := Lib.hid (g2.out.trans (hb3.mono g2.out.size))
              clear hb3
              go_wp2_with fail
              go_ret
              exact ⟨ret_bool hfin.out.symm, g3.out⟩
            · have hE2 := hE1.out _ g2.out
              rw [hv] at hE2
              replace hE2 := Lib.hid hE2
              have hen : Hid (endsB l.length x = true) := Lib.hid (by rw [hQ.out, hv, h1]; simp [hends.out])
              have hbl : Hid (blkD l.length k regs x = phisB regs k x) := Lib.hid (hyesE.out hen.out)
              clear hv hE1 hnoE hQ hyesE h1
              go_wp2_with fail
              refine hE2.out.mono ?_
              rintro e w3 ⟨rfl, hb3⟩
              have hc3 := Lib.hid (hc2'.out.trans (hb3.mono hc2'.out.size))
              clear hb3 g2 hE2
              obtain ⟨x0, x1, x2, x3⟩ := hbox.out w3 hc3.out
              go_wp2_with fail
              go_loopw [10] (fun i wq => ∃ j : Nat, j ≤ x.phis.length ∧ i = .int .i64 j ∧ Hid ((x.phis.take j).all (phiP x.fm.length regs) = true) ∧ Hid (k = 0 → j = 0) ∧ Hid (Below W0.heap.size W0 wq)) (fun i _ => x.phis.length - (intOf i).toNat)
              case atStart => exact ⟨0, Nat.zero_le _, rfl, Lib.hid rfl, Lib.hid (fun _ => rfl), hc3⟩
              case round =>
                clear x0 x1 x2 x3
                obtain ⟨j, hj, rfl, hallj, hjk, hb0⟩ := hrel
                obtain ⟨x0, x1, x2, x3⟩ := hbox.out wr hb0.out
                have g1 := Lib.hid (hst.out.trans (hb0.out.mono hst.out.size))
                by_cases hjt : j < x.phis.length
                · obtain ⟨y, hy⟩ : ∃ y, x.phis[j]? = some y := ⟨_, List.getElem?_eq_getElem hjt⟩
                  obtain ⟨b2, off2, ha', _, d0, d1⟩ := ph_row (hX.out wr g1.out).prow j y hy
                  have hyI := (hX.out wr g1.out).phis y (List.mem_of_getElem? hy)
                  have hj0' : (0 : Int) ≤ (j : Int) := by omega
                  have hj1 : (j : Int) < (x.phis.length : Int) := by omega
                  have hK : Hid (∀ V, Below wr.heap.size wr V → V.cell? ⟨w.heap.size, 0, none⟩ = some (.slice (some ⟨b2, off2, none⟩) x.phis.length x.pcap) ∧ V.cell? ⟨w.heap.size, 2, none⟩ = some (.slice x.fa x.fm.length x.fcap) ∧ V.cell? ⟨b2, off2 + j * 2, none⟩ = some (.int .i64 y.r) ∧ V.cell? ⟨b2, off2 + j * 2 + 1, none⟩ = some (.slice y.aa y.args.length y.acap)) := Lib.hid (fun V hv => by
                    rw [ha'] at x0
                    exact ⟨below_in hv x0, below_in hv x2, below_in hv d0, below_in hv d1⟩)
                  have hWr := Lib.hid (fun (a : Option Addr) V (h : RowAt V Tt a 1 1 [.int .i64 y.r]) => rwithin1_c [y.r] regs a 1 V h)
                  have hWa := Lib.hid (fun V (hv : Below wr.heap.size wr V) => rwithin1_c y.args regs y.aa y.acap V (hyI.row.below (Kps.of_below hv)))
                  have hno := Lib.hid (fun h (h0 : ¬ (k = 0 ∧ 0 < x.phis.length)) => show blkD l.length k regs x = false by rw [hbl.out, phisB_all h0]; exact all_no (f := phiP x.fm.length regs) hy h)
                  have hyesj := Lib.hid (all_take (f := phiP x.fm.length regs) hy)
                  have hpe := Lib.hid (phiP_eq x.fm.length regs y)
                  have hone : Hid (([y.r].all fun z => inP z regs) = inP y.r regs) := Lib.hid (by simp)
                  rw [hone.out] at hWr
                  clear hy hyI d0 d1 hone
                  by_cases hk0 : k = 0
                  · have hk1 : ((k : Int) == 0) = true := by simp [hk0]
                    have hfin : Hid (blkD l.length k regs x = false) := Lib.hid (by rw [hbl.out, hk0]; exact phisB_zero (by omega))
                    clear hno hyesj hpe hallj hjk ha'
                    go_upto_region 17 with fail
                    refine wp_region_rel (C := fun V => Below wr.heap.size wr V) (E := Ext) (R := fun i => (rrk0 k j b2 off2 w.heap.size x y regs).getD i VT) (by kernel_rfl) ((Below.refl _ _).drew) (by kernel_rfl) (fun i v w' w'' _ hE h => mono_get _ i rrk0_mono v w' w'' hE h) (steps_all ?hs) ?hend
                    case hs =>
                      refine stepsL_cons (s_val fun a w5 hC hs => ?_) ?_
                      · skip
                        have hvx := old_of hs 1 (by kernel_rfl) (by rfl)
                        exact ⟨wanted_none rfl, _, run_mv (.inl rfl) (ev hvx), rfl⟩
                      refine stepsL_cons (s_val fun a w5 hC hs => ?_) ?_
                      · skip
                        obtain ⟨vx, hvx, hRx⟩ := got_of hs 0 73 (by kernel_rfl) (by rfl)
                        replace hRx : vx = _ := hRx
                        subst hRx
                        exact ⟨wanted_none rfl, _, run_eqi hk1 rfl (ev hvx) (ev_const _), rfl⟩
                      refine stepsL_cons (s_val fun a w5 hC hs => ?_) ?_
                      · skip
                        obtain ⟨vx, hvx, hRx⟩ := got_of hs 1 74 (by kernel_rfl) (by rfl)
                        replace hRx : vx = _ := hRx
                        subst hRx
                        exact ⟨wanted_none rfl, _, run_mv (.inl rfl) (ev hvx), rfl⟩
                      refine stepsL_cons (s_skip (fun a w5 hC hs => ?_) (fun _ => rfl)) ?_
                      · skip
                        obtain ⟨vg, hvg, hRg⟩ := got_of hs 2 75 (by kernel_rfl) (by rfl)
                        replace hRg : vg = _ := hRg
                        subst hRg
                        exact wanted_not (j := 2) (d := 75) (b := false) (by rfl) (by rfl) hvg
                      refine stepsL_cons (s_skip (fun a w5 hC hs => ?_) (fun _ => rfl)) ?_
                      · skip
                        obtain ⟨vg, hvg, hRg⟩ := got_of hs 2 75 (by kernel_rfl) (by rfl)
                        replace hRg : vg = _ := hRg
                        subst hRg
                        exact wanted_not (j := 2) (d := 75) (b := false) (by rfl) (by rfl) hvg
                      refine stepsL_cons (s_skip (fun a w5 hC hs => ?_) (fun _ => rfl)) ?_
                      · skip
                        obtain ⟨vg, hvg, hRg⟩ := got_of hs 2 75 (by kernel_rfl) (by rfl)
                        replace hRg : vg = _ := hRg
                        subst hRg
                        exact wanted_not (j := 2) (d := 75) (b := false) (by rfl) (by rfl) hvg
                      refine stepsL_cons (s_skip (fun a w5 hC hs => ?_) (fun _ => rfl)) ?_
                      · skip
                        obtain ⟨vg, hvg, hRg⟩ := got_of hs 2 75 (by kernel_rfl) (by rfl)
                        replace hRg : vg = _ := hRg
                        subst hRg
                        exact wanted_not (j := 2) (d := 75) (b := false) (by rfl) (by rfl) hvg
                      refine stepsL_cons (s_skip (fun a w5 hC hs => ?_) (fun _ => rfl)) ?_
                      · skip
                        obtain ⟨vg, hvg, hRg⟩ := got_of hs 2 75 (by kernel_rfl) (by rfl)
                        replace hRg : vg = _ := hRg
                        subst hRg
                        exact wanted_not (j := 2) (d := 75) (b := false) (by rfl) (by rfl) hvg
                      refine stepsL_cons (s_skip (fun a w5 hC hs => ?_) (fun _ => rfl)) ?_
                      · skip
                        obtain ⟨vg, hvg, hRg⟩ := got_of hs 2 75 (by kernel_rfl) (by rfl)
                        replace hRg : vg = _ := hRg
                        subst hRg
                        exact wanted_not (j := 2) (d := 75) (b := false) (by rfl) (by rfl) hvg
                      refine stepsL_cons (s_skip (fun a w5 hC hs => ?_) (fun _ => rfl)) ?_
                      · skip
                        obtain ⟨vg, hvg, hRg⟩ := got_of hs 2 75 (by kernel_rfl) (by rfl)
                        replace hRg : vg = _ := hRg
                        subst hRg
                        exact wanted_not (j := 2) (d := 75) (b := false) (by rfl) (by rfl) hvg
                      refine stepsL_cons (s_skip (fun a w5 hC hs => ?_) (fun _ => rfl)) ?_
                      · skip
                        obtain ⟨vg, hvg, hRg⟩ := got_of hs 2 75 (by kernel_rfl) (by rfl)
                        replace hRg : vg = _ := hRg
                        subst hRg
                        exact wanted_not (j := 2) (d := 75) (b := false) (by rfl) (by rfl) hvg
                      refine stepsL_cons (s_skip (fun a w5 hC hs => ?_) (fun _ => rfl)) ?_
                      · skip
                        obtain ⟨vg, hvg, hRg⟩ := got_of hs 2 75 (by kernel_rfl) (by rfl)
                        replace hRg : vg = _ := hRg
                        subst hRg
                        exact wanted_not (j := 2) (d := 75) (b := false) (by rfl) (by rfl) hvg
                      refine stepsL_cons (s_skip (fun a w5 hC hs => ?_) (fun _ => rfl)) ?_
                      · skip
                        obtain ⟨vg, hvg, hRg⟩ := got_of hs 2 75 (by kernel_rfl) (by rfl)
                        replace hRg : vg = _ := hRg
                        subst hRg
                        exact wanted_not (j := 2) (d := 75) (b := false) (by rfl) (by rfl) hvg
                      refine stepsL_cons (s_val fun a w5 hC hs => ?_) ?_
                      · skip
                        obtain ⟨vc, hvc, hRc⟩ := got_of hs 2 75 (by kernel_rfl) (by rfl)
                        replace hRc : vc = _ := hRc
                        subst hRc
                        exact ⟨wanted_none rfl, _, run_pk (b := true) rfl (ev hvc) (by simp only [if_true, if_false, Bool.false_eq_true]; exact (ev_const _)), rfl⟩
                      refine stepsL_cons (s_val fun a w5 hC hs => ?_) ?_
                      · skip
                        obtain ⟨vx, hvx, hRx⟩ := got_of hs 13 86 (by kernel_rfl) (by rfl)
                        replace hRx : vx = _ := hRx
                        subst hRx
                        exact ⟨wanted_none rfl, _, run_mv (.inl rfl) (ev hvx), rfl⟩
                      refine stepsL_cons (s_skip (fun a w5 hC hs => ?_) (fun _ => rfl)) ?_
                      · skip
                        obtain ⟨vg, hvg, hRg⟩ := got_of hs 14 87 (by kernel_rfl) (by rfl)
                        replace hRg : vg = _ := hRg
                        subst hRg
                        exact wanted_not (j := 14) (d := 87) (b := false) (by rfl) (by rfl) hvg
                      refine stepsL_cons (s_skip (fun a w5 hC hs => ?_) (fun _ => rfl)) ?_
                      · skip
                        obtain ⟨vg, hvg, hRg⟩ := got_of hs 14 87 (by kernel_rfl) (by rfl)
                        replace hRg : vg = _ := hRg
                        subst hRg
                        exact wanted_not (j := 14) (d := 87) (b := false) (by rfl) (by rfl) hvg
                      refine stepsL_cons (s_skip (fun a w5 hC hs => ?_) (fun _ => rfl)) ?_
                      · skip
                        obtain ⟨vg, hvg, hRg⟩ := got_of hs 14 87 (by kernel_rfl) (by rfl)
                        replace hRg : vg = _ := hRg
                        subst hRg
                        exact wanted_not (j := 14) (d := 87) (b := false) (by rfl) (by rfl) hvg
                      refine stepsL_cons (s_skip (fun a w5 hC hs => ?_) (fun _ => rfl)) ?_
                      · skip
                        obtain ⟨vg, hvg, hRg⟩ := got_of hs 14 87 (by kernel_rfl) (by rfl)
                        replace hRg : vg = _ := hRg
                        subst hRg
                        exact wanted_not (j := 14) (d := 87) (b := false) (by rfl) (by rfl) hvg
                      refine stepsL_cons (s_skip (fun a w5 hC hs => ?_) (fun _ => rfl)) ?_
                      · skip
                        obtain ⟨vg, hvg, hRg⟩ := got_of hs 14 87 (by kernel_rfl) (by rfl)
                        replace hRg : vg = _ := hRg
                        subst hRg
                        exact wanted_not (j := 14) (d := 87) (b := false) (by rfl) (by rfl) hvg
                      refine stepsL_cons (s_skip (fun a w5 hC hs => ?_) (fun _ => rfl)) ?_
                      · skip
                        obtain ⟨vg, hvg, hRg⟩ := got_of hs 14 87 (by kernel_rfl) (by rfl)
                        replace hRg : vg = _ := hRg
                        subst hRg
                        exact wanted_not (j := 14) (d := 87) (b := false) (by rfl) (by rfl) hvg
                      refine stepsL_cons (s_skip (fun a w5 hC hs => ?_) (fun _ => rfl)) ?_
                      · skip
                        obtain ⟨vg, hvg, hRg⟩ := got_of hs 14 87 (by kernel_rfl) (by rfl)
                        replace hRg : vg = _ := hRg
                        subst hRg
                        exact wanted_not (j := 14) (d := 87) (b := false) (by rfl) (by rfl) hvg
                      refine stepsL_cons (s_skip (fun a w5 hC hs => ?_) (fun _ => rfl)) ?_
                      · skip
                        obtain ⟨vg, hvg, hRg⟩ := got_of hs 14 87 (by kernel_rfl) (by rfl)
                        replace hRg : vg = _ := hRg
                        subst hRg
                        exact wanted_not (j := 14) (d := 87) (b := false) (by rfl) (by rfl) hvg
                      refine stepsL_cons (s_skip (fun a w5 hC hs => ?_) (fun _ => rfl)) ?_
                      · skip
                        obtain ⟨vg, hvg, hRg⟩ := got_of hs 14 87 (by kernel_rfl) (by rfl)
                        replace hRg : vg = _ := hRg
                        subst hRg
                        exact wanted_not (j := 14) (d := 87) (b := false) (by rfl) (by rfl) hvg
                      refine stepsL_cons (s_val fun a w5 hC hs => ?_) ?_
                      · skip
                        obtain ⟨vc, hvc, hRc⟩ := got_of hs 14 87 (by kernel_rfl) (by rfl)
                        replace hRc : vc = _ := hRc
                        subst hRc
                        exact ⟨wanted_none rfl, _, run_pk (b := true) rfl (ev hvc) (by simp only [if_true, if_false, Bool.false_eq_true]; exact (ev_const _)), rfl⟩
                      refine stepsL_cons (s_val fun a w5 hC hs => ?_) ?_
                      · skip
                        obtain ⟨vx, hvx, hRx⟩ := got_of hs 24 97 (by kernel_rfl) (by rfl)
                        replace hRx : vx = _ := hRx
                        subst hRx
                        exact ⟨wanted_none rfl, _, run_mv (.inl rfl) (ev hvx), rfl⟩
                      refine stepsL_cons (s_skip (fun a w5 hC hs => ?_) (fun _ => rfl)) ?_
                      · skip
                        obtain ⟨vg, hvg, hRg⟩ := got_of hs 25 98 (by kernel_rfl) (by rfl)
                        replace hRg : vg = _ := hRg
                        subst hRg
                        exact wanted_not (j := 25) (d := 98) (b := false) (by rfl) (by rfl) hvg
                      refine stepsL_cons (s_skip (fun a w5 hC hs => ?_) (fun _ => rfl)) ?_
                      · skip
                        obtain ⟨vg, hvg, hRg⟩ := got_of hs 25 98 (by kernel_rfl) (by rfl)
                        replace hRg : vg = _ := hRg
                        subst hRg
                        exact wanted_not (j := 25) (d := 98) (b := false) (by rfl) (by rfl) hvg
                      refine stepsL_cons (s_skip (fun a w5 hC hs => ?_) (fun _ => rfl)) ?_
                      · skip
                        obtain ⟨vg, hvg, hRg⟩ := got_of hs 25 98 (by kernel_rfl) (by rfl)
                        replace hRg : vg = _ := hRg
                        subst hRg
                        exact wanted_not (j := 25) (d := 98) (b := false) (by rfl) (by rfl) hvg
                      refine stepsL_cons (s_skip (fun a w5 hC hs => ?_) (fun _ => rfl)) ?_
                      · skip
                        obtain ⟨vg, hvg, hRg⟩ := got_of hs 25 98 (by kernel_rfl) (by rfl)
                        replace hRg : vg = _ := hRg
                        subst hRg
                        exact wanted_not (j := 25) (d := 98) (b := false) (by rfl) (by rfl) hvg
                      refine stepsL_cons (s_skip (fun a w5 hC hs => ?_) (fun _ => rfl)) ?_
                      · skip
                        obtain ⟨vg, hvg, hRg⟩ := got_of hs 25 98 (by kernel_rfl) (by rfl)
                        replace hRg : vg = _ := hRg
                        subst hRg
                        exact wanted_not (j := 25) (d := 98) (b := false) (by rfl) (by rfl) hvg
                      refine stepsL_cons (s_skip (fun a w5 hC hs => ?_) (fun _ => rfl)) ?_
                      · skip
                        obtain ⟨vg, hvg, hRg⟩ := got_of hs 25 98 (by kernel_rfl) (by rfl)
                        replace hRg : vg = _ := hRg
                        subst hRg
                        exact wanted_not (j := 25) (d := 98) (b := false) (by rfl) (by rfl) hvg
                      refine stepsL_cons (s_skip (fun a w5 hC hs => ?_) (fun _ => rfl)) ?_
                      · skip
                        obtain ⟨vg, hvg, hRg⟩ := got_of hs 25 98 (by kernel_rfl) (by rfl)
                        replace hRg : vg = _ := hRg
                        subst hRg
                        exact wanted_not (j := 25) (d := 98) (b := false) (by rfl) (by rfl) hvg
                      refine stepsL_cons (s_skip (fun a w5 hC hs => ?_) (fun _ => rfl)) ?_
                      · skip
                        obtain ⟨vg, hvg, hRg⟩ := got_of hs 25 98 (by kernel_rfl) (by rfl)
                        replace hRg : vg = _ := hRg
                        subst hRg
                        exact wanted_not (j := 25) (d := 98) (b := false) (by rfl) (by rfl) hvg
                      refine stepsL_cons (s_skip (fun a w5 hC hs => ?_) (fun _ => rfl)) ?_
                      · skip
                        obtain ⟨vg, hvg, hRg⟩ := got_of hs 25 98 (by kernel_rfl) (by rfl)
                        replace hRg : vg = _ := hRg
                        subst hRg
                        exact wanted_not (j := 25) (d := 98) (b := false) (by rfl) (by rfl) hvg
                      refine stepsL_cons (s_skip (fun a w5 hC hs => ?_) (fun _ => rfl)) ?_
                      · skip
                        obtain ⟨vg, hvg, hRg⟩ := got_of hs 25 98 (by kernel_rfl) (by rfl)
                        replace hRg : vg = _ := hRg
                        subst hRg
                        exact wanted_not (j := 25) (d := 98) (b := false) (by rfl) (by rfl) hvg
                      refine stepsL_cons (s_skip (fun a w5 hC hs => ?_) (fun _ => rfl)) ?_
                      · skip
                        obtain ⟨vg, hvg, hRg⟩ := got_of hs 25 98 (by kernel_rfl) (by rfl)
                        replace hRg : vg = _ := hRg
                        subst hRg
                        exact wanted_not (j := 25) (d := 98) (b := false) (by rfl) (by rfl) hvg
                      refine stepsL_cons (s_val fun a w5 hC hs => ?_) ?_
                      · skip
                        obtain ⟨vc, hvc, hRc⟩ := got_of hs 25 98 (by kernel_rfl) (by rfl)
                        replace hRc : vc = _ := hRc
                        subst hRc
                        exact ⟨wanted_none rfl, _, run_pk (b := true) rfl (ev hvc) (by simp only [if_true, if_false, Bool.false_eq_true]; exact (ev_const _)), rfl⟩
                      exact stepsL_nil
                    case hend =>
                      intro σ V4 hC4 hR4
                      generalize hF : fillL _ _ _ _ _ = F
                      simp [fillL, dstOf, List.range, List.range.loop, Act.put] at hF
                      subst hF
                      have h37 : σ 37 = .bool true := hR4 37 (by simp)
                      rw [h37]
                      have g4 := Lib.hid (g1.out.trans (hC4.mono g1.out.size))
                      have g5 := Lib.hid (hb0.out.trans (hC4.mono hb0.out.size))
                      clear hR4 hC4 h37 hK hWr hWa
                      go_wp2_with fail
                      go_ret
                      exact ⟨ret_bool hfin.out.symm, g4.out⟩
                  · have hk1 : ((k : Int) == 0) = false := ne_b (by omega)
                    have hk2 : ¬ (k = 0 ∧ 0 < x.phis.length) := fun h => hk0 h.1
                    cases hA : inP y.r regs
                    · rw [hA] at hWr
                      have hfin : Hid (blkD l.length k regs x = false) := Lib.hid (hno.out (by rw [hpe.out, hA]; simp) hk2)
                      clear hno hyesj hpe hallj hjk ha' hA
                      go_upto_region 17 with fail
                      refine wp_region_rel (C := fun V => Below wr.heap.size wr V) (E := Ext) (R := fun i => (rrA k j b2 off2 w.heap.size x y regs).getD i VT) (by kernel_rfl) ((Below.refl _ _).drew) (by kernel_rfl) (fun i v w' w'' _ hE h => mono_get _ i rrA_mono v w' w'' hE h) (steps_all ?hs) ?hend
                      case hs =>
                        refine stepsL_cons (s_val fun a w5 hC hs => ?_) ?_
                        · skip
                          have hvx := old_of hs 1 (by kernel_rfl) (by rfl)
                          exact ⟨wanted_none rfl, _, run_mv (.inl rfl) (ev hvx), rfl⟩
                        refine stepsL_cons (s_val fun a w5 hC hs => ?_) ?_
                        · skip
                          obtain ⟨vx, hvx, hRx⟩ := got_of hs 0 73 (by kernel_rfl) (by rfl)
                          replace hRx : vx = _ := hRx
                          subst hRx
                          exact ⟨wanted_none rfl, _, run_eqi hk1 rfl (ev hvx) (ev_const _), rfl⟩
                        refine stepsL_cons (s_val fun a w5 hC hs => ?_) ?_
                        · skip
                          obtain ⟨vx, hvx, hRx⟩ := got_of hs 1 74 (by kernel_rfl) (by rfl)
                          replace hRx : vx = _ := hRx
                          subst hRx
                          exact ⟨wanted_none rfl, _, run_mv (.inl rfl) (ev hvx), rfl⟩
                        refine stepsL_cons (s_val fun a w5 hC hs => ?_) ?_
                        · skip
                          obtain ⟨vg, hvg, hRg⟩ := got_of hs 2 75 (by kernel_rfl) (by rfl)
                          replace hRg : vg = _ := hRg
                          subst hRg
                          have hvx := old_of hs 7 (by kernel_rfl) (by rfl)
                          exact ⟨wanted_is (j := 2) (d := 75) (b := false) (by rfl) (by rfl) hvg, _, run_fa rfl (ev hvx) fl_b0, rfl⟩
                        refine stepsL_cons (s_val fun a w5 hC hs => ?_) ?_
                        · skip
                          obtain ⟨vg, hvg, hRg⟩ := got_of hs 2 75 (by kernel_rfl) (by rfl)
                          replace hRg : vg = _ := hRg
                          subst hRg
                          obtain ⟨vx, hvx, hRx⟩ := got_of hs 3 76 (by kernel_rfl) (by rfl)
                          replace hRx : vx = _ := hRx
                          subst hRx
                          exact ⟨wanted_is (j := 2) (d := 75) (b := false) (by rfl) (by rfl) hvg, _, run_ld rfl (ev hvx) (ld_phis (hK.out w5 hC).1), rfl⟩
                        refine stepsL_cons (s_val fun a w5 hC hs => ?_) ?_
                        · skip
                          obtain ⟨vg, hvg, hRg⟩ := got_of hs 2 75 (by kernel_rfl) (by rfl)
                          replace hRg : vg = _ := hRg
                          subst hRg
                          have hvx := old_of hs 10 (by kernel_rfl) (by rfl)
                          exact ⟨wanted_is (j := 2) (d := 75) (b := false) (by rfl) (by rfl) hvg, _, run_mv (.inl rfl) (ev hvx), rfl⟩
                        refine stepsL_cons (s_val fun a w5 hC hs => ?_) ?_
                        · skip
                          obtain ⟨vg, hvg, hRg⟩ := got_of hs 2 75 (by kernel_rfl) (by rfl)
                          replace hRg : vg = _ := hRg
                          subst hRg
                          obtain ⟨vx, hvx, hRx⟩ := got_of hs 4 77 (by kernel_rfl) (by rfl)
                          replace hRx : vx = _ := hRx
                          subst hRx
                          obtain ⟨vy, hvy, hRy⟩ := got_of hs 5 78 (by kernel_rfl) (by rfl)
                          replace hRy : vy = _ := hRy
                          subst hRy
                          exact ⟨wanted_is (j := 2) (d := 75) (b := false) (by rfl) (by rfl) hvg, _, run_ix rfl (ev hvx) (ev hvy) (ix_phi hj1), rfl⟩
                        refine stepsL_cons (s_val fun a w5 hC hs => ?_) ?_
                        · skip
                          obtain ⟨vg, hvg, hRg⟩ := got_of hs 2 75 (by kernel_rfl) (by rfl)
                          replace hRg : vg = _ := hRg
                          subst hRg
                          obtain ⟨vx, hvx, hRx⟩ := got_of hs 6 79 (by kernel_rfl) (by rfl)
                          replace hRx : vx = _ := hRx
                          subst hRx
                          exact ⟨wanted_is (j := 2) (d := 75) (b := false) (by rfl) (by rfl) hvg, _, run_fa rfl (ev hvx) fl_p0, rfl⟩
                        refine stepsL_cons (s_val fun a w5 hC hs => ?_) ?_
                        · skip
                          obtain ⟨vg, hvg, hRg⟩ := got_of hs 2 75 (by kernel_rfl) (by rfl)
                          replace hRg : vg = _ := hRg
                          subst hRg
                          obtain ⟨vx, hvx, hRx⟩ := got_of hs 7 80 (by kernel_rfl) (by rfl)
                          replace hRx : vx = _ := hRx
                          subst hRx
                          exact ⟨wanted_is (j := 2) (d := 75) (b := false) (by rfl) (by rfl) hvg, _, run_ld rfl (ev hvx) (ld_int (hK.out w5 hC).2.2.1), rfl⟩
                        refine stepsL_cons (s_new fun a w5 hC hs => ?_) ?_
                        · skip
                          obtain ⟨vg, hvg, hRg⟩ := got_of hs 2 75 (by kernel_rfl) (by rfl)
                          replace hRg : vg = _ := hRg
                          subst hRg
                          obtain ⟨vx, hvx, hRx⟩ := got_of hs 8 81 (by kernel_rfl) (by rfl)
                          replace hRx : vx = _ := hRx
                          subst hRx
                          exact ⟨wanted_is (j := 2) (d := 75) (b := false) (by rfl) (by rfl) hvg, _, _, run_bs (qs := #[(0, .int .i64 y.r)]) rfl (by simp [ev hvx]) (bs_one w5 y.r), hC.alloc hC.size _, Ext.al _ _, ⟨_, rfl, row_blk 1 (blk_new _ _ rfl) (by omega) trivial⟩⟩
                        refine stepsL_cons (s_val fun a w5 hC hs => ?_) ?_
                        · skip
                          obtain ⟨vg, hvg, hRg⟩ := got_of hs 2 75 (by kernel_rfl) (by rfl)
                          replace hRg : vg = _ := hRg
                          subst hRg
                          have hvx := old_of hs 2 (by kernel_rfl) (by rfl)
                          exact ⟨wanted_is (j := 2) (d := 75) (b := false) (by rfl) (by rfl) hvg, _, run_mv (.inl rfl) (ev hvx), rfl⟩
                        refine stepsL_cons (s_call fun a w5 hC hs => ?_) ?_
                        · skip
                          obtain ⟨vg, hvg, hRg⟩ := got_of hs 2 75 (by kernel_rfl) (by rfl)
                          replace hRg : vg = _ := hRg
                          subst hRg
                          obtain ⟨vx, hvx, hRx⟩ := got_of hs 9 82 (by kernel_rfl) (by rfl)
                          obtain ⟨ax, rfl, hrx⟩ := hRx
                          obtain ⟨vy, hvy, hRy⟩ := got_of hs 10 83 (by kernel_rfl) (by rfl)
                          replace hRy : vy = _ := hRy
                          subst hRy
                          exact ⟨wanted_is (j := 2) (d := 75) (b := false) (by rfl) (by rfl) hvg, 76, _, run_call2 rfl (ev hvx) (ev hvy) (fun _ _ => rfl), (hWr.out _ w5 hrx).mono (fun e w' ⟨he, hb⟩ => ⟨_, he, hC.trans (hb.mono hC.size), hb, rfl⟩)⟩
                        refine stepsL_cons (s_val fun a w5 hC hs => ?_) ?_
                        · skip
                          obtain ⟨vg, hvg, hRg⟩ := got_of hs 2 75 (by kernel_rfl) (by rfl)
                          replace hRg : vg = _ := hRg
                          subst hRg
                          obtain ⟨vx, hvx, hRx⟩ := got_of hs 11 84 (by kernel_rfl) (by rfl)
                          replace hRx : vx = _ := hRx
                          subst hRx
                          exact ⟨wanted_is (j := 2) (d := 75) (b := false) (by rfl) (by rfl) hvg, _, run_notB rfl (ev hvx), rfl⟩
                        refine stepsL_cons (s_val fun a w5 hC hs => ?_) ?_
                        · skip
                          obtain ⟨vc, hvc, hRc⟩ := got_of hs 2 75 (by kernel_rfl) (by rfl)
                          replace hRc : vc = _ := hRc
                          subst hRc
                          obtain ⟨vy, hvy, hRy⟩ := got_of hs 12 85 (by kernel_rfl) (by rfl)
                          replace hRy : vy = _ := hRy
                          subst hRy
                          exact ⟨wanted_none rfl, _, run_pk (b := false) rfl (ev hvc) (by simp only [if_true, if_false, Bool.false_eq_true]; exact (ev hvy)), rfl⟩
                        refine stepsL_cons (s_val fun a w5 hC hs => ?_) ?_
                        · skip
                          obtain ⟨vx, hvx, hRx⟩ := got_of hs 13 86 (by kernel_rfl) (by rfl)
                          replace hRx : vx = _ := hRx
                          subst hRx
                          exact ⟨wanted_none rfl, _, run_mv (.inl rfl) (ev hvx), rfl⟩
                        refine stepsL_cons (s_skip (fun a w5 hC hs => ?_) (fun _ => rfl)) ?_
                        · skip
                          obtain ⟨vg, hvg, hRg⟩ := got_of hs 14 87 (by kernel_rfl) (by rfl)
                          replace hRg : vg = _ := hRg
                          subst hRg
                          exact wanted_not (j := 14) (d := 87) (b := false) (by rfl) (by rfl) hvg
                        refine stepsL_cons (s_skip (fun a w5 hC hs => ?_) (fun _ => rfl)) ?_
                        · skip
                          obtain ⟨vg, hvg, hRg⟩ := got_of hs 14 87 (by kernel_rfl) (by rfl)
                          replace hRg : vg = _ := hRg
                          subst hRg
                          exact wanted_not (j := 14) (d := 87) (b := false) (by rfl) (by rfl) hvg
                        refine stepsL_cons (s_skip (fun a w5 hC hs => ?_) (fun _ => rfl)) ?_
                        · skip
                          obtain ⟨vg, hvg, hRg⟩ := got_of hs 14 87 (by kernel_rfl) (by rfl)
                          replace hRg : vg = _ := hRg
                          subst hRg
                          exact wanted_not (j := 14) (d := 87) (b := false) (by rfl) (by rfl) hvg
                        refine stepsL_cons (s_skip (fun a w5 hC hs => ?_) (fun _ => rfl)) ?_
                        · skip
                          obtain ⟨vg, hvg, hRg⟩ := got_of hs 14 87 (by kernel_rfl) (by rfl)
                          replace hRg : vg = _ := hRg
                          subst hRg
                          exact wanted_not (j := 14) (d := 87) (b := false) (by rfl) (by rfl) hvg
                        refine stepsL_cons (s_skip (fun a w5 hC hs => ?_) (fun _ => rfl)) ?_
                        · skip
                          obtain ⟨vg, hvg, hRg⟩ := got_of hs 14 87 (by kernel_rfl) (by rfl)
                          replace hRg : vg = _ := hRg
                          subst hRg
                          exact wanted_not (j := 14) (d := 87) (b := false) (by rfl) (by rfl) hvg
                        refine stepsL_cons (s_skip (fun a w5 hC hs => ?_) (fun _ => rfl)) ?_
                        · skip
                          obtain ⟨vg, hvg, hRg⟩ := got_of hs 14 87 (by kernel_rfl) (by rfl)
                          replace hRg : vg = _ := hRg
                          subst hRg
                          exact wanted_not (j := 14) (d := 87) (b := false) (by rfl) (by rfl) hvg
                        refine stepsL_cons (s_skip (fun a w5 hC hs => ?_) (fun _ => rfl)) ?_
                        · skip
                          obtain ⟨vg, hvg, hRg⟩ := got_of hs 14 87 (by kernel_rfl) (by rfl)
                          replace hRg : vg = _ := hRg
                          subst hRg
                          exact wanted_not (j := 14) (d := 87) (b := false) (by rfl) (by rfl) hvg
                        refine stepsL_cons (s_skip (fun a w5 hC hs => ?_) (fun _ => rfl)) ?_
                        · skip
                          obtain ⟨vg, hvg, hRg⟩ := got_of hs 14 87 (by kernel_rfl) (by rfl)
                          replace hRg : vg = _ := hRg
                          subst hRg
                          exact wanted_not (j := 14) (d := 87) (b := false) (by rfl) (by rfl) hvg
                        refine stepsL_cons (s_skip (fun a w5 hC hs => ?_) (fun _ => rfl)) ?_
                        · skip
                          obtain ⟨vg, hvg, hRg⟩ := got_of hs 14 87 (by kernel_rfl) (by rfl)
                          replace hRg : vg = _ := hRg
                          subst hRg
                          exact wanted_not (j := 14) (d := 87) (b := false) (by rfl) (by rfl) hvg
                        refine stepsL_cons (s_val fun a w5 hC hs => ?_) ?_
                        · skip
                          obtain ⟨vc, hvc, hRc⟩ := got_of hs 14 87 (by kernel_rfl) (by rfl)
                          replace hRc : vc = _ := hRc
                          subst hRc
                          exact ⟨wanted_none rfl, _, run_pk (b := true) rfl (ev hvc) (by simp only [if_true, if_false, Bool.false_eq_true]; exact (ev_const _)), rfl⟩
                        refine stepsL_cons (s_val fun a w5 hC hs => ?_) ?_
                        · skip
                          obtain ⟨vx, hvx, hRx⟩ := got_of hs 24 97 (by kernel_rfl) (by rfl)
                          replace hRx : vx = _ := hRx
                          subst hRx
                          exact ⟨wanted_none rfl, _, run_mv (.inl rfl) (ev hvx), rfl⟩
                        refine stepsL_cons (s_skip (fun a w5 hC hs => ?_) (fun _ => rfl)) ?_
                        · skip
                          obtain ⟨vg, hvg, hRg⟩ := got_of hs 25 98 (by kernel_rfl) (by rfl)
                          replace hRg : vg = _ := hRg
                          subst hRg
                          exact wanted_not (j := 25) (d := 98) (b := false) (by rfl) (by rfl) hvg
                        refine stepsL_cons (s_skip (fun a w5 hC hs => ?_) (fun _ => rfl)) ?_
                        · skip
                          obtain ⟨vg, hvg, hRg⟩ := got_of hs 25 98 (by kernel_rfl) (by rfl)
                          replace hRg : vg = _ := hRg
                          subst hRg
                          exact wanted_not (j := 25) (d := 98) (b := false) (by rfl) (by rfl) hvg
                        refine stepsL_cons (s_skip (fun a w5 hC hs => ?_) (fun _ => rfl)) ?_
                        · skip
                          obtain ⟨vg, hvg, hRg⟩ := got_of hs 25 98 (by kernel_rfl) (by rfl)
                          replace hRg : vg = _ := hRg
                          subst hRg
                          exact wanted_not (j := 25) (d := 98) (b := false) (by rfl) (by rfl) hvg
                        refine stepsL_cons (s_skip (fun a w5 hC hs => ?_) (fun _ => rfl)) ?_
                        · skip
                          obtain ⟨vg, hvg, hRg⟩ := got_of hs 25 98 (by kernel_rfl) (by rfl)
                          replace hRg : vg = _ := hRg
                          subst hRg
                          exact wanted_not (j := 25) (d := 98) (b := false) (by rfl) (by rfl) hvg
                        refine stepsL_cons (s_skip (fun a w5 hC hs => ?_) (fun _ => rfl)) ?_
                        · skip
                          obtain ⟨vg, hvg, hRg⟩ := got_of hs 25 98 (by kernel_rfl) (by rfl)
                          replace hRg : vg = _ := hRg
                          subst hRg
                          exact wanted_not (j := 25) (d := 98) (b := false) (by rfl) (by rfl) hvg
                        refine stepsL_cons (s_skip (fun a w5 hC hs => ?_) (fun _ => rfl)) ?_
                        · skip
                          obtain ⟨vg, hvg, hRg⟩ := got_of hs 25 98 (by kernel_rfl) (by rfl)
                          replace hRg : vg = _ := hRg
                          subst hRg
                          exact wanted_not (j := 25) (d := 98) (b := false) (by rfl) (by rfl) hvg
                        refine stepsL_cons (s_skip (fun a w5 hC hs => ?_) (fun _ => rfl)) ?_
                        · skip
                          obtain ⟨vg, hvg, hRg⟩ := got_of hs 25 98 (by kernel_rfl) (by rfl)
                          replace hRg : vg = _ := hRg
                          subst hRg
                          exact wanted_not (j := 25) (d := 98) (b := false) (by rfl) (by rfl) hvg
                        refine stepsL_cons (s_skip (fun a w5 hC hs => ?_) (fun _ => rfl)) ?_
                        · skip
                          obtain ⟨vg, hvg, hRg⟩ := got_of hs 25 98 (by kernel_rfl) (by rfl)
                          replace hRg : vg = _ := hRg
                          subst hRg
                          exact wanted_not (j := 25) (d := 98) (b := false) (by rfl) (by rfl) hvg
                        refine stepsL_cons (s_skip (fun a w5 hC hs => ?_) (fun _ => rfl)) ?_
                        · skip
                          obtain ⟨vg, hvg, hRg⟩ := got_of hs 25 98 (by kernel_rfl) (by rfl)
                          replace hRg : vg = _ := hRg
                          subst hRg
                          exact wanted_not (j := 25) (d := 98) (b := false) (by rfl) (by rfl) hvg
                        refine stepsL_cons (s_skip (fun a w5 hC hs => ?_) (fun _ => rfl)) ?_
                        · skip
                          obtain ⟨vg, hvg, hRg⟩ := got_of hs 25 98 (by kernel_rfl) (by rfl)
                          replace hRg : vg = _ := hRg
                          subst hRg
                          exact wanted_not (j := 25) (d := 98) (b := false) (by rfl) (by rfl) hvg
                        refine stepsL_cons (s_skip (fun a w5 hC hs => ?_) (fun _ => rfl)) ?_
                        · skip
                          obtain ⟨vg, hvg, hRg⟩ := got_of hs 25 98 (by kernel_rfl) (by rfl)
                          replace hRg : vg = _ := hRg
                          subst hRg
                          exact wanted_not (j := 25) (d := 98) (b := false) (by rfl) (by rfl) hvg
                        refine stepsL_cons (s_val fun a w5 hC hs => ?_) ?_
                        · skip
                          obtain ⟨vc, hvc, hRc⟩ := got_of hs 25 98 (by kernel_rfl) (by rfl)
                          replace hRc : vc = _ := hRc
                          subst hRc
                          exact ⟨wanted_none rfl, _, run_pk (b := true) rfl (ev hvc) (by simp only [if_true, if_false, Bool.false_eq_true]; exact (ev_const _)), rfl⟩
                        exact stepsL_nil
                      case hend =>
                        intro σ V4 hC4 hR4
                        generalize hF : fillL _ _ _ _ _ = F
                        simp [fillL, dstOf, List.range, List.range.loop, Act.put] at hF
                        subst hF
                        have h37 : σ 37 = .bool true := hR4 37 (by simp)
                        rw [h37]
                        have g4 := Lib.hid (g1.out.trans (hC4.mono g1.out.size))
                        have g5 := Lib.hid (hb0.out.trans (hC4.mono hb0.out.size))
                        clear hR4 hC4 h37 hK hWr hWa
                        go_wp2_with fail
                        go_ret
                        exact ⟨ret_bool hfin.out.symm, g4.out⟩
                    · rw [hA] at hWr
                      cases hB : y.args.all (fun z => inP z regs)
                      · rw [hB] at hWa
                        have hfin : Hid (blkD l.length k regs x = false) := Lib.hid (hno.out (by rw [hpe.out, hB]; simp) hk2)
                        clear hno hyesj hpe hallj hjk ha' hA hB
                        go_upto_region 17 with fail
                        refine wp_region_rel (C := fun V => Below wr.heap.size wr V) (E := Ext) (R := fun i => (rrB k j b2 off2 w.heap.size x y regs).getD i VT) (by kernel_rfl) ((Below.refl _ _).drew) (by kernel_rfl) (fun i v w' w'' _ hE h => mono_get _ i rrB_mono v w' w'' hE h) (steps_all ?hs) ?hend
                        case hs =>
                          refine stepsL_cons (s_val fun a w5 hC hs => ?_) ?_
                          · skip
                            have hvx := old_of hs 1 (by kernel_rfl) (by rfl)
                            exact ⟨wanted_none rfl, _, run_mv (.inl rfl) (ev hvx), rfl⟩
                          refine stepsL_cons (s_val fun a w5 hC hs => ?_) ?_
                          · skip
                            obtain ⟨vx, hvx, hRx⟩ := got_of hs 0 73 (by kernel_rfl) (by rfl)
                            replace hRx : vx = _ := hRx
                            subst hRx
                            exact ⟨wanted_none rfl, _, run_eqi hk1 rfl (ev hvx) (ev_const _), rfl⟩
                          refine stepsL_cons (s_val fun a w5 hC hs => ?_) ?_
                          · skip
                            obtain ⟨vx, hvx, hRx⟩ := got_of hs 1 74 (by kernel_rfl) (by rfl)
                            replace hRx : vx = _ := hRx
                            subst hRx
                            exact ⟨wanted_none rfl, _, run_mv (.inl rfl) (ev hvx), rfl⟩
                          refine stepsL_cons (s_val fun a w5 hC hs => ?_) ?_
                          · skip
                            obtain ⟨vg, hvg, hRg⟩ := got_of hs 2 75 (by kernel_rfl) (by rfl)
                            replace hRg : vg = _ := hRg
                            subst hRg
                            have hvx := old_of hs 7 (by kernel_rfl) (by rfl)
                            exact ⟨wanted_is (j := 2) (d := 75) (b := false) (by rfl) (by rfl) hvg, _, run_fa rfl (ev hvx) fl_b0, rfl⟩
                          refine stepsL_cons (s_val fun a w5 hC hs => ?_) ?_
                          · skip
                            obtain ⟨vg, hvg, hRg⟩ := got_of hs 2 75 (by kernel_rfl) (by rfl)
                            replace hRg : vg = _ := hRg
                            subst hRg
                            obtain ⟨vx, hvx, hRx⟩ := got_of hs 3 76 (by kernel_rfl) (by rfl)
                            replace hRx : vx = _ := hRx
                            subst hRx
                            exact ⟨wanted_is (j := 2) (d := 75) (b := false) (by rfl) (by rfl) hvg, _, run_ld rfl (ev hvx) (ld_phis (hK.out w5 hC).1), rfl⟩
                          refine stepsL_cons (s_val fun a w5 hC hs => ?_) ?_
                          · skip
                            obtain ⟨vg, hvg, hRg⟩ := got_of hs 2 75 (by kernel_rfl) (by rfl)
                            replace hRg : vg = _ := hRg
                            subst hRg
                            have hvx := old_of hs 10 (by kernel_rfl) (by rfl)
                            exact ⟨wanted_is (j := 2) (d := 75) (b := false) (by rfl) (by rfl) hvg, _, run_mv (.inl rfl) (ev hvx), rfl⟩
                          refine stepsL_cons (s_val fun a w5 hC hs => ?_) ?_
                          · skip
                            obtain ⟨vg, hvg, hRg⟩ := got_of hs 2 75 (by kernel_rfl) (by rfl)
                            replace hRg : vg = _ := hRg
                            subst hRg
                            obtain ⟨vx, hvx, hRx⟩ := got_of hs 4 77 (by kernel_rfl) (by rfl)
                            replace hRx : vx = _ := hRx
                            subst hRx
                            obtain ⟨vy, hvy, hRy⟩ := got_of hs 5 78 (by kernel_rfl) (by rfl)
                            replace hRy : vy = _ := hRy
                            subst hRy
                            exact ⟨wanted_is (j := 2) (d := 75) (b := false) (by rfl) (by rfl) hvg, _, run_ix rfl (ev hvx) (ev hvy) (ix_phi hj1), rfl⟩
                          refine stepsL_cons (s_val fun a w5 hC hs => ?_) ?_
                          · skip
                            obtain ⟨vg, hvg, hRg⟩ := got_of hs 2 75 (by kernel_rfl) (by rfl)
                            replace hRg : vg = _ := hRg
                            subst hRg
                            obtain ⟨vx, hvx, hRx⟩ := got_of hs 6 79 (by kernel_rfl) (by rfl)
                            replace hRx : vx = _ := hRx
                            subst hRx
                            exact ⟨wanted_is (j := 2) (d := 75) (b := false) (by rfl) (by rfl) hvg, _, run_fa rfl (ev hvx) fl_p0, rfl⟩
                          refine stepsL_cons (s_val fun a w5 hC hs => ?_) ?_
                          · skip
                            obtain ⟨vg, hvg, hRg⟩ := got_of hs 2 75 (by kernel_rfl) (by rfl)
                            replace hRg : vg = _ := hRg
                            subst hRg
                            obtain ⟨vx, hvx, hRx⟩ := got_of hs 7 80 (by kernel_rfl) (by rfl)
                            replace hRx : vx = _ := hRx
                            subst hRx
                            exact ⟨wanted_is (j := 2) (d := 75) (b := false) (by rfl) (by rfl) hvg, _, run_ld rfl (ev hvx) (ld_int (hK.out w5 hC).2.2.1), rfl⟩
                          refine stepsL_cons (s_new fun a w5 hC hs => ?_) ?_
                          · skip
                            obtain ⟨vg, hvg, hRg⟩ := got_of hs 2 75 (by kernel_rfl) (by rfl)
                            replace hRg : vg = _ := hRg
                            subst hRg
                            obtain ⟨vx, hvx, hRx⟩ := got_of hs 8 81 (by kernel_rfl) (by rfl)
                            replace hRx : vx = _ := hRx
                            subst hRx
                            exact ⟨wanted_is (j := 2) (d := 75) (b := false) (by rfl) (by rfl) hvg, _, _, run_bs (qs := #[(0, .int .i64 y.r)]) rfl (by simp [ev hvx]) (bs_one w5 y.r), hC.alloc hC.size _, Ext.al _ _, ⟨_, rfl, row_blk 1 (blk_new _ _ rfl) (by omega) trivial⟩⟩
                          refine stepsL_cons (s_val fun a w5 hC hs => ?_) ?_
                          · skip
                            obtain ⟨vg, hvg, hRg⟩ := got_of hs 2 75 (by kernel_rfl) (by rfl)
                            replace hRg : vg = _ := hRg
                            subst hRg
                            have hvx := old_of hs 2 (by kernel_rfl) (by rfl)
                            exact ⟨wanted_is (j := 2) (d := 75) (b := false) (by rfl) (by rfl) hvg, _, run_mv (.inl rfl) (ev hvx), rfl⟩
                          refine stepsL_cons (s_call fun a w5 hC hs => ?_) ?_
                          · skip
                            obtain ⟨vg, hvg, hRg⟩ := got_of hs 2 75 (by kernel_rfl) (by rfl)
                            replace hRg : vg = _ := hRg
                            subst hRg
                            obtain ⟨vx, hvx, hRx⟩ := got_of hs 9 82 (by kernel_rfl) (by rfl)
                            obtain ⟨ax, rfl, hrx⟩ := hRx
                            obtain ⟨vy, hvy, hRy⟩ := got_of hs 10 83 (by kernel_rfl) (by rfl)
                            replace hRy : vy = _ := hRy
                            subst hRy
                            exact ⟨wanted_is (j := 2) (d := 75) (b := false) (by rfl) (by rfl) hvg, 76, _, run_call2 rfl (ev hvx) (ev hvy) (fun _ _ => rfl), (hWr.out _ w5 hrx).mono (fun e w' ⟨he, hb⟩ => ⟨_, he, hC.trans (hb.mono hC.size), hb, rfl⟩)⟩
                          refine stepsL_cons (s_val fun a w5 hC hs => ?_) ?_
                          · skip
                            obtain ⟨vg, hvg, hRg⟩ := got_of hs 2 75 (by kernel_rfl) (by rfl)
                            replace hRg : vg = _ := hRg
                            subst hRg
                            obtain ⟨vx, hvx, hRx⟩ := got_of hs 11 84 (by kernel_rfl) (by rfl)
                            replace hRx : vx = _ := hRx
                            subst hRx
                            exact ⟨wanted_is (j := 2) (d := 75) (b := false) (by rfl) (by rfl) hvg, _, run_notB rfl (ev hvx), rfl⟩
                          refine stepsL_cons (s_val fun a w5 hC hs => ?_) ?_
                          · skip
                            obtain ⟨vc, hvc, hRc⟩ := got_of hs 2 75 (by kernel_rfl) (by rfl)
                            replace hRc : vc = _ := hRc
                            subst hRc
                            obtain ⟨vy, hvy, hRy⟩ := got_of hs 12 85 (by kernel_rfl) (by rfl)
                            replace hRy : vy = _ := hRy
                            subst hRy
                            exact ⟨wanted_none rfl, _, run_pk (b := false) rfl (ev hvc) (by simp only [if_true, if_false, Bool.false_eq_true]; exact (ev hvy)), rfl⟩
                          refine stepsL_cons (s_val fun a w5 hC hs => ?_) ?_
                          · skip
                            obtain ⟨vx, hvx, hRx⟩ := got_of hs 13 86 (by kernel_rfl) (by rfl)
                            replace hRx : vx = _ := hRx
                            subst hRx
                            exact ⟨wanted_none rfl, _, run_mv (.inl rfl) (ev hvx), rfl⟩
                          refine stepsL_cons (s_val fun a w5 hC hs => ?_) ?_
                          · skip
                            obtain ⟨vg, hvg, hRg⟩ := got_of hs 14 87 (by kernel_rfl) (by rfl)
                            replace hRg : vg = _ := hRg
                            subst hRg
                            have hvx := old_of hs 7 (by kernel_rfl) (by rfl)
                            exact ⟨wanted_is (j := 14) (d := 87) (b := false) (by rfl) (by rfl) hvg, _, run_fa rfl (ev hvx) fl_b0, rfl⟩
                          refine stepsL_cons (s_val fun a w5 hC hs => ?_) ?_
                          · skip
                            obtain ⟨vg, hvg, hRg⟩ := got_of hs 14 87 (by kernel_rfl) (by rfl)
                            replace hRg : vg = _ := hRg
                            subst hRg
                            obtain ⟨vx, hvx, hRx⟩ := got_of hs 15 88 (by kernel_rfl) (by rfl)
                            replace hRx : vx = _ := hRx
                            subst hRx
                            exact ⟨wanted_is (j := 14) (d := 87) (b := false) (by rfl) (by rfl) hvg, _, run_ld rfl (ev hvx) (ld_phis (hK.out w5 hC).1), rfl⟩
                          refine stepsL_cons (s_val fun a w5 hC hs => ?_) ?_
                          · skip
                            obtain ⟨vg, hvg, hRg⟩ := got_of hs 14 87 (by kernel_rfl) (by rfl)
                            replace hRg : vg = _ := hRg
                            subst hRg
                            have hvx := old_of hs 10 (by kernel_rfl) (by rfl)
                            exact ⟨wanted_is (j := 14) (d := 87) (b := false) (by rfl) (by rfl) hvg, _, run_mv (.inl rfl) (ev hvx), rfl⟩
                          refine stepsL_cons (s_val fun a w5 hC hs => ?_) ?_
                          · skip
                            obtain ⟨vg, hvg, hRg⟩ := got_of hs 14 87 (by kernel_rfl) (by rfl)
                            replace hRg : vg = _ := hRg
                            subst hRg
                            obtain ⟨vx, hvx, hRx⟩ := got_of hs 16 89 (by kernel_rfl) (by rfl)
                            replace hRx : vx = _ := hRx
                            subst hRx
                            obtain ⟨vy, hvy, hRy⟩ := got_of hs 17 90 (by kernel_rfl) (by rfl)
                            replace hRy : vy = _ := hRy
                            subst hRy
                            exact ⟨wanted_is (j := 14) (d := 87) (b := false) (by rfl) (by rfl) hvg, _, run_ix rfl (ev hvx) (ev hvy) (ix_phi hj1), rfl⟩
                          refine stepsL_cons (s_val fun a w5 hC hs => ?_) ?_
                          · skip
                            obtain ⟨vg, hvg, hRg⟩ := got_of hs 14 87 (by kernel_rfl) (by rfl)
                            replace hRg : vg = _ := hRg
                            subst hRg
                            obtain ⟨vx, hvx, hRx⟩ := got_of hs 18 91 (by kernel_rfl) (by rfl)
                            replace hRx : vx = _ := hRx
                            subst hRx
                            exact ⟨wanted_is (j := 14) (d := 87) (b := false) (by rfl) (by rfl) hvg, _, run_fa rfl (ev hvx) fl_p1, rfl⟩
                          refine stepsL_cons (s_val fun a w5 hC hs => ?_) ?_
                          · skip
                            obtain ⟨vg, hvg, hRg⟩ := got_of hs 14 87 (by kernel_rfl) (by rfl)
                            replace hRg : vg = _ := hRg
                            subst hRg
                            obtain ⟨vx, hvx, hRx⟩ := got_of hs 19 92 (by kernel_rfl) (by rfl)
                            replace hRx : vx = _ := hRx
                            subst hRx
                            exact ⟨wanted_is (j := 14) (d := 87) (b := false) (by rfl) (by rfl) hvg, _, run_ld rfl (ev hvx) (ld_ints (hK.out w5 hC).2.2.2), rfl⟩
                          refine stepsL_cons (s_val fun a w5 hC hs => ?_) ?_
                          · skip
                            obtain ⟨vg, hvg, hRg⟩ := got_of hs 14 87 (by kernel_rfl) (by rfl)
                            replace hRg : vg = _ := hRg
                            subst hRg
                            have hvx := old_of hs 2 (by kernel_rfl) (by rfl)
                            exact ⟨wanted_is (j := 14) (d := 87) (b := false) (by rfl) (by rfl) hvg, _, run_mv (.inl rfl) (ev hvx), rfl⟩
                          refine stepsL_cons (s_call fun a w5 hC hs => ?_) ?_
                          · skip
                            obtain ⟨vg, hvg, hRg⟩ := got_of hs 14 87 (by kernel_rfl) (by rfl)
                            replace hRg : vg = _ := hRg
                            subst hRg
                            obtain ⟨vx, hvx, hRx⟩ := got_of hs 20 93 (by kernel_rfl) (by rfl)
                            replace hRx : vx = _ := hRx
                            subst hRx
                            obtain ⟨vy, hvy, hRy⟩ := got_of hs 21 94 (by kernel_rfl) (by rfl)
                            replace hRy : vy = _ := hRy
                            subst hRy
                            exact ⟨wanted_is (j := 14) (d := 87) (b := false) (by rfl) (by rfl) hvg, 76, _, run_call2 rfl (ev hvx) (ev hvy) (fun _ _ => rfl), (hWa.out w5 hC).mono (fun e w' ⟨he, hb⟩ => ⟨_, he, hC.trans (hb.mono hC.size), hb, rfl⟩)⟩
                          refine stepsL_cons (s_val fun a w5 hC hs => ?_) ?_
                          · skip
                            obtain ⟨vg, hvg, hRg⟩ := got_of hs 14 87 (by kernel_rfl) (by rfl)
                            replace hRg : vg = _ := hRg
                            subst hRg
                            obtain ⟨vx, hvx, hRx⟩ := got_of hs 22 95 (by kernel_rfl) (by rfl)
                            replace hRx : vx = _ := hRx
                            subst hRx
                            exact ⟨wanted_is (j := 14) (d := 87) (b := false) (by rfl) (by rfl) hvg, _, run_notB rfl (ev hvx), rfl⟩
                          refine stepsL_cons (s_val fun a w5 hC hs => ?_) ?_
                          · skip
                            obtain ⟨vc, hvc, hRc⟩ := got_of hs 14 87 (by kernel_rfl) (by rfl)
                            replace hRc : vc = _ := hRc
                            subst hRc
                            obtain ⟨vy, hvy, hRy⟩ := got_of hs 23 96 (by kernel_rfl) (by rfl)
                            replace hRy : vy = _ := hRy
                            subst hRy
                            exact ⟨wanted_none rfl, _, run_pk (b := false) rfl (ev hvc) (by simp only [if_true, if_false, Bool.false_eq_true]; exact (ev hvy)), rfl⟩
                          refine stepsL_cons (s_val fun a w5 hC hs => ?_) ?_
                          · skip
                            obtain ⟨vx, hvx, hRx⟩ := got_of hs 24 97 (by kernel_rfl) (by rfl)
                            replace hRx : vx = _ := hRx
                            subst hRx
                            exact ⟨wanted_none rfl, _, run_mv (.inl rfl) (ev hvx), rfl⟩
                          refine stepsL_cons (s_skip (fun a w5 hC hs => ?_) (fun _ => rfl)) ?_
                          · skip
                            obtain ⟨vg, hvg, hRg⟩ := got_of hs 25 98 (by kernel_rfl) (by rfl)
                            replace hRg : vg = _ := hRg
                            subst hRg
                            exact wanted_not (j := 25) (d := 98) (b := false) (by rfl) (by rfl) hvg
                          refine stepsL_cons (s_skip (fun a w5 hC hs => ?_) (fun _ => rfl)) ?_
                          · skip
                            obtain ⟨vg, hvg, hRg⟩ := got_of hs 25 98 (by kernel_rfl) (by rfl)
                            replace hRg : vg = _ := hRg
                            subst hRg
                            exact wanted_not (j := 25) (d := 98) (b := false) (by rfl) (by rfl) hvg
                          refine stepsL_cons (s_skip (fun a w5 hC hs => ?_) (fun _ => rfl)) ?_
                          · skip
                            obtain ⟨vg, hvg, hRg⟩ := got_of hs 25 98 (by kernel_rfl) (by rfl)
                            replace hRg : vg = _ := hRg
                            subst hRg
                            exact wanted_not (j := 25) (d := 98) (b := false) (by rfl) (by rfl) hvg
                          refine stepsL_cons (s_skip (fun a w5 hC hs => ?_) (fun _ => rfl)) ?_
                          · skip
                            obtain ⟨vg, hvg, hRg⟩ := got_of hs 25 98 (by kernel_rfl) (by rfl)
                            replace hRg : vg = _ := hRg
                            subst hRg
                            exact wanted_not (j := 25) (d := 98) (b := false) (by rfl) (by rfl) hvg
                          refine stepsL_cons (s_skip (fun a w5 hC hs => ?_) (fun _ => rfl)) ?_
                          · skip
                            obtain ⟨vg, hvg, hRg⟩ := got_of hs 25 98 (by kernel_rfl) (by rfl)
                            replace hRg : vg = _ := hRg
                            subst hRg
                            exact wanted_not (j := 25) (d := 98) (b := false) (by rfl) (by rfl) hvg
                          refine stepsL_cons (s_skip (fun a w5 hC hs => ?_) (fun _ => rfl)) ?_
                          · skip
                            obtain ⟨vg, hvg, hRg⟩ := got_of hs 25 98 (by kernel_rfl) (by rfl)
                            replace hRg : vg = _ := hRg
                            subst hRg
                            exact wanted_not (j := 25) (d := 98) (b := false) (by rfl) (by rfl) hvg
                          refine stepsL_cons (s_skip (fun a w5 hC hs => ?_) (fun _ => rfl)) ?_
                          · skip
                            obtain ⟨vg, hvg, hRg⟩ := got_of hs 25 98 (by kernel_rfl) (by rfl)
                            replace hRg : vg = _ := hRg
                            subst hRg
                            exact wanted_not (j := 25) (d := 98) (b := false) (by rfl) (by rfl) hvg
                          refine stepsL_cons (s_skip (fun a w5 hC hs => ?_) (fun _ => rfl)) ?_
                          · skip
                            obtain ⟨vg, hvg, hRg⟩ := got_of hs 25 98 (by kernel_rfl) (by rfl)
                            replace hRg : vg = _ := hRg
                            subst hRg
                            exact wanted_not (j := 25) (d := 98) (b := false) (by rfl) (by rfl) hvg
                          refine stepsL_cons (s_skip (fun a w5 hC hs => ?_) (fun _ => rfl)) ?_
                          · skip
                            obtain ⟨vg, hvg, hRg⟩ := got_of hs 25 98 (by kernel_rfl) (by rfl)
                            replace hRg : vg = _ := hRg
                            subst hRg
                            exact wanted_not (j := 25) (d := 98) (b := false) (by rfl) (by rfl) hvg
                          refine stepsL_cons (s_skip (fun a w5 hC hs => ?_) (fun _ => rfl)) ?_
                          · skip
                            obtain ⟨vg, hvg, hRg⟩ := got_of hs 25 98 (by kernel_rfl) (by rfl)
                            replace hRg : vg = _ := hRg
                            subst hRg
                            exact wanted_not (j := 25) (d := 98) (b := false) (by rfl) (by rfl) hvg
                          refine stepsL_cons (s_skip (fun a w5 hC hs => ?_) (fun _ => rfl)) ?_
                          · skip
                            obtain ⟨vg, hvg, hRg⟩ := got_of hs 25 98 (by kernel_rfl) (by rfl)
                            replace hRg : vg = _ := hRg
                            subst hRg
                            exact wanted_not (j := 25) (d := 98) (b := false) (by rfl) (by rfl) hvg
                          refine stepsL_cons (s_val fun a w5 hC hs => ?_) ?_
                          · skip
                            obtain ⟨vc, hvc, hRc⟩ := got_of hs 25 98 (by kernel_rfl) (by rfl)
                            replace hRc : vc = _ := hRc
                            subst hRc
                            exact ⟨wanted_none rfl, _, run_pk (b := true) rfl (ev hvc) (by simp only [if_true, if_false, Bool.false_eq_true]; exact (ev_const _)), rfl⟩
                          exact stepsL_nil
                        case hend =>
                          intro σ V4 hC4 hR4
                          generalize hF : fillL _ _ _ _ _ = F
                          simp [fillL, dstOf, List.range, List.range.loop, Act.put] at hF
                          subst hF
                          have h37 : σ 37 = .bool true := hR4 37 (by simp)
                          rw [h37]
                          have g4 := Lib.hid (g1.out.trans (hC4.mono g1.out.size))
                          have g5 := Lib.hid (hb0.out.trans (hC4.mono hb0.out.size))
                          clear hR4 hC4 h37 hK hWr hWa
                          go_wp2_with fail
                          go_ret
                          exact ⟨ret_bool hfin.out.symm, g4.out⟩
                      · rw [hB] at hWa
                        by_cases hc : y.args.length = x.fm.length
                        · have hcc : ((y.args.length : Int) != (x.fm.length : Int)) = false := by rw [hc]; simp
                          have hn : Hid ((x.phis.take (j + 1)).all (phiP x.fm.length regs) = true) := Lib.hid (by rw [hyesj.out, hallj.out, hpe.out, hA, hB, hc]; simp)
                          clear hno hyesj hpe hallj hjk ha' hA hB hc
                          go_upto_region 17 with fail
                          refine wp_region_rel (C := fun V => Below wr.heap.size wr V) (E := Ext) (R := fun i => (rrok k j b2 off2 w.heap.size x y regs).getD i VT) (by kernel_rfl) ((Below.refl _ _).drew) (by kernel_rfl) (fun i v w' w'' _ hE h => mono_get _ i rrok_mono v w' w'' hE h) (steps_all ?hs) ?hend
                          case hs =>
                            refine stepsL_cons (s_val fun a w5 hC hs => ?_) ?_
                            · skip
                              have hvx := old_of hs 1 (by kernel_rfl) (by rfl)
                              exact ⟨wanted_none rfl, _, run_mv (.inl rfl) (ev hvx), rfl⟩
                            refine stepsL_cons (s_val fun a w5 hC hs => ?_) ?_
                            · skip
                              obtain ⟨vx, hvx, hRx⟩ := got_of hs 0 73 (by kernel_rfl) (by rfl)
                              replace hRx : vx = _ := hRx
                              subst hRx
                              exact ⟨wanted_none rfl, _, run_eqi hk1 rfl (ev hvx) (ev_const _), rfl⟩
                            refine stepsL_cons (s_val fun a w5 hC hs => ?_) ?_
                            · skip
                              obtain ⟨vx, hvx, hRx⟩ := got_of hs 1 74 (by kernel_rfl) (by rfl)
                              replace hRx : vx = _ := hRx
                              subst hRx
                              exact ⟨wanted_none rfl, _, run_mv (.inl rfl) (ev hvx), rfl⟩
                            refine stepsL_cons (s_val fun a w5 hC hs => ?_) ?_
                            · skip
                              obtain ⟨vg, hvg, hRg⟩ := got_of hs 2 75 (by kernel_rfl) (by rfl)
                              replace hRg : vg = _ := hRg
                              subst hRg
                              have hvx := old_of hs 7 (by kernel_rfl) (by rfl)
                              exact ⟨wanted_is (j := 2) (d := 75) (b := false) (by rfl) (by rfl) hvg, _, run_fa rfl (ev hvx) fl_b0, rfl⟩
                            refine stepsL_cons (s_val fun a w5 hC hs => ?_) ?_
                            · skip
                              obtain ⟨vg, hvg, hRg⟩ := got_of hs 2 75 (by kernel_rfl) (by rfl)
                              replace hRg : vg = _ := hRg
                              subst hRg
                              obtain ⟨vx, hvx, hRx⟩ := got_of hs 3 76 (by kernel_rfl) (by rfl)
                              replace hRx : vx = _ := hRx
                              subst hRx
                              exact ⟨wanted_is (j := 2) (d := 75) (b := false) (by rfl) (by rfl) hvg, _, run_ld rfl (ev hvx) (ld_phis (hK.out w5 hC).1), rfl⟩
                            refine stepsL_cons (s_val fun a w5 hC hs => ?_) ?_
                            · skip
                              obtain ⟨vg, hvg, hRg⟩ := got_of hs 2 75 (by kernel_rfl) (by rfl)
                              replace hRg : vg = _ := hRg
                              subst hRg
                              have hvx := old_of hs 10 (by kernel_rfl) (by rfl)
                              exact ⟨wanted_is (j := 2) (d := 75) (b := false) (by rfl) (by rfl) hvg, _, run_mv (.inl rfl) (ev hvx), rfl⟩
                            refine stepsL_cons (s_val fun a w5 hC hs => ?_) ?_
                            · skip
                              obtain ⟨vg, hvg, hRg⟩ := got_of hs 2 75 (by kernel_rfl) (by rfl)
                              replace hRg : vg = _ := hRg
                              subst hRg
                              obtain ⟨vx, hvx, hRx⟩ := got_of hs 4 77 (by kernel_rfl) (by rfl)
                              replace hRx : vx = _ := hRx
                              subst hRx
                              obtain ⟨vy, hvy, hRy⟩ := got_of hs 5 78 (by kernel_rfl) (by rfl)
                              replace hRy : vy = _ := hRy
                              subst hRy
                              exact ⟨wanted_is (j := 2) (d := 75) (b := false) (by rfl) (by rfl) hvg, _, run_ix rfl (ev hvx) (ev hvy) (ix_phi hj1), rfl⟩
                            refine stepsL_cons (s_val fun a w5 hC hs => ?_) ?_
                            · skip
                              obtain ⟨vg, hvg, hRg⟩ := got_of hs 2 75 (by kernel_rfl) (by rfl)
                              replace hRg : vg = _ := hRg
                              subst hRg
                              obtain ⟨vx, hvx, hRx⟩ := got_of hs 6 79 (by kernel_rfl) (by rfl)
                              replace hRx : vx = _ := hRx
                              subst hRx
                              exact ⟨wanted_is (j := 2) (d := 75) (b := false) (by rfl) (by rfl) hvg, _, run_fa rfl (ev hvx) fl_p0, rfl⟩
                            refine stepsL_cons (s_val fun a w5 hC hs => ?_) ?_
                            · skip
                              obtain ⟨vg, hvg, hRg⟩ := got_of hs 2 75 (by kernel_rfl) (by rfl)
                              replace hRg : vg = _ := hRg
                              subst hRg
                              obtain ⟨vx, hvx, hRx⟩ := got_of hs 7 80 (by kernel_rfl) (by rfl)
                              replace hRx : vx = _ := hRx
                              subst hRx
                              exact ⟨wanted_is (j := 2) (d := 75) (b := false) (by rfl) (by rfl) hvg, _, run_ld rfl (ev hvx) (ld_int (hK.out w5 hC).2.2.1), rfl⟩
                            refine stepsL_cons (s_new fun a w5 hC hs => ?_) ?_
                            · skip
                              obtain ⟨vg, hvg, hRg⟩ := got_of hs 2 75 (by kernel_rfl) (by rfl)
                              replace hRg : vg = _ := hRg
                              subst hRg
                              obtain ⟨vx, hvx, hRx⟩ := got_of hs 8 81 (by kernel_rfl) (by rfl)
                              replace hRx : vx = _ := hRx
                              subst hRx
                              exact ⟨wanted_is (j := 2) (d := 75) (b := false) (by rfl) (by rfl) hvg, _, _, run_bs (qs := #[(0, .int .i64 y.r)]) rfl (by simp [ev hvx]) (bs_one w5 y.r), hC.alloc hC.size _, Ext.al _ _, ⟨_, rfl, row_blk 1 (blk_new _ _ rfl) (by omega) trivial⟩⟩
                            refine stepsL_cons (s_val fun a w5 hC hs => ?_) ?_
                            · skip
                              obtain ⟨vg, hvg, hRg⟩ := got_of hs 2 75 (by kernel_rfl) (by rfl)
                              replace hRg : vg = _ := hRg
                              subst hRg
                              have hvx := old_of hs 2 (by kernel_rfl) (by rfl)
                              exact ⟨wanted_is (j := 2) (d := 75) (b := false) (by rfl) (by rfl) hvg, _, run_mv (.inl rfl) (ev hvx), rfl⟩
                            refine stepsL_cons (s_call fun a w5 hC hs => ?_) ?_
                            · skip
                              obtain ⟨vg, hvg, hRg⟩ := got_of hs 2 75 (by kernel_rfl) (by rfl)
                              replace hRg : vg = _ := hRg
                              subst hRg
                              obtain ⟨vx, hvx, hRx⟩ := got_of hs 9 82 (by kernel_rfl) (by rfl)
                              obtain ⟨ax, rfl, hrx⟩ := hRx
                              obtain ⟨vy, hvy, hRy⟩ := got_of hs 10 83 (by kernel_rfl) (by rfl)
                              replace hRy : vy = _ := hRy
                              subst hRy
                              exact ⟨wanted_is (j := 2) (d := 75) (b := false) (by rfl) (by rfl) hvg, 76, _, run_call2 rfl (ev hvx) (ev hvy) (fun _ _ => rfl), (hWr.out _ w5 hrx).mono (fun e w' ⟨he, hb⟩ => ⟨_, he, hC.trans (hb.mono hC.size), hb, rfl⟩)⟩
                            refine stepsL_cons (s_val fun a w5 hC hs => ?_) ?_
                            · skip
                              obtain ⟨vg, hvg, hRg⟩ := got_of hs 2 75 (by kernel_rfl) (by rfl)
                              replace hRg : vg = _ := hRg
                              subst hRg
                              obtain ⟨vx, hvx, hRx⟩ := got_of hs 11 84 (by kernel_rfl) (by rfl)
                              replace hRx : vx = _ := hRx
                              subst hRx
                              exact ⟨wanted_is (j := 2) (d := 75) (b := false) (by rfl) (by rfl) hvg, _, run_notB rfl (ev hvx), rfl⟩
                            refine stepsL_cons (s_val fun a w5 hC hs => ?_) ?_
                            · skip
                              obtain ⟨vc, hvc, hRc⟩ := got_of hs 2 75 (by kernel_rfl) (by rfl)
                              replace hRc : vc = _ := hRc
                              subst hRc
                              obtain ⟨vy, hvy, hRy⟩ := got_of hs 12 85 (by kernel_rfl) (by rfl)
                              replace hRy : vy = _ := hRy
                              subst hRy
                              exact ⟨wanted_none rfl, _, run_pk (b := false) rfl (ev hvc) (by simp only [if_true, if_false, Bool.false_eq_true]; exact (ev hvy)), rfl⟩
                            refine stepsL_cons (s_val fun a w5 hC hs => ?_) ?_
                            · skip
                              obtain ⟨vx, hvx, hRx⟩ := got_of hs 13 86 (by kernel_rfl) (by rfl)
                              replace hRx : vx = _ := hRx
                              subst hRx
                              exact ⟨wanted_none rfl, _, run_mv (.inl rfl) (ev hvx), rfl⟩
                            refine stepsL_cons (s_val fun a w5 hC hs => ?_) ?_
                            · skip
                              obtain ⟨vg, hvg, hRg⟩ := got_of hs 14 87 (by kernel_rfl) (by rfl)
                              replace hRg : vg = _ := hRg
                              subst hRg
                              have hvx := old_of hs 7 (by kernel_rfl) (by rfl)
                              exact ⟨wanted_is (j := 14) (d := 87) (b := false) (by rfl) (by rfl) hvg, _, run_fa rfl (ev hvx) fl_b0, rfl⟩
                            refine stepsL_cons (s_val fun a w5 hC hs => ?_) ?_
                            · skip
                              obtain ⟨vg, hvg, hRg⟩ := got_of hs 14 87 (by kernel_rfl) (by rfl)
                              replace hRg : vg = _ := hRg
                              subst hRg
                              obtain ⟨vx, hvx, hRx⟩ := got_of hs 15 88 (by kernel_rfl) (by rfl)
                              replace hRx : vx = _ := hRx
                              subst hRx
                              exact ⟨wanted_is (j := 14) (d := 87) (b := false) (by rfl) (by rfl) hvg, _, run_ld rfl (ev hvx) (ld_phis (hK.out w5 hC).1), rfl⟩
                            refine stepsL_cons (s_val fun a w5 hC hs => ?_) ?_
                            · skip
                              obtain ⟨vg, hvg, hRg⟩ := got_of hs 14 87 (by kernel_rfl) (by rfl)
                              replace hRg : vg = _ := hRg
                              subst hRg
                              have hvx := old_of hs 10 (by kernel_rfl) (by rfl)
                              exact ⟨wanted_is (j := 14) (d := 87) (b := false) (by rfl) (by rfl) hvg, _, run_mv (.inl rfl) (ev hvx), rfl⟩
                            refine stepsL_cons (s_val fun a w5 hC hs => ?_) ?_
                            · skip
                              obtain ⟨vg, hvg, hRg⟩ := got_of hs 14 87 (by kernel_rfl) (by rfl)
                              replace hRg : vg = _ := hRg
                              subst hRg
                              obtain ⟨vx, hvx, hRx⟩ := got_of hs 16 89 (by kernel_rfl) (by rfl)
                              replace hRx : vx = _ := hRx
                              subst hRx
                              obtain ⟨vy, hvy, hRy⟩ := got_of hs 17 90 (by kernel_rfl) (by rfl)
                              replace hRy : vy = _ := hRy
                              subst hRy
                              exact ⟨wanted_is (j := 14) (d := 87) (b := false) (by rfl) (by rfl) hvg, _, run_ix rfl (ev hvx) (ev hvy) (ix_phi hj1), rfl⟩
                            refine stepsL_cons (s_val fun a w5 hC hs => ?_) ?_
                            · skip
                              obtain ⟨vg, hvg, hRg⟩ := got_of hs 14 87 (by kernel_rfl) (by rfl)
                              replace hRg : vg = _ := hRg
                              subst hRg
                              obtain ⟨vx, hvx, hRx⟩ := got_of hs 18 91 (by kernel_rfl) (by rfl)
                              replace hRx : vx = _ := hRx
                              subst hRx
                              exact ⟨wanted_is (j := 14) (d := 87) (b := false) (by rfl) (by rfl) hvg, _, run_fa rfl (ev hvx) fl_p1, rfl⟩
                            refine stepsL_cons (s_val fun a w5 hC hs => ?_) ?_
                            · skip
                              obtain ⟨vg, hvg, hRg⟩ := got_of hs 14 87 (by kernel_rfl) (by rfl)
                              replace hRg : vg = _ := hRg
                              subst hRg
                              obtain ⟨vx, hvx, hRx⟩ := got_of hs 19 92 (by kernel_rfl) (by rfl)
                              replace hRx : vx = _ := hRx
                              subst hRx
                              exact ⟨wanted_is (j := 14) (d := 87) (b := false) (by rfl) (by rfl) hvg, _, run_ld rfl (ev hvx) (ld_ints (hK.out w5 hC).2.2.2), rfl⟩
                            refine stepsL_cons (s_val fun a w5 hC hs => ?_) ?_
                            · skip
                              obtain ⟨vg, hvg, hRg⟩ := got_of hs 14 87 (by kernel_rfl) (by rfl)
                              replace hRg : vg = _ := hRg
                              subst hRg
                              have hvx := old_of hs 2 (by kernel_rfl) (by rfl)
                              exact ⟨wanted_is (j := 14) (d := 87) (b := false) (by rfl) (by rfl) hvg, _, run_mv (.inl rfl) (ev hvx), rfl⟩
                            refine stepsL_cons (s_call fun a w5 hC hs => ?_) ?_
                            · skip
                              obtain ⟨vg, hvg, hRg⟩ := got_of hs 14 87 (by kernel_rfl) (by rfl)
                              replace hRg : vg = _ := hRg
                              subst hRg
                              obtain ⟨vx, hvx, hRx⟩ := got_of hs 20 93 (by kernel_rfl) (by rfl)
                              replace hRx : vx = _ := hRx
                              subst hRx
                              obtain ⟨vy, hvy, hRy⟩ := got_of hs 21 94 (by kernel_rfl) (by rfl)
                              replace hRy : vy = _ := hRy
                              subst hRy
                              exact ⟨wanted_is (j := 14) (d := 87) (b := false) (by rfl) (by rfl) hvg, 76, _, run_call2 rfl (ev hvx) (ev hvy) (fun _ _ => rfl), (hWa.out w5 hC).mono (fun e w' ⟨he, hb⟩ => ⟨_, he, hC.trans (hb.mono hC.size), hb, rfl⟩)⟩
                            refine stepsL_cons (s_val fun a w5 hC hs => ?_) ?_
                            · skip
                              obtain ⟨vg, hvg, hRg⟩ := got_of hs 14 87 (by kernel_rfl) (by rfl)
                              replace hRg : vg = _ := hRg
                              subst hRg
                              obtain ⟨vx, hvx, hRx⟩ := got_of hs 22 95 (by kernel_rfl) (by rfl)
                              replace hRx : vx = _ := hRx
                              subst hRx
                              exact ⟨wanted_is (j := 14) (d := 87) (b := false) (by rfl) (by rfl) hvg, _, run_notB rfl (ev hvx), rfl⟩
                            refine stepsL_cons (s_val fun a w5 hC hs => ?_) ?_
                            · skip
                              obtain ⟨vc, hvc, hRc⟩ := got_of hs 14 87 (by kernel_rfl) (by rfl)
                              replace hRc : vc = _ := hRc
                              subst hRc
                              obtain ⟨vy, hvy, hRy⟩ := got_of hs 23 96 (by kernel_rfl) (by rfl)
                              replace hRy : vy = _ := hRy
                              subst hRy
                              exact ⟨wanted_none rfl, _, run_pk (b := false) rfl (ev hvc) (by simp only [if_true, if_false, Bool.false_eq_true]; exact (ev hvy)), rfl⟩
                            refine stepsL_cons (s_val fun a w5 hC hs => ?_) ?_
                            · skip
                              obtain ⟨vx, hvx, hRx⟩ := got_of hs 24 97 (by kernel_rfl) (by rfl)
                              replace hRx : vx = _ := hRx
                              subst hRx
                              exact ⟨wanted_none rfl, _, run_mv (.inl rfl) (ev hvx), rfl⟩
                            refine stepsL_cons (s_val fun a w5 hC hs => ?_) ?_
                            · skip
                              obtain ⟨vg, hvg, hRg⟩ := got_of hs 25 98 (by kernel_rfl) (by rfl)
                              replace hRg : vg = _ := hRg
                              subst hRg
                              have hvx := old_of hs 7 (by kernel_rfl) (by rfl)
                              exact ⟨wanted_is (j := 25) (d := 98) (b := false) (by rfl) (by rfl) hvg, _, run_fa rfl (ev hvx) fl_b0, rfl⟩
                            refine stepsL_cons (s_val fun a w5 hC hs => ?_) ?_
                            · skip
                              obtain ⟨vg, hvg, hRg⟩ := got_of hs 25 98 (by kernel_rfl) (by rfl)
                              replace hRg : vg = _ := hRg
                              subst hRg
                              obtain ⟨vx, hvx, hRx⟩ := got_of hs 26 99 (by kernel_rfl) (by rfl)
                              replace hRx : vx = _ := hRx
                              subst hRx
                              exact ⟨wanted_is (j := 25) (d := 98) (b := false) (by rfl) (by rfl) hvg, _, run_ld rfl (ev hvx) (ld_phis (hK.out w5 hC).1), rfl⟩
                            refine stepsL_cons (s_val fun a w5 hC hs => ?_) ?_
                            · skip
                              obtain ⟨vg, hvg, hRg⟩ := got_of hs 25 98 (by kernel_rfl) (by rfl)
                              replace hRg : vg = _ := hRg
                              subst hRg
                              have hvx := old_of hs 10 (by kernel_rfl) (by rfl)
                              exact ⟨wanted_is (j := 25) (d := 98) (b := false) (by rfl) (by rfl) hvg, _, run_mv (.inl rfl) (ev hvx), rfl⟩
                            refine stepsL_cons (s_val fun a w5 hC hs => ?_) ?_
                            · skip
                              obtain ⟨vg, hvg, hRg⟩ := got_of hs 25 98 (by kernel_rfl) (by rfl)
                              replace hRg : vg = _ := hRg
                              subst hRg
                              obtain ⟨vx, hvx, hRx⟩ := got_of hs 27 100 (by kernel_rfl) (by rfl)
                              replace hRx : vx = _ := hRx
                              subst hRx
                              obtain ⟨vy, hvy, hRy⟩ := got_of hs 28 101 (by kernel_rfl) (by rfl)
                              replace hRy : vy = _ := hRy
                              subst hRy
                              exact ⟨wanted_is (j := 25) (d := 98) (b := false) (by rfl) (by rfl) hvg, _, run_ix rfl (ev hvx) (ev hvy) (ix_phi hj1), rfl⟩
                            refine stepsL_cons (s_val fun a w5 hC hs => ?_) ?_
                            · skip
                              obtain ⟨vg, hvg, hRg⟩ := got_of hs 25 98 (by kernel_rfl) (by rfl)
                              replace hRg : vg = _ := hRg
                              subst hRg
                              obtain ⟨vx, hvx, hRx⟩ := got_of hs 29 102 (by kernel_rfl) (by rfl)
                              replace hRx : vx = _ := hRx
                              subst hRx
                              exact ⟨wanted_is (j := 25) (d := 98) (b := false) (by rfl) (by rfl) hvg, _, run_fa rfl (ev hvx) fl_p1, rfl⟩
                            refine stepsL_cons (s_val fun a w5 hC hs => ?_) ?_
                            · skip
                              obtain ⟨vg, hvg, hRg⟩ := got_of hs 25 98 (by kernel_rfl) (by rfl)
                              replace hRg : vg = _ := hRg
                              subst hRg
                              obtain ⟨vx, hvx, hRx⟩ := got_of hs 30 103 (by kernel_rfl) (by rfl)
                              replace hRx : vx = _ := hRx
                              subst hRx
                              exact ⟨wanted_is (j := 25) (d := 98) (b := false) (by rfl) (by rfl) hvg, _, run_ld rfl (ev hvx) (ld_ints (hK.out w5 hC).2.2.2), rfl⟩
                            refine stepsL_cons (s_val fun a w5 hC hs => ?_) ?_
                            · skip
                              obtain ⟨vg, hvg, hRg⟩ := got_of hs 25 98 (by kernel_rfl) (by rfl)
                              replace hRg : vg = _ := hRg
                              subst hRg
                              obtain ⟨vx, hvx, hRx⟩ := got_of hs 31 104 (by kernel_rfl) (by rfl)
                              replace hRx : vx = _ := hRx
                              subst hRx
                              exact ⟨wanted_is (j := 25) (d := 98) (b := false) (by rfl) (by rfl) hvg, _, run_len rfl (ev hvx) ln_ints, rfl⟩
                            refine stepsL_cons (s_val fun a w5 hC hs => ?_) ?_
                            · skip
                              obtain ⟨vg, hvg, hRg⟩ := got_of hs 25 98 (by kernel_rfl) (by rfl)
                              replace hRg : vg = _ := hRg
                              subst hRg
                              have hvx := old_of hs 7 (by kernel_rfl) (by rfl)
                              exact ⟨wanted_is (j := 25) (d := 98) (b := false) (by rfl) (by rfl) hvg, _, run_fa rfl (ev hvx) fl_b2, rfl⟩
                            refine stepsL_cons (s_val fun a w5 hC hs => ?_) ?_
                            · skip
                              obtain ⟨vg, hvg, hRg⟩ := got_of hs 25 98 (by kernel_rfl) (by rfl)
                              replace hRg : vg = _ := hRg
                              subst hRg
                              obtain ⟨vx, hvx, hRx⟩ := got_of hs 33 106 (by kernel_rfl) (by rfl)
                              replace hRx : vx = _ := hRx
                              subst hRx
                              exact ⟨wanted_is (j := 25) (d := 98) (b := false) (by rfl) (by rfl) hvg, _, run_ld rfl (ev hvx) (ld_ints (hK.out w5 hC).2.1), rfl⟩
                            refine stepsL_cons (s_val fun a w5 hC hs => ?_) ?_
                            · skip
                              obtain ⟨vg, hvg, hRg⟩ := got_of hs 25 98 (by kernel_rfl) (by rfl)
                              replace hRg : vg = _ := hRg
                              subst hRg
                              obtain ⟨vx, hvx, hRx⟩ := got_of hs 34 107 (by kernel_rfl) (by rfl)
                              replace hRx : vx = _ := hRx
                              subst hRx
                              exact ⟨wanted_is (j := 25) (d := 98) (b := false) (by rfl) (by rfl) hvg, _, run_len rfl (ev hvx) ln_ints, rfl⟩
                            refine stepsL_cons (s_val fun a w5 hC hs => ?_) ?_
                            · skip
                              obtain ⟨vg, hvg, hRg⟩ := got_of hs 25 98 (by kernel_rfl) (by rfl)
                              replace hRg : vg = _ := hRg
                              subst hRg
                              obtain ⟨vx, hvx, hRx⟩ := got_of hs 32 105 (by kernel_rfl) (by rfl)
                              replace hRx : vx = _ := hRx
                              subst hRx
                              obtain ⟨vy, hvy, hRy⟩ := got_of hs 35 108 (by kernel_rfl) (by rfl)
                              replace hRy : vy = _ := hRy
                              subst hRy
                              exact ⟨wanted_is (j := 25) (d := 98) (b := false) (by rfl) (by rfl) hvg, _, run_nqi hcc rfl (ev hvx) (ev hvy), rfl⟩
                            refine stepsL_cons (s_val fun a w5 hC hs => ?_) ?_
                            · skip
                              obtain ⟨vc, hvc, hRc⟩ := got_of hs 25 98 (by kernel_rfl) (by rfl)
                              replace hRc : vc = _ := hRc
                              subst hRc
                              obtain ⟨vy, hvy, hRy⟩ := got_of hs 36 109 (by kernel_rfl) (by rfl)
                              replace hRy : vy = _ := hRy
                              subst hRy
                              exact ⟨wanted_none rfl, _, run_pk (b := false) rfl (ev hvc) (by simp only [if_true, if_false, Bool.false_eq_true]; exact (ev hvy)), rfl⟩
                            exact stepsL_nil
                          case hend =>
                            intro σ V4 hC4 hR4
                            generalize hF : fillL _ _ _ _ _ = F
                            simp [fillL, dstOf, List.range, List.range.loop, Act.put] at hF
                            subst hF
                            have h37 : σ 37 = .bool false := hR4 37 (by simp)
                            rw [h37]
                            have g4 := Lib.hid (g1.out.trans (hC4.mono g1.out.size))
                            have g5 := Lib.hid (hb0.out.trans (hC4.mono hb0.out.size))
                            clear hR4 hC4 h37 hK hWr hWa
                            go_wp2_with fail
                            go_roundw
                            case rel => exact ⟨j + 1, by omega, by go_num, hn, Lib.hid (fun h => absurd h hk0), g5⟩
                            case measure => simp [intOf]; omega
                        · have hcc := ne_n (a := (y.args.length : Int)) (b := (x.fm.length : Int)) (by omega)
                          have hfin : Hid (blkD l.length k regs x = false) := Lib.hid (hno.out (by rw [hpe.out]; simp [hc]) hk2)
                          clear hno hyesj hpe hallj hjk ha' hA hB hc
                          go_upto_region 17 with fail
                          refine wp_region_rel (C := fun V => Below wr.heap.size wr V) (E := Ext) (R := fun i => (rrC k j b2 off2 w.heap.size x y regs).getD i VT) (by kernel_rfl) ((Below.refl _ _).drew) (by kernel_rfl) (fun i v w' w'' _ hE h => mono_get _ i rrC_mono v w' w'' hE h) (steps_all ?hs) ?hend
                          case hs =>
                            refine stepsL_cons (s_val fun a w5 hC hs => ?_) ?_
                            · skip
                              have hvx := old_of hs 1 (by kernel_rfl) (by rfl)
                              exact ⟨wanted_none rfl, _, run_mv (.inl rfl) (ev hvx), rfl⟩
                            refine stepsL_cons (s_val fun a w5 hC hs => ?_) ?_
                            · skip
                              obtain ⟨vx, hvx, hRx⟩ := got_of hs 0 73 (by kernel_rfl) (by rfl)
                              replace hRx : vx = _ := hRx
                              subst hRx
                              exact ⟨wanted_none rfl, _, run_eqi hk1 rfl (ev hvx) (ev_const _), rfl⟩
                            refine stepsL_cons (s_val fun a w5 hC hs => ?_) ?_
                            · skip
                              obtain ⟨vx, hvx, hRx⟩ := got_of hs 1 74 (by kernel_rfl) (by rfl)
                              replace hRx : vx = _ := hRx
                              subst hRx
                              exact ⟨wanted_none rfl, _, run_mv (.inl rfl) (ev hvx), rfl⟩
                            refine stepsL_cons (s_val fun a w5 hC hs => ?_) ?_
                            · skip
                              obtain ⟨vg, hvg, hRg⟩ := got_of hs 2 75 (by kernel_rfl) (by rfl)
                              replace hRg : vg = _ := hRg
                              subst hRg
                              have hvx := old_of hs 7 (by kernel_rfl) (by rfl)
                              exact ⟨wanted_is (j := 2) (d := 75) (b := false) (by rfl) (by rfl) hvg, _, run_fa rfl (ev hvx) fl_b0, rfl⟩
                            refine stepsL_cons (s_val fun a w5 hC hs => ?_) ?_
                            · skip
                              obtain ⟨vg, hvg, hRg⟩ := got_of hs 2 75 (by kernel_rfl) (by rfl)
                              replace hRg : vg = _ := hRg
                              subst hRg
                              obtain ⟨vx, hvx, hRx⟩ := got_of hs 3 76 (by kernel_rfl) (by rfl)
                              replace hRx : vx = _ := hRx
                              subst hRx
                              exact ⟨wanted_is (j := 2) (d := 75) (b := false) (by rfl) (by rfl) hvg, _, run_ld rfl (ev hvx) (ld_phis (hK.out w5 hC).1), rfl⟩
                            refine stepsL_cons (s_val fun a w5 hC hs => ?_) ?_
                            · skip
                              obtain ⟨vg, hvg, hRg⟩ := got_of hs 2 75 (by kernel_rfl) (by rfl)
                              replace hRg : vg = _ := hRg
                              subst hRg
                              have hvx := old_of hs 10 (by kernel_rfl) (by rfl)
                              exact ⟨wanted_is (j := 2) (d := 75) (b := false) (by rfl) (by rfl) hvg, _, run_mv (.inl rfl) (ev hvx), rfl⟩
                            refine stepsL_cons (s_val fun a w5 hC hs => ?_) ?_
                            · skip
                              obtain ⟨vg, hvg, hRg⟩ := got_of hs 2 75 (by kernel_rfl) (by rfl)
                              replace hRg : vg = _ := hRg
                              subst hRg
                              obtain ⟨vx, hvx, hRx⟩ := got_of hs 4 77 (by kernel_rfl) (by rfl)
                              replace hRx : vx = _ := hRx
                              subst hRx
                              obtain ⟨vy, hvy, hRy⟩ := got_of hs 5 78 (by kernel_rfl) (by rfl)
                              replace hRy : vy = _ := hRy
                              subst hRy
                              exact ⟨wanted_is (j := 2) (d := 75) (b := false) (by rfl) (by rfl) hvg, _, run_ix rfl (ev hvx) (ev hvy) (ix_phi hj1), rfl⟩
                            refine stepsL_cons (s_val fun a w5 hC hs => ?_) ?_
                            · skip
                              obtain ⟨vg, hvg, hRg⟩ := got_of hs 2 75 (by kernel_rfl) (by rfl)
                              replace hRg : vg = _ := hRg
                              subst hRg
                              obtain ⟨vx, hvx, hRx⟩ := got_of hs 6 79 (by kernel_rfl) (by rfl)
                              replace hRx : vx = _ := hRx
                              subst hRx
                              exact ⟨wanted_is (j := 2) (d := 75) (b := false) (by rfl) (by rfl) hvg, _, run_fa rfl (ev hvx) fl_p0, rfl⟩
                            refine stepsL_cons (s_val fun a w5 hC hs => ?_) ?_
                            · skip
                              obtain ⟨vg, hvg, hRg⟩ := got_of hs 2 75 (by kernel_rfl) (by rfl)
                              replace hRg : vg = _ := hRg
                              subst hRg
                              obtain ⟨vx, hvx, hRx⟩ := got_of hs 7 80 (by kernel_rfl) (by rfl)
                              replace hRx : vx = _ := hRx
                              subst hRx
                              exact ⟨wanted_is (j := 2) (d := 75) (b := false) (by rfl) (by rfl) hvg, _, run_ld rfl (ev hvx) (ld_int (hK.out w5 hC).2.2.1), rfl⟩
                            refine stepsL_cons (s_new fun a w5 hC hs => ?_) ?_
                            · skip
                              obtain ⟨vg, hvg, hRg⟩ := got_of hs 2 75 (by kernel_rfl) (by rfl)
                              replace hRg : vg = _ := hRg
                              subst hRg
                              obtain ⟨vx, hvx, hRx⟩ := got_of hs 8 81 (by kernel_rfl) (by rfl)
                              replace hRx : vx = _ := hRx
                              subst hRx
                              exact ⟨wanted_is (j := 2) (d := 75) (b := false) (by rfl) (by rfl) hvg, _, _, run_bs (qs := #[(0, .int .i64 y.r)]) rfl (by simp [ev hvx]) (bs_one w5 y.r), hC.alloc hC.size _, Ext.al _ _, ⟨_, rfl, row_blk 1 (blk_new _ _ rfl) (by omega) trivial⟩⟩
                            refine stepsL_cons (s_val fun a w5 hC hs => ?_) ?_
                            · skip
                              obtain ⟨vg, hvg, hRg⟩ := got_of hs 2 75 (by kernel_rfl) (by rfl)
                              replace hRg : vg = _ := hRg
                              subst hRg
                              have hvx := old_of hs 2 (by kernel_rfl) (by rfl)
                              exact ⟨wanted_is (j := 2) (d := 75) (b := false) (by rfl) (by rfl) hvg, _, run_mv (.inl rfl) (ev hvx), rfl⟩
                            refine stepsL_cons (s_call fun a w5 hC hs => ?_) ?_
                            · skip
                              obtain ⟨vg, hvg, hRg⟩ := got_of hs 2 75 (by kernel_rfl) (by rfl)
                              replace hRg : vg = _ := hRg
                              subst hRg
                              obtain ⟨vx, hvx, hRx⟩ := got_of hs 9 82 (by kernel_rfl) (by rfl)
                              obtain ⟨ax, rfl, hrx⟩ := hRx
                              obtain ⟨vy, hvy, hRy⟩ := got_of hs 10 83 (by kernel_rfl) (by rfl)
                              replace hRy : vy = _ := hRy
                              subst hRy
                              exact ⟨wanted_is (j := 2) (d := 75) (b := false) (by rfl) (by rfl) hvg, 76, _, run_call2 rfl (ev hvx) (ev hvy) (fun _ _ => rfl), (hWr.out _ w5 hrx).mono (fun e w' ⟨he, hb⟩ => ⟨_, he, hC.trans (hb.mono hC.size), hb, rfl⟩)⟩
                            refine stepsL_cons (s_val fun a w5 hC hs => ?_) ?_
                            · skip
                              obtain ⟨vg, hvg, hRg⟩ := got_of hs 2 75 (by kernel_rfl) (by rfl)
                              replace hRg : vg = _ := hRg
                              subst hRg
                              obtain ⟨vx, hvx, hRx⟩ := got_of hs 11 84 (by kernel_rfl) (by rfl)
                              replace hRx : vx = _ := hRx
                              subst hRx
                              exact ⟨wanted_is (j := 2) (d := 75) (b := false) (by rfl) (by rfl) hvg, _, run_notB rfl (ev hvx), rfl⟩
                            refine stepsL_cons (s_val fun a w5 hC hs => ?_) ?_
                            · skip
                              obtain ⟨vc, hvc, hRc⟩ := got_of hs 2 75 (by kernel_rfl) (by rfl)
                              replace hRc : vc = _ := hRc
                              subst hRc
                              obtain ⟨vy, hvy, hRy⟩ := got_of hs 12 85 (by kernel_rfl) (by rfl)
                              replace hRy : vy = _ := hRy
                              subst hRy
                              exact ⟨wanted_none rfl, _, run_pk (b := false) rfl (ev hvc) (by simp only [if_true, if_false, Bool.false_eq_true]; exact (ev hvy)), rfl⟩
                            refine stepsL_cons (s_val fun a w5 hC hs => ?_) ?_
                            · skip
                              obtain ⟨vx, hvx, hRx⟩ := got_of hs 13 86 (by kernel_rfl) (by rfl)
                              replace hRx : vx = _ := hRx
                              subst hRx
                              exact ⟨wanted_none rfl, _, run_mv (.inl rfl) (ev hvx), rfl⟩
                            refine stepsL_cons (s_val fun a w5 hC hs => ?_) ?_
                            · skip
                              obtain ⟨vg, hvg, hRg⟩ := got_of hs 14 87 (by kernel_rfl) (by rfl)
                              replace hRg : vg = _ := hRg
                              subst hRg
                              have hvx := old_of hs 7 (by kernel_rfl) (by rfl)
                              exact ⟨wanted_is (j := 14) (d := 87) (b := false) (by rfl) (by rfl) hvg, _, run_fa rfl (ev hvx) fl_b0, rfl⟩
                            refine stepsL_cons (s_val fun a w5 hC hs => ?_) ?_
                            · skip
                              obtain ⟨vg, hvg, hRg⟩ := got_of hs 14 87 (by kernel_rfl) (by rfl)
                              replace hRg : vg = _ := hRg
                              subst hRg
                              obtain ⟨vx, hvx, hRx⟩ := got_of hs 15 88 (by kernel_rfl) (by rfl)
                              replace hRx : vx = _ := hRx
                              subst hRx
                              exact ⟨wanted_is (j := 14) (d := 87) (b := false) (by rfl) (by rfl) hvg, _, run_ld rfl (ev hvx) (ld_phis (hK.out w5 hC).1), rfl⟩
                            refine stepsL_cons (s_val fun a w5 hC hs => ?_) ?_
                            · skip
                              obtain ⟨vg, hvg, hRg⟩ := got_of hs 14 87 (by kernel_rfl) (by rfl)
                              replace hRg : vg = _ := hRg
                              subst hRg
                              have hvx := old_of hs 10 (by kernel_rfl) (by rfl)
                              exact ⟨wanted_is (j := 14) (d := 87) (b := false) (by rfl) (by rfl) hvg, _, run_mv (.inl rfl) (ev hvx), rfl⟩
                            refine stepsL_cons (s_val fun a w5 hC hs => ?_) ?_
                            · skip
                              obtain ⟨vg, hvg, hRg⟩ := got_of hs 14 87 (by kernel_rfl) (by rfl)
                              replace hRg : vg = _ := hRg
                              subst hRg
                              obtain ⟨vx, hvx, hRx⟩ := got_of hs 16 89 (by kernel_rfl) (by rfl)
                              replace hRx : vx = _ := hRx
                              subst hRx
                              obtain ⟨vy, hvy, hRy⟩ := got_of hs 17 90 (by kernel_rfl) (by rfl)
                              replace hRy : vy = _ := hRy
                              subst hRy
                              exact ⟨wanted_is (j := 14) (d := 87) (b := false) (by rfl) (by rfl) hvg, _, run_ix rfl (ev hvx) (ev hvy) (ix_phi hj1), rfl⟩
                            refine stepsL_cons (s_val fun a w5 hC hs => ?_) ?_
                            · skip
                              obtain ⟨vg, hvg, hRg⟩ := got_of hs 14 87 (by kernel_rfl) (by rfl)
                              replace hRg : vg = _ := hRg
                              subst hRg
                              obtain ⟨vx, hvx, hRx⟩ := got_of hs 18 91 (by kernel_rfl) (by rfl)
                              replace hRx : vx = _ := hRx
                              subst hRx
                              exact ⟨wanted_is (j := 14) (d := 87) (b := false) (by rfl) (by rfl) hvg, _, run_fa rfl (ev hvx) fl_p1, rfl⟩
                            refine stepsL_cons (s_val fun a w5 hC hs => ?_) ?_
                            · skip
                              obtain ⟨vg, hvg, hRg⟩ := got_of hs 14 87 (by kernel_rfl) (by rfl)
                              replace hRg : vg = _ := hRg
                              subst hRg
                              obtain ⟨vx, hvx, hRx⟩ := got_of hs 19 92 (by kernel_rfl) (by rfl)
                              replace hRx : vx = _ := hRx
                              subst hRx
                              exact ⟨wanted_is (j := 14) (d := 87) (b := false) (by rfl) (by rfl) hvg, _, run_ld rfl (ev hvx) (ld_ints (hK.out w5 hC).2.2.2), rfl⟩
                            refine stepsL_cons (s_val fun a w5 hC hs => ?_) ?_
                            · skip
                              obtain ⟨vg, hvg, hRg⟩ := got_of hs 14 87 (by kernel_rfl) (by rfl)
                              replace hRg : vg = _ := hRg
                              subst hRg
                              have hvx := old_of hs 2 (by kernel_rfl) (by rfl)
                              exact ⟨wanted_is (j := 14) (d := 87) (b := false) (by rfl) (by rfl) hvg, _, run_mv (.inl rfl) (ev hvx), rfl⟩
                            refine stepsL_cons (s_call fun a w5 hC hs => ?_) ?_
                            · skip
                              obtain ⟨vg, hvg, hRg⟩ := got_of hs 14 87 (by kernel_rfl) (by rfl)
                              replace hRg : vg = _ := hRg
                              subst hRg
                              obtain ⟨vx, hvx, hRx⟩ := got_of hs 20 93 (by kernel_rfl) (by rfl)
                              replace hRx : vx = _ := hRx
                              subst hRx
                              obtain ⟨vy, hvy, hRy⟩ := got_of hs 21 94 (by kernel_rfl) (by rfl)
                              replace hRy : vy = _ := hRy
                              subst hRy
                              exact ⟨wanted_is (j := 14) (d := 87) (b := false) (by rfl) (by rfl) hvg, 76, _, run_call2 rfl (ev hvx) (ev hvy) (fun _ _ => rfl), (hWa.out w5 hC).mono (fun e w' ⟨he, hb⟩ => ⟨_, he, hC.trans (hb.mono hC.size), hb, rfl⟩)⟩
                            refine stepsL_cons (s_val fun a w5 hC hs => ?_) ?_
                            · skip
                              obtain ⟨vg, hvg, hRg⟩ := got_of hs 14 87 (by kernel_rfl) (by rfl)
                              replace hRg : vg = _ := hRg
                              subst hRg
                              obtain ⟨vx, hvx, hRx⟩ := got_of hs 22 95 (by kernel_rfl) (by rfl)
                              replace hRx : vx = _ := hRx
                              subst hRx
                              exact ⟨wanted_is (j := 14) (d := 87) (b := false) (by rfl) (by rfl) hvg, _, run_notB rfl (ev hvx), rfl⟩
                            refine stepsL_cons (s_val fun a w5 hC hs => ?_) ?_
                            · skip
                              obtain ⟨vc, hvc, hRc⟩ := got_of hs 14 87 (by kernel_rfl) (by rfl)
                              replace hRc : vc = _ := hRc
                              subst hRc
                              obtain ⟨vy, hvy, hRy⟩ := got_of hs 23 96 (by kernel_rfl) (by rfl)
                              replace hRy : vy = _ := hRy
                              subst hRy
                              exact ⟨wanted_none rfl, _, run_pk (b := false) rfl (ev hvc) (by simp only [if_true, if_false, Bool.false_eq_true]; exact (ev hvy)), rfl⟩
                            refine stepsL_cons (s_val fun a w5 hC hs => ?_) ?_
                            · skip
                              obtain ⟨vx, hvx, hRx⟩ := got_of hs 24 97 (by kernel_rfl) (by rfl)
                              replace hRx : vx = _ := hRx
                              subst hRx
                              exact ⟨wanted_none rfl, _, run_mv (.inl rfl) (ev hvx), rfl⟩
                            refine stepsL_cons (s_val fun a w5 hC hs => ?_) ?_
                            · skip
                              obtain ⟨vg, hvg, hRg⟩ := got_of hs 25 98 (by kernel_rfl) (by rfl)
                              replace hRg : vg = _ := hRg
                              subst hRg
                              have hvx := old_of hs 7 (by kernel_rfl) (by rfl)
                              exact ⟨wanted_is (j := 25) (d := 98) (b := false) (by rfl) (by rfl) hvg, _, run_fa rfl (ev hvx) fl_b0, rfl⟩
                            refine stepsL_cons (s_val fun a w5 hC hs => ?_) ?_
                            · skip
                              obtain ⟨vg, hvg, hRg⟩ := got_of hs 25 98 (by kernel_rfl) (by rfl)
                              replace hRg : vg = _ := hRg
                              subst hRg
                              obtain ⟨vx, hvx, hRx⟩ := got_of hs 26 99 (by kernel_rfl) (by rfl)
                              replace hRx : vx = _ := hRx
                              subst hRx
                              exact ⟨wanted_is (j := 25) (d := 98) (b := false) (by rfl) (by rfl) hvg, _, run_ld rfl (ev hvx) (ld_phis (hK.out w5 hC).1), rfl⟩
                            refine stepsL_cons (s_val fun a w5 hC hs => ?_) ?_
                            · skip
                              obtain ⟨vg, hvg, hRg⟩ := got_of hs 25 98 (by kernel_rfl) (by rfl)
                              replace hRg : vg = _ := hRg
                              subst hRg
                              have hvx := old_of hs 10 (by kernel_rfl) (by rfl)
                              exact ⟨wanted_is (j := 25) (d := 98) (b := false) (by rfl) (by rfl) hvg, _, run_mv (.inl rfl) (ev hvx), rfl⟩
                            refine stepsL_cons (s_val fun a w5 hC hs => ?_) ?_
                            · skip
                              obtain ⟨vg, hvg, hRg⟩ := got_of hs 25 98 (by kernel_rfl) (by rfl)
                              replace hRg : vg = _ := hRg
                              subst hRg
                              obtain ⟨vx, hvx, hRx⟩ := got_of hs 27 100 (by kernel_rfl) (by rfl)
                              replace hRx : vx = _ := hRx
                              subst hRx
                              obtain ⟨vy, hvy, hRy⟩ := got_of hs 28 101 (by kernel_rfl) (by rfl)
                              replace hRy : vy = _ := hRy
                              subst hRy
                              exact ⟨wanted_is (j := 25) (d := 98) (b := false) (by rfl) (by rfl) hvg, _, run_ix rfl (ev hvx) (ev hvy) (ix_phi hj1), rfl⟩
                            refine stepsL_cons (s_val fun a w5 hC hs => ?_) ?_
                            · skip
                              obtain ⟨vg, hvg, hRg⟩ := got_of hs 25 98 (by kernel_rfl) (by rfl)
                              replace hRg : vg = _ := hRg
                              subst hRg
                              obtain ⟨vx, hvx, hRx⟩ := got_of hs 29 102 (by kernel_rfl) (by rfl)
                              replace hRx : vx = _ := hRx
                              subst hRx
                              exact ⟨wanted_is (j := 25) (d := 98) (b := false) (by rfl) (by rfl) hvg, _, run_fa rfl (ev hvx) fl_p1, rfl⟩
                            refine stepsL_cons (s_val fun a w5 hC hs => ?_) ?_
                            · skip
                              obtain ⟨vg, hvg, hRg⟩ := got_of hs 25 98 (by kernel_rfl) (by rfl)
                              replace hRg : vg = _ := hRg
                              subst hRg
                              obtain ⟨vx, hvx, hRx⟩ := got_of hs 30 103 (by kernel_rfl) (by rfl)
                              replace hRx : vx = _ := hRx
                              subst hRx
                              exact ⟨wanted_is (j := 25) (d := 98) (b := false) (by rfl) (by rfl) hvg, _, run_ld rfl (ev hvx) (ld_ints (hK.out w5 hC).2.2.2), rfl⟩
                            refine stepsL_cons (s_val fun a w5 hC hs => ?_) ?_
                            · skip
                              obtain ⟨vg, hvg, hRg⟩ := got_of hs 25 98 (by kernel_rfl) (by rfl)
                              replace hRg : vg = _ := hRg
                              subst hRg
                              obtain ⟨vx, hvx, hRx⟩ := got_of hs 31 104 (by kernel_rfl) (by rfl)
                              replace hRx : vx = _ := hRx
                              subst hRx
                              exact ⟨wanted_is (j := 25) (d := 98) (b := false) (by rfl) (by rfl) hvg, _, run_len rfl (ev hvx) ln_ints, rfl⟩
                            refine stepsL_cons (s_val fun a w5 hC hs => ?_) ?_
                            · skip
                              obtain ⟨vg, hvg, hRg⟩ := got_of hs 25 98 (by kernel_rfl) (by rfl)
                              replace hRg : vg = _ := hRg
                              subst hRg
                              have hvx := old_of hs 7 (by kernel_rfl) (by rfl)
                              exact ⟨wanted_is (j := 25) (d := 98) (b := false) (by rfl) (by rfl) hvg, _, run_fa rfl (ev hvx) fl_b2, rfl⟩
                            refine stepsL_cons (s_val fun a w5 hC hs => ?_) ?_
                            · skip
                              obtain ⟨vg, hvg, hRg⟩ := got_of hs 25 98 (by kernel_rfl) (by rfl)
                              replace hRg : vg = _ := hRg
                              subst hRg
                              obtain ⟨vx, hvx, hRx⟩ := got_of hs 33 106 (by kernel_rfl) (by rfl)
                              replace hRx : vx = _ := hRx
                              subst hRx
                              exact ⟨wanted_is (j := 25) (d := 98) (b := false) (by rfl) (by rfl) hvg, _, run_ld rfl (ev hvx) (ld_ints (hK.out w5 hC).2.1), rfl⟩
                            refine stepsL_cons (s_val fun a w5 hC hs => ?_) ?_
                            · skip
                              obtain ⟨vg, hvg, hRg⟩ := got_of hs 25 98 (by kernel_rfl) (by rfl)
                              replace hRg : vg = _ := hRg
                              subst hRg
                              obtain ⟨vx, hvx, hRx⟩ := got_of hs 34 107 (by kernel_rfl) (by rfl)
                              replace hRx : vx = _ := hRx
                              subst hRx
                              exact ⟨wanted_is (j := 25) (d := 98) (b := false) (by rfl) (by rfl) hvg, _, run_len rfl (ev hvx) ln_ints, rfl⟩
                            refine stepsL_cons (s_val fun a w5 hC hs => ?_) ?_
                            · skip
                              obtain ⟨vg, hvg, hRg⟩ := got_of hs 25 98 (by kernel_rfl) (by rfl)
                              replace hRg : vg = _ := hRg
                              subst hRg
                              obtain ⟨vx, hvx, hRx⟩ := got_of hs 32 105 (by kernel_rfl) (by rfl)
                              replace hRx : vx = _ := hRx
                              subst hRx
                              obtain ⟨vy, hvy, hRy⟩ := got_of hs 35 108 (by kernel_rfl) (by rfl)
                              replace hRy : vy = _ := hRy
                              subst hRy
                              exact ⟨wanted_is (j := 25) (d := 98) (b := false) (by rfl) (by rfl) hvg, _, run_nqi hcc rfl (ev hvx) (ev hvy), rfl⟩
                            refine stepsL_cons (s_val fun a w5 hC hs => ?_) ?_
                            · skip
                              obtain ⟨vc, hvc, hRc⟩ := got_of hs 25 98 (by kernel_rfl) (by rfl)
                              replace hRc : vc = _ := hRc
                              subst hRc
                              obtain ⟨vy, hvy, hRy⟩ := got_of hs 36 109 (by kernel_rfl) (by rfl)
                              replace hRy : vy = _ := hRy
                              subst hRy
                              exact ⟨wanted_none rfl, _, run_pk (b := false) rfl (ev hvc) (by simp only [if_true, if_false, Bool.false_eq_true]; exact (ev hvy)), rfl⟩
                            exact stepsL_nil
                          case hend =>
                            intro σ V4 hC4 hR4
                            generalize hF : fillL _ _ _ _ _ = F
                            simp [fillL, dstOf, List.range, List.range.loop, Act.put] at hF
                            subst hF
                            have h37 : σ 37 = .bool true := hR4 37 (by simp)
                            rw [h37]
                            have g4 := Lib.hid (g1.out.trans (hC4.mono g1.out.size))
                            have g5 := Lib.hid (hb0.out.trans (hC4.mono hb0.out.size))
                            clear hR4 hC4 h37 hK hWr hWa
                            go_wp2_with fail
                            go_ret
                            exact ⟨ret_bool hfin.out.symm, g4.out⟩
                · have hjj : j = x.phis.length := by omega
                  have hfin : Hid (blkD l.length k regs x = true) := Lib.hid (by
                    rw [hbl.out, phisB_all (fun h => by have := hjk.out h.1; omega)]
                    have := hallj.out
                    rw [hjj, List.take_length] at this
                    exact this)
                  clear hallj hjk hjj
                  go_wp2_with fail
                  go_ret
                  exact ⟨ret_bool hfin.out.symm, g1.out⟩
          · have e1 := ne_n h1
            have hfin := Lib.hid (hnoE.out (by rw [hQ.out, decide_eq_false h1]; rfl))
            clear h1 hE1 hnoE hQ hyesE
            go_wp2_with fail
            go_ret
            exact ⟨ret_bool hfin.out.symm, g2.out⟩
end Go.Proofs.YtckmgefailclcaaDoor.Fw
