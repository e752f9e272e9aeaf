/- Plain theory: an instruction in the program around may be just if it may be in a graph. Conditions: none. Walks of mayCodes and its closure. Conditions: the graph lies in memory; the package's table holds its list. -/
import Derived.Test.YtkmlhijnkilfpaaDoorJFwL
import Derived.Test.YtkmlhijnkilfpaaDoorJFwM
import Derived.Test.YtkmlhijnkilfpaaDoorJFwK
import Derived.Test.YtkmlhijnkilfpaaDoorJaE
import Derived.Test.YtkmlhijnkilfpaaDoorJaL
namespace Go.Proofs.YtkmlhijnkilfpaaDoor.Fw
open Go Go.RowKit
open Go.Proofs.YtkmlhijnkilfpaaDoor.Lx Go.Proofs.YtkmlhijnkilfpaaDoor.Tr Go.Proofs.YtkmlhijnkilfpaaDoor.Cd

def arP (regs : Int) (a1 a2 a v : Option Addr) (cap : Nat) : Pg := ⟨a1, 1, [⟨⟨#[]⟩, 0, 0⟩], a2, 1, [⟨#[]⟩], v, cap, arF regs a 9⟩
theorem someN_op (i : Ins) : (someN i).op = i.op := by unfold someN; split <;> (try split) <;> (try split) <;> rfl
theorem someN_args (i : Ins) : (someN i).aa = i.aa ∧ (someN i).acap = i.acap ∧ (someN i).args = i.args := by unfold someN; split <;> (try split) <;> (try split) <;> exact ⟨rfl, rfl, rfl⟩
theorem someN_regs (i : Ins) : regsP (someN i) = regsP i := by unfold someN; split <;> (try split) <;> (try split) <;> rfl
theorem someN_bare (i : Ins) : bareP (someN i) = bareP i := by unfold someN; split <;> (try split) <;> (try split) <;> rfl
theorem arF_at (regs : Int) (a : Option Addr) (n k : Nat) (h : k < n) : (arF regs a n)[k + 1]? = some (parF k) := by simp [arF, h]
theorem num_ar (regs : Int) (a1 a2 a v : Option Addr) (cap : Nat) (i : Ins) : numP (arP regs a1 a2 a v cap) (firstF regs a) (someN i) = numA i := by
  obtain ⟨op, r, x, b, n, aa, acap, args⟩ := i
  by_cases h10 : op = 10
  · subst h10
    by_cases hn : n < 0
    · have : inP n (arP regs a1 a2 a v cap).funs.length = false := by simp [inP]; omega
      have h0 : ¬ 0 ≤ n := by omega
      simp [numP, numA, fitP, someN, numK, hn, this, h0]
    · have e : someN ⟨10, r, x, b, n, aa, acap, args⟩ = ⟨10, r, x, b, 1 + (args.length : Int), aa, acap, args⟩ := by simp [someN, hn]
      rw [e]
      have hf : (arP regs a1 a2 a v cap).funs.length = 10 := arF_len _ _ _
      by_cases hl : args.length ≤ 8
      · have hi : inP (1 + (args.length : Int)) 10 = true := by simp [inP]; omega
        have hg : (arP regs a1 a2 a v cap).funs[(1 + (args.length : Int)).toNat]? = some (parF args.length) := by
          rw [show (1 + (args.length : Int)).toNat = args.length + 1 by omega]
          exact arF_at _ _ _ _ (by omega)
        have hnn : 0 ≤ n := by omega
        simp [numP, numA, fitP, numK, hf, hi, hg, hl, hnn, parF]
      · have hi : inP (1 + (args.length : Int)) 10 = false := by simp [inP]; omega
        simp [numP, numA, fitP, numK, hf, hi, hl]
  · by_cases hm : op = 5 ∨ op = 6 ∨ op = 7 ∨ op = 8
    · have hM : ((arP regs a1 a2 a v cap).mems.length : Int) = 1 := rfl
      have hL : ((arP regs a1 a2 a v cap).locks.length : Int) = 1 := rfl
      by_cases hn : n < 0
      · have e : someN ⟨op, r, x, b, n, aa, acap, args⟩ = ⟨op, r, x, b, n, aa, acap, args⟩ := by simp [someN, hn]
        rw [e]
        have h0 : inP n 1 = false := by simp [inP]; omega
        have h1 : ¬ 0 ≤ n := by omega
        rcases hm with rfl | rfl | rfl | rfl <;> simp [numP, numA, fitP, numK, h0, h1, hM, hL]
      · have e : someN ⟨op, r, x, b, n, aa, acap, args⟩ = ⟨op, r, x, b, 0, aa, acap, args⟩ := by simp [someN, hn, hm]
        rw [e]
        have h0 : inP 0 1 = true := by simp [inP]
        have h1 : 0 ≤ n := by omega
        rcases hm with rfl | rfl | rfl | rfl <;> simp [numP, numA, fitP, numK, h0, h1, hM, hL]
    · have e : someN ⟨op, r, x, b, n, aa, acap, args⟩ = ⟨op, r, x, b, n, aa, acap, args⟩ := by simp [someN, hm, h10]
      rw [e]
      have hC : ((firstF regs a).code.length : Int) = 1 := rfl
      have h0 : inP n 1 = decide (n = 0) := by unfold inP; rw [Bool.eq_iff_iff]; simp; omega
      have hk4 : ¬ numK op = 4 := by unfold numK; repeat' split <;> omega
      have hk5 : ¬ numK op = 5 := by unfold numK; repeat' split <;> omega
      have hk6 : ¬ numK op = 6 := by unfold numK; repeat' split <;> omega
      simp only [numP, numA, fitP, hk4, hk5, hk6, if_false, hC, h0]
      split
      · simp
      · split
        · simp
        · split
          · simp
          · split <;> simp
theorem mayA_ar (regs : Int) (a1 a2 a v : Option Addr) (cap : Nat) (i : Ins) : mayI (arP regs a1 a2 a v cap) 0 (someN i) = mayA regs i := by
  have h := mayI_at (p := arP regs a1 a2 a v cap) (m := 0) (f := firstF regs a) rfl (someN i)
  show mayI (arP regs a1 a2 a v cap) ((0 : Nat) : Int) (someN i) = _
  rw [h, mayF_eq, someN_op, someN_bare, num_ar, someN_regs]
  rfl
end Go.Proofs.YtkmlhijnkilfpaaDoor.Fw
namespace Go.Proofs.YtkmlhijnkilfpaaDoor.Fw
open Go Go.RowKit
open Go.Proofs.YtkmlhijnkilfpaaDoor.Lx Go.Proofs.YtkmlhijnkilfpaaDoor.Tr Go.Proofs.YtkmlhijnkilfpaaDoor.Cd Go.Proofs.YtkmlhijnkilfpaaDoor.Pa

set_option maxHeartbeats 4000000 in
set_option maxRecDepth 100000 in
theorem codes1_c (x : Ins) (regs : Int) (a1 a2 a v : Option Addr) (cap bx : Nat) (w : World) (c0 : w.cell? ⟨bx, 0, none⟩ = some (.slice a1 1 1)) (c1 : w.cell? ⟨bx, 1, none⟩ = some (.slice a2 1 1)) (c2 : w.cell? ⟨bx, 2, none⟩ = some (.slice v 10 cap))
    (hrow : RowAt w Tt v cap 10 (fnCells (arF regs a 9))) (hT : OpTab w) (hx : U8 x.op) (hri : RowAt w Tt x.aa x.acap x.args.length (numCells x.args)) (hl : x.args.length ≤ 4611686018427387904) :
    Calls Tryd.prog 71 #[.agg #[.int .u8 x.op, .int .i64 x.r, .int .i64 x.a, .int .i64 x.b, .int .i64 x.n, .slice x.aa x.args.length x.acap], .pointer (some ⟨bx, 0, none⟩)] w fun e w' => e = .returned (.bool (mayA regs x)) ∧ Below w.heap.size w w' := by
  have hbl : bx < w.heap.size := World.block_lt_of_cell? _ _ c0
  have hst := Lib.hid (b_alloc w (.cells #[.int .u8 x.op, .int .i64 x.r, .int .i64 x.a, .int .i64 x.b, .int .i64 x.n, .slice x.aa x.args.length x.acap] 44))
  obtain ⟨q0, q1, q2, q3, q4, q5⟩ := box6 w x
  have hsn := fun V => someNumber_c x V hl
  have hmi := fun V (hb : Below w.heap.size w V) => mayIns_any (arP regs a1 a2 a v cap) 0 (someN x) V (by rw [someN_op]; exact hx) (by rw [(someN_args x).1, (someN_args x).2.1, (someN_args x).2.2]; exact hri.below (Kps.of_below hb)) (hT.keep hb) (by have := hrow.below (Kps.of_below hb); exact this)
  rw [mayA_ar] at hmi
  have d0 := below_in hst.out c0
  have d1 := below_in hst.out c1
  have d2 := below_in hst.out c2
  clear c0 c1 c2 hrow hri hT
  generalize hMA : mayA regs x = mv at *
  clear hMA
  go_enter Tryd.func71, Tryd.ntmps71
  go_upto_region 1 with fail
  generalize hW0 : w.alloc (.cells #[.int .u8 x.op, .int .i64 x.r, .int .i64 x.a, .int .i64 x.b, .int .i64 x.n, .slice x.aa x.args.length x.acap] 44) = W0 at *
  have u0 := up_cell q0
  have u1 := up_cell q1
  have u2 := up_cell q2
  have u3 := up_cell q3
  have u4 := up_cell q4
  have u5 := up_cell q5
  have t0 := up_cell d0
  have t1 := up_cell d1
  have t2 := up_cell d2
  have s3 := Lib.hid (up_call (w := W0) (f := 72) (args := #[.agg #[.int .u8 x.op, .int .i64 x.r, .int .i64 x.a, .int .i64 x.b, .int .i64 x.n, .slice x.aa x.args.length x.acap]]) (fun V _ => hsn V))
  have s4 := Lib.hid (up_call (w := W0) (f := 40) (args := #[(arP regs a1 a2 a v cap).val, .int .i64 0, (someN x).val]) (fun V hb => hmi V (hst.out.trans (hb.mono hst.out.size))))
  have hpv : (arP regs a1 a2 a v cap).val = .agg #[.slice a1 1 1, .slice a2 1 1, .slice v 10 cap] := rfl
  have hiv : (someN x).val = .agg ⟨(someN x).vals⟩ := rfl
  rw [hpv, hiv] at s4
  clear q0 q1 q2 q3 q4 q5 d0 d1 d2 hsn hmi hpv hiv
  refine quiet_lit (C := fun V => ∃ U : UpW W0, V = U.val) (by kernel_rfl) (by kernel_rfl) ⟨⟨W0.drew, (Below.refl _ _).drew⟩, by show _ = W0.drew; rfl⟩ ?_
  iterate 2 (quiet_step (fail))
  quiet_step (exact s3.out _)
  quiet_step (exact s4.out _)
  iterate 1 (quiet_step (fail))
  refine wpQuiet_nil ?_
  rintro U ⟨⟨_, hU⟩, rfl⟩
  have hbU := Lib.hid (hst.out.trans (hU.mono hst.out.size))
  clear hU s3 s4 u0 u1 u2 u3 u4 u5 t0 t1 t2
  go_wp2_with fail
  go_ret
  exact ⟨rfl, hbU.out⟩
end Go.Proofs.YtkmlhijnkilfpaaDoor.Fw
