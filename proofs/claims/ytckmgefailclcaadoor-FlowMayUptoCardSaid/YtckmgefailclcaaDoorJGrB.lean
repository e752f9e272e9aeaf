/- Walk of the document's mayIns. Conditions: the instruction lies in memory; its Args are of bounded length. -/
import Derived.Test.YtckmgefailclcaaDoorJaO
import Derived.Test.YtckmgefailclcaaDoorJaR
import Derived.BigQuiet
import Derived.Deep.QuietTactic
namespace Go.Proofs.YtckmgefailclcaaDoor.Fw
open Go Go.RowKit
open Go.Proofs.YtckmgefailclcaaDoor.Lx Go.Proofs.YtckmgefailclcaaDoor.Tr Go.Proofs.YtckmgefailclcaaDoor.Cd

/-- the document's program around an instruction -/
def dP (regs : Int) (a1 a2 a v : Option Addr) (n : Nat) : Pg := ⟨a1, 1, [⟨⟨#[]⟩, 0, 0⟩], a2, 1, [⟨#[]⟩], v, 2, [firstF regs a, parF n]⟩
theorem dP_eq (regs : Int) (a1 a2 a v : Option Addr) (m : Nat) (i : Ins) (h : numP (dP regs a1 a2 a v m) (firstF regs a) i = numA i) : mayI (dP regs a1 a2 a v m) 0 i = mayA regs i := by
  have h0 := mayI_at (p := dP regs a1 a2 a v m) (m := 0) (f := firstF regs a) rfl i
  show mayI (dP regs a1 a2 a v m) ((0 : Nat) : Int) i = _
  rw [h0, mayF_eq, h]
  rfl
theorem mayA_n (regs : Int) (i : Ins) (n : Int) (h : numA { i with n := n } = numA i) : mayA regs { i with n := n } = mayA regs i := by
  unfold mayA
  rw [h]
  rfl
theorem d_call (regs r x b n : Int) (a1 a2 a v aa : Option Addr) (acap : Nat) (args : List Int) (hn : 0 ≤ n) (hl : args.length ≤ 8) :
    mayI (dP regs a1 a2 a v args.length) 0 ⟨10, r, x, b, 1, aa, acap, args⟩ = mayA regs ⟨10, r, x, b, n, aa, acap, args⟩ := by
  rw [dP_eq, ← mayA_n regs ⟨10, r, x, b, n, aa, acap, args⟩ 1]
  · simp [numA, numK, hl, hn]
  · have hi : inP 1 2 = true := by simp [inP]
    simp [numP, numA, fitP, numK, hi, hl, dP, parF]
theorem d_mem (regs op r x b n : Int) (a1 a2 a v aa : Option Addr) (acap m : Nat) (args : List Int) (hn : 0 ≤ n) (hm : op = 5 ∨ op = 6 ∨ op = 7 ∨ op = 8) :
    mayI (dP regs a1 a2 a v m) 0 ⟨op, r, x, b, 0, aa, acap, args⟩ = mayA regs ⟨op, r, x, b, n, aa, acap, args⟩ := by
  have h0 : inP 0 1 = true := by simp [inP]
  have hM : ((dP regs a1 a2 a v m).mems.length : Int) = 1 := rfl
  have hL : ((dP regs a1 a2 a v m).locks.length : Int) = 1 := rfl
  rw [dP_eq, ← mayA_n regs ⟨op, r, x, b, n, aa, acap, args⟩ 0]
  · rcases hm with rfl | rfl | rfl | rfl <;> simp [numA, numK, hn]
  · rcases hm with rfl | rfl | rfl | rfl <;> simp [numP, numA, fitP, numK, h0, hM, hL]
theorem d_oth (regs op r x b n : Int) (a1 a2 a v aa : Option Addr) (acap m : Nat) (args : List Int) (h10 : ¬ op = 10) (hm : ¬ (op = 5 ∨ op = 6 ∨ op = 7 ∨ op = 8)) :
    mayI (dP regs a1 a2 a v m) 0 ⟨op, r, x, b, n, aa, acap, args⟩ = mayA regs ⟨op, r, x, b, n, aa, acap, args⟩ := by
  rw [dP_eq]
  have hC : ((firstF regs a).code.length : Int) = 1 := rfl
  have h0 : inP n 1 = decide (n = 0) := by unfold inP; rw [Bool.eq_iff_iff]; simp; omega
  have hk4 : ¬ numK op = 4 := by unfold numK; repeat' split <;> omega
  have hk5 : ¬ numK op = 5 := by unfold numK; repeat' split <;> omega
  have hk6 : ¬ numK op = 6 := by unfold numK; repeat' split <;> omega
  simp only [numP, numA, fitP, hk4, hk5, hk6, if_false, hC, h0]
  split
  · simp
  · split
    · simp
    · split
      · simp
      · split <;> simp
theorem mayA_no (regs : Int) (i : Ins) (h : numA i = false) : mayA regs i = false := by unfold mayA; rw [h]; simp
def dW (w : World) (o0 : Obj) (regs len : Int) : World := ((((((w.alloc o0).alloc (.cells #[.int .u8 0, .int .i64 0, .int .i64 0, .int .i64 0, .int .i64 0, .slice none 0 0] 44)).alloc (.cells #[.string ⟨#[]⟩, .bool false, .int .i64 0, .int .i64 regs, .slice (some ⟨w.heap.size + 1, 0, none⟩) 1 1] 52)).alloc (.cells #[.string ⟨#[]⟩, .int .i64 0, .int .i64 0] 56)).alloc (.cells #[.string ⟨#[]⟩] 9)).alloc (.cells #[.string ⟨#[]⟩, .bool false, .int .i64 0, .int .i64 regs, .slice (some ⟨w.heap.size + 1, 0, none⟩) 1 1, .string ⟨#[]⟩, .bool false, .int .i64 len, .int .i64 0, .slice none 0 0] 52)).alloc (.cells #[.slice (some ⟨w.heap.size + 1 + 1 + 1, 0, none⟩) 1 1, .slice (some ⟨w.heap.size + 1 + 1 + 1 + 1, 0, none⟩) 1 1, .slice (some ⟨w.heap.size + 1 + 1 + 1 + 1 + 1, 0, none⟩) 2 2] 26)
theorem dW_below (w : World) (o0 : Obj) (regs len : Int) : Below w.heap.size w (dW w o0 regs len) := by
  unfold dW
  exact ((((((((Below.refl _ _).alloc (Nat.le_refl _) _).alloc (by simp) _).alloc (by simp; omega) _).alloc (by simp; omega) _).alloc (by simp; omega) _).alloc (by simp; omega) _).alloc (by simp; omega) _)
theorem dW_row (w : World) (o0 : Obj) (regs : Int) (n : Nat) : RowAt (dW w o0 regs n) Tt (some ⟨w.heap.size + 1 + 1 + 1 + 1 + 1, 0, none⟩) 2 2 (fnCells [firstF regs (some ⟨w.heap.size + 1, 0, none⟩), parF n]) := by
  unfold dW
  exact row_blk (vs := [.string ⟨#[]⟩, .bool false, .int .i64 0, .int .i64 regs, .slice (some ⟨w.heap.size + 1, 0, none⟩) 1 1, .string ⟨#[]⟩, .bool false, .int .i64 n, .int .i64 0, .slice none 0 0]) 2 ((Below.heap_alloc _ _ _ (by simp)).trans (blk_new _ _ (by simp))) (by omega) trivial
set_option maxHeartbeats 4000000 in
set_option maxRecDepth 100000 in
theorem rmayIns1_c (i : Ins) (regs : Int) (w : World) (hi : U8 i.op) (hn : I64 i.n) (hri : RowAt w Tt i.aa i.acap i.args.length (numCells i.args)) (hl : i.args.length ≤ 1048576) :
    Calls Tryd.prog 73 #[.agg #[.int .u8 i.op, .int .i64 i.r, .int .i64 i.a, .int .i64 i.b, .int .i64 i.n, .slice i.aa i.args.length i.acap], .int .i64 regs] w fun e w' => e = .returned (.bool (mayA regs i)) ∧ Below w.heap.size w w' := by
  obtain ⟨op, r, x, b, n, aa, acap, args⟩ := i
  simp only at *
  obtain ⟨hc1, hc2⟩ := len_i hri
  have hmi : Hid (∀ (a1 a2 a v : Option Addr) (op' n' : Int) V, Below w.heap.size w V → U8 op' → I64 n' → RowAt V Tt v 2 2 (fnCells [firstF regs a, parF args.length]) →
      Calls Tryd.prog 41 #[.agg #[.slice a1 1 1, .slice a2 1 1, .slice v 2 2], .int .i64 0, .agg #[.int .u8 op', .int .i64 r, .int .i64 x, .int .i64 b, .int .i64 n', .slice aa args.length acap]] V fun e w' => e = .returned (.bool (mayI (dP regs a1 a2 a v args.length) 0 ⟨op', r, x, b, n', aa, acap, args⟩)) ∧ Below V.heap.size V w') :=
    Lib.hid (fun a1 a2 a v op' n' V hb h8 h63 hrow => rmayIns_any (dP regs a1 a2 a v args.length) 0 ⟨op', r, x, b, n', aa, acap, args⟩ V h8 h63 (by unfold I64; omega) (hri.below (Kps.of_below hb)) (by show args.length ≤ _; omega) hrow)
  clear hri
  by_cases h10 : op = 10
  · subst h10
    by_cases hneg : n < 0
    · rw [mayA_no _ _ (by simp [numA, numK]; omega)]
      clear hmi
      have hst := Lib.hid (dW_below w (.cells #[.int .u8 10, .int .i64 r, .int .i64 x, .int .i64 b, .int .i64 n, .slice aa args.length acap] 44) regs args.length)
      unfold dW at hst
      go_enter Tryd.func73, Tryd.ntmps73
      go_wp2_with fail
      go_ret
      exact ⟨rfl, hst.out⟩
    · have hneg' : ¬ n < 0 := hneg
      by_cases h8 : 8 < (args.length : Int)
      · rw [mayA_no _ _ (by simp [numA, numK]; omega)]
        clear hmi
        have hst := Lib.hid (dW_below w (.cells #[.int .u8 10, .int .i64 r, .int .i64 x, .int .i64 b, .int .i64 n, .slice aa args.length acap] 44) regs args.length)
        unfold dW at hst
        go_enter Tryd.func73, Tryd.ntmps73
        go_wp2_with fail
        go_ret
        exact ⟨rfl, hst.out⟩
      · have h8' : ¬ 8 < (args.length : Int) := h8
        have hc := hmi.out (some ⟨w.heap.size + 1 + 1 + 1, 0, none⟩) (some ⟨w.heap.size + 1 + 1 + 1 + 1, 0, none⟩) (some ⟨w.heap.size + 1, 0, none⟩) (some ⟨w.heap.size + 1 + 1 + 1 + 1 + 1, 0, none⟩) 10 1 (dW w (.cells #[.int .u8 10, .int .i64 r, .int .i64 x, .int .i64 b, .int .i64 1, .slice aa args.length acap] 44) regs args.length) (dW_below _ _ _ _) (by unfold U8; omega) (by unfold I64; omega) (dW_row _ _ _ _)
        rw [d_call regs r x b n _ _ _ _ aa acap args (by omega) (by omega)] at hc
        replace hc := Lib.hid hc
        have hst := Lib.hid (dW_below w (.cells #[.int .u8 10, .int .i64 r, .int .i64 x, .int .i64 b, .int .i64 1, .slice aa args.length acap] 44) regs args.length)
        unfold dW at hc hst
        clear hmi
        go_enter Tryd.func73, Tryd.ntmps73
        go_wp2_with fail
        refine hc.out.mono ?_
        rintro e w1 ⟨rfl, hb1⟩
        have g1 := Lib.hid (hst.out.trans (hb1.mono hst.out.size))
        clear hb1 hc
        go_wp2_with fail
        go_ret
        exact ⟨rfl, g1.out⟩
  · have e10 := ne_b h10
    by_cases hm : op = 5 ∨ op = 6 ∨ op = 7 ∨ op = 8
    · by_cases hneg : n < 0
      · rw [mayA_no _ _ (by rcases hm with rfl | rfl | rfl | rfl <;> simp [numA, numK] <;> omega)]
        have h5 : 5 ≤ op := by omega
        have h58 : op ≤ 8 := by omega
        clear hmi
        have hst := Lib.hid (dW_below w (.cells #[.int .u8 op, .int .i64 r, .int .i64 x, .int .i64 b, .int .i64 n, .slice aa args.length acap] 44) regs args.length)
        unfold dW at hst
        go_enter Tryd.func73, Tryd.ntmps73
        go_wp2_with fail
        go_ret
        exact ⟨rfl, hst.out⟩
      · have hneg' : ¬ n < 0 := hneg
        have h5 : 5 ≤ op := by omega
        have h58 : op ≤ 8 := by omega
        have hc := hmi.out (some ⟨w.heap.size + 1 + 1 + 1, 0, none⟩) (some ⟨w.heap.size + 1 + 1 + 1 + 1, 0, none⟩) (some ⟨w.heap.size + 1, 0, none⟩) (some ⟨w.heap.size + 1 + 1 + 1 + 1 + 1, 0, none⟩) op 0 (dW w (.cells #[.int .u8 op, .int .i64 r, .int .i64 x, .int .i64 b, .int .i64 0, .slice aa args.length acap] 44) regs args.length) (dW_below _ _ _ _) hi (by unfold I64; omega) (dW_row _ _ _ _)
        rw [d_mem regs op r x b n _ _ _ _ aa acap _ args (by omega) hm] at hc
        replace hc := Lib.hid hc
        have hst := Lib.hid (dW_below w (.cells #[.int .u8 op, .int .i64 r, .int .i64 x, .int .i64 b, .int .i64 0, .slice aa args.length acap] 44) regs args.length)
        unfold dW at hc hst
        clear hmi
        go_enter Tryd.func73, Tryd.ntmps73
        go_wp2_with fail
        refine hc.out.mono ?_
        rintro e w1 ⟨rfl, hb1⟩
        have g1 := Lib.hid (hst.out.trans (hb1.mono hst.out.size))
        clear hb1 hc
        go_wp2_with fail
        go_ret
        exact ⟨rfl, g1.out⟩
    · by_cases h5 : 5 ≤ op
      · have h58 : ¬ op ≤ 8 := by omega
        have hc := hmi.out (some ⟨w.heap.size + 1 + 1 + 1, 0, none⟩) (some ⟨w.heap.size + 1 + 1 + 1 + 1, 0, none⟩) (some ⟨w.heap.size + 1, 0, none⟩) (some ⟨w.heap.size + 1 + 1 + 1 + 1 + 1, 0, none⟩) op n (dW w (.cells #[.int .u8 op, .int .i64 r, .int .i64 x, .int .i64 b, .int .i64 n, .slice aa args.length acap] 44) regs args.length) (dW_below _ _ _ _) hi hn (dW_row _ _ _ _)
        rw [d_oth regs op r x b n _ _ _ _ aa acap _ args h10 hm] at hc
        replace hc := Lib.hid hc
        have hst := Lib.hid (dW_below w (.cells #[.int .u8 op, .int .i64 r, .int .i64 x, .int .i64 b, .int .i64 n, .slice aa args.length acap] 44) regs args.length)
        unfold dW at hc hst
        clear hmi
        go_enter Tryd.func73, Tryd.ntmps73
        go_wp2_with fail
        refine hc.out.mono ?_
        rintro e w1 ⟨rfl, hb1⟩
        have g1 := Lib.hid (hst.out.trans (hb1.mono hst.out.size))
        clear hb1 hc
        go_wp2_with fail
        go_ret
        exact ⟨rfl, g1.out⟩
      · have h5' : ¬ 5 ≤ op := h5
        have hc := hmi.out (some ⟨w.heap.size + 1 + 1 + 1, 0, none⟩) (some ⟨w.heap.size + 1 + 1 + 1 + 1, 0, none⟩) (some ⟨w.heap.size + 1, 0, none⟩) (some ⟨w.heap.size + 1 + 1 + 1 + 1 + 1, 0, none⟩) op n (dW w (.cells #[.int .u8 op, .int .i64 r, .int .i64 x, .int .i64 b, .int .i64 n, .slice aa args.length acap] 44) regs args.length) (dW_below _ _ _ _) hi hn (dW_row _ _ _ _)
        rw [d_oth regs op r x b n _ _ _ _ aa acap _ args h10 hm] at hc
        replace hc := Lib.hid hc
        have hst := Lib.hid (dW_below w (.cells #[.int .u8 op, .int .i64 r, .int .i64 x, .int .i64 b, .int .i64 n, .slice aa args.length acap] 44) regs args.length)
        unfold dW at hc hst
        clear hmi
        go_enter Tryd.func73, Tryd.ntmps73
        go_wp2_with fail
        refine hc.out.mono ?_
        rintro e w1 ⟨rfl, hb1⟩
        have g1 := Lib.hid (hst.out.trans (hb1.mono hst.out.size))
        clear hb1 hc
        go_wp2_with fail
        go_ret
        exact ⟨rfl, g1.out⟩
end Go.Proofs.YtckmgefailclcaaDoor.Fw
