/- The walk of the document's Exactly, at two programs of one thread that prints one expression: it is false where the two expressions' kinds or places differ. Conditions: all else is the same. -/
import Derived.Test.YtfhmhplbkheojaaGreatDoorSfH
namespace Go.Proofs.YtfhmhplbkheojaaGreatDoor.Pa
open Go Go.RowKit
open Go.Proofs.YtfhmhplbkheojaaGreatDoor.Lx Go.Proofs.YtfhmhplbkheojaaGreatDoor.Tr

set_option linter.unusedSimpArgs false in
set_option maxHeartbeats 4000000 in
set_option maxRecDepth 100000 in
theorem exprs_no (k k' : Int) (nm : ByteArray) (n : Int) (ea ea' : Option Addr) (ec ec' : Nat) (args args' : List Ex) (p p' : Int) (a a' : Option Addr) (cap cap' : Nat) (w : World)
    (hr : RowAt w (fun _ => True) a cap 1 (exCells [.mk k nm n ea ec args p])) (hr' : RowAt w (fun _ => True) a' cap' 1 (exCells [.mk k' nm n ea' ec' args' p'])) (h : k ≠ k' ∨ (k = k' ∧ p ≠ p')) :
    Calls Tryz.prog 81 #[.slice a 1 cap, .slice a' 1 cap'] w fun x w' => x = .returned (.bool false) ∧ Below w.heap.size w w' := by
  obtain ⟨b, off, rfl, _, hc⟩ := ex_row (l := [.mk k nm n ea ec args p]) hr 0 _ rfl
  obtain ⟨b', off', rfl, _, hc'⟩ := ex_row (l := [.mk k' nm n ea' ec' args' p']) hr' 0 _ rfl
  have c0 := hc 0 _ rfl
  have c1 := hc 1 _ rfl
  have c2 := hc 2 _ rfl
  have c3 := hc 3 _ rfl
  have c4 := hc 4 _ rfl
  have d0 := hc' 0 _ rfl
  have d1 := hc' 1 _ rfl
  have d2 := hc' 2 _ rfl
  have d3 := hc' 3 _ rfl
  have d4 := hc' 4 _ rfl
  simp only [Nat.zero_mul, Nat.zero_add, Nat.add_zero] at c0 c1 c2 c3 c4 d0 d1 d2 d3 d4
  clear hc hc' hr hr'
  have hbd : ∀ m, Below w.heap.size w (w.drewN m) := fun m => by have h := Below.refl w.heap.size w; exact ⟨h.os, h.tape, h.output, h.size, h.block⟩
  replace hbd := Lib.hid hbd
  go_enter Tryz.func81, Tryz.ntmps81
  go_wp2_with fail
  go_loopw [5] (fun i wr => i = .int .i64 0 ∧ wr = w) (fun _ _ => 0)
  case atStart => exact ⟨rfl, rfl⟩
  case round =>
    obtain ⟨rfl, rfl⟩ := hrel
    rcases h with hk | ⟨rfl, hp⟩
    · have hd : (k != k') = true := by simpa using hk
      have hd2 : ¬ k = k' := hk
      go_upto_region 6 with fail
      go_quiet (fail)
      go_wp2_with fail
      go_ret
      exact ⟨rfl, hbd.out _⟩
    · have hd : (p != p') = true := by simpa using hp
      have hd2 : ¬ p = p' := hp
      go_upto_region 6 with fail
      go_quiet (fail)
      go_wp2_with fail
      go_ret
      exact ⟨rfl, hbd.out _⟩
set_option linter.unusedSimpArgs false in
set_option maxHeartbeats 4000000 in
set_option maxRecDepth 100000 in
theorem stmts_no (k : Int) (nm to : ByteArray) (nw : Bool) (p : Int) (ea ea' ba ba' la la' : Option Addr) (ec ec' bc bc' lc lc' : Nat) (e e' : List Ex) (b2 b2' l2 l2' : List St) (a a' : Option Addr) (cap cap' : Nat) (w : World)
    (hr : RowAt w (fun _ => True) a cap 1 (stCells [.mk k nm to nw ea ec e ba bc b2 la lc l2 p])) (hr' : RowAt w (fun _ => True) a' cap' 1 (stCells [.mk k nm to nw ea' ec' e' ba' bc' b2' la' lc' l2' p]))
    (hx : ∀ V, Below w.heap.size w V → Calls Tryz.prog 81 #[.slice ea e.length ec, .slice ea' e'.length ec'] V fun x w' => x = .returned (.bool false) ∧ Below V.heap.size V w') :
    Calls Tryz.prog 44 #[.slice a 1 cap, .slice a' 1 cap'] w fun x w' => x = .returned (.bool false) ∧ Below w.heap.size w w' := by
  obtain ⟨b, off, rfl, _, hc⟩ := st_row (l := [.mk k nm to nw ea ec e ba bc b2 la lc l2 p]) hr 0 _ rfl
  obtain ⟨b', off', rfl, _, hc'⟩ := st_row (l := [.mk k nm to nw ea' ec' e' ba' bc' b2' la' lc' l2' p]) hr' 0 _ rfl
  have c0 := hc 0 _ rfl
  have c1 := hc 1 _ rfl
  have c2 := hc 2 _ rfl
  have c3 := hc 3 _ rfl
  have c4 := hc 4 _ rfl
  have c5 := hc 5 _ rfl
  have c6 := hc 6 _ rfl
  have c7 := hc 7 _ rfl
  have d0 := hc' 0 _ rfl
  have d1 := hc' 1 _ rfl
  have d2 := hc' 2 _ rfl
  have d3 := hc' 3 _ rfl
  have d4 := hc' 4 _ rfl
  have d5 := hc' 5 _ rfl
  have d6 := hc' 6 _ rfl
  have d7 := hc' 7 _ rfl
  simp only [Nat.zero_mul, Nat.zero_add, Nat.add_zero] at c0 c1 c2 c3 c4 c5 c6 c7 d0 d1 d2 d3 d4 d5 d6 d7
  clear hc hc' hr hr'
  obtain ⟨W1, hW1⟩ : ∃ W, w.alloc (.cells #[.int .u8 k, .string nm, .string to, .bool nw, .slice ea e.length ec, .slice ba b2.length bc, .slice la l2.length lc, .int .i64 p] 45) = W := ⟨_, rfl⟩
  have hb1 : Below w.heap.size w W1 := by rw [← hW1]; exact (Below.refl _ _).alloc (Nat.le_refl _) _
  have hx1 : W1.heap[w.heap.size]? = some (.cells #[.int .u8 k, .string nm, .string to, .bool nw, .slice ea e.length ec, .slice ba b2.length bc, .slice la l2.length lc, .int .i64 p] 45 (0, 0)) := by rw [← hW1]; exact World.alloc_heap_new w _
  obtain ⟨W2, hW2⟩ : ∃ W, W1.alloc (.cells #[.int .u8 k, .string nm, .string to, .bool nw, .slice ea' e'.length ec', .slice ba' b2'.length bc', .slice la' l2'.length lc', .int .i64 p] 45) = W := ⟨_, rfl⟩
  have hb2 : Below w.heap.size w W2 := by rw [← hW2]; exact hb1.alloc hb1.size _
  have hs1 : W1.heap.size = w.heap.size + 1 := by rw [← hW1]; exact sz_alloc _ _
  have hx2 : W2.heap[w.heap.size]? = some (.cells #[.int .u8 k, .string nm, .string to, .bool nw, .slice ea e.length ec, .slice ba b2.length bc, .slice la l2.length lc, .int .i64 p] 45 (0, 0)) := by rw [← hW2]; exact (heap_alloc_old W1 _ (cells_lt hx1)).trans hx1
  have hy2 : W2.heap[w.heap.size + 1]? = some (.cells #[.int .u8 k, .string nm, .string to, .bool nw, .slice ea' e'.length ec', .slice ba' b2'.length bc', .slice la' l2'.length lc', .int .i64 p] 45 (0, 0)) := by rw [← hW2, ← hs1]; exact World.alloc_heap_new W1 _
  have m0 := below_in hb1 d0
  have m1 := below_in hb1 d1
  have m2 := below_in hb1 d2
  have m3 := below_in hb1 d3
  have m4 := below_in hb1 d4
  have m5 := below_in hb1 d5
  have m6 := below_in hb1 d6
  have m7 := below_in hb1 d7
  clear d0 d1 d2 d3 d4 d5 d6 d7
  have hC := Lib.hid (hx W2 hb2)
  have p0 := blk_cell hx2 (j := 0) rfl
  have p1 := blk_cell hx2 (j := 1) rfl
  have p2 := blk_cell hx2 (j := 2) rfl
  have p3 := blk_cell hx2 (j := 3) rfl
  have p4 := blk_cell hx2 (j := 4) rfl
  have p7 := blk_cell hx2 (j := 7) rfl
  have r0 := blk_cell hy2 (j := 0) rfl
  have r1 := blk_cell hy2 (j := 1) rfl
  have r2 := blk_cell hy2 (j := 2) rfl
  have r3 := blk_cell hy2 (j := 3) rfl
  have r4 := blk_cell hy2 (j := 4) rfl
  have r7 := blk_cell hy2 (j := 7) rfl
  replace hb2 := Lib.hid hb2
  clear hx1 hx2 hy2 hb1 hx
  go_enter Tryz.func44, Tryz.ntmps44
  go_wp2_with fail
  go_loopw [5] (fun i wr => i = .int .i64 0 ∧ wr = w) (fun _ _ => 0)
  case atStart => exact ⟨rfl, rfl⟩
  case round =>
    obtain ⟨rfl, rfl⟩ := hrel
    go_wp2_with fail
    refine hC.out.mono ?_
    rintro x w3 ⟨rfl, hb3⟩
    have hb03 := Lib.hid (hb2.out.trans (hb3.mono hb2.out.size))
    clear hb3 hC
    go_wp2_with fail
    go_ret
    exact ⟨rfl, hb03.out⟩
set_option linter.unusedSimpArgs false in
set_option maxHeartbeats 4000000 in
set_option maxRecDepth 100000 in
theorem exactly_no (k : Int) (nm : ByteArray) (n p : Int) (pa pa' ba ba' : Option Addr) (pc pc' bc bc' : Nat) (ps : List ByteArray) (b2 b2' : List St) (a a' : Option Addr) (cap cap' : Nat) (w : World)
    (hr : RowAt w (fun _ => True) a cap 1 (deCells [⟨k, nm, n, pa, pc, ps, ba, bc, b2, p⟩])) (hr' : RowAt w (fun _ => True) a' cap' 1 (deCells [⟨k, nm, n, pa', pc', ps, ba', bc', b2', p⟩]))
    (hx : ∀ V, Below w.heap.size w V → Calls Tryz.prog 44 #[.slice ba b2.length bc, .slice ba' b2'.length bc'] V fun x w' => x = .returned (.bool false) ∧ Below V.heap.size V w') :
    Calls Tryz.prog 18 #[.slice a 1 cap, .slice a' 1 cap'] w fun x w' => x = .returned (.bool false) ∧ Below w.heap.size w w' := by
  obtain ⟨b, off, rfl, _, hc⟩ := de_row (l := [⟨k, nm, n, pa, pc, ps, ba, bc, b2, p⟩]) hr 0 _ rfl
  obtain ⟨b', off', rfl, _, hc'⟩ := de_row (l := [⟨k, nm, n, pa', pc', ps, ba', bc', b2', p⟩]) hr' 0 _ rfl
  have c0 := hc 0 _ rfl
  have c1 := hc 1 _ rfl
  have c2 := hc 2 _ rfl
  have c3 := hc 3 _ rfl
  have c4 := hc 4 _ rfl
  have c5 := hc 5 _ rfl
  have d0 := hc' 0 _ rfl
  have d1 := hc' 1 _ rfl
  have d2 := hc' 2 _ rfl
  have d3 := hc' 3 _ rfl
  have d4 := hc' 4 _ rfl
  have d5 := hc' 5 _ rfl
  simp only [Nat.zero_mul, Nat.zero_add, Nat.add_zero] at c0 c1 c2 c3 c4 c5 d0 d1 d2 d3 d4 d5
  clear hc hc' hr hr'
  obtain ⟨W1, hW1⟩ : ∃ W, w.alloc (.cells #[.int .u8 k, .string nm, .int .i64 n, .slice pa ps.length pc, .slice ba b2.length bc, .int .i64 p] 35) = W := ⟨_, rfl⟩
  have hb1 : Below w.heap.size w W1 := by rw [← hW1]; exact (Below.refl _ _).alloc (Nat.le_refl _) _
  have hx1 : W1.heap[w.heap.size]? = some (.cells #[.int .u8 k, .string nm, .int .i64 n, .slice pa ps.length pc, .slice ba b2.length bc, .int .i64 p] 35 (0, 0)) := by rw [← hW1]; exact World.alloc_heap_new w _
  obtain ⟨W2, hW2⟩ : ∃ W, W1.alloc (.cells #[.int .u8 k, .string nm, .int .i64 n, .slice pa' ps.length pc', .slice ba' b2'.length bc', .int .i64 p] 35) = W := ⟨_, rfl⟩
  have hb2 : Below w.heap.size w W2 := by rw [← hW2]; exact hb1.alloc hb1.size _
  have hs1 : W1.heap.size = w.heap.size + 1 := by rw [← hW1]; exact sz_alloc _ _
  have hx2 : W2.heap[w.heap.size]? = some (.cells #[.int .u8 k, .string nm, .int .i64 n, .slice pa ps.length pc, .slice ba b2.length bc, .int .i64 p] 35 (0, 0)) := by rw [← hW2]; exact (heap_alloc_old W1 _ (cells_lt hx1)).trans hx1
  have hy2 : W2.heap[w.heap.size + 1]? = some (.cells #[.int .u8 k, .string nm, .int .i64 n, .slice pa' ps.length pc', .slice ba' b2'.length bc', .int .i64 p] 35 (0, 0)) := by rw [← hW2, ← hs1]; exact World.alloc_heap_new W1 _
  have m0 := below_in hb1 d0
  have m1 := below_in hb1 d1
  have m2 := below_in hb1 d2
  have m3 := below_in hb1 d3
  have m4 := below_in hb1 d4
  have m5 := below_in hb1 d5
  clear d0 d1 d2 d3 d4 d5
  have hC := Lib.hid (hx W2 hb2)
  have p0 := blk_cell hx2 (j := 0) rfl
  have p1 := blk_cell hx2 (j := 1) rfl
  have p2 := blk_cell hx2 (j := 2) rfl
  have p3 := blk_cell hx2 (j := 3) rfl
  have p4 := blk_cell hx2 (j := 4) rfl
  have p5 := blk_cell hx2 (j := 5) rfl
  have r0 := blk_cell hy2 (j := 0) rfl
  have r1 := blk_cell hy2 (j := 1) rfl
  have r2 := blk_cell hy2 (j := 2) rfl
  have r3 := blk_cell hy2 (j := 3) rfl
  have r4 := blk_cell hy2 (j := 4) rfl
  have r5 := blk_cell hy2 (j := 5) rfl
  replace hb2 := Lib.hid hb2
  clear hx1 hx2 hy2 hb1 hx
  go_enter Tryz.func18, Tryz.ntmps18
  go_wp2_with fail
  go_loopw [5] (fun i wr => i = .int .i64 0 ∧ wr = w) (fun _ _ => 0)
  case atStart => exact ⟨rfl, rfl⟩
  case round =>
    obtain ⟨rfl, rfl⟩ := hrel
    go_wp2_with fail
    refine hC.out.mono ?_
    rintro x w3 ⟨rfl, hb3⟩
    have hb03 := Lib.hid (hb2.out.trans (hb3.mono hb2.out.size))
    clear hb3 hC
    go_wp2_with fail
    go_ret
    exact ⟨rfl, hb03.out⟩
end Go.Proofs.YtfhmhplbkheojaaGreatDoor.Pa
