/- Walk of the document's kept. Conditions: the instruction's operation is one. -/
import Derived.Test.YtiicjbnocpphdaaDoorCfB
namespace Go.Proofs.YtiicjbnocpphdaaDoor.Cd
open Go Go.RowKit
open Go.Proofs.YtiicjbnocpphdaaDoor.Lx Go.Proofs.YtiicjbnocpphdaaDoor.Tr

theorem heap_oth {W : World} {b k j : Nat} {u : Value} (h : k ≠ b) : (W.setCell ⟨b, j, none⟩ u).heap[k]? = W.heap[k]? := by
  simp [World.setCell, Array.getElem?_modify, Ne.symm h]
theorem heap_set6 {W : World} {g : Nat} {a0 b0 c0 d0 e0 f0 : Value} {T : TypeId} {fr : Nat × Nat} (h : W.heap[g]? = some (.cells #[a0, b0, c0, d0, e0, f0] T fr)) (a b c d e f : Value) :
    ((((((W.setCell ⟨g, 0, none⟩ a).setCell ⟨g, 1, none⟩ b).setCell ⟨g, 2, none⟩ c).setCell ⟨g, 3, none⟩ d).setCell ⟨g, 4, none⟩ e).setCell ⟨g, 5, none⟩ f).heap[g]? = some (.cells #[a, b, c, d, e, f] T fr) := by
  have := heap_set1 (heap_set1 (heap_set1 (heap_set1 (heap_set1 (heap_set1 h 0 a) 1 b) 2 c) 3 d) 4 e) 5 f
  simpa using this
theorem below_set6 {B g : Nat} {w W : World} (h : Below B w W) (hg : B ≤ g) (a b c d e f : Value) : Below B w ((((((W.setCell ⟨g, 0, none⟩ a).setCell ⟨g, 1, none⟩ b).setCell ⟨g, 2, none⟩ c).setCell ⟨g, 3, none⟩ d).setCell ⟨g, 4, none⟩ e).setCell ⟨g, 5, none⟩ f) :=
  (((((h.setCell (p := ⟨g, 0, none⟩) hg a).setCell (p := ⟨g, 1, none⟩) hg b).setCell (p := ⟨g, 2, none⟩) hg c).setCell (p := ⟨g, 3, none⟩) hg d).setCell (p := ⟨g, 4, none⟩) hg e).setCell (p := ⟨g, 5, none⟩) hg f
theorem ins3 (w : World) (o0 o1 o2 : Obj) : (((w.alloc o0).alloc o1).alloc o2).heap[w.heap.size]? = some o0 ∧ (((w.alloc o0).alloc o1).alloc o2).heap[w.heap.size + 1]? = some o1 ∧ (((w.alloc o0).alloc o1).alloc o2).heap[w.heap.size + 1 + 1]? = some o2 :=
  ⟨(Below.heap_alloc _ _ _ (by simp; omega)).trans ((Below.heap_alloc _ _ _ (by simp)).trans (blk_new _ _ rfl)), (Below.heap_alloc _ _ _ (by simp)).trans (blk_new _ _ (by simp)), blk_new _ _ (by simp)⟩

set_option maxHeartbeats 2000000 in
set_option maxRecDepth 100000 in
theorem kept_o1 (r a b n : Int) (aa : Option Addr) (acap : Nat) (args : List Int) (w : World) :
    Calls Tryd.prog 52 #[(⟨1, r, a, b, n, aa, acap, args⟩ : Ins).val] w fun e w' => e = .returned (.agg ⟨(keptP (⟨1, r, a, b, n, aa, acap, args⟩ : Ins)).vals⟩) ∧ Below w.heap.size w w' := by
  have hk : keptP (⟨1, r, a, b, n, aa, acap, args⟩ : Ins) = ⟨1, r, 0, 0, n, none, 0, []⟩ := rfl
  rw [hk]
  clear hk
  have hw := Lib.hid (fun V => rwrites_any (⟨1, r, a, b, n, aa, acap, args⟩ : Ins) V)
  obtain ⟨g0, g1, g2⟩ := ins3 w (.cells ⟨(⟨1, r, a, b, n, aa, acap, args⟩ : Ins).vals⟩ 31) (.cells #[.int .u8 0, .int .i64 0, .int .i64 0, .int .i64 0, .int .i64 0, .slice none 0 0] 31) (.cells #[.int .u8 1, .int .i64 0, .int .i64 0, .int .i64 0, .int .i64 0, .slice none 0 0] 31)
  have hst := Lib.hid (b_alloc3 w (.cells ⟨(⟨1, r, a, b, n, aa, acap, args⟩ : Ins).vals⟩ 31) (.cells #[.int .u8 0, .int .i64 0, .int .i64 0, .int .i64 0, .int .i64 0, .slice none 0 0] 31) (.cells #[.int .u8 1, .int .i64 0, .int .i64 0, .int .i64 0, .int .i64 0, .slice none 0 0] 31))
  replace g0 := Lib.hid g0
  replace g1 := Lib.hid g1
  replace g2 := Lib.hid g2
  go_enter Tryd.func52, Tryd.ntmps52
  go_wp2_with fail
  refine (hw.out _).mono ?_
  rintro e w1 ⟨rfl, hb⟩
  have hs1 : w.heap.size + 3 ≤ w1.heap.size := by have := hb.size; simp at this; omega
  have hl0 : w.heap.size < w1.heap.size := by omega
  have hl1 : w.heap.size + 1 < w1.heap.size := by omega
  have hl2 : w.heap.size + 1 + 1 < w1.heap.size := by omega
  have k0 : w1.heap[w.heap.size]? = _ := (hb.block _ (by first | (simp; done) | (simp; omega))).trans g0.out
  have k1 : w1.heap[w.heap.size + 1]? = _ := (hb.block _ (by first | (simp; done) | (simp; omega))).trans g1.out
  have k2 : w1.heap[w.heap.size + 1 + 1]? = _ := (hb.block _ (by first | (simp; done) | (simp; omega))).trans g2.out
  obtain ⟨q0, q1, q2, q3, q4, q5⟩ := ins_cells (i := (⟨1, r, a, b, n, aa, acap, args⟩ : Ins)) (cells_of (t := 31) k0)
  obtain ⟨z0, z1, z2, z3, z4, z5⟩ := ins_cells (i := ⟨1, 0, 0, 0, 0, none, 0, []⟩) (cells_of (t := 31) k2)
  have x0 := blk_free k2 0
  have x1 := blk_free k2 1
  have x2 := blk_free k2 2
  have x3 := blk_free k2 3
  have x4 := blk_free k2 4
  have x5 := blk_free k2 5
  obtain ⟨y0, y1, y2, y3, y4, y5⟩ := ins_cells (i := ⟨0, 0, 0, 0, 0, none, 0, []⟩) (cells_of (t := 31) k1)
  have u0 := blk_free k1 0
  have u1 := blk_free k1 1
  have u2 := blk_free k1 2
  have u3 := blk_free k1 3
  have u4 := blk_free k1 4
  have u5 := blk_free k1 5
  have hq := Lib.hid (hst.out.trans (hb.mono hst.out.size))
  replace k1 := Lib.hid k1
  clear hb k0 k2 g0 g1 g2
  go_wp2_with fail
  exact bodyPost_ret (v := .agg #[.int .u8 1, .int .i64 r, .int .i64 0, .int .i64 0, .int .i64 n, .slice none 0 0]) (results_cell_row Tryd.results52 _ _ (w.heap.size + 1) _ _ _ _ rfl (heap_set6 ((heap_oth (by omega)).trans ((heap_oth (by omega)).trans k1.out)) _ _ _ _ _ _) Tryd.underlying31 rfl (by kernel_rfl)) rfl ⟨rfl, below_set6 ((hq.out.setCell (p := ⟨w.heap.size + 1 + 1, 1, none⟩) (by show w.heap.size ≤ w.heap.size + 1 + 1; omega) _).setCell (p := ⟨w.heap.size + 1 + 1, 4, none⟩) (by show w.heap.size ≤ w.heap.size + 1 + 1; omega) _) (by omega) _ _ _ _ _ _⟩
set_option maxHeartbeats 2000000 in
set_option maxRecDepth 100000 in
theorem kept_o2 (r a b n : Int) (aa : Option Addr) (acap : Nat) (args : List Int) (w : World) :
    Calls Tryd.prog 52 #[(⟨2, r, a, b, n, aa, acap, args⟩ : Ins).val] w fun e w' => e = .returned (.agg ⟨(keptP (⟨2, r, a, b, n, aa, acap, args⟩ : Ins)).vals⟩) ∧ Below w.heap.size w w' := by
  have hk : keptP (⟨2, r, a, b, n, aa, acap, args⟩ : Ins) = ⟨2, r, a, 0, 0, none, 0, []⟩ := rfl
  rw [hk]
  clear hk
  have hw := Lib.hid (fun V => rwrites_any (⟨2, r, a, b, n, aa, acap, args⟩ : Ins) V)
  obtain ⟨g0, g1, g2⟩ := ins3 w (.cells ⟨(⟨2, r, a, b, n, aa, acap, args⟩ : Ins).vals⟩ 31) (.cells #[.int .u8 0, .int .i64 0, .int .i64 0, .int .i64 0, .int .i64 0, .slice none 0 0] 31) (.cells #[.int .u8 2, .int .i64 0, .int .i64 0, .int .i64 0, .int .i64 0, .slice none 0 0] 31)
  have hst := Lib.hid (b_alloc3 w (.cells ⟨(⟨2, r, a, b, n, aa, acap, args⟩ : Ins).vals⟩ 31) (.cells #[.int .u8 0, .int .i64 0, .int .i64 0, .int .i64 0, .int .i64 0, .slice none 0 0] 31) (.cells #[.int .u8 2, .int .i64 0, .int .i64 0, .int .i64 0, .int .i64 0, .slice none 0 0] 31))
  replace g0 := Lib.hid g0
  replace g1 := Lib.hid g1
  replace g2 := Lib.hid g2
  go_enter Tryd.func52, Tryd.ntmps52
  go_wp2_with fail
  refine (hw.out _).mono ?_
  rintro e w1 ⟨rfl, hb⟩
  have hs1 : w.heap.size + 3 ≤ w1.heap.size := by have := hb.size; simp at this; omega
  have hl0 : w.heap.size < w1.heap.size := by omega
  have hl1 : w.heap.size + 1 < w1.heap.size := by omega
  have hl2 : w.heap.size + 1 + 1 < w1.heap.size := by omega
  have k0 : w1.heap[w.heap.size]? = _ := (hb.block _ (by first | (simp; done) | (simp; omega))).trans g0.out
  have k1 : w1.heap[w.heap.size + 1]? = _ := (hb.block _ (by first | (simp; done) | (simp; omega))).trans g1.out
  have k2 : w1.heap[w.heap.size + 1 + 1]? = _ := (hb.block _ (by first | (simp; done) | (simp; omega))).trans g2.out
  obtain ⟨q0, q1, q2, q3, q4, q5⟩ := ins_cells (i := (⟨2, r, a, b, n, aa, acap, args⟩ : Ins)) (cells_of (t := 31) k0)
  obtain ⟨z0, z1, z2, z3, z4, z5⟩ := ins_cells (i := ⟨2, 0, 0, 0, 0, none, 0, []⟩) (cells_of (t := 31) k2)
  have x0 := blk_free k2 0
  have x1 := blk_free k2 1
  have x2 := blk_free k2 2
  have x3 := blk_free k2 3
  have x4 := blk_free k2 4
  have x5 := blk_free k2 5
  obtain ⟨y0, y1, y2, y3, y4, y5⟩ := ins_cells (i := ⟨0, 0, 0, 0, 0, none, 0, []⟩) (cells_of (t := 31) k1)
  have u0 := blk_free k1 0
  have u1 := blk_free k1 1
  have u2 := blk_free k1 2
  have u3 := blk_free k1 3
  have u4 := blk_free k1 4
  have u5 := blk_free k1 5
  have hq := Lib.hid (hst.out.trans (hb.mono hst.out.size))
  replace k1 := Lib.hid k1
  clear hb k0 k2 g0 g1 g2
  go_wp2_with fail
  exact bodyPost_ret (v := .agg #[.int .u8 2, .int .i64 r, .int .i64 a, .int .i64 0, .int .i64 0, .slice none 0 0]) (results_cell_row Tryd.results52 _ _ (w.heap.size + 1) _ _ _ _ rfl (heap_set6 ((heap_oth (by omega)).trans ((heap_oth (by omega)).trans k1.out)) _ _ _ _ _ _) Tryd.underlying31 rfl (by kernel_rfl)) rfl ⟨rfl, below_set6 ((hq.out.setCell (p := ⟨w.heap.size + 1 + 1, 1, none⟩) (by show w.heap.size ≤ w.heap.size + 1 + 1; omega) _).setCell (p := ⟨w.heap.size + 1 + 1, 2, none⟩) (by show w.heap.size ≤ w.heap.size + 1 + 1; omega) _) (by omega) _ _ _ _ _ _⟩
set_option maxHeartbeats 2000000 in
set_option maxRecDepth 100000 in
theorem kept_o3 (r a b n : Int) (aa : Option Addr) (acap : Nat) (args : List Int) (w : World) :
    Calls Tryd.prog 52 #[(⟨3, r, a, b, n, aa, acap, args⟩ : Ins).val] w fun e w' => e = .returned (.agg ⟨(keptP (⟨3, r, a, b, n, aa, acap, args⟩ : Ins)).vals⟩) ∧ Below w.heap.size w w' := by
  have hk : keptP (⟨3, r, a, b, n, aa, acap, args⟩ : Ins) = ⟨3, r, a, 0, n, none, 0, []⟩ := rfl
  rw [hk]
  clear hk
  have hw := Lib.hid (fun V => rwrites_any (⟨3, r, a, b, n, aa, acap, args⟩ : Ins) V)
  obtain ⟨g0, g1, g2⟩ := ins3 w (.cells ⟨(⟨3, r, a, b, n, aa, acap, args⟩ : Ins).vals⟩ 31) (.cells #[.int .u8 0, .int .i64 0, .int .i64 0, .int .i64 0, .int .i64 0, .slice none 0 0] 31) (.cells #[.int .u8 3, .int .i64 0, .int .i64 0, .int .i64 0, .int .i64 0, .slice none 0 0] 31)
  have hst := Lib.hid (b_alloc3 w (.cells ⟨(⟨3, r, a, b, n, aa, acap, args⟩ : Ins).vals⟩ 31) (.cells #[.int .u8 0, .int .i64 0, .int .i64 0, .int .i64 0, .int .i64 0, .slice none 0 0] 31) (.cells #[.int .u8 3, .int .i64 0, .int .i64 0, .int .i64 0, .int .i64 0, .slice none 0 0] 31))
  replace g0 := Lib.hid g0
  replace g1 := Lib.hid g1
  replace g2 := Lib.hid g2
  go_enter Tryd.func52, Tryd.ntmps52
  go_wp2_with fail
  refine (hw.out _).mono ?_
  rintro e w1 ⟨rfl, hb⟩
  have hs1 : w.heap.size + 3 ≤ w1.heap.size := by have := hb.size; simp at this; omega
  have hl0 : w.heap.size < w1.heap.size := by omega
  have hl1 : w.heap.size + 1 < w1.heap.size := by omega
  have hl2 : w.heap.size + 1 + 1 < w1.heap.size := by omega
  have k0 : w1.heap[w.heap.size]? = _ := (hb.block _ (by first | (simp; done) | (simp; omega))).trans g0.out
  have k1 : w1.heap[w.heap.size + 1]? = _ := (hb.block _ (by first | (simp; done) | (simp; omega))).trans g1.out
  have k2 : w1.heap[w.heap.size + 1 + 1]? = _ := (hb.block _ (by first | (simp; done) | (simp; omega))).trans g2.out
  obtain ⟨q0, q1, q2, q3, q4, q5⟩ := ins_cells (i := (⟨3, r, a, b, n, aa, acap, args⟩ : Ins)) (cells_of (t := 31) k0)
  obtain ⟨z0, z1, z2, z3, z4, z5⟩ := ins_cells (i := ⟨3, 0, 0, 0, 0, none, 0, []⟩) (cells_of (t := 31) k2)
  have x0 := blk_free k2 0
  have x1 := blk_free k2 1
  have x2 := blk_free k2 2
  have x3 := blk_free k2 3
  have x4 := blk_free k2 4
  have x5 := blk_free k2 5
  obtain ⟨y0, y1, y2, y3, y4, y5⟩ := ins_cells (i := ⟨0, 0, 0, 0, 0, none, 0, []⟩) (cells_of (t := 31) k1)
  have u0 := blk_free k1 0
  have u1 := blk_free k1 1
  have u2 := blk_free k1 2
  have u3 := blk_free k1 3
  have u4 := blk_free k1 4
  have u5 := blk_free k1 5
  have hq := Lib.hid (hst.out.trans (hb.mono hst.out.size))
  replace k1 := Lib.hid k1
  clear hb k0 k2 g0 g1 g2
  go_wp2_with fail
  exact bodyPost_ret (v := .agg #[.int .u8 3, .int .i64 r, .int .i64 a, .int .i64 0, .int .i64 n, .slice none 0 0]) (results_cell_row Tryd.results52 _ _ (w.heap.size + 1) _ _ _ _ rfl (heap_set6 ((heap_oth (by omega)).trans ((heap_oth (by omega)).trans ((heap_oth (by omega)).trans k1.out))) _ _ _ _ _ _) Tryd.underlying31 rfl (by kernel_rfl)) rfl ⟨rfl, below_set6 (((hq.out.setCell (p := ⟨w.heap.size + 1 + 1, 1, none⟩) (by show w.heap.size ≤ w.heap.size + 1 + 1; omega) _).setCell (p := ⟨w.heap.size + 1 + 1, 2, none⟩) (by show w.heap.size ≤ w.heap.size + 1 + 1; omega) _).setCell (p := ⟨w.heap.size + 1 + 1, 4, none⟩) (by show w.heap.size ≤ w.heap.size + 1 + 1; omega) _) (by omega) _ _ _ _ _ _⟩
set_option maxHeartbeats 2000000 in
set_option maxRecDepth 100000 in
theorem kept_o4 (r a b n : Int) (aa : Option Addr) (acap : Nat) (args : List Int) (w : World) :
    Calls Tryd.prog 52 #[(⟨4, r, a, b, n, aa, acap, args⟩ : Ins).val] w fun e w' => e = .returned (.agg ⟨(keptP (⟨4, r, a, b, n, aa, acap, args⟩ : Ins)).vals⟩) ∧ Below w.heap.size w w' := by
  have hk : keptP (⟨4, r, a, b, n, aa, acap, args⟩ : Ins) = ⟨4, r, a, b, n, none, 0, []⟩ := rfl
  rw [hk]
  clear hk
  have hw := Lib.hid (fun V => rwrites_any (⟨4, r, a, b, n, aa, acap, args⟩ : Ins) V)
  obtain ⟨g0, g1, g2⟩ := ins3 w (.cells ⟨(⟨4, r, a, b, n, aa, acap, args⟩ : Ins).vals⟩ 31) (.cells #[.int .u8 0, .int .i64 0, .int .i64 0, .int .i64 0, .int .i64 0, .slice none 0 0] 31) (.cells #[.int .u8 4, .int .i64 0, .int .i64 0, .int .i64 0, .int .i64 0, .slice none 0 0] 31)
  have hst := Lib.hid (b_alloc3 w (.cells ⟨(⟨4, r, a, b, n, aa, acap, args⟩ : Ins).vals⟩ 31) (.cells #[.int .u8 0, .int .i64 0, .int .i64 0, .int .i64 0, .int .i64 0, .slice none 0 0] 31) (.cells #[.int .u8 4, .int .i64 0, .int .i64 0, .int .i64 0, .int .i64 0, .slice none 0 0] 31))
  replace g0 := Lib.hid g0
  replace g1 := Lib.hid g1
  replace g2 := Lib.hid g2
  go_enter Tryd.func52, Tryd.ntmps52
  go_wp2_with fail
  refine (hw.out _).mono ?_
  rintro e w1 ⟨rfl, hb⟩
  have hs1 : w.heap.size + 3 ≤ w1.heap.size := by have := hb.size; simp at this; omega
  have hl0 : w.heap.size < w1.heap.size := by omega
  have hl1 : w.heap.size + 1 < w1.heap.size := by omega
  have hl2 : w.heap.size + 1 + 1 < w1.heap.size := by omega
  have k0 : w1.heap[w.heap.size]? = _ := (hb.block _ (by first | (simp; done) | (simp; omega))).trans g0.out
  have k1 : w1.heap[w.heap.size + 1]? = _ := (hb.block _ (by first | (simp; done) | (simp; omega))).trans g1.out
  have k2 : w1.heap[w.heap.size + 1 + 1]? = _ := (hb.block _ (by first | (simp; done) | (simp; omega))).trans g2.out
  obtain ⟨q0, q1, q2, q3, q4, q5⟩ := ins_cells (i := (⟨4, r, a, b, n, aa, acap, args⟩ : Ins)) (cells_of (t := 31) k0)
  obtain ⟨z0, z1, z2, z3, z4, z5⟩ := ins_cells (i := ⟨4, 0, 0, 0, 0, none, 0, []⟩) (cells_of (t := 31) k2)
  have x0 := blk_free k2 0
  have x1 := blk_free k2 1
  have x2 := blk_free k2 2
  have x3 := blk_free k2 3
  have x4 := blk_free k2 4
  have x5 := blk_free k2 5
  obtain ⟨y0, y1, y2, y3, y4, y5⟩ := ins_cells (i := ⟨0, 0, 0, 0, 0, none, 0, []⟩) (cells_of (t := 31) k1)
  have u0 := blk_free k1 0
  have u1 := blk_free k1 1
  have u2 := blk_free k1 2
  have u3 := blk_free k1 3
  have u4 := blk_free k1 4
  have u5 := blk_free k1 5
  have hq := Lib.hid (hst.out.trans (hb.mono hst.out.size))
  replace k1 := Lib.hid k1
  clear hb k0 k2 g0 g1 g2
  go_wp2_with fail
  exact bodyPost_ret (v := .agg #[.int .u8 4, .int .i64 r, .int .i64 a, .int .i64 b, .int .i64 n, .slice none 0 0]) (results_cell_row Tryd.results52 _ _ (w.heap.size + 1) _ _ _ _ rfl (heap_set6 ((heap_oth (by omega)).trans ((heap_oth (by omega)).trans ((heap_oth (by omega)).trans ((heap_oth (by omega)).trans k1.out)))) _ _ _ _ _ _) Tryd.underlying31 rfl (by kernel_rfl)) rfl ⟨rfl, below_set6 ((((hq.out.setCell (p := ⟨w.heap.size + 1 + 1, 1, none⟩) (by show w.heap.size ≤ w.heap.size + 1 + 1; omega) _).setCell (p := ⟨w.heap.size + 1 + 1, 2, none⟩) (by show w.heap.size ≤ w.heap.size + 1 + 1; omega) _).setCell (p := ⟨w.heap.size + 1 + 1, 3, none⟩) (by show w.heap.size ≤ w.heap.size + 1 + 1; omega) _).setCell (p := ⟨w.heap.size + 1 + 1, 4, none⟩) (by show w.heap.size ≤ w.heap.size + 1 + 1; omega) _) (by omega) _ _ _ _ _ _⟩
set_option maxHeartbeats 2000000 in
set_option maxRecDepth 100000 in
theorem kept_o5 (r a b n : Int) (aa : Option Addr) (acap : Nat) (args : List Int) (w : World) :
    Calls Tryd.prog 52 #[(⟨5, r, a, b, n, aa, acap, args⟩ : Ins).val] w fun e w' => e = .returned (.agg ⟨(keptP (⟨5, r, a, b, n, aa, acap, args⟩ : Ins)).vals⟩) ∧ Below w.heap.size w w' := by
  have hk : keptP (⟨5, r, a, b, n, aa, acap, args⟩ : Ins) = ⟨5, r, a, 0, n, none, 0, []⟩ := rfl
  rw [hk]
  clear hk
  have hw := Lib.hid (fun V => rwrites_any (⟨5, r, a, b, n, aa, acap, args⟩ : Ins) V)
  obtain ⟨g0, g1, g2⟩ := ins3 w (.cells ⟨(⟨5, r, a, b, n, aa, acap, args⟩ : Ins).vals⟩ 31) (.cells #[.int .u8 0, .int .i64 0, .int .i64 0, .int .i64 0, .int .i64 0, .slice none 0 0] 31) (.cells #[.int .u8 5, .int .i64 0, .int .i64 0, .int .i64 0, .int .i64 0, .slice none 0 0] 31)
  have hst := Lib.hid (b_alloc3 w (.cells ⟨(⟨5, r, a, b, n, aa, acap, args⟩ : Ins).vals⟩ 31) (.cells #[.int .u8 0, .int .i64 0, .int .i64 0, .int .i64 0, .int .i64 0, .slice none 0 0] 31) (.cells #[.int .u8 5, .int .i64 0, .int .i64 0, .int .i64 0, .int .i64 0, .slice none 0 0] 31))
  replace g0 := Lib.hid g0
  replace g1 := Lib.hid g1
  replace g2 := Lib.hid g2
  go_enter Tryd.func52, Tryd.ntmps52
  go_wp2_with fail
  refine (hw.out _).mono ?_
  rintro e w1 ⟨rfl, hb⟩
  have hs1 : w.heap.size + 3 ≤ w1.heap.size := by have := hb.size; simp at this; omega
  have hl0 : w.heap.size < w1.heap.size := by omega
  have hl1 : w.heap.size + 1 < w1.heap.size := by omega
  have hl2 : w.heap.size + 1 + 1 < w1.heap.size := by omega
  have k0 : w1.heap[w.heap.size]? = _ := (hb.block _ (by first | (simp; done) | (simp; omega))).trans g0.out
  have k1 : w1.heap[w.heap.size + 1]? = _ := (hb.block _ (by first | (simp; done) | (simp; omega))).trans g1.out
  have k2 : w1.heap[w.heap.size + 1 + 1]? = _ := (hb.block _ (by first | (simp; done) | (simp; omega))).trans g2.out
  obtain ⟨q0, q1, q2, q3, q4, q5⟩ := ins_cells (i := (⟨5, r, a, b, n, aa, acap, args⟩ : Ins)) (cells_of (t := 31) k0)
  obtain ⟨z0, z1, z2, z3, z4, z5⟩ := ins_cells (i := ⟨5, 0, 0, 0, 0, none, 0, []⟩) (cells_of (t := 31) k2)
  have x0 := blk_free k2 0
  have x1 := blk_free k2 1
  have x2 := blk_free k2 2
  have x3 := blk_free k2 3
  have x4 := blk_free k2 4
  have x5 := blk_free k2 5
  obtain ⟨y0, y1, y2, y3, y4, y5⟩ := ins_cells (i := ⟨0, 0, 0, 0, 0, none, 0, []⟩) (cells_of (t := 31) k1)
  have u0 := blk_free k1 0
  have u1 := blk_free k1 1
  have u2 := blk_free k1 2
  have u3 := blk_free k1 3
  have u4 := blk_free k1 4
  have u5 := blk_free k1 5
  have hq := Lib.hid (hst.out.trans (hb.mono hst.out.size))
  replace k1 := Lib.hid k1
  clear hb k0 k2 g0 g1 g2
  go_wp2_with fail
  exact bodyPost_ret (v := .agg #[.int .u8 5, .int .i64 r, .int .i64 a, .int .i64 0, .int .i64 n, .slice none 0 0]) (results_cell_row Tryd.results52 _ _ (w.heap.size + 1) _ _ _ _ rfl (heap_set6 ((heap_oth (by omega)).trans ((heap_oth (by omega)).trans ((heap_oth (by omega)).trans k1.out))) _ _ _ _ _ _) Tryd.underlying31 rfl (by kernel_rfl)) rfl ⟨rfl, below_set6 (((hq.out.setCell (p := ⟨w.heap.size + 1 + 1, 1, none⟩) (by show w.heap.size ≤ w.heap.size + 1 + 1; omega) _).setCell (p := ⟨w.heap.size + 1 + 1, 2, none⟩) (by show w.heap.size ≤ w.heap.size + 1 + 1; omega) _).setCell (p := ⟨w.heap.size + 1 + 1, 4, none⟩) (by show w.heap.size ≤ w.heap.size + 1 + 1; omega) _) (by omega) _ _ _ _ _ _⟩
set_option maxHeartbeats 2000000 in
set_option maxRecDepth 100000 in
theorem kept_o6 (r a b n : Int) (aa : Option Addr) (acap : Nat) (args : List Int) (w : World) :
    Calls Tryd.prog 52 #[(⟨6, r, a, b, n, aa, acap, args⟩ : Ins).val] w fun e w' => e = .returned (.agg ⟨(keptP (⟨6, r, a, b, n, aa, acap, args⟩ : Ins)).vals⟩) ∧ Below w.heap.size w w' := by
  have hk : keptP (⟨6, r, a, b, n, aa, acap, args⟩ : Ins) = ⟨6, 0, a, b, n, none, 0, []⟩ := rfl
  rw [hk]
  clear hk
  have hw := Lib.hid (fun V => rwrites_any (⟨6, r, a, b, n, aa, acap, args⟩ : Ins) V)
  obtain ⟨g0, g1, g2⟩ := ins3 w (.cells ⟨(⟨6, r, a, b, n, aa, acap, args⟩ : Ins).vals⟩ 31) (.cells #[.int .u8 0, .int .i64 0, .int .i64 0, .int .i64 0, .int .i64 0, .slice none 0 0] 31) (.cells #[.int .u8 6, .int .i64 0, .int .i64 0, .int .i64 0, .int .i64 0, .slice none 0 0] 31)
  have hst := Lib.hid (b_alloc3 w (.cells ⟨(⟨6, r, a, b, n, aa, acap, args⟩ : Ins).vals⟩ 31) (.cells #[.int .u8 0, .int .i64 0, .int .i64 0, .int .i64 0, .int .i64 0, .slice none 0 0] 31) (.cells #[.int .u8 6, .int .i64 0, .int .i64 0, .int .i64 0, .int .i64 0, .slice none 0 0] 31))
  replace g0 := Lib.hid g0
  replace g1 := Lib.hid g1
  replace g2 := Lib.hid g2
  go_enter Tryd.func52, Tryd.ntmps52
  go_wp2_with fail
  refine (hw.out _).mono ?_
  rintro e w1 ⟨rfl, hb⟩
  have hs1 : w.heap.size + 3 ≤ w1.heap.size := by have := hb.size; simp at this; omega
  have hl0 : w.heap.size < w1.heap.size := by omega
  have hl1 : w.heap.size + 1 < w1.heap.size := by omega
  have hl2 : w.heap.size + 1 + 1 < w1.heap.size := by omega
  have k0 : w1.heap[w.heap.size]? = _ := (hb.block _ (by first | (simp; done) | (simp; omega))).trans g0.out
  have k1 : w1.heap[w.heap.size + 1]? = _ := (hb.block _ (by first | (simp; done) | (simp; omega))).trans g1.out
  have k2 : w1.heap[w.heap.size + 1 + 1]? = _ := (hb.block _ (by first | (simp; done) | (simp; omega))).trans g2.out
  obtain ⟨q0, q1, q2, q3, q4, q5⟩ := ins_cells (i := (⟨6, r, a, b, n, aa, acap, args⟩ : Ins)) (cells_of (t := 31) k0)
  obtain ⟨z0, z1, z2, z3, z4, z5⟩ := ins_cells (i := ⟨6, 0, 0, 0, 0, none, 0, []⟩) (cells_of (t := 31) k2)
  have x0 := blk_free k2 0
  have x1 := blk_free k2 1
  have x2 := blk_free k2 2
  have x3 := blk_free k2 3
  have x4 := blk_free k2 4
  have x5 := blk_free k2 5
  obtain ⟨y0, y1, y2, y3, y4, y5⟩ := ins_cells (i := ⟨0, 0, 0, 0, 0, none, 0, []⟩) (cells_of (t := 31) k1)
  have u0 := blk_free k1 0
  have u1 := blk_free k1 1
  have u2 := blk_free k1 2
  have u3 := blk_free k1 3
  have u4 := blk_free k1 4
  have u5 := blk_free k1 5
  have hq := Lib.hid (hst.out.trans (hb.mono hst.out.size))
  replace k1 := Lib.hid k1
  clear hb k0 k2 g0 g1 g2
  go_wp2_with fail
  exact bodyPost_ret (v := .agg #[.int .u8 6, .int .i64 0, .int .i64 a, .int .i64 b, .int .i64 n, .slice none 0 0]) (results_cell_row Tryd.results52 _ _ (w.heap.size + 1) _ _ _ _ rfl (heap_set6 ((heap_oth (by omega)).trans ((heap_oth (by omega)).trans ((heap_oth (by omega)).trans k1.out))) _ _ _ _ _ _) Tryd.underlying31 rfl (by kernel_rfl)) rfl ⟨rfl, below_set6 (((hq.out.setCell (p := ⟨w.heap.size + 1 + 1, 2, none⟩) (by show w.heap.size ≤ w.heap.size + 1 + 1; omega) _).setCell (p := ⟨w.heap.size + 1 + 1, 3, none⟩) (by show w.heap.size ≤ w.heap.size + 1 + 1; omega) _).setCell (p := ⟨w.heap.size + 1 + 1, 4, none⟩) (by show w.heap.size ≤ w.heap.size + 1 + 1; omega) _) (by omega) _ _ _ _ _ _⟩
set_option maxHeartbeats 2000000 in
set_option maxRecDepth 100000 in
theorem kept_o7 (r a b n : Int) (aa : Option Addr) (acap : Nat) (args : List Int) (w : World) :
    Calls Tryd.prog 52 #[(⟨7, r, a, b, n, aa, acap, args⟩ : Ins).val] w fun e w' => e = .returned (.agg ⟨(keptP (⟨7, r, a, b, n, aa, acap, args⟩ : Ins)).vals⟩) ∧ Below w.heap.size w w' := by
  have hk : keptP (⟨7, r, a, b, n, aa, acap, args⟩ : Ins) = ⟨7, 0, 0, 0, n, none, 0, []⟩ := rfl
  rw [hk]
  clear hk
  have hw := Lib.hid (fun V => rwrites_any (⟨7, r, a, b, n, aa, acap, args⟩ : Ins) V)
  obtain ⟨g0, g1, g2⟩ := ins3 w (.cells ⟨(⟨7, r, a, b, n, aa, acap, args⟩ : Ins).vals⟩ 31) (.cells #[.int .u8 0, .int .i64 0, .int .i64 0, .int .i64 0, .int .i64 0, .slice none 0 0] 31) (.cells #[.int .u8 7, .int .i64 0, .int .i64 0, .int .i64 0, .int .i64 0, .slice none 0 0] 31)
  have hst := Lib.hid (b_alloc3 w (.cells ⟨(⟨7, r, a, b, n, aa, acap, args⟩ : Ins).vals⟩ 31) (.cells #[.int .u8 0, .int .i64 0, .int .i64 0, .int .i64 0, .int .i64 0, .slice none 0 0] 31) (.cells #[.int .u8 7, .int .i64 0, .int .i64 0, .int .i64 0, .int .i64 0, .slice none 0 0] 31))
  replace g0 := Lib.hid g0
  replace g1 := Lib.hid g1
  replace g2 := Lib.hid g2
  go_enter Tryd.func52, Tryd.ntmps52
  go_wp2_with fail
  refine (hw.out _).mono ?_
  rintro e w1 ⟨rfl, hb⟩
  have hs1 : w.heap.size + 3 ≤ w1.heap.size := by have := hb.size; simp at this; omega
  have hl0 : w.heap.size < w1.heap.size := by omega
  have hl1 : w.heap.size + 1 < w1.heap.size := by omega
  have hl2 : w.heap.size + 1 + 1 < w1.heap.size := by omega
  have k0 : w1.heap[w.heap.size]? = _ := (hb.block _ (by first | (simp; done) | (simp; omega))).trans g0.out
  have k1 : w1.heap[w.heap.size + 1]? = _ := (hb.block _ (by first | (simp; done) | (simp; omega))).trans g1.out
  have k2 : w1.heap[w.heap.size + 1 + 1]? = _ := (hb.block _ (by first | (simp; done) | (simp; omega))).trans g2.out
  obtain ⟨q0, q1, q2, q3, q4, q5⟩ := ins_cells (i := (⟨7, r, a, b, n, aa, acap, args⟩ : Ins)) (cells_of (t := 31) k0)
  obtain ⟨z0, z1, z2, z3, z4, z5⟩ := ins_cells (i := ⟨7, 0, 0, 0, 0, none, 0, []⟩) (cells_of (t := 31) k2)
  have x0 := blk_free k2 0
  have x1 := blk_free k2 1
  have x2 := blk_free k2 2
  have x3 := blk_free k2 3
  have x4 := blk_free k2 4
  have x5 := blk_free k2 5
  obtain ⟨y0, y1, y2, y3, y4, y5⟩ := ins_cells (i := ⟨0, 0, 0, 0, 0, none, 0, []⟩) (cells_of (t := 31) k1)
  have u0 := blk_free k1 0
  have u1 := blk_free k1 1
  have u2 := blk_free k1 2
  have u3 := blk_free k1 3
  have u4 := blk_free k1 4
  have u5 := blk_free k1 5
  have hq := Lib.hid (hst.out.trans (hb.mono hst.out.size))
  replace k1 := Lib.hid k1
  clear hb k0 k2 g0 g1 g2
  go_wp2_with fail
  exact bodyPost_ret (v := .agg #[.int .u8 7, .int .i64 0, .int .i64 0, .int .i64 0, .int .i64 n, .slice none 0 0]) (results_cell_row Tryd.results52 _ _ (w.heap.size + 1) _ _ _ _ rfl (heap_set6 ((heap_oth (by omega)).trans k1.out) _ _ _ _ _ _) Tryd.underlying31 rfl (by kernel_rfl)) rfl ⟨rfl, below_set6 (hq.out.setCell (p := ⟨w.heap.size + 1 + 1, 4, none⟩) (by show w.heap.size ≤ w.heap.size + 1 + 1; omega) _) (by omega) _ _ _ _ _ _⟩
set_option maxHeartbeats 2000000 in
set_option maxRecDepth 100000 in
theorem kept_o8 (r a b n : Int) (aa : Option Addr) (acap : Nat) (args : List Int) (w : World) :
    Calls Tryd.prog 52 #[(⟨8, r, a, b, n, aa, acap, args⟩ : Ins).val] w fun e w' => e = .returned (.agg ⟨(keptP (⟨8, r, a, b, n, aa, acap, args⟩ : Ins)).vals⟩) ∧ Below w.heap.size w w' := by
  have hk : keptP (⟨8, r, a, b, n, aa, acap, args⟩ : Ins) = ⟨8, 0, 0, 0, n, none, 0, []⟩ := rfl
  rw [hk]
  clear hk
  have hw := Lib.hid (fun V => rwrites_any (⟨8, r, a, b, n, aa, acap, args⟩ : Ins) V)
  obtain ⟨g0, g1, g2⟩ := ins3 w (.cells ⟨(⟨8, r, a, b, n, aa, acap, args⟩ : Ins).vals⟩ 31) (.cells #[.int .u8 0, .int .i64 0, .int .i64 0, .int .i64 0, .int .i64 0, .slice none 0 0] 31) (.cells #[.int .u8 8, .int .i64 0, .int .i64 0, .int .i64 0, .int .i64 0, .slice none 0 0] 31)
  have hst := Lib.hid (b_alloc3 w (.cells ⟨(⟨8, r, a, b, n, aa, acap, args⟩ : Ins).vals⟩ 31) (.cells #[.int .u8 0, .int .i64 0, .int .i64 0, .int .i64 0, .int .i64 0, .slice none 0 0] 31) (.cells #[.int .u8 8, .int .i64 0, .int .i64 0, .int .i64 0, .int .i64 0, .slice none 0 0] 31))
  replace g0 := Lib.hid g0
  replace g1 := Lib.hid g1
  replace g2 := Lib.hid g2
  go_enter Tryd.func52, Tryd.ntmps52
  go_wp2_with fail
  refine (hw.out _).mono ?_
  rintro e w1 ⟨rfl, hb⟩
  have hs1 : w.heap.size + 3 ≤ w1.heap.size := by have := hb.size; simp at this; omega
  have hl0 : w.heap.size < w1.heap.size := by omega
  have hl1 : w.heap.size + 1 < w1.heap.size := by omega
  have hl2 : w.heap.size + 1 + 1 < w1.heap.size := by omega
  have k0 : w1.heap[w.heap.size]? = _ := (hb.block _ (by first | (simp; done) | (simp; omega))).trans g0.out
  have k1 : w1.heap[w.heap.size + 1]? = _ := (hb.block _ (by first | (simp; done) | (simp; omega))).trans g1.out
  have k2 : w1.heap[w.heap.size + 1 + 1]? = _ := (hb.block _ (by first | (simp; done) | (simp; omega))).trans g2.out
  obtain ⟨q0, q1, q2, q3, q4, q5⟩ := ins_cells (i := (⟨8, r, a, b, n, aa, acap, args⟩ : Ins)) (cells_of (t := 31) k0)
  obtain ⟨z0, z1, z2, z3, z4, z5⟩ := ins_cells (i := ⟨8, 0, 0, 0, 0, none, 0, []⟩) (cells_of (t := 31) k2)
  have x0 := blk_free k2 0
  have x1 := blk_free k2 1
  have x2 := blk_free k2 2
  have x3 := blk_free k2 3
  have x4 := blk_free k2 4
  have x5 := blk_free k2 5
  obtain ⟨y0, y1, y2, y3, y4, y5⟩ := ins_cells (i := ⟨0, 0, 0, 0, 0, none, 0, []⟩) (cells_of (t := 31) k1)
  have u0 := blk_free k1 0
  have u1 := blk_free k1 1
  have u2 := blk_free k1 2
  have u3 := blk_free k1 3
  have u4 := blk_free k1 4
  have u5 := blk_free k1 5
  have hq := Lib.hid (hst.out.trans (hb.mono hst.out.size))
  replace k1 := Lib.hid k1
  clear hb k0 k2 g0 g1 g2
  go_wp2_with fail
  exact bodyPost_ret (v := .agg #[.int .u8 8, .int .i64 0, .int .i64 0, .int .i64 0, .int .i64 n, .slice none 0 0]) (results_cell_row Tryd.results52 _ _ (w.heap.size + 1) _ _ _ _ rfl (heap_set6 ((heap_oth (by omega)).trans k1.out) _ _ _ _ _ _) Tryd.underlying31 rfl (by kernel_rfl)) rfl ⟨rfl, below_set6 (hq.out.setCell (p := ⟨w.heap.size + 1 + 1, 4, none⟩) (by show w.heap.size ≤ w.heap.size + 1 + 1; omega) _) (by omega) _ _ _ _ _ _⟩
set_option maxHeartbeats 2000000 in
set_option maxRecDepth 100000 in
theorem kept_o9 (r a b n : Int) (aa : Option Addr) (acap : Nat) (args : List Int) (w : World) :
    Calls Tryd.prog 52 #[(⟨9, r, a, b, n, aa, acap, args⟩ : Ins).val] w fun e w' => e = .returned (.agg ⟨(keptP (⟨9, r, a, b, n, aa, acap, args⟩ : Ins)).vals⟩) ∧ Below w.heap.size w w' := by
  have hk : keptP (⟨9, r, a, b, n, aa, acap, args⟩ : Ins) = ⟨9, 0, a, 0, 0, none, 0, []⟩ := rfl
  rw [hk]
  clear hk
  have hw := Lib.hid (fun V => rwrites_any (⟨9, r, a, b, n, aa, acap, args⟩ : Ins) V)
  obtain ⟨g0, g1, g2⟩ := ins3 w (.cells ⟨(⟨9, r, a, b, n, aa, acap, args⟩ : Ins).vals⟩ 31) (.cells #[.int .u8 0, .int .i64 0, .int .i64 0, .int .i64 0, .int .i64 0, .slice none 0 0] 31) (.cells #[.int .u8 9, .int .i64 0, .int .i64 0, .int .i64 0, .int .i64 0, .slice none 0 0] 31)
  have hst := Lib.hid (b_alloc3 w (.cells ⟨(⟨9, r, a, b, n, aa, acap, args⟩ : Ins).vals⟩ 31) (.cells #[.int .u8 0, .int .i64 0, .int .i64 0, .int .i64 0, .int .i64 0, .slice none 0 0] 31) (.cells #[.int .u8 9, .int .i64 0, .int .i64 0, .int .i64 0, .int .i64 0, .slice none 0 0] 31))
  replace g0 := Lib.hid g0
  replace g1 := Lib.hid g1
  replace g2 := Lib.hid g2
  go_enter Tryd.func52, Tryd.ntmps52
  go_wp2_with fail
  refine (hw.out _).mono ?_
  rintro e w1 ⟨rfl, hb⟩
  have hs1 : w.heap.size + 3 ≤ w1.heap.size := by have := hb.size; simp at this; omega
  have hl0 : w.heap.size < w1.heap.size := by omega
  have hl1 : w.heap.size + 1 < w1.heap.size := by omega
  have hl2 : w.heap.size + 1 + 1 < w1.heap.size := by omega
  have k0 : w1.heap[w.heap.size]? = _ := (hb.block _ (by first | (simp; done) | (simp; omega))).trans g0.out
  have k1 : w1.heap[w.heap.size + 1]? = _ := (hb.block _ (by first | (simp; done) | (simp; omega))).trans g1.out
  have k2 : w1.heap[w.heap.size + 1 + 1]? = _ := (hb.block _ (by first | (simp; done) | (simp; omega))).trans g2.out
  obtain ⟨q0, q1, q2, q3, q4, q5⟩ := ins_cells (i := (⟨9, r, a, b, n, aa, acap, args⟩ : Ins)) (cells_of (t := 31) k0)
  obtain ⟨z0, z1, z2, z3, z4, z5⟩ := ins_cells (i := ⟨9, 0, 0, 0, 0, none, 0, []⟩) (cells_of (t := 31) k2)
  have x0 := blk_free k2 0
  have x1 := blk_free k2 1
  have x2 := blk_free k2 2
  have x3 := blk_free k2 3
  have x4 := blk_free k2 4
  have x5 := blk_free k2 5
  obtain ⟨y0, y1, y2, y3, y4, y5⟩ := ins_cells (i := ⟨0, 0, 0, 0, 0, none, 0, []⟩) (cells_of (t := 31) k1)
  have u0 := blk_free k1 0
  have u1 := blk_free k1 1
  have u2 := blk_free k1 2
  have u3 := blk_free k1 3
  have u4 := blk_free k1 4
  have u5 := blk_free k1 5
  have hq := Lib.hid (hst.out.trans (hb.mono hst.out.size))
  replace k1 := Lib.hid k1
  clear hb k0 k2 g0 g1 g2
  go_wp2_with fail
  exact bodyPost_ret (v := .agg #[.int .u8 9, .int .i64 0, .int .i64 a, .int .i64 0, .int .i64 0, .slice none 0 0]) (results_cell_row Tryd.results52 _ _ (w.heap.size + 1) _ _ _ _ rfl (heap_set6 ((heap_oth (by omega)).trans k1.out) _ _ _ _ _ _) Tryd.underlying31 rfl (by kernel_rfl)) rfl ⟨rfl, below_set6 (hq.out.setCell (p := ⟨w.heap.size + 1 + 1, 2, none⟩) (by show w.heap.size ≤ w.heap.size + 1 + 1; omega) _) (by omega) _ _ _ _ _ _⟩
set_option maxHeartbeats 2000000 in
set_option maxRecDepth 100000 in
theorem kept_o10 (r a b n : Int) (aa : Option Addr) (acap : Nat) (args : List Int) (w : World) :
    Calls Tryd.prog 52 #[(⟨10, r, a, b, n, aa, acap, args⟩ : Ins).val] w fun e w' => e = .returned (.agg ⟨(keptP (⟨10, r, a, b, n, aa, acap, args⟩ : Ins)).vals⟩) ∧ Below w.heap.size w w' := by
  have hk : keptP (⟨10, r, a, b, n, aa, acap, args⟩ : Ins) = ⟨10, r, 0, 0, n, aa, acap, args⟩ := rfl
  rw [hk]
  clear hk
  have hw := Lib.hid (fun V => rwrites_any (⟨10, r, a, b, n, aa, acap, args⟩ : Ins) V)
  obtain ⟨g0, g1, g2⟩ := ins3 w (.cells ⟨(⟨10, r, a, b, n, aa, acap, args⟩ : Ins).vals⟩ 31) (.cells #[.int .u8 0, .int .i64 0, .int .i64 0, .int .i64 0, .int .i64 0, .slice none 0 0] 31) (.cells #[.int .u8 10, .int .i64 0, .int .i64 0, .int .i64 0, .int .i64 0, .slice none 0 0] 31)
  have hst := Lib.hid (b_alloc3 w (.cells ⟨(⟨10, r, a, b, n, aa, acap, args⟩ : Ins).vals⟩ 31) (.cells #[.int .u8 0, .int .i64 0, .int .i64 0, .int .i64 0, .int .i64 0, .slice none 0 0] 31) (.cells #[.int .u8 10, .int .i64 0, .int .i64 0, .int .i64 0, .int .i64 0, .slice none 0 0] 31))
  replace g0 := Lib.hid g0
  replace g1 := Lib.hid g1
  replace g2 := Lib.hid g2
  go_enter Tryd.func52, Tryd.ntmps52
  go_wp2_with fail
  refine (hw.out _).mono ?_
  rintro e w1 ⟨rfl, hb⟩
  have hs1 : w.heap.size + 3 ≤ w1.heap.size := by have := hb.size; simp at this; omega
  have hl0 : w.heap.size < w1.heap.size := by omega
  have hl1 : w.heap.size + 1 < w1.heap.size := by omega
  have hl2 : w.heap.size + 1 + 1 < w1.heap.size := by omega
  have k0 : w1.heap[w.heap.size]? = _ := (hb.block _ (by first | (simp; done) | (simp; omega))).trans g0.out
  have k1 : w1.heap[w.heap.size + 1]? = _ := (hb.block _ (by first | (simp; done) | (simp; omega))).trans g1.out
  have k2 : w1.heap[w.heap.size + 1 + 1]? = _ := (hb.block _ (by first | (simp; done) | (simp; omega))).trans g2.out
  obtain ⟨q0, q1, q2, q3, q4, q5⟩ := ins_cells (i := (⟨10, r, a, b, n, aa, acap, args⟩ : Ins)) (cells_of (t := 31) k0)
  obtain ⟨z0, z1, z2, z3, z4, z5⟩ := ins_cells (i := ⟨10, 0, 0, 0, 0, none, 0, []⟩) (cells_of (t := 31) k2)
  have x0 := blk_free k2 0
  have x1 := blk_free k2 1
  have x2 := blk_free k2 2
  have x3 := blk_free k2 3
  have x4 := blk_free k2 4
  have x5 := blk_free k2 5
  obtain ⟨y0, y1, y2, y3, y4, y5⟩ := ins_cells (i := ⟨0, 0, 0, 0, 0, none, 0, []⟩) (cells_of (t := 31) k1)
  have u0 := blk_free k1 0
  have u1 := blk_free k1 1
  have u2 := blk_free k1 2
  have u3 := blk_free k1 3
  have u4 := blk_free k1 4
  have u5 := blk_free k1 5
  have hq := Lib.hid (hst.out.trans (hb.mono hst.out.size))
  replace k1 := Lib.hid k1
  clear hb k0 k2 g0 g1 g2
  go_wp2_with fail
  exact bodyPost_ret (v := .agg #[.int .u8 10, .int .i64 r, .int .i64 0, .int .i64 0, .int .i64 n, .slice aa args.length acap]) (results_cell_row Tryd.results52 _ _ (w.heap.size + 1) _ _ _ _ rfl (heap_set6 ((heap_oth (by omega)).trans ((heap_oth (by omega)).trans ((heap_oth (by omega)).trans k1.out))) _ _ _ _ _ _) Tryd.underlying31 rfl (by kernel_rfl)) rfl ⟨rfl, below_set6 (((hq.out.setCell (p := ⟨w.heap.size + 1 + 1, 1, none⟩) (by show w.heap.size ≤ w.heap.size + 1 + 1; omega) _).setCell (p := ⟨w.heap.size + 1 + 1, 4, none⟩) (by show w.heap.size ≤ w.heap.size + 1 + 1; omega) _).setCell (p := ⟨w.heap.size + 1 + 1, 5, none⟩) (by show w.heap.size ≤ w.heap.size + 1 + 1; omega) _) (by omega) _ _ _ _ _ _⟩
set_option maxHeartbeats 2000000 in
set_option maxRecDepth 100000 in
theorem kept_o11 (r a b n : Int) (aa : Option Addr) (acap : Nat) (args : List Int) (w : World) :
    Calls Tryd.prog 52 #[(⟨11, r, a, b, n, aa, acap, args⟩ : Ins).val] w fun e w' => e = .returned (.agg ⟨(keptP (⟨11, r, a, b, n, aa, acap, args⟩ : Ins)).vals⟩) ∧ Below w.heap.size w w' := by
  have hk : keptP (⟨11, r, a, b, n, aa, acap, args⟩ : Ins) = ⟨11, 0, 0, 0, n, none, 0, []⟩ := rfl
  rw [hk]
  clear hk
  have hw := Lib.hid (fun V => rwrites_any (⟨11, r, a, b, n, aa, acap, args⟩ : Ins) V)
  obtain ⟨g0, g1, g2⟩ := ins3 w (.cells ⟨(⟨11, r, a, b, n, aa, acap, args⟩ : Ins).vals⟩ 31) (.cells #[.int .u8 0, .int .i64 0, .int .i64 0, .int .i64 0, .int .i64 0, .slice none 0 0] 31) (.cells #[.int .u8 11, .int .i64 0, .int .i64 0, .int .i64 0, .int .i64 0, .slice none 0 0] 31)
  have hst := Lib.hid (b_alloc3 w (.cells ⟨(⟨11, r, a, b, n, aa, acap, args⟩ : Ins).vals⟩ 31) (.cells #[.int .u8 0, .int .i64 0, .int .i64 0, .int .i64 0, .int .i64 0, .slice none 0 0] 31) (.cells #[.int .u8 11, .int .i64 0, .int .i64 0, .int .i64 0, .int .i64 0, .slice none 0 0] 31))
  replace g0 := Lib.hid g0
  replace g1 := Lib.hid g1
  replace g2 := Lib.hid g2
  go_enter Tryd.func52, Tryd.ntmps52
  go_wp2_with fail
  refine (hw.out _).mono ?_
  rintro e w1 ⟨rfl, hb⟩
  have hs1 : w.heap.size + 3 ≤ w1.heap.size := by have := hb.size; simp at this; omega
  have hl0 : w.heap.size < w1.heap.size := by omega
  have hl1 : w.heap.size + 1 < w1.heap.size := by omega
  have hl2 : w.heap.size + 1 + 1 < w1.heap.size := by omega
  have k0 : w1.heap[w.heap.size]? = _ := (hb.block _ (by first | (simp; done) | (simp; omega))).trans g0.out
  have k1 : w1.heap[w.heap.size + 1]? = _ := (hb.block _ (by first | (simp; done) | (simp; omega))).trans g1.out
  have k2 : w1.heap[w.heap.size + 1 + 1]? = _ := (hb.block _ (by first | (simp; done) | (simp; omega))).trans g2.out
  obtain ⟨q0, q1, q2, q3, q4, q5⟩ := ins_cells (i := (⟨11, r, a, b, n, aa, acap, args⟩ : Ins)) (cells_of (t := 31) k0)
  obtain ⟨z0, z1, z2, z3, z4, z5⟩ := ins_cells (i := ⟨11, 0, 0, 0, 0, none, 0, []⟩) (cells_of (t := 31) k2)
  have x0 := blk_free k2 0
  have x1 := blk_free k2 1
  have x2 := blk_free k2 2
  have x3 := blk_free k2 3
  have x4 := blk_free k2 4
  have x5 := blk_free k2 5
  obtain ⟨y0, y1, y2, y3, y4, y5⟩ := ins_cells (i := ⟨0, 0, 0, 0, 0, none, 0, []⟩) (cells_of (t := 31) k1)
  have u0 := blk_free k1 0
  have u1 := blk_free k1 1
  have u2 := blk_free k1 2
  have u3 := blk_free k1 3
  have u4 := blk_free k1 4
  have u5 := blk_free k1 5
  have hq := Lib.hid (hst.out.trans (hb.mono hst.out.size))
  replace k1 := Lib.hid k1
  clear hb k0 k2 g0 g1 g2
  go_wp2_with fail
  exact bodyPost_ret (v := .agg #[.int .u8 11, .int .i64 0, .int .i64 0, .int .i64 0, .int .i64 n, .slice none 0 0]) (results_cell_row Tryd.results52 _ _ (w.heap.size + 1) _ _ _ _ rfl (heap_set6 ((heap_oth (by omega)).trans k1.out) _ _ _ _ _ _) Tryd.underlying31 rfl (by kernel_rfl)) rfl ⟨rfl, below_set6 (hq.out.setCell (p := ⟨w.heap.size + 1 + 1, 4, none⟩) (by show w.heap.size ≤ w.heap.size + 1 + 1; omega) _) (by omega) _ _ _ _ _ _⟩
set_option maxHeartbeats 2000000 in
set_option maxRecDepth 100000 in
theorem kept_o12 (r a b n : Int) (aa : Option Addr) (acap : Nat) (args : List Int) (w : World) :
    Calls Tryd.prog 52 #[(⟨12, r, a, b, n, aa, acap, args⟩ : Ins).val] w fun e w' => e = .returned (.agg ⟨(keptP (⟨12, r, a, b, n, aa, acap, args⟩ : Ins)).vals⟩) ∧ Below w.heap.size w w' := by
  have hk : keptP (⟨12, r, a, b, n, aa, acap, args⟩ : Ins) = ⟨12, 0, a, 0, n, none, 0, []⟩ := rfl
  rw [hk]
  clear hk
  have hw := Lib.hid (fun V => rwrites_any (⟨12, r, a, b, n, aa, acap, args⟩ : Ins) V)
  obtain ⟨g0, g1, g2⟩ := ins3 w (.cells ⟨(⟨12, r, a, b, n, aa, acap, args⟩ : Ins).vals⟩ 31) (.cells #[.int .u8 0, .int .i64 0, .int .i64 0, .int .i64 0, .int .i64 0, .slice none 0 0] 31) (.cells #[.int .u8 12, .int .i64 0, .int .i64 0, .int .i64 0, .int .i64 0, .slice none 0 0] 31)
  have hst := Lib.hid (b_alloc3 w (.cells ⟨(⟨12, r, a, b, n, aa, acap, args⟩ : Ins).vals⟩ 31) (.cells #[.int .u8 0, .int .i64 0, .int .i64 0, .int .i64 0, .int .i64 0, .slice none 0 0] 31) (.cells #[.int .u8 12, .int .i64 0, .int .i64 0, .int .i64 0, .int .i64 0, .slice none 0 0] 31))
  replace g0 := Lib.hid g0
  replace g1 := Lib.hid g1
  replace g2 := Lib.hid g2
  go_enter Tryd.func52, Tryd.ntmps52
  go_wp2_with fail
  refine (hw.out _).mono ?_
  rintro e w1 ⟨rfl, hb⟩
  have hs1 : w.heap.size + 3 ≤ w1.heap.size := by have := hb.size; simp at this; omega
  have hl0 : w.heap.size < w1.heap.size := by omega
  have hl1 : w.heap.size + 1 < w1.heap.size := by omega
  have hl2 : w.heap.size + 1 + 1 < w1.heap.size := by omega
  have k0 : w1.heap[w.heap.size]? = _ := (hb.block _ (by first | (simp; done) | (simp; omega))).trans g0.out
  have k1 : w1.heap[w.heap.size + 1]? = _ := (hb.block _ (by first | (simp; done) | (simp; omega))).trans g1.out
  have k2 : w1.heap[w.heap.size + 1 + 1]? = _ := (hb.block _ (by first | (simp; done) | (simp; omega))).trans g2.out
  obtain ⟨q0, q1, q2, q3, q4, q5⟩ := ins_cells (i := (⟨12, r, a, b, n, aa, acap, args⟩ : Ins)) (cells_of (t := 31) k0)
  obtain ⟨z0, z1, z2, z3, z4, z5⟩ := ins_cells (i := ⟨12, 0, 0, 0, 0, none, 0, []⟩) (cells_of (t := 31) k2)
  have x0 := blk_free k2 0
  have x1 := blk_free k2 1
  have x2 := blk_free k2 2
  have x3 := blk_free k2 3
  have x4 := blk_free k2 4
  have x5 := blk_free k2 5
  obtain ⟨y0, y1, y2, y3, y4, y5⟩ := ins_cells (i := ⟨0, 0, 0, 0, 0, none, 0, []⟩) (cells_of (t := 31) k1)
  have u0 := blk_free k1 0
  have u1 := blk_free k1 1
  have u2 := blk_free k1 2
  have u3 := blk_free k1 3
  have u4 := blk_free k1 4
  have u5 := blk_free k1 5
  have hq := Lib.hid (hst.out.trans (hb.mono hst.out.size))
  replace k1 := Lib.hid k1
  clear hb k0 k2 g0 g1 g2
  go_wp2_with fail
  exact bodyPost_ret (v := .agg #[.int .u8 12, .int .i64 0, .int .i64 a, .int .i64 0, .int .i64 n, .slice none 0 0]) (results_cell_row Tryd.results52 _ _ (w.heap.size + 1) _ _ _ _ rfl (heap_set6 ((heap_oth (by omega)).trans ((heap_oth (by omega)).trans k1.out)) _ _ _ _ _ _) Tryd.underlying31 rfl (by kernel_rfl)) rfl ⟨rfl, below_set6 ((hq.out.setCell (p := ⟨w.heap.size + 1 + 1, 2, none⟩) (by show w.heap.size ≤ w.heap.size + 1 + 1; omega) _).setCell (p := ⟨w.heap.size + 1 + 1, 4, none⟩) (by show w.heap.size ≤ w.heap.size + 1 + 1; omega) _) (by omega) _ _ _ _ _ _⟩
set_option maxHeartbeats 2000000 in
set_option maxRecDepth 100000 in
theorem kept_o13 (r a b n : Int) (aa : Option Addr) (acap : Nat) (args : List Int) (w : World) :
    Calls Tryd.prog 52 #[(⟨13, r, a, b, n, aa, acap, args⟩ : Ins).val] w fun e w' => e = .returned (.agg ⟨(keptP (⟨13, r, a, b, n, aa, acap, args⟩ : Ins)).vals⟩) ∧ Below w.heap.size w w' := by
  have hk : keptP (⟨13, r, a, b, n, aa, acap, args⟩ : Ins) = ⟨13, 0, a, 0, 0, none, 0, []⟩ := rfl
  rw [hk]
  clear hk
  have hw := Lib.hid (fun V => rwrites_any (⟨13, r, a, b, n, aa, acap, args⟩ : Ins) V)
  obtain ⟨g0, g1, g2⟩ := ins3 w (.cells ⟨(⟨13, r, a, b, n, aa, acap, args⟩ : Ins).vals⟩ 31) (.cells #[.int .u8 0, .int .i64 0, .int .i64 0, .int .i64 0, .int .i64 0, .slice none 0 0] 31) (.cells #[.int .u8 13, .int .i64 0, .int .i64 0, .int .i64 0, .int .i64 0, .slice none 0 0] 31)
  have hst := Lib.hid (b_alloc3 w (.cells ⟨(⟨13, r, a, b, n, aa, acap, args⟩ : Ins).vals⟩ 31) (.cells #[.int .u8 0, .int .i64 0, .int .i64 0, .int .i64 0, .int .i64 0, .slice none 0 0] 31) (.cells #[.int .u8 13, .int .i64 0, .int .i64 0, .int .i64 0, .int .i64 0, .slice none 0 0] 31))
  replace g0 := Lib.hid g0
  replace g1 := Lib.hid g1
  replace g2 := Lib.hid g2
  go_enter Tryd.func52, Tryd.ntmps52
  go_wp2_with fail
  refine (hw.out _).mono ?_
  rintro e w1 ⟨rfl, hb⟩
  have hs1 : w.heap.size + 3 ≤ w1.heap.size := by have := hb.size; simp at this; omega
  have hl0 : w.heap.size < w1.heap.size := by omega
  have hl1 : w.heap.size + 1 < w1.heap.size := by omega
  have hl2 : w.heap.size + 1 + 1 < w1.heap.size := by omega
  have k0 : w1.heap[w.heap.size]? = _ := (hb.block _ (by first | (simp; done) | (simp; omega))).trans g0.out
  have k1 : w1.heap[w.heap.size + 1]? = _ := (hb.block _ (by first | (simp; done) | (simp; omega))).trans g1.out
  have k2 : w1.heap[w.heap.size + 1 + 1]? = _ := (hb.block _ (by first | (simp; done) | (simp; omega))).trans g2.out
  obtain ⟨q0, q1, q2, q3, q4, q5⟩ := ins_cells (i := (⟨13, r, a, b, n, aa, acap, args⟩ : Ins)) (cells_of (t := 31) k0)
  obtain ⟨z0, z1, z2, z3, z4, z5⟩ := ins_cells (i := ⟨13, 0, 0, 0, 0, none, 0, []⟩) (cells_of (t := 31) k2)
  have x0 := blk_free k2 0
  have x1 := blk_free k2 1
  have x2 := blk_free k2 2
  have x3 := blk_free k2 3
  have x4 := blk_free k2 4
  have x5 := blk_free k2 5
  obtain ⟨y0, y1, y2, y3, y4, y5⟩ := ins_cells (i := ⟨0, 0, 0, 0, 0, none, 0, []⟩) (cells_of (t := 31) k1)
  have u0 := blk_free k1 0
  have u1 := blk_free k1 1
  have u2 := blk_free k1 2
  have u3 := blk_free k1 3
  have u4 := blk_free k1 4
  have u5 := blk_free k1 5
  have hq := Lib.hid (hst.out.trans (hb.mono hst.out.size))
  replace k1 := Lib.hid k1
  clear hb k0 k2 g0 g1 g2
  go_wp2_with fail
  exact bodyPost_ret (v := .agg #[.int .u8 13, .int .i64 0, .int .i64 a, .int .i64 0, .int .i64 0, .slice none 0 0]) (results_cell_row Tryd.results52 _ _ (w.heap.size + 1) _ _ _ _ rfl (heap_set6 ((heap_oth (by omega)).trans k1.out) _ _ _ _ _ _) Tryd.underlying31 rfl (by kernel_rfl)) rfl ⟨rfl, below_set6 (hq.out.setCell (p := ⟨w.heap.size + 1 + 1, 2, none⟩) (by show w.heap.size ≤ w.heap.size + 1 + 1; omega) _) (by omega) _ _ _ _ _ _⟩
theorem kept_any (i : Ins) (w : World) (h : knownP i.op = true) :
    Calls Tryd.prog 52 #[i.val] w fun e w' => e = .returned (.agg ⟨(keptP i).vals⟩) ∧ Below w.heap.size w w' := by
  obtain ⟨op, r, a, b, n, aa, acap, args⟩ := i
  simp only [knownP, Bool.and_eq_true, decide_eq_true_eq] at h
  have h' : op = 1 ∨ op = 2 ∨ op = 3 ∨ op = 4 ∨ op = 5 ∨ op = 6 ∨ op = 7 ∨ op = 8 ∨ op = 9 ∨ op = 10 ∨ op = 11 ∨ op = 12 ∨ op = 13 := by omega
  rcases h' with rfl | rfl | rfl | rfl | rfl | rfl | rfl | rfl | rfl | rfl | rfl | rfl | rfl
  · exact kept_o1 r a b n aa acap args w
  · exact kept_o2 r a b n aa acap args w
  · exact kept_o3 r a b n aa acap args w
  · exact kept_o4 r a b n aa acap args w
  · exact kept_o5 r a b n aa acap args w
  · exact kept_o6 r a b n aa acap args w
  · exact kept_o7 r a b n aa acap args w
  · exact kept_o8 r a b n aa acap args w
  · exact kept_o9 r a b n aa acap args w
  · exact kept_o10 r a b n aa acap args w
  · exact kept_o11 r a b n aa acap args w
  · exact kept_o12 r a b n aa acap args w
  · exact kept_o13 r a b n aa acap args w
end Go.Proofs.YtiicjbnocpphdaaDoor.Cd
