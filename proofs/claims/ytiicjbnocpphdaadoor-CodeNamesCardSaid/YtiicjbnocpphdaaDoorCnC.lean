/- Walks of threads and of programs' closure of law07. Conditions: the number is small; what is handed in lies in memory. -/
import Derived.Test.YtiicjbnocpphdaaDoorCnB
set_option linter.unusedSimpArgs false
set_option linter.unusedVariables false
namespace Go.Proofs.YtiicjbnocpphdaaDoor.Cd
open Go Go.RowKit
open Go.Proofs.YtiicjbnocpphdaaDoor.Lx Go.Proofs.YtiicjbnocpphdaaDoor.Tr
open Go.Proofs.YtiicjbnocpphdaaDoor.Vq Go.Proofs.YtiicjbnocpphdaaDoor.Qr

theorem row_at (W : World) (vs : List Value) (t : TypeId) (B : Nat) (hB : W.heap.size = B) : ∀ j u, vs[j]? = some u → (W.alloc (.cells ⟨vs⟩ t)).cell? ((⟨B, 0, none⟩ : Addr).add j) = some u := fun j u hj => by
  subst hB
  rw [Go.WideShapes.add_plain, Nat.zero_add]
  exact box_new W vs t j u hj
theorem thr_In (V : World) (i b : Nat) (h : V.heap[b]? = some (.cells ⟨bk.vals⟩ 31 (0, 0))) : Fn.In V (fun _ => True) (thrF i b) :=
  ⟨by show 2 ≤ maxLen; unfold maxLen; decide, i64_0, (show I64 1 from i64_of (by decide) (by decide)), row_blk 1 h (by decide) trivial, fun x hx => by
    have hx' : x = ⟨13, 0, 0, 0, 0, none, 0, []⟩ := List.mem_singleton.1 hx
    rw [hx']
    exact back_In _ _⟩
set_option maxHeartbeats 8000000 in
set_option maxRecDepth 100000 in
theorem thr_any (n : Nat) (w : World) (hn : n ≤ 30) :
    Calls Tryd.prog 30 #[.int .i64 n] w fun e w' => ∃ v, e = .returned v ∧ VP ⟨none, 0, [], none, 0, [], none, 0, (List.range n).map thrE⟩ v w' ∧ Below w.heap.size w w' := by
  go_enter Tryd.func30, Tryd.ntmps30
  go_wp2_with fail
  have hW0 : ((w.alloc (boxP (.slice none 0 0))).alloc (boxP (.slice none 0 0))).heap.size = w.heap.size + 1 + 1 := by simp
  have hb0 : ((w.alloc (boxP (.slice none 0 0))).alloc (boxP (.slice none 0 0))).heap[w.heap.size]? = some (boxP (.slice none 0 0)) := (Below.heap_alloc _ _ _ (by simp)).trans (MapKept.heap_alloc w _).1
  have hb1 : ((w.alloc (boxP (.slice none 0 0))).alloc (boxP (.slice none 0 0))).heap[w.heap.size + 1]? = some (boxP (.slice none 0 0)) := blk_new _ _ (by simp)
  have hbw : Below w.heap.size w ((w.alloc (boxP (.slice none 0 0))).alloc (boxP (.slice none 0 0))) := b_alloc2 _ _ _
  unfold boxP at hW0 hb0 hb1 hbw
  go_loopw [4] (fun i wr => ∃ k : Nat, k ≤ n ∧ i = .int .i64 k ∧ ∃ a c l, Hid (wr.heap[w.heap.size]? = some (.cells #[.slice none 0 0, .slice none 0 0, .slice none 0 0] 27 (0, 0))) ∧ Hid (wr.heap[w.heap.size + 1]? = some (.cells #[.slice none 0 0, .slice none 0 0, .slice a k c] 27 (0, 0))) ∧ Hid (wr.ownsRow (w.heap.size + 2) 42 5 (.slice a k c) k (fnCells l)) ∧ Hid (Thr (w.heap.size + 2) (Value.slice a k c).ownBlock k l wr) ∧ Hid (Below w.heap.size w wr)) (fun i _ => n - (intOf i).toNat)
  case atStart => exact ⟨0, Nat.zero_le _, rfl, none, 0, [], Lib.hid hb0, Lib.hid hb1, Lib.hid (World.ownsRow_nil _ _ _ _), Lib.hid ⟨rfl, fun i f hi => by simp at hi⟩, Lib.hid hbw⟩
  case round =>
    obtain ⟨k, hk, rfl, a, c, l, g0, g1, hown, hthr, hb⟩ := hrel
    clear hb0 hb1 hbw hW0
    have y1 : wr.cell? ⟨w.heap.size + 1, 2, none⟩ = some (.slice a k c) := blk_cell g1.out rfl
    by_cases hkl : k < n
    · have hk1 : (k : Int) < (n : Int) := by omega
      have hcv := conv1 wr (97 + (k : Int))
      have hsa := fun V => run_string_add_sum (P := Tryd.prog) V (⟨#[116]⟩ : ByteArray) (strOfNums [97 + (k : Int)]) (by rw [strOfNums_size]; show 1 + 1 ≤ _; decide)
      rw [thrNm_eq] at hsa
      generalize strOfNums [97 + (k : Int)] = S0 at hcv hsa
      obtain ⟨i0, hi0, hz0, hz1, hz2⟩ := info_f
      have hsz := hb.out.size
      have l0 : w.heap.size < wr.heap.size := (Array.getElem?_eq_some_iff.1 g0.out).1
      have l1 : w.heap.size + 1 < wr.heap.size := (Array.getElem?_eq_some_iff.1 g1.out).1
      have hlt := Lib.hid (fun r e => hown.out.lt r e)
      have hnw : Hid (∀ W, Below wr.heap.size wr W → ∀ B, W.heap.size = B → ∀ j u, ((thrF k (wr.heap.size + 1)).vals)[j]? = some u → (W.alloc (.cells ⟨(thrF k (wr.heap.size + 1)).vals⟩ 42)).cell? ((⟨B, 0, none⟩ : Addr).add j) = some u) := Lib.hid fun W _ B hB => row_at W _ _ B hB
      have hbk : Hid (∀ o o' o2 w3, ((((wr.alloc o).alloc o').alloc o2).grownBy w3 (Value.slice a k c).ownBlock) → w3.heap[w.heap.size]? = some (.cells #[.slice none 0 0, .slice none 0 0, .slice none 0 0] 27 (0, 0)) ∧ w3.heap[w.heap.size + 1]? = some (.cells #[.slice none 0 0, .slice none 0 0, .slice a k c] 27 (0, 0)) ∧ Below w.heap.size w w3 ∧ w3.heap[wr.heap.size + 1]? = ((((wr.alloc o).alloc o').alloc o2)).heap[wr.heap.size + 1]? ∧ ∀ g, g < wr.heap.size → (Value.slice a k c).ownBlock ≠ some g → w3.heap[g]? = wr.heap[g]?) := Lib.hid fun o o' o2 w3 hg => by
        have hq := fun r e => hlt.out r e
        refine ⟨(hg.block _ (by simp <;> omega) (fun e => by have := hq _ e.symm; omega)).trans (((b_alloc3 wr o o' o2).block _ l0).trans g0.out), (hg.block _ (by simp <;> omega) (fun e => by have := hq _ e.symm; omega)).trans (((b_alloc3 wr o o' o2).block _ l1).trans g1.out), ((hb.out.trans ((b_alloc3 wr o o' o2).mono hsz))).grown hg (by simp <;> omega) (fun r e => by have := hq _ e; omega), hg.block _ (by simp <;> omega) (fun e => by have := hq _ e.symm; omega), fun g hgl hne => (hg.block _ (by simp <;> omega) (fun e => hne e.symm)).trans ((b_alloc3 wr o o' o2).block _ hgl)⟩
      go_wp2_with (at_builtin; refine wpList_append_own_at _ rfl _ _ 25 rfl (w.heap.size + 2) 42 i0 _ 5 64 Tryd.underlying25 hi0 hz0 hz1 hz2 rfl (by decide) _ k _ rfl (own_below hown.out (b_alloc3 _ _ _ _)) _ 1 1 ((thrF k (wr.heap.size + 1)).vals) rfl rfl (hnw.out _ (b_alloc2 _ _ _) _ (by simp)) (by intro u hu; simp [thrF, Fn.vals] at hu; rcases hu with rfl | rfl | rfl | rfl | rfl <;> rfl) (by unfold maxLen; omega) (by omega) (by simp; omega) ?_; intro v' w3 hown3 hg3 _ hat3; obtain ⟨m0, m1, m2, m3, m4⟩ := hbk.out _ _ _ _ hg3; obtain ⟨g2, c2, rfl, hg2B, hR⟩ := own_R hown3 (by omega); have s0 := blk_cell m1 (j := 2) rfl; have s1 : w3.frozen? ⟨w.heap.size + 1, 2, none⟩ = false := (by simp [World.frozen?, m1]))
      have h1 : Hid ((w3.setCell ⟨w.heap.size + 1, 2, none⟩ (.slice (some ⟨g2, 0, none⟩) (k + 1) c2)).heap[w.heap.size]? = some (.cells #[.slice none 0 0, .slice none 0 0, .slice none 0 0] 27 (0, 0))) := Lib.hid ((heap_set_ne (by omega) _ _).trans m0)
      have h2 : Hid ((w3.setCell ⟨w.heap.size + 1, 2, none⟩ (.slice (some ⟨g2, 0, none⟩) (k + 1) c2)).heap[w.heap.size + 1]? = some (.cells #[.slice none 0 0, .slice none 0 0, .slice (some ⟨g2, 0, none⟩) (k + 1) c2] 27 (0, 0))) := Lib.hid (heap_set m1 2 _)
      have h3 : Hid ((w3.setCell ⟨w.heap.size + 1, 2, none⟩ (.slice (some ⟨g2, 0, none⟩) (k + 1) c2)).ownsRow (w.heap.size + 2) 42 5 (.slice (some ⟨g2, 0, none⟩) (k + 1) c2) (k + 1) (fnCells (l ++ [thrF k (wr.heap.size + 1)]))) := Lib.hid (own_set_ne (by
        unfold fnCells at hown3 ⊢
        rw [List.flatMap_append]
        simpa using hown3) (by omega))
      have h4 : Hid (Below w.heap.size w (w3.setCell ⟨w.heap.size + 1, 2, none⟩ (.slice (some ⟨g2, 0, none⟩) (k + 1) c2))) := Lib.hid (m2.setCell (p := ⟨w.heap.size + 1, 2, none⟩) (by show w.heap.size ≤ w.heap.size + 1; omega) _)
      have h5 : Hid (Thr (w.heap.size + 2) (Value.slice (some ⟨g2, 0, none⟩) (k + 1) c2).ownBlock (k + 1) (l ++ [thrF k (wr.heap.size + 1)]) (w3.setCell ⟨w.heap.size + 1, 2, none⟩ (.slice (some ⟨g2, 0, none⟩) (k + 1) c2))) := Lib.hid (hthr.out.snoc (fun g hgl hgB hne => (heap_set_ne (by omega) _ _).trans (m4 g hgl hne)) (by
          rcases hat3 with e | e
          · exact Or.inl e
          · refine Or.inr ⟨_, e, ?_, ?_⟩ <;> (simp <;> omega)) ((heap_set_ne (by omega) _ _).trans (m3.trans ((Below.heap_alloc _ _ _ (by simp)).trans (blk_new _ _ (by simp))))) (by omega) (by omega) (fun g e => (hlt.out g e).2))
      clear hcv hsa hbk m0 m1 m2 m3 m4 hR hown3 hg3 s0 s1 g0 g1 hown hb y1 hthr hlt hnw hat3
      go_roundw
      case rel => exact ⟨k + 1, by omega, by go_num, _, _, _, h1, h2, h3, h5, h4⟩
      case measure => simp [intOf]; omega
    · have hk1 : ¬ (k : Int) < (n : Int) := by omega
      obtain rfl : k = n := by omega
      have y0 : wr.cell? ⟨w.heap.size + 1, 0, none⟩ = some (.slice none 0 0) := blk_cell g1.out rfl
      have y2 : wr.cell? ⟨w.heap.size + 1, 1, none⟩ = some (.slice none 0 0) := blk_cell g1.out rfl
      have z0 : wr.cell? ⟨w.heap.size, 0, none⟩ = some (.slice none 0 0) := blk_cell g0.out rfl
      have z1 : wr.cell? ⟨w.heap.size, 1, none⟩ = some (.slice none 0 0) := blk_cell g0.out rfl
      have z2 : wr.cell? ⟨w.heap.size, 2, none⟩ = some (.slice none 0 0) := blk_cell g0.out rfl
      have zf : ∀ j, wr.frozen? ⟨w.heap.size, j, none⟩ = false := fun j => by simp [World.frozen?, g0.out]
      have zf0 := zf 0
      have zf1 := zf 1
      have zf2 := zf 2
      obtain ⟨fa, fc, hv, hrow⟩ := own_V hown.out
      cases hv
      go_wp2_with fail
      have g5 := heap_set (heap_set (heap_set g0.out 0 (.slice none 0 0)) 1 (.slice none 0 0)) 2 (.slice a k c)
      have hbF := ((hb.out.setCell (p := ⟨w.heap.size, 0, none⟩) (Nat.le_refl _) (.slice none 0 0)).setCell (p := ⟨w.heap.size, 1, none⟩) (Nat.le_refl _) (.slice none 0 0)).setCell (p := ⟨w.heap.size, 2, none⟩) (Nat.le_refl _) (.slice a k c)
      have hne : ∀ g, w.heap.size + 2 ≤ g → (((wr.setCell ⟨w.heap.size, 0, none⟩ (.slice none 0 0)).setCell ⟨w.heap.size, 1, none⟩ (.slice none 0 0)).setCell ⟨w.heap.size, 2, none⟩ (.slice a k c)).heap[g]? = wr.heap[g]? := fun g hg => by rw [heap_set_ne (by omega), heap_set_ne (by omega), heap_set_ne (by omega)]
      have hrF := hrow _ (fun g hg _ => hne g hg)
      generalize ((wr.setCell ⟨w.heap.size, 0, none⟩ (.slice none 0 0)).setCell ⟨w.heap.size, 1, none⟩ (.slice none 0 0)).setCell ⟨w.heap.size, 2, none⟩ (.slice a k c) = WF at *
      refine bodyPost_ret (v := .agg #[.slice none 0 0, .slice none 0 0, .slice a k c]) (results_cell_row Tryd.results30 _ _ w.heap.size _ _ _ _ rfl g5 Tryd.underlying27 rfl (by kernel_rfl)) rfl ?_
      have hlen := hthr.out.len
      refine ⟨_, rfl, mk_pg mms_nil strs_nil ⟨l, a, c, hthr.out.er, by rw [hlen], by rw [hlen]; exact hrF, fun x hx => ?_⟩, hbF⟩
      obtain ⟨i, hi⟩ := List.mem_iff_getElem?.1 hx
      obtain ⟨b, rfl, h1, h2, _⟩ := hthr.out.ok i x hi
      exact thr_In _ _ _ ((hne b h2).trans h1)
set_option maxHeartbeats 4000000 in
set_option maxRecDepth 100000 in
/-- a program of one Fun -/
theorem fun_any (f : Fn) (w : World) (hf : Fn.In w (fun _ => True) f) :
    Calls Tryd.prog 28 #[.agg ⟨f.vals⟩] w fun e w' => ∃ v, e = .returned v ∧ VP ⟨none, 0, [], none, 0, [], none, 0, [f.er]⟩ v w' ∧ Below w.heap.size w w' := by
  have hx := fnB_cells (f := f) (fun j u hj => below_in (b_alloc _ (.cells #[.slice none 0 0, .slice none 0 0, .slice none 0 0] 27)) (box_new w f.vals 42 j u hj))
  unfold Fn.vals at hx ⊢
  obtain ⟨x0, x1, x2, x3, x4⟩ := hx
  go_enter Tryd.func28, Tryd.ntmps28
  go_wp2_with fail
  have g1 := (Below.heap_alloc _ (.cells #[.string f.name, .bool f.thread, .int .i64 f.params, .int .i64 f.regs, .slice f.ca f.code.length f.ccap] 42) _ (by simp)).trans (blk_new (w.alloc (.cells ⟨[.string f.name, .bool f.thread, .int .i64 f.params, .int .i64 f.regs, .slice f.ca f.code.length f.ccap]⟩ 42)) (.cells #[.slice none 0 0, .slice none 0 0, .slice (some ⟨w.heap.size + 1 + 1, 0, none⟩) 1 1] 27) (b := w.heap.size + 1) (by simp))
  have g2 := blk_new ((w.alloc (.cells ⟨[.string f.name, .bool f.thread, .int .i64 f.params, .int .i64 f.regs, .slice f.ca f.code.length f.ccap]⟩ 42)).alloc (.cells #[.slice none 0 0, .slice none 0 0, .slice (some ⟨w.heap.size + 1 + 1, 0, none⟩) 1 1] 27)) (.cells #[.string f.name, .bool f.thread, .int .i64 f.params, .int .i64 f.regs, .slice f.ca f.code.length f.ccap] 42) (b := w.heap.size + 1 + 1) (by simp)
  have hb := b_alloc3 w (.cells ⟨[.string f.name, .bool f.thread, .int .i64 f.params, .int .i64 f.regs, .slice f.ca f.code.length f.ccap]⟩ 42) (.cells #[.slice none 0 0, .slice none 0 0, .slice (some ⟨w.heap.size + 1 + 1, 0, none⟩) 1 1] 27) (.cells #[.string f.name, .bool f.thread, .int .i64 f.params, .int .i64 f.regs, .slice f.ca f.code.length f.ccap] 42)
  clear x0 x1 x2 x3 x4
  generalize ((w.alloc (.cells ⟨[.string f.name, .bool f.thread, .int .i64 f.params, .int .i64 f.regs, .slice f.ca f.code.length f.ccap]⟩ 42)).alloc (.cells #[.slice none 0 0, .slice none 0 0, .slice (some ⟨w.heap.size + 1 + 1, 0, none⟩) 1 1] 27)).alloc (.cells #[.string f.name, .bool f.thread, .int .i64 f.params, .int .i64 f.regs, .slice f.ca f.code.length f.ccap] 42) = WF at *
  refine bodyPost_ret (v := .agg #[.slice none 0 0, .slice none 0 0, .slice (some ⟨w.heap.size + 1 + 1, 0, none⟩) 1 1]) (results_cell_row Tryd.results28 _ _ (w.heap.size + 1) _ _ _ _ rfl g1 Tryd.underlying27 rfl (by kernel_rfl)) rfl ?_
  refine ⟨_, rfl, mk_pg mms_nil strs_nil ⟨[f], some ⟨w.heap.size + 1 + 1, 0, none⟩, 1, rfl, rfl, ?_, fun x hx => ?_⟩, hb⟩
  · exact row_blk (vs := fnCells [f]) 1 (by unfold fnCells Fn.vals; simpa using g2) (by decide) trivial
  · rw [List.mem_singleton.1 hx]
    exact hf.below (Kps.of_below hb)
end Go.Proofs.YtiicjbnocpphdaaDoor.Cd
