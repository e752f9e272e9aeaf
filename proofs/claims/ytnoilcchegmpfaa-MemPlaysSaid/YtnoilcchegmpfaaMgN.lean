/- Walk of the law's step: both memories answer alike, and are alike behind it. Conditions: both lie in the world, alike, apart; the numbers fit their kinds. -/
import Derived.Test.YtnoilcchegmpfaaMgJ
import Derived.Test.YtnoilcchegmpfaaMgK
import Derived.BigQuiet
set_option linter.unusedSimpArgs false
set_option linter.unusedVariables false
namespace Go.Proofs.Ytnoilcchegmpfaa.Me
open Go Go.RowKit

set_option maxHeartbeats 4000000 in
set_option maxRecDepth 100000 in
theorem do_set {w : World} {m : Mm} {d : Dm} (h : Pair w m d) (hn : m.n < 1000000) (k i v : Int) (hi : I64 i) :
    Calls Try.prog 9 #[.agg #[.int .u8 0, .int .i64 k, .int .i64 i, .int .i64 v], .pointer (some ⟨m.mb, 0, none⟩), .pointer (some ⟨d.mb, 0, none⟩)] w fun e w' => e = .returned (.bool true) ∧ PostB m d w (setC m.C k i v) (m.h) w' := by
  have hbx := b_alloc w (.cells #[.int .u8 0, .int .i64 k, .int .i64 i, .int .i64 v] 35)
  have hP : Hid (Pair ((w.alloc (.cells #[.int .u8 0, .int .i64 k, .int .i64 i, .int .i64 v] 35)).drew) m d) := Lib.hid ((h.below hbx).keep (Nat.le_refl _) (fun _ _ => rfl) (fun _ _ => rfl))
  have hfin : Hid (∀ W', PostB m d ((w.alloc (.cells #[.int .u8 0, .int .i64 k, .int .i64 i, .int .i64 v] 35)).drew) (setC m.C k i v) (m.h) W' → PostB m d w (setC m.C k i v) (m.h) W') := Lib.hid fun W' q => .new h q
  have hfar : Hid (∀ V W' : World, V.heap[w.heap.size]? = (w.alloc (.cells #[.int .u8 0, .int .i64 k, .int .i64 i, .int .i64 v] 35)).heap[w.heap.size]? → V.cell? ⟨w.heap.size, 1, none⟩ = some (.int .i64 k) ∧ V.cell? ⟨w.heap.size, 2, none⟩ = some (.int .i64 i) ∧ V.cell? ⟨w.heap.size, 3, none⟩ = some (.int .i64 v)) := Lib.hid fun V _ hV => by
    have := hV.trans (MapKept.heap_alloc w (.cells #[.int .u8 0, .int .i64 k, .int .i64 i, .int .i64 v] 35)).1
    exact ⟨blk_cell this rfl, blk_cell this rfl, blk_cell this rfl⟩
  have hout : ¬ m.foot w.heap.size := fun e => Nat.lt_irrefl _ (h.i.foot_lt e)
  have hout2 : ¬ d.foot w.heap.size := fun e => Nat.lt_irrefl _ (h.lt _ e)
  have hlt0 : w.heap.size < ((w.alloc (.cells #[.int .u8 0, .int .i64 k, .int .i64 i, .int .i64 v] 35)).drew).heap.size := by show _ < (w.alloc _).heap.size; simp
  clear h hbx
  go_enter Try.func9, Try.ntmps9
  go_upto_region 3 with fail
  generalize hW0 : (w.alloc (.cells #[.int .u8 0, .int .i64 k, .int .i64 i, .int .i64 v] 35)).drew = W0 at *
  have hS0 : (fun X : World => X.cell? ⟨w.heap.size, 1, none⟩ = some (.int .i64 k) ∧ X.cell? ⟨w.heap.size, 2, none⟩ = some (.int .i64 i) ∧ X.cell? ⟨w.heap.size, 3, none⟩ = some (.int .i64 v)) W0 := hfar.out W0 W0 (by rw [← hW0]; rfl)
  have hfr : Hid (∀ V : World, V.heap[w.heap.size]? = W0.heap[w.heap.size]? → V.cell? ⟨w.heap.size, 1, none⟩ = some (.int .i64 k) ∧ V.cell? ⟨w.heap.size, 2, none⟩ = some (.int .i64 i) ∧ V.cell? ⟨w.heap.size, 3, none⟩ = some (.int .i64 v)) := Lib.hid fun V hV => hfar.out V V (hV.trans (by rw [← hW0]; rfl))
  refine wp_region_noPanic ?_
  refine wp_region_held (S := (fun X : World => X.cell? ⟨w.heap.size, 1, none⟩ = some (.int .i64 k) ∧ X.cell? ⟨w.heap.size, 2, none⟩ = some (.int .i64 i) ∧ X.cell? ⟨w.heap.size, 3, none⟩ = some (.int .i64 v))) (by kernel_rfl) ?_
  show wpAnyH _ _ _ _ _ _ _ _ (World.drew _)
  rw [hW0]
  clear hW0 hfar
  · skip
    refine' wpAnyH_take (i := 0) (oi := _) (v := _) rfl (by kernel_rfl) (by kernel_rfl) (by kernel_rfl) (fun _ _ _ h => h) (Or.inl ⟨by rfl, ?hyp0⟩) (by assumption) ?restp0
    case hyp0 => (intro w hSw; obtain ⟨s0, s1, s2⟩ := hSw; go_simp; all_goals (with_reducible rfl))
    try simp only [Act.put, List.getElem_toArray, List.getElem_cons_zero, List.getElem_cons_succ, List.setIfInBounds_toArray, List.set_cons_zero, List.set_cons_succ]
    refine' wpAnyH_take (i := 1) (oi := _) (v := _) rfl (by kernel_rfl) (by kernel_rfl) (by kernel_rfl) (fun _ _ _ h => h) (Or.inl ⟨by rfl, ?hyp1⟩) (by assumption) ?restp1
    case hyp1 => (intro w hSw; obtain ⟨s0, s1, s2⟩ := hSw; go_simp; all_goals (with_reducible rfl))
    try simp only [Act.put, List.getElem_toArray, List.getElem_cons_zero, List.getElem_cons_succ, List.setIfInBounds_toArray, List.set_cons_zero, List.set_cons_succ]
    refine' wpAnyH_take (i := 2) (oi := _) (v := _) rfl (by kernel_rfl) (by kernel_rfl) (by kernel_rfl) (fun _ _ _ h => h) (Or.inl ⟨by rfl, ?hyp2⟩) (by assumption) ?restp2
    case hyp2 => (intro w hSw; obtain ⟨s0, s1, s2⟩ := hSw; go_simp; all_goals (with_reducible rfl))
    try simp only [Act.put, List.getElem_toArray, List.getElem_cons_zero, List.getElem_cons_succ, List.setIfInBounds_toArray, List.set_cons_zero, List.set_cons_succ]
    refine' wpAnyH_take (i := 3) (oi := _) (v := _) rfl (by kernel_rfl) (by kernel_rfl) (by kernel_rfl) (fun _ _ _ h => h) (Or.inl ⟨by rfl, ?hyp3⟩) (by assumption) ?restp3
    case hyp3 => (intro w hSw; obtain ⟨s0, s1, s2⟩ := hSw; go_simp; all_goals (with_reducible rfl))
    try simp only [Act.put, List.getElem_toArray, List.getElem_cons_zero, List.getElem_cons_succ, List.setIfInBounds_toArray, List.set_cons_zero, List.set_cons_succ]
    refine' wpAnyH_take (i := 4) (oi := _) (v := _) rfl (by kernel_rfl) (by kernel_rfl) (by kernel_rfl) (fun _ _ _ h => h) (Or.inl ⟨by rfl, ?hyp4⟩) (by assumption) ?restp4
    case hyp4 => (intro w hSw; obtain ⟨s0, s1, s2⟩ := hSw; go_simp; all_goals (with_reducible rfl))
    try simp only [Act.put, List.getElem_toArray, List.getElem_cons_zero, List.getElem_cons_succ, List.setIfInBounds_toArray, List.set_cons_zero, List.set_cons_succ]
    refine' wpAnyH_take (i := 5) (oi := _) (v := _) rfl (by kernel_rfl) (by kernel_rfl) (by kernel_rfl) (fun _ _ _ h => h) (Or.inl ⟨by rfl, ?hyp5⟩) (by assumption) ?restp5
    case hyp5 => (intro w hSw; obtain ⟨s0, s1, s2⟩ := hSw; go_simp; all_goals (with_reducible rfl))
    try simp only [Act.put, List.getElem_toArray, List.getElem_cons_zero, List.getElem_cons_succ, List.setIfInBounds_toArray, List.set_cons_zero, List.set_cons_succ]
    refine' wpAnyH_take (i := 6) (oi := _) (v := _) rfl (by kernel_rfl) (by kernel_rfl) (by kernel_rfl) (fun _ _ _ h => h) (Or.inl ⟨by rfl, ?hyp6⟩) (by assumption) ?restp6
    case hyp6 => (intro w hSw; obtain ⟨s0, s1, s2⟩ := hSw; go_simp; all_goals (with_reducible rfl))
    try simp only [Act.put, List.getElem_toArray, List.getElem_cons_zero, List.getElem_cons_succ, List.setIfInBounds_toArray, List.set_cons_zero, List.set_cons_succ]
    refine' wpAnyH_take (i := 8) (oi := _) (v := _) rfl (by kernel_rfl) (by kernel_rfl) (by kernel_rfl) (fun _ _ _ h => h) (Or.inl ⟨by rfl, ?hyp8⟩) (by assumption) ?restp8
    case hyp8 => (intro w hSw; obtain ⟨s0, s1, s2⟩ := hSw; go_simp; all_goals (with_reducible rfl))
    try simp only [Act.put, List.getElem_toArray, List.getElem_cons_zero, List.getElem_cons_succ, List.setIfInBounds_toArray, List.set_cons_zero, List.set_cons_succ]
    refine' wpAnyH_take (i := 9) (oi := _) (v := _) rfl (by kernel_rfl) (by kernel_rfl) (by kernel_rfl) (fun _ _ _ h => h) (Or.inl ⟨by rfl, ?hyp9⟩) (by assumption) ?restp9
    case hyp9 => (intro w hSw; obtain ⟨s0, s1, s2⟩ := hSw; go_simp; all_goals (with_reducible rfl))
    try simp only [Act.put, List.getElem_toArray, List.getElem_cons_zero, List.getElem_cons_succ, List.setIfInBounds_toArray, List.set_cons_zero, List.set_cons_succ]
    refine' wpAnyH_take (i := 10) (oi := _) (v := _) rfl (by kernel_rfl) (by kernel_rfl) (by kernel_rfl) (fun _ _ _ h => h) (Or.inl ⟨by rfl, ?hyp10⟩) (by assumption) ?restp10
    case hyp10 => (intro w hSw; obtain ⟨s0, s1, s2⟩ := hSw; go_simp; all_goals (with_reducible rfl))
    try simp only [Act.put, List.getElem_toArray, List.getElem_cons_zero, List.getElem_cons_succ, List.setIfInBounds_toArray, List.set_cons_zero, List.set_cons_succ]
    refine' wpAnyH_take (i := 11) (oi := _) (v := _) rfl (by kernel_rfl) (by kernel_rfl) (by kernel_rfl) (fun _ _ _ h => h) (Or.inl ⟨by rfl, ?hyp11⟩) (by assumption) ?restp11
    case hyp11 => (intro w hSw; obtain ⟨s0, s1, s2⟩ := hSw; go_simp; all_goals (with_reducible rfl))
    try simp only [Act.put, List.getElem_toArray, List.getElem_cons_zero, List.getElem_cons_succ, List.setIfInBounds_toArray, List.set_cons_zero, List.set_cons_succ]
    refine' wpAnyH_take (i := 12) (oi := _) (v := _) rfl (by kernel_rfl) (by kernel_rfl) (by kernel_rfl) (fun _ _ _ h => h) (Or.inl ⟨by rfl, ?hyp12⟩) (by assumption) ?restp12
    case hyp12 => (intro w hSw; obtain ⟨s0, s1, s2⟩ := hSw; go_simp; all_goals (with_reducible rfl))
    try simp only [Act.put, List.getElem_toArray, List.getElem_cons_zero, List.getElem_cons_succ, List.setIfInBounds_toArray, List.set_cons_zero, List.set_cons_succ]
    refine' wpAnyH_take (i := 13) (oi := _) (v := _) rfl (by kernel_rfl) (by kernel_rfl) (by kernel_rfl) (fun _ _ _ h => h) (Or.inl ⟨by rfl, ?hyp13⟩) (by assumption) ?restp13
    case hyp13 => (intro w hSw; obtain ⟨s0, s1, s2⟩ := hSw; go_simp; all_goals (with_reducible rfl))
    try simp only [Act.put, List.getElem_toArray, List.getElem_cons_zero, List.getElem_cons_succ, List.setIfInBounds_toArray, List.set_cons_zero, List.set_cons_succ]
    refine' wpAnyH_take (i := 14) (oi := _) (v := _) rfl (by kernel_rfl) (by kernel_rfl) (by kernel_rfl) (fun _ _ _ h => h) (Or.inl ⟨by rfl, ?hyp14⟩) (by assumption) ?restp14
    case hyp14 => (intro w hSw; obtain ⟨s0, s1, s2⟩ := hSw; go_simp; all_goals (with_reducible rfl))
    try simp only [Act.put, List.getElem_toArray, List.getElem_cons_zero, List.getElem_cons_succ, List.setIfInBounds_toArray, List.set_cons_zero, List.set_cons_succ]
    refine wpAnyH_ready (rs := [7]) (by kernel_rfl) (by simp) ?_
    refine AllReadyH.cons (o := _) rfl (fun K hK => ?_) AllReadyH.nil
    go_simp
    go_at_call 13
    refine (hP.out.set_ k i v).mono ?_
    rintro e V hq
    obtain ⟨rfl, hq2⟩ := id hq
    have hs1 := hfr.out V (by obtain ⟨m', _, _, _, _, _, _, _, q8, _⟩ := hq2; exact q8 _ hout)
    have hc2 := Lib.hid (hP.out.set2 k i v hq)
    clear hq2 hq
    refine hK.out _ _ hs1 (fun hHeld => ?_)
    clear hK K
    try simp only [Act.put, List.getElem_toArray, List.getElem_cons_zero, List.getElem_cons_succ, List.setIfInBounds_toArray, List.set_cons_zero, List.set_cons_succ]
    refine wpAnyH_ready (rs := [15]) (by kernel_rfl) (by simp) ?_
    refine AllReadyH.cons (o := _) rfl (fun K hK => ?_) AllReadyH.nil
    go_simp
    go_at_call 23
    refine hc2.out.mono ?_
    rintro e W2 ⟨rfl, hq2⟩
    have hs2 := hfr.out W2 (by obtain ⟨m', d', _, _, _, _, _, _, _, _, _, q10, _⟩ := hq2; exact q10 _ hlt0 hout hout2)
    have hf := Lib.hid (hfin.out W2 hq2)
    clear hq2 hc2
    refine hK.out _ _ hs2 (fun hHeld => ?_)
    clear hK K
    try simp only [Act.put, List.getElem_toArray, List.getElem_cons_zero, List.getElem_cons_succ, List.setIfInBounds_toArray, List.set_cons_zero, List.set_cons_succ]
    refine wpAnyH_ready (rs := [16]) (by kernel_rfl) (by simp) ?_
    refine AllReadyH.cons (o := _) rfl (fun K hK => ?_) AllReadyH.nil
    go_simp
    refine hK.out _ _ hs2 (fun hHeld => ?_)
    clear hK K
    try simp only [Act.put, List.getElem_toArray, List.getElem_cons_zero, List.getElem_cons_succ, List.setIfInBounds_toArray, List.set_cons_zero, List.set_cons_succ]
    refine wpAnyH_ready (rs := [17]) (by kernel_rfl) (by simp) ?_
    refine AllReadyH.cons (o := _) rfl (fun K hK => ?_) AllReadyH.nil
    go_simp
    refine hK.out _ _ hs2 (fun hHeld => ?_)
    clear hK K
    try simp only [Act.put, List.getElem_toArray, List.getElem_cons_zero, List.getElem_cons_succ, List.setIfInBounds_toArray, List.set_cons_zero, List.set_cons_succ]
    refine wpAnyH_done (by kernel_rfl) ?_ _
    refine NoPanic.normal ?_
    go_wp2_with fail
    go_ret
    exact ⟨rfl, hf.out⟩
set_option maxHeartbeats 4000000 in
set_option maxRecDepth 100000 in
theorem do_take {w : World} {m : Mm} {d : Dm} (h : Pair w m d) (hn : m.n < 1000000) (k i v : Int) (hi : I64 i) :
    Calls Try.prog 9 #[.agg #[.int .u8 1, .int .i64 k, .int .i64 i, .int .i64 v], .pointer (some ⟨m.mb, 0, none⟩), .pointer (some ⟨d.mb, 0, none⟩)] w fun e w' => e = .returned (.bool true) ∧ PostB m d w (m.C) (takeL m.locks m.h k i) w' := by
  have hbx := b_alloc w (.cells #[.int .u8 1, .int .i64 k, .int .i64 i, .int .i64 v] 35)
  have hP : Hid (Pair ((w.alloc (.cells #[.int .u8 1, .int .i64 k, .int .i64 i, .int .i64 v] 35)).drew) m d) := Lib.hid ((h.below hbx).keep (Nat.le_refl _) (fun _ _ => rfl) (fun _ _ => rfl))
  have hfin : Hid (∀ W', PostB m d ((w.alloc (.cells #[.int .u8 1, .int .i64 k, .int .i64 i, .int .i64 v] 35)).drew) (m.C) (takeL m.locks m.h k i) W' → PostB m d w (m.C) (takeL m.locks m.h k i) W') := Lib.hid fun W' q => .new h q
  have hfar : Hid (∀ V W' : World, V.heap[w.heap.size]? = (w.alloc (.cells #[.int .u8 1, .int .i64 k, .int .i64 i, .int .i64 v] 35)).heap[w.heap.size]? → V.cell? ⟨w.heap.size, 1, none⟩ = some (.int .i64 k) ∧ V.cell? ⟨w.heap.size, 2, none⟩ = some (.int .i64 i) ∧ V.cell? ⟨w.heap.size, 3, none⟩ = some (.int .i64 v)) := Lib.hid fun V _ hV => by
    have := hV.trans (MapKept.heap_alloc w (.cells #[.int .u8 1, .int .i64 k, .int .i64 i, .int .i64 v] 35)).1
    exact ⟨blk_cell this rfl, blk_cell this rfl, blk_cell this rfl⟩
  have hout : ¬ m.foot w.heap.size := fun e => Nat.lt_irrefl _ (h.i.foot_lt e)
  have hout2 : ¬ d.foot w.heap.size := fun e => Nat.lt_irrefl _ (h.lt _ e)
  have hlt0 : w.heap.size < ((w.alloc (.cells #[.int .u8 1, .int .i64 k, .int .i64 i, .int .i64 v] 35)).drew).heap.size := by show _ < (w.alloc _).heap.size; simp
  clear h hbx
  go_enter Try.func9, Try.ntmps9
  go_upto_region 5 with fail
  generalize hW0 : (w.alloc (.cells #[.int .u8 1, .int .i64 k, .int .i64 i, .int .i64 v] 35)).drew = W0 at *
  have hS0 : (fun X : World => X.cell? ⟨w.heap.size, 1, none⟩ = some (.int .i64 k) ∧ X.cell? ⟨w.heap.size, 2, none⟩ = some (.int .i64 i) ∧ X.cell? ⟨w.heap.size, 3, none⟩ = some (.int .i64 v)) W0 := hfar.out W0 W0 (by rw [← hW0]; rfl)
  have hfr : Hid (∀ V : World, V.heap[w.heap.size]? = W0.heap[w.heap.size]? → V.cell? ⟨w.heap.size, 1, none⟩ = some (.int .i64 k) ∧ V.cell? ⟨w.heap.size, 2, none⟩ = some (.int .i64 i) ∧ V.cell? ⟨w.heap.size, 3, none⟩ = some (.int .i64 v)) := Lib.hid fun V hV => hfar.out V V (hV.trans (by rw [← hW0]; rfl))
  refine wp_region_noPanic ?_
  refine wp_region_held (S := (fun X : World => X.cell? ⟨w.heap.size, 1, none⟩ = some (.int .i64 k) ∧ X.cell? ⟨w.heap.size, 2, none⟩ = some (.int .i64 i) ∧ X.cell? ⟨w.heap.size, 3, none⟩ = some (.int .i64 v))) (by kernel_rfl) ?_
  show wpAnyH _ _ _ _ _ _ _ _ (World.drew _)
  rw [hW0]
  clear hW0 hfar
  · skip
    refine' wpAnyH_take (i := 0) (oi := _) (v := _) rfl (by kernel_rfl) (by kernel_rfl) (by kernel_rfl) (fun _ _ _ h => h) (Or.inl ⟨by rfl, ?hyp0⟩) (by assumption) ?restp0
    case hyp0 => (intro w hSw; obtain ⟨s0, s1, s2⟩ := hSw; go_simp; all_goals (with_reducible rfl))
    try simp only [Act.put, List.getElem_toArray, List.getElem_cons_zero, List.getElem_cons_succ, List.setIfInBounds_toArray, List.set_cons_zero, List.set_cons_succ]
    refine' wpAnyH_take (i := 1) (oi := _) (v := _) rfl (by kernel_rfl) (by kernel_rfl) (by kernel_rfl) (fun _ _ _ h => h) (Or.inl ⟨by rfl, ?hyp1⟩) (by assumption) ?restp1
    case hyp1 => (intro w hSw; obtain ⟨s0, s1, s2⟩ := hSw; go_simp; all_goals (with_reducible rfl))
    try simp only [Act.put, List.getElem_toArray, List.getElem_cons_zero, List.getElem_cons_succ, List.setIfInBounds_toArray, List.set_cons_zero, List.set_cons_succ]
    refine' wpAnyH_take (i := 2) (oi := _) (v := _) rfl (by kernel_rfl) (by kernel_rfl) (by kernel_rfl) (fun _ _ _ h => h) (Or.inl ⟨by rfl, ?hyp2⟩) (by assumption) ?restp2
    case hyp2 => (intro w hSw; obtain ⟨s0, s1, s2⟩ := hSw; go_simp; all_goals (with_reducible rfl))
    try simp only [Act.put, List.getElem_toArray, List.getElem_cons_zero, List.getElem_cons_succ, List.setIfInBounds_toArray, List.set_cons_zero, List.set_cons_succ]
    refine' wpAnyH_take (i := 3) (oi := _) (v := _) rfl (by kernel_rfl) (by kernel_rfl) (by kernel_rfl) (fun _ _ _ h => h) (Or.inl ⟨by rfl, ?hyp3⟩) (by assumption) ?restp3
    case hyp3 => (intro w hSw; obtain ⟨s0, s1, s2⟩ := hSw; go_simp; all_goals (with_reducible rfl))
    try simp only [Act.put, List.getElem_toArray, List.getElem_cons_zero, List.getElem_cons_succ, List.setIfInBounds_toArray, List.set_cons_zero, List.set_cons_succ]
    refine' wpAnyH_take (i := 4) (oi := _) (v := _) rfl (by kernel_rfl) (by kernel_rfl) (by kernel_rfl) (fun _ _ _ h => h) (Or.inl ⟨by rfl, ?hyp4⟩) (by assumption) ?restp4
    case hyp4 => (intro w hSw; obtain ⟨s0, s1, s2⟩ := hSw; go_simp; all_goals (with_reducible rfl))
    try simp only [Act.put, List.getElem_toArray, List.getElem_cons_zero, List.getElem_cons_succ, List.setIfInBounds_toArray, List.set_cons_zero, List.set_cons_succ]
    refine' wpAnyH_take (i := 6) (oi := _) (v := _) rfl (by kernel_rfl) (by kernel_rfl) (by kernel_rfl) (fun _ _ _ h => h) (Or.inl ⟨by rfl, ?hyp6⟩) (by assumption) ?restp6
    case hyp6 => (intro w hSw; obtain ⟨s0, s1, s2⟩ := hSw; go_simp; all_goals (with_reducible rfl))
    try simp only [Act.put, List.getElem_toArray, List.getElem_cons_zero, List.getElem_cons_succ, List.setIfInBounds_toArray, List.set_cons_zero, List.set_cons_succ]
    refine' wpAnyH_take (i := 7) (oi := _) (v := _) rfl (by kernel_rfl) (by kernel_rfl) (by kernel_rfl) (fun _ _ _ h => h) (Or.inl ⟨by rfl, ?hyp7⟩) (by assumption) ?restp7
    case hyp7 => (intro w hSw; obtain ⟨s0, s1, s2⟩ := hSw; go_simp; all_goals (with_reducible rfl))
    try simp only [Act.put, List.getElem_toArray, List.getElem_cons_zero, List.getElem_cons_succ, List.setIfInBounds_toArray, List.set_cons_zero, List.set_cons_succ]
    refine' wpAnyH_take (i := 8) (oi := _) (v := _) rfl (by kernel_rfl) (by kernel_rfl) (by kernel_rfl) (fun _ _ _ h => h) (Or.inl ⟨by rfl, ?hyp8⟩) (by assumption) ?restp8
    case hyp8 => (intro w hSw; obtain ⟨s0, s1, s2⟩ := hSw; go_simp; all_goals (with_reducible rfl))
    try simp only [Act.put, List.getElem_toArray, List.getElem_cons_zero, List.getElem_cons_succ, List.setIfInBounds_toArray, List.set_cons_zero, List.set_cons_succ]
    refine' wpAnyH_take (i := 9) (oi := _) (v := _) rfl (by kernel_rfl) (by kernel_rfl) (by kernel_rfl) (fun _ _ _ h => h) (Or.inl ⟨by rfl, ?hyp9⟩) (by assumption) ?restp9
    case hyp9 => (intro w hSw; obtain ⟨s0, s1, s2⟩ := hSw; go_simp; all_goals (with_reducible rfl))
    try simp only [Act.put, List.getElem_toArray, List.getElem_cons_zero, List.getElem_cons_succ, List.setIfInBounds_toArray, List.set_cons_zero, List.set_cons_succ]
    refine' wpAnyH_take (i := 10) (oi := _) (v := _) rfl (by kernel_rfl) (by kernel_rfl) (by kernel_rfl) (fun _ _ _ h => h) (Or.inl ⟨by rfl, ?hyp10⟩) (by assumption) ?restp10
    case hyp10 => (intro w hSw; obtain ⟨s0, s1, s2⟩ := hSw; go_simp; all_goals (with_reducible rfl))
    try simp only [Act.put, List.getElem_toArray, List.getElem_cons_zero, List.getElem_cons_succ, List.setIfInBounds_toArray, List.set_cons_zero, List.set_cons_succ]
    refine wpAnyH_ready (rs := [5]) (by kernel_rfl) (by simp) ?_
    refine AllReadyH.cons (o := _) rfl (fun K hK => ?_) AllReadyH.nil
    go_simp
    go_at_call 14
    refine (hP.out.take_ hn k i hi).mono ?_
    rintro e V hq
    obtain ⟨rfl, hq2⟩ := id hq
    have hs1 := hfr.out V (by obtain ⟨m', _, _, _, _, _, _, _, q8, _⟩ := hq2; exact q8 _ hout)
    have hc2 := Lib.hid (hP.out.take2 k i hq)
    clear hq2 hq
    refine hK.out _ _ hs1 (fun hHeld => ?_)
    clear hK K
    try simp only [Act.put, List.getElem_toArray, List.getElem_cons_zero, List.getElem_cons_succ, List.setIfInBounds_toArray, List.set_cons_zero, List.set_cons_succ]
    refine wpAnyH_ready (rs := [11]) (by kernel_rfl) (by simp) ?_
    refine AllReadyH.cons (o := _) rfl (fun K hK => ?_) AllReadyH.nil
    go_simp
    go_at_call 24
    refine hc2.out.mono ?_
    rintro e W2 ⟨rfl, hq2⟩
    have hs2 := hfr.out W2 (by obtain ⟨m', d', _, _, _, _, _, _, _, _, _, q10, _⟩ := hq2; exact q10 _ hlt0 hout hout2)
    have hf := Lib.hid (hfin.out W2 hq2)
    clear hq2 hc2
    refine hK.out _ _ hs2 (fun hHeld => ?_)
    clear hK K
    try simp only [Act.put, List.getElem_toArray, List.getElem_cons_zero, List.getElem_cons_succ, List.setIfInBounds_toArray, List.set_cons_zero, List.set_cons_succ]
    refine wpAnyH_ready (rs := [12]) (by kernel_rfl) (by simp) ?_
    refine AllReadyH.cons (o := _) rfl (fun K hK => ?_) AllReadyH.nil
    go_simp
    refine hK.out _ _ hs2 (fun hHeld => ?_)
    clear hK K
    try simp only [Act.put, List.getElem_toArray, List.getElem_cons_zero, List.getElem_cons_succ, List.setIfInBounds_toArray, List.set_cons_zero, List.set_cons_succ]
    refine wpAnyH_ready (rs := [13]) (by kernel_rfl) (by simp) ?_
    refine AllReadyH.cons (o := _) rfl (fun K hK => ?_) AllReadyH.nil
    go_simp
    refine hK.out _ _ hs2 (fun hHeld => ?_)
    clear hK K
    try simp only [Act.put, List.getElem_toArray, List.getElem_cons_zero, List.getElem_cons_succ, List.setIfInBounds_toArray, List.set_cons_zero, List.set_cons_succ]
    refine wpAnyH_done (by kernel_rfl) ?_ _
    refine NoPanic.normal ?_
    go_wp2_with fail
    go_ret
    exact ⟨rfl, hf.out⟩
set_option maxHeartbeats 4000000 in
set_option maxRecDepth 100000 in
theorem do_give {w : World} {m : Mm} {d : Dm} (h : Pair w m d) (hn : m.n < 1000000) (k i v : Int) (hi : I64 i) :
    Calls Try.prog 9 #[.agg #[.int .u8 2, .int .i64 k, .int .i64 i, .int .i64 v], .pointer (some ⟨m.mb, 0, none⟩), .pointer (some ⟨d.mb, 0, none⟩)] w fun e w' => e = .returned (.bool true) ∧ PostB m d w (m.C) (giveL m.locks m.h k i) w' := by
  have hbx := b_alloc w (.cells #[.int .u8 2, .int .i64 k, .int .i64 i, .int .i64 v] 35)
  have hP : Hid (Pair ((w.alloc (.cells #[.int .u8 2, .int .i64 k, .int .i64 i, .int .i64 v] 35)).drew) m d) := Lib.hid ((h.below hbx).keep (Nat.le_refl _) (fun _ _ => rfl) (fun _ _ => rfl))
  have hfin : Hid (∀ W', PostB m d ((w.alloc (.cells #[.int .u8 2, .int .i64 k, .int .i64 i, .int .i64 v] 35)).drew) (m.C) (giveL m.locks m.h k i) W' → PostB m d w (m.C) (giveL m.locks m.h k i) W') := Lib.hid fun W' q => .new h q
  have hfar : Hid (∀ V W' : World, V.heap[w.heap.size]? = (w.alloc (.cells #[.int .u8 2, .int .i64 k, .int .i64 i, .int .i64 v] 35)).heap[w.heap.size]? → V.cell? ⟨w.heap.size, 1, none⟩ = some (.int .i64 k) ∧ V.cell? ⟨w.heap.size, 2, none⟩ = some (.int .i64 i) ∧ V.cell? ⟨w.heap.size, 3, none⟩ = some (.int .i64 v)) := Lib.hid fun V _ hV => by
    have := hV.trans (MapKept.heap_alloc w (.cells #[.int .u8 2, .int .i64 k, .int .i64 i, .int .i64 v] 35)).1
    exact ⟨blk_cell this rfl, blk_cell this rfl, blk_cell this rfl⟩
  have hout : ¬ m.foot w.heap.size := fun e => Nat.lt_irrefl _ (h.i.foot_lt e)
  have hout2 : ¬ d.foot w.heap.size := fun e => Nat.lt_irrefl _ (h.lt _ e)
  have hlt0 : w.heap.size < ((w.alloc (.cells #[.int .u8 2, .int .i64 k, .int .i64 i, .int .i64 v] 35)).drew).heap.size := by show _ < (w.alloc _).heap.size; simp
  clear h hbx
  go_enter Try.func9, Try.ntmps9
  go_upto_region 7 with fail
  generalize hW0 : (w.alloc (.cells #[.int .u8 2, .int .i64 k, .int .i64 i, .int .i64 v] 35)).drew = W0 at *
  have hS0 : (fun X : World => X.cell? ⟨w.heap.size, 1, none⟩ = some (.int .i64 k) ∧ X.cell? ⟨w.heap.size, 2, none⟩ = some (.int .i64 i) ∧ X.cell? ⟨w.heap.size, 3, none⟩ = some (.int .i64 v)) W0 := hfar.out W0 W0 (by rw [← hW0]; rfl)
  have hfr : Hid (∀ V : World, V.heap[w.heap.size]? = W0.heap[w.heap.size]? → V.cell? ⟨w.heap.size, 1, none⟩ = some (.int .i64 k) ∧ V.cell? ⟨w.heap.size, 2, none⟩ = some (.int .i64 i) ∧ V.cell? ⟨w.heap.size, 3, none⟩ = some (.int .i64 v)) := Lib.hid fun V hV => hfar.out V V (hV.trans (by rw [← hW0]; rfl))
  refine wp_region_noPanic ?_
  refine wp_region_held (S := (fun X : World => X.cell? ⟨w.heap.size, 1, none⟩ = some (.int .i64 k) ∧ X.cell? ⟨w.heap.size, 2, none⟩ = some (.int .i64 i) ∧ X.cell? ⟨w.heap.size, 3, none⟩ = some (.int .i64 v))) (by kernel_rfl) ?_
  show wpAnyH _ _ _ _ _ _ _ _ (World.drew _)
  rw [hW0]
  clear hW0 hfar
  · skip
    refine' wpAnyH_take (i := 0) (oi := _) (v := _) rfl (by kernel_rfl) (by kernel_rfl) (by kernel_rfl) (fun _ _ _ h => h) (Or.inl ⟨by rfl, ?hyp0⟩) (by assumption) ?restp0
    case hyp0 => (intro w hSw; obtain ⟨s0, s1, s2⟩ := hSw; go_simp; all_goals (with_reducible rfl))
    try simp only [Act.put, List.getElem_toArray, List.getElem_cons_zero, List.getElem_cons_succ, List.setIfInBounds_toArray, List.set_cons_zero, List.set_cons_succ]
    refine' wpAnyH_take (i := 1) (oi := _) (v := _) rfl (by kernel_rfl) (by kernel_rfl) (by kernel_rfl) (fun _ _ _ h => h) (Or.inl ⟨by rfl, ?hyp1⟩) (by assumption) ?restp1
    case hyp1 => (intro w hSw; obtain ⟨s0, s1, s2⟩ := hSw; go_simp; all_goals (with_reducible rfl))
    try simp only [Act.put, List.getElem_toArray, List.getElem_cons_zero, List.getElem_cons_succ, List.setIfInBounds_toArray, List.set_cons_zero, List.set_cons_succ]
    refine' wpAnyH_take (i := 2) (oi := _) (v := _) rfl (by kernel_rfl) (by kernel_rfl) (by kernel_rfl) (fun _ _ _ h => h) (Or.inl ⟨by rfl, ?hyp2⟩) (by assumption) ?restp2
    case hyp2 => (intro w hSw; obtain ⟨s0, s1, s2⟩ := hSw; go_simp; all_goals (with_reducible rfl))
    try simp only [Act.put, List.getElem_toArray, List.getElem_cons_zero, List.getElem_cons_succ, List.setIfInBounds_toArray, List.set_cons_zero, List.set_cons_succ]
    refine' wpAnyH_take (i := 3) (oi := _) (v := _) rfl (by kernel_rfl) (by kernel_rfl) (by kernel_rfl) (fun _ _ _ h => h) (Or.inl ⟨by rfl, ?hyp3⟩) (by assumption) ?restp3
    case hyp3 => (intro w hSw; obtain ⟨s0, s1, s2⟩ := hSw; go_simp; all_goals (with_reducible rfl))
    try simp only [Act.put, List.getElem_toArray, List.getElem_cons_zero, List.getElem_cons_succ, List.setIfInBounds_toArray, List.set_cons_zero, List.set_cons_succ]
    refine' wpAnyH_take (i := 4) (oi := _) (v := _) rfl (by kernel_rfl) (by kernel_rfl) (by kernel_rfl) (fun _ _ _ h => h) (Or.inl ⟨by rfl, ?hyp4⟩) (by assumption) ?restp4
    case hyp4 => (intro w hSw; obtain ⟨s0, s1, s2⟩ := hSw; go_simp; all_goals (with_reducible rfl))
    try simp only [Act.put, List.getElem_toArray, List.getElem_cons_zero, List.getElem_cons_succ, List.setIfInBounds_toArray, List.set_cons_zero, List.set_cons_succ]
    refine' wpAnyH_take (i := 6) (oi := _) (v := _) rfl (by kernel_rfl) (by kernel_rfl) (by kernel_rfl) (fun _ _ _ h => h) (Or.inl ⟨by rfl, ?hyp6⟩) (by assumption) ?restp6
    case hyp6 => (intro w hSw; obtain ⟨s0, s1, s2⟩ := hSw; go_simp; all_goals (with_reducible rfl))
    try simp only [Act.put, List.getElem_toArray, List.getElem_cons_zero, List.getElem_cons_succ, List.setIfInBounds_toArray, List.set_cons_zero, List.set_cons_succ]
    refine' wpAnyH_take (i := 7) (oi := _) (v := _) rfl (by kernel_rfl) (by kernel_rfl) (by kernel_rfl) (fun _ _ _ h => h) (Or.inl ⟨by rfl, ?hyp7⟩) (by assumption) ?restp7
    case hyp7 => (intro w hSw; obtain ⟨s0, s1, s2⟩ := hSw; go_simp; all_goals (with_reducible rfl))
    try simp only [Act.put, List.getElem_toArray, List.getElem_cons_zero, List.getElem_cons_succ, List.setIfInBounds_toArray, List.set_cons_zero, List.set_cons_succ]
    refine' wpAnyH_take (i := 8) (oi := _) (v := _) rfl (by kernel_rfl) (by kernel_rfl) (by kernel_rfl) (fun _ _ _ h => h) (Or.inl ⟨by rfl, ?hyp8⟩) (by assumption) ?restp8
    case hyp8 => (intro w hSw; obtain ⟨s0, s1, s2⟩ := hSw; go_simp; all_goals (with_reducible rfl))
    try simp only [Act.put, List.getElem_toArray, List.getElem_cons_zero, List.getElem_cons_succ, List.setIfInBounds_toArray, List.set_cons_zero, List.set_cons_succ]
    refine' wpAnyH_take (i := 9) (oi := _) (v := _) rfl (by kernel_rfl) (by kernel_rfl) (by kernel_rfl) (fun _ _ _ h => h) (Or.inl ⟨by rfl, ?hyp9⟩) (by assumption) ?restp9
    case hyp9 => (intro w hSw; obtain ⟨s0, s1, s2⟩ := hSw; go_simp; all_goals (with_reducible rfl))
    try simp only [Act.put, List.getElem_toArray, List.getElem_cons_zero, List.getElem_cons_succ, List.setIfInBounds_toArray, List.set_cons_zero, List.set_cons_succ]
    refine' wpAnyH_take (i := 10) (oi := _) (v := _) rfl (by kernel_rfl) (by kernel_rfl) (by kernel_rfl) (fun _ _ _ h => h) (Or.inl ⟨by rfl, ?hyp10⟩) (by assumption) ?restp10
    case hyp10 => (intro w hSw; obtain ⟨s0, s1, s2⟩ := hSw; go_simp; all_goals (with_reducible rfl))
    try simp only [Act.put, List.getElem_toArray, List.getElem_cons_zero, List.getElem_cons_succ, List.setIfInBounds_toArray, List.set_cons_zero, List.set_cons_succ]
    refine wpAnyH_ready (rs := [5]) (by kernel_rfl) (by simp) ?_
    refine AllReadyH.cons (o := _) rfl (fun K hK => ?_) AllReadyH.nil
    go_simp
    go_at_call 25
    refine (hP.out.give_ k i).mono ?_
    rintro e V hq
    obtain ⟨rfl, hq2⟩ := id hq
    have hs1 := hfr.out V (by obtain ⟨m', _, _, _, _, _, _, _, q8, _⟩ := hq2; exact q8 _ hout)
    have hc2 := Lib.hid (hP.out.give2 k i hq)
    clear hq2 hq
    refine hK.out _ _ hs1 (fun hHeld => ?_)
    clear hK K
    try simp only [Act.put, List.getElem_toArray, List.getElem_cons_zero, List.getElem_cons_succ, List.setIfInBounds_toArray, List.set_cons_zero, List.set_cons_succ]
    refine wpAnyH_ready (rs := [11]) (by kernel_rfl) (by simp) ?_
    refine AllReadyH.cons (o := _) rfl (fun K hK => ?_) AllReadyH.nil
    go_simp
    go_at_call 26
    refine hc2.out.mono ?_
    rintro e W2 ⟨rfl, hq2⟩
    have hs2 := hfr.out W2 (by obtain ⟨m', d', _, _, _, _, _, _, _, _, _, q10, _⟩ := hq2; exact q10 _ hlt0 hout hout2)
    have hf := Lib.hid (hfin.out W2 hq2)
    clear hq2 hc2
    refine hK.out _ _ hs2 (fun hHeld => ?_)
    clear hK K
    try simp only [Act.put, List.getElem_toArray, List.getElem_cons_zero, List.getElem_cons_succ, List.setIfInBounds_toArray, List.set_cons_zero, List.set_cons_succ]
    refine wpAnyH_ready (rs := [12]) (by kernel_rfl) (by simp) ?_
    refine AllReadyH.cons (o := _) rfl (fun K hK => ?_) AllReadyH.nil
    go_simp
    refine hK.out _ _ hs2 (fun hHeld => ?_)
    clear hK K
    try simp only [Act.put, List.getElem_toArray, List.getElem_cons_zero, List.getElem_cons_succ, List.setIfInBounds_toArray, List.set_cons_zero, List.set_cons_succ]
    refine wpAnyH_ready (rs := [13]) (by kernel_rfl) (by simp) ?_
    refine AllReadyH.cons (o := _) rfl (fun K hK => ?_) AllReadyH.nil
    go_simp
    refine hK.out _ _ hs2 (fun hHeld => ?_)
    clear hK K
    try simp only [Act.put, List.getElem_toArray, List.getElem_cons_zero, List.getElem_cons_succ, List.setIfInBounds_toArray, List.set_cons_zero, List.set_cons_succ]
    refine wpAnyH_done (by kernel_rfl) ?_ _
    refine NoPanic.normal ?_
    go_wp2_with fail
    go_ret
    exact ⟨rfl, hf.out⟩
end Go.Proofs.Ytnoilcchegmpfaa.Me
