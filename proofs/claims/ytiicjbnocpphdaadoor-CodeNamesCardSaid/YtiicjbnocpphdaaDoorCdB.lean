/- Walks of code.known, namesOf, within, Writes, Goal. Conditions: the package's table holds its list. -/
import Derived.Test.YtiicjbnocpphdaaDoorCdA
import Derived.Test.YtiicjbnocpphdaaDoorRgA
import Derived.Laws.Rows
namespace Go.Proofs.YtiicjbnocpphdaaDoor.Cd
open Go Go.RowKit
open Go.Proofs.YtiicjbnocpphdaaDoor.Lx Go.Proofs.YtiicjbnocpphdaaDoor.Tr Go.Proofs.YtiicjbnocpphdaaDoor.Rg

theorem ceq_kps {S : Nat → Prop} {A B : World} (h : Ceq A B) : Kps S A B := fun _ _ _ _ hc => (h.cell _).trans hc
theorem keeps_below {B : Nat} {W W' : World} (h : Below W.heap.size W W') : KeepsFrom B W W' :=
  ⟨h.size, fun k _ _ hk _ => (h.block k (Array.getElem?_eq_some_iff.1 hk).1).trans hk⟩
theorem bcell {W w1 : World} (hb : Below W.heap.size W w1) : (∀ b o, b < W.heap.size → w1.cell? ⟨b, o, none⟩ = W.cell? ⟨b, o, none⟩) ∧ (∀ b o, b < W.heap.size → w1.frozen? ⟨b, o, none⟩ = W.frozen? ⟨b, o, none⟩) :=
  ⟨fun b o h => hb.cell (p := ⟨b, o, none⟩) h, fun b o h => hb.frozen (p := ⟨b, o, none⟩) h⟩
/-! ### A cell of one's own -/
structure Cel (w : World) (r : Nat) (v : Value) (W : World) : Prop where
  cell : W.cell? ⟨r, 0, none⟩ = some v
  frozen : W.frozen? ⟨r, 0, none⟩ = false
theorem Cel.ceq {w : World} {r : Nat} {v : Value} {W W' : World} (h : Cel w r v W) (hc : Ceq W W') : Cel w r v W' := ⟨(hc.cell _).trans h.cell, (hc.frozen _).trans h.frozen⟩
theorem Cel.below {w : World} {r : Nat} {v : Value} {W W' : World} (h : Cel w r v W) (hb : Below W.heap.size W W') : Cel w r v W' :=
  have hl := World.block_lt_of_cell? _ _ h.cell
  ⟨(hb.cell (p := ⟨r, 0, none⟩) hl).trans h.cell, (hb.frozen (p := ⟨r, 0, none⟩) hl).trans h.frozen⟩
theorem Cel.alloc {w : World} {r : Nat} {v : Value} {W : World} (h : Cel w r v W) (o : Obj) : Cel w r v (W.alloc o) := h.below ((Below.refl _ _).alloc (Nat.le_refl _) _)
theorem Cel.setS {w : World} {r : Nat} {v : Value} {W : World} (h : Cel w r v W) (u : Value) : Cel w r u (W.setCell ⟨r, 0, none⟩ u) :=
  ⟨World.cell?_setCell_same _ _ _ h.cell, by rw [World.frozen?_setCell]; exact h.frozen⟩
theorem Cel.setO {w : World} {r r' : Nat} {v : Value} {W : World} (h : Cel w r v W) (hr : r' ≠ r) (u : Value) : Cel w r v (W.setCell ⟨r', 0, none⟩ u) :=
  ⟨(World.cell?_setCell_other _ _ _ _ (fun e => hr (by rw [Addr.mk.injEq] at e; exact e.1))).trans h.cell, by rw [World.frozen?_setCell]; exact h.frozen⟩

theorem Cel.new (w W : World) (v : Value) (t : TypeId) : Cel w W.heap.size v (W.alloc (.cells #[v] t)) := by
  have h : (W.alloc (.cells #[v] t)).heap[W.heap.size]? = some (.cells #[v] t (0, 0)) := World.alloc_heap_new W _
  have key : ∀ (V : World) (B : Nat), V.heap[B]? = some (.cells #[v] t (0, 0)) → V.cell? ⟨B, 0, none⟩ = some v ∧ V.frozen? ⟨B, 0, none⟩ = false := fun V B hB => ⟨by simp [World.cell?, hB], by simp [World.frozen?, hB]⟩
  exact ⟨(key _ _ h).1, (key _ _ h).2⟩
/-! ### The table of operations -/
def opVals : Array Value := ((List.range 14).flatMap fun (i : Nat) => [Value.bool (hasR (i : Int)), .bool (hasA (i : Int)), .bool (hasB (i : Int)), .bool (hasF (i : Int)), .int .u8 (numK (i : Int))]).toArray
def OpTab (w : World) : Prop := ∀ j v, opVals[j]? = some v → w.cell? ⟨0, j, none⟩ = some v
theorem OpTab.lt {w : World} (h : OpTab w) : 0 < w.heap.size := World.block_lt_of_cell? _ _ (h 0 (.bool false) rfl)
theorem OpTab.kps {w w' : World} {S : Nat → Prop} (h : OpTab w) (hS : S 0) (k : Kps S w w') : OpTab w' := fun j v hv => k _ _ _ hS (h j v hv)
theorem OpTab.below {w w' : World} {B : Nat} (h : OpTab w) (hB : 0 < B) (hb : Below B w w') : OpTab w' := fun j v hv => (hb.cell (p := ⟨0, j, none⟩) hB).trans (h j v hv)
theorem OpTab.keep {w w' : World} (h : OpTab w) (hb : Below w.heap.size w w') : OpTab w' := h.below h.lt hb
theorem opTab_at {w : World} (h : OpTab w) (k : Int) (h0 : 0 ≤ k) (h1 : k ≤ 13) :
    w.cell? ⟨0, k.toNat * 5, none⟩ = some (.bool (hasR k)) ∧ w.cell? ⟨0, k.toNat * 5 + 1, none⟩ = some (.bool (hasA k)) ∧ w.cell? ⟨0, k.toNat * 5 + 2, none⟩ = some (.bool (hasB k)) ∧ w.cell? ⟨0, k.toNat * 5 + 3, none⟩ = some (.bool (hasF k)) ∧ w.cell? ⟨0, k.toNat * 5 + 4, none⟩ = some (.int .u8 (numK k)) := by
  obtain ⟨m, rfl⟩ : ∃ m : Nat, k = m := ⟨k.toNat, by omega⟩
  rw [Int.toNat_natCast]
  have hm : m < 14 := by omega
  clear h0 h1
  have hd : m = 0 ∨ m = 1 ∨ m = 2 ∨ m = 3 ∨ m = 4 ∨ m = 5 ∨ m = 6 ∨ m = 7 ∨ m = 8 ∨ m = 9 ∨ m = 10 ∨ m = 11 ∨ m = 12 ∨ m = 13 := by omega
  rcases hd with rfl | rfl | rfl | rfl | rfl | rfl | rfl | rfl | rfl | rfl | rfl | rfl | rfl | rfl <;> exact ⟨h _ _ rfl, h _ _ rfl, h _ _ rfl, h _ _ rfl, h _ _ rfl⟩

theorem heap_set1 {w : World} {b : Nat} {vs : Array Value} {T : TypeId} {fr : Nat × Nat} (h : w.heap[b]? = some (.cells vs T fr)) (j : Nat) (v : Value) : (w.setCell ⟨b, j, none⟩ v).heap[b]? = some (.cells (vs.setIfInBounds j v) T fr) := by
  unfold World.setCell
  show (w.heap.modify b _)[b]? = _
  rw [Array.getElem?_modify, if_pos rfl, h]
  simp
theorem heap_set5 {W : World} {g : Nat} {a0 b0 c0 d0 e0 : Value} {T : TypeId} {fr : Nat × Nat} (h : W.heap[g]? = some (.cells #[a0, b0, c0, d0, e0] T fr)) (a b c d e : Value) :
    (((((W.setCell ⟨g, 0, none⟩ a).setCell ⟨g, 1, none⟩ b).setCell ⟨g, 2, none⟩ c).setCell ⟨g, 3, none⟩ d).setCell ⟨g, 4, none⟩ e).heap[g]? = some (.cells #[a, b, c, d, e] T fr) := by
  have := heap_set1 (heap_set1 (heap_set1 (heap_set1 (heap_set1 h 0 a) 1 b) 2 c) 3 d) 4 e
  simpa using this
theorem below_set5 {B g : Nat} {w W : World} (h : Below B w W) (hg : B ≤ g) (a b c d e : Value) : Below B w (((((W.setCell ⟨g, 0, none⟩ a).setCell ⟨g, 1, none⟩ b).setCell ⟨g, 2, none⟩ c).setCell ⟨g, 3, none⟩ d).setCell ⟨g, 4, none⟩ e) :=
  ((((h.setCell (p := ⟨g, 0, none⟩) hg a).setCell (p := ⟨g, 1, none⟩) hg b).setCell (p := ⟨g, 2, none⟩) hg c).setCell (p := ⟨g, 3, none⟩) hg d).setCell (p := ⟨g, 4, none⟩) hg e
theorem none_of {k : Int} (h : knownP k = false) : hasR k = false ∧ hasA k = false ∧ hasB k = false ∧ hasF k = false ∧ numK k = 0 := by
  have hk : k < 1 ∨ 13 < k := by
    simp only [knownP, Bool.and_eq_false_iff, decide_eq_false_iff_not] at h; omega
  refine ⟨?_, ?_, ?_, ?_, ?_⟩
  · simp [hasR]; omega
  · simp [hasA]; omega
  · simp [hasB]; omega
  · simp [hasF]; omega
  · unfold numK; repeat (rw [if_neg (by omega)])
def nmV (k : Int) : Value := .agg #[.bool (hasR k), .bool (hasA k), .bool (hasB k), .bool (hasF k), .int .u8 (numK k)]

set_option maxHeartbeats 800000 in
theorem known_any (k : Int) (w : World) (hk : U8 k) : Calls Tryd.prog 24 #[.int .u8 k] w fun e w' => e = .returned (.bool (knownP k)) ∧ Below w.heap.size w w' := by
  unfold U8 at hk
  by_cases h1 : 1 ≤ k
  · by_cases h2 : k ≤ 13
    · go_enter Tryd.func24, Tryd.ntmps24
      go_wp2_with fail
      go_ret
      exact ⟨ret_bool (by simp [knownP, h1, h2]), Below.refl _ _⟩
    · go_enter Tryd.func24, Tryd.ntmps24
      go_wp2_with fail
      go_ret
      exact ⟨ret_bool (by simp [knownP, h2]), Below.refl _ _⟩
  · go_enter Tryd.func24, Tryd.ntmps24
    go_wp2_with fail
    go_ret
    exact ⟨ret_bool (by rw [knownP, decide_eq_false (by omega : ¬ 1 ≤ k)]; rfl), Below.refl _ _⟩
set_option maxHeartbeats 800000 in
theorem within_any (n m : Int) (w : World) : Calls Tryd.prog 47 #[.int .i64 n, .int .i64 m] w fun e w' => e = .returned (.bool (inP n m)) ∧ Below w.heap.size w w' := by
  by_cases h1 : 0 ≤ n
  · by_cases h2 : n < m
    · go_enter Tryd.func47, Tryd.ntmps47
      go_wp2_with fail
      go_ret
      exact ⟨ret_bool (by simp [inP, h1, h2]), Below.refl _ _⟩
    · go_enter Tryd.func47, Tryd.ntmps47
      go_wp2_with fail
      go_ret
      exact ⟨ret_bool (by simp [inP, h2]), Below.refl _ _⟩
  · go_enter Tryd.func47, Tryd.ntmps47
    go_wp2_with fail
    go_ret
    exact ⟨ret_bool (by rw [inP, decide_eq_false (by omega : ¬ 0 ≤ n)]; rfl), Below.refl _ _⟩
set_option maxHeartbeats 1600000 in
theorem namesOf_any (k : Int) (w : World) (hk : U8 k) (hT : OpTab w) : Calls Tryd.prog 46 #[.int .u8 k] w fun e w' => e = .returned (nmV k) ∧ Below w.heap.size w w' := by
  have hkn := fun W => known_any k W hk
  have hz := hT.lt
  unfold U8 at hk
  cases hb : knownP k
  · obtain ⟨e0, e1, e2, e3, e4⟩ := none_of hb
    have hv : nmV k = .agg #[.bool false, .bool false, .bool false, .bool false, .int .u8 0] := by unfold nmV; rw [e0, e1, e2, e3, e4]
    rw [hv]
    rw [hb] at hkn
    clear hv e0 e1 e2 e3 e4 hb hT
    replace hkn := Lib.hid hkn
    go_enter Tryd.func46, Tryd.ntmps46
    go_wp2_with fail
    refine (hkn.out _).mono ?_
    rintro e w1 ⟨rfl, hb1⟩
    obtain ⟨hc, hf⟩ := bcell hb1
    have hr1 : w1.heap[w.heap.size]? = some (.cells #[.bool false, .bool false, .bool false, .bool false, .int .u8 0] 72 (0, 0)) := (hb1.block _ (by simp)).trans (World.alloc_heap_new w _)
    have hbb : Below w.heap.size w w1 := (((Below.refl _ _).alloc (Nat.le_refl _) _).trans (hb1.mono (by simp)))
    replace hr1 := Lib.hid hr1
    replace hbb := Lib.hid hbb
    clear hb1
    go_wp2_with fail
    exact bodyPost_ret (v := .agg #[.bool false, .bool false, .bool false, .bool false, .int .u8 0]) (results_cell_row Tryd.results46 _ _ w.heap.size _ _ _ _ rfl (heap_set5 hr1.out _ _ _ _ _) Tryd.underlying72 rfl (by kernel_rfl)) rfl ⟨rfl, below_set5 hbb.out (Nat.le_refl _) _ _ _ _ _⟩
  · have h13 : 1 ≤ k ∧ k ≤ 13 := by simpa [knownP] using hb
    obtain ⟨c0, c1, c2, c3, c4⟩ := opTab_at hT k (by omega) (by omega)
    rw [hb] at hkn
    unfold nmV
    generalize hasR k = xR at *
    generalize hasA k = xA at *
    generalize hasB k = xB at *
    generalize hasF k = xF at *
    generalize numK k = xN at *
    clear hb hT
    replace hkn := Lib.hid hkn
    go_enter Tryd.func46, Tryd.ntmps46
    go_wp2_with fail
    refine (hkn.out _).mono ?_
    rintro e w1 ⟨rfl, hb1⟩
    have q : ∀ o, w1.cell? ⟨0, o, none⟩ = w.cell? ⟨0, o, none⟩ := fun o => (hb1.cell (p := ⟨0, o, none⟩) (Nat.lt_of_lt_of_le hz (by simp))).trans (World.cell?_alloc_lt w _ _ hz)
    have d0 := (q _).trans c0
    have d1 := (q _).trans c1
    have d2 := (q _).trans c2
    have d3 := (q _).trans c3
    have d4 := (q _).trans c4
    clear q c0 c1 c2 c3 c4
    obtain ⟨hc, hf⟩ := bcell hb1
    have hr1 : w1.heap[w.heap.size]? = some (.cells #[.bool false, .bool false, .bool false, .bool false, .int .u8 0] 72 (0, 0)) := (hb1.block _ (by simp)).trans (World.alloc_heap_new w _)
    have hbb : Below w.heap.size w w1 := (((Below.refl _ _).alloc (Nat.le_refl _) _).trans (hb1.mono (by simp)))
    replace hr1 := Lib.hid hr1
    replace hbb := Lib.hid hbb
    clear hb1
    go_wp2_with fail
    exact bodyPost_ret (v := .agg #[.bool xR, .bool xA, .bool xB, .bool xF, .int .u8 xN]) (results_cell_row Tryd.results46 _ _ w.heap.size _ _ _ _ rfl (heap_set5 hr1.out _ _ _ _ _) Tryd.underlying72 rfl (by kernel_rfl)) rfl ⟨rfl, below_set5 hbb.out (Nat.le_refl _) _ _ _ _ _⟩
end Go.Proofs.YtiicjbnocpphdaaDoor.Cd
