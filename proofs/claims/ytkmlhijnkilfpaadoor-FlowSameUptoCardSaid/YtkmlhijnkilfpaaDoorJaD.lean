/- Walks of code.known, namesOf, within, Writes, Goal. Conditions: the package's table holds its list. Walks of code.Writes, Goal, bare, mayNumber. Conditions: the package's table holds its list. Walk of code.mayNumber. Conditions: the package's table holds its list. Walk of code.mayNumber. Conditions: the package's table holds its list. Walk of code.mayNumber. Conditions: the package's table holds its list. -/
import Derived.Test.YtkmlhijnkilfpaaDoorJaB
import Derived.Test.YtkmlhijnkilfpaaDoorJaC
import Derived.Laws.Rows
namespace Go.Proofs.YtkmlhijnkilfpaaDoor.Cd
open Go Go.RowKit
open Go.Proofs.YtkmlhijnkilfpaaDoor.Lx Go.Proofs.YtkmlhijnkilfpaaDoor.Tr Go.Proofs.YtkmlhijnkilfpaaDoor.Rg

theorem ceq_kps {S : Nat → Prop} {A B : World} (h : Ceq A B) : Kps S A B := fun _ _ _ _ hc => (h.cell _).trans hc
theorem keeps_below {B : Nat} {W W' : World} (h : Below W.heap.size W W') : KeepsFrom B W W' :=
  ⟨h.size, fun k _ _ hk _ => (h.block k (Array.getElem?_eq_some_iff.1 hk).1).trans hk⟩
theorem bcell {W w1 : World} (hb : Below W.heap.size W w1) : (∀ b o, b < W.heap.size → w1.cell? ⟨b, o, none⟩ = W.cell? ⟨b, o, none⟩) ∧ (∀ b o, b < W.heap.size → w1.frozen? ⟨b, o, none⟩ = W.frozen? ⟨b, o, none⟩) :=
  ⟨fun b o h => hb.cell (p := ⟨b, o, none⟩) h, fun b o h => hb.frozen (p := ⟨b, o, none⟩) h⟩
/-! ### A cell of one's own -/
structure Cel (w : World) (r : Nat) (v : Value) (W : World) : Prop where
  cell : W.cell? ⟨r, 0, none⟩ = some v
  frozen : W.frozen? ⟨r, 0, none⟩ = false
theorem Cel.ceq {w : World} {r : Nat} {v : Value} {W W' : World} (h : Cel w r v W) (hc : Ceq W W') : Cel w r v W' := ⟨(hc.cell _).trans h.cell, (hc.frozen _).trans h.frozen⟩
theorem Cel.below {w : World} {r : Nat} {v : Value} {W W' : World} (h : Cel w r v W) (hb : Below W.heap.size W W') : Cel w r v W' :=
  have hl := World.block_lt_of_cell? _ _ h.cell
  ⟨(hb.cell (p := ⟨r, 0, none⟩) hl).trans h.cell, (hb.frozen (p := ⟨r, 0, none⟩) hl).trans h.frozen⟩
theorem Cel.alloc {w : World} {r : Nat} {v : Value} {W : World} (h : Cel w r v W) (o : Obj) : Cel w r v (W.alloc o) := h.below ((Below.refl _ _).alloc (Nat.le_refl _) _)
theorem Cel.setS {w : World} {r : Nat} {v : Value} {W : World} (h : Cel w r v W) (u : Value) : Cel w r u (W.setCell ⟨r, 0, none⟩ u) :=
  ⟨World.cell?_setCell_same _ _ _ h.cell, by rw [World.frozen?_setCell]; exact h.frozen⟩
theorem Cel.new (w W : World) (v : Value) (t : TypeId) : Cel w W.heap.size v (W.alloc (.cells #[v] t)) := by
  have h : (W.alloc (.cells #[v] t)).heap[W.heap.size]? = some (.cells #[v] t (0, 0)) := World.alloc_heap_new W _
  have key : ∀ (V : World) (B : Nat), V.heap[B]? = some (.cells #[v] t (0, 0)) → V.cell? ⟨B, 0, none⟩ = some v ∧ V.frozen? ⟨B, 0, none⟩ = false := fun V B hB => ⟨by simp [World.cell?, hB], by simp [World.frozen?, hB]⟩
  exact ⟨(key _ _ h).1, (key _ _ h).2⟩
/-! ### The table of operations -/
def opVals : Array Value := ((List.range 14).flatMap fun (i : Nat) => [Value.bool (hasR (i : Int)), .bool (hasA (i : Int)), .bool (hasB (i : Int)), .bool (hasF (i : Int)), .int .u8 (numK (i : Int))]).toArray
def OpTab (w : World) : Prop := ∀ j v, opVals[j]? = some v → w.cell? ⟨0, j, none⟩ = some v
theorem OpTab.lt {w : World} (h : OpTab w) : 0 < w.heap.size := World.block_lt_of_cell? _ _ (h 0 (.bool false) rfl)
theorem OpTab.kps {w w' : World} {S : Nat → Prop} (h : OpTab w) (hS : S 0) (k : Kps S w w') : OpTab w' := fun j v hv => k _ _ _ hS (h j v hv)
theorem OpTab.below {w w' : World} {B : Nat} (h : OpTab w) (hB : 0 < B) (hb : Below B w w') : OpTab w' := fun j v hv => (hb.cell (p := ⟨0, j, none⟩) hB).trans (h j v hv)
theorem OpTab.keep {w w' : World} (h : OpTab w) (hb : Below w.heap.size w w') : OpTab w' := h.below h.lt hb
theorem opTab_at {w : World} (h : OpTab w) (k : Int) (h0 : 0 ≤ k) (h1 : k ≤ 13) :
    w.cell? ⟨0, k.toNat * 5, none⟩ = some (.bool (hasR k)) ∧ w.cell? ⟨0, k.toNat * 5 + 1, none⟩ = some (.bool (hasA k)) ∧ w.cell? ⟨0, k.toNat * 5 + 2, none⟩ = some (.bool (hasB k)) ∧ w.cell? ⟨0, k.toNat * 5 + 3, none⟩ = some (.bool (hasF k)) ∧ w.cell? ⟨0, k.toNat * 5 + 4, none⟩ = some (.int .u8 (numK k)) := by
  obtain ⟨m, rfl⟩ : ∃ m : Nat, k = m := ⟨k.toNat, by omega⟩
  rw [Int.toNat_natCast]
  have hm : m < 14 := by omega
  clear h0 h1
  have hd : m = 0 ∨ m = 1 ∨ m = 2 ∨ m = 3 ∨ m = 4 ∨ m = 5 ∨ m = 6 ∨ m = 7 ∨ m = 8 ∨ m = 9 ∨ m = 10 ∨ m = 11 ∨ m = 12 ∨ m = 13 := by omega
  rcases hd with rfl | rfl | rfl | rfl | rfl | rfl | rfl | rfl | rfl | rfl | rfl | rfl | rfl | rfl <;> exact ⟨h _ _ rfl, h _ _ rfl, h _ _ rfl, h _ _ rfl, h _ _ rfl⟩

theorem heap_set1 {w : World} {b : Nat} {vs : Array Value} {T : TypeId} {fr : Nat × Nat} (h : w.heap[b]? = some (.cells vs T fr)) (j : Nat) (v : Value) : (w.setCell ⟨b, j, none⟩ v).heap[b]? = some (.cells (vs.setIfInBounds j v) T fr) := by
  unfold World.setCell
  show (w.heap.modify b _)[b]? = _
  rw [Array.getElem?_modify, if_pos rfl, h]
  simp
theorem heap_set5 {W : World} {g : Nat} {a0 b0 c0 d0 e0 : Value} {T : TypeId} {fr : Nat × Nat} (h : W.heap[g]? = some (.cells #[a0, b0, c0, d0, e0] T fr)) (a b c d e : Value) :
    (((((W.setCell ⟨g, 0, none⟩ a).setCell ⟨g, 1, none⟩ b).setCell ⟨g, 2, none⟩ c).setCell ⟨g, 3, none⟩ d).setCell ⟨g, 4, none⟩ e).heap[g]? = some (.cells #[a, b, c, d, e] T fr) := by
  have := heap_set1 (heap_set1 (heap_set1 (heap_set1 (heap_set1 h 0 a) 1 b) 2 c) 3 d) 4 e
  simpa using this
theorem below_set5 {B g : Nat} {w W : World} (h : Below B w W) (hg : B ≤ g) (a b c d e : Value) : Below B w (((((W.setCell ⟨g, 0, none⟩ a).setCell ⟨g, 1, none⟩ b).setCell ⟨g, 2, none⟩ c).setCell ⟨g, 3, none⟩ d).setCell ⟨g, 4, none⟩ e) :=
  ((((h.setCell (p := ⟨g, 0, none⟩) hg a).setCell (p := ⟨g, 1, none⟩) hg b).setCell (p := ⟨g, 2, none⟩) hg c).setCell (p := ⟨g, 3, none⟩) hg d).setCell (p := ⟨g, 4, none⟩) hg e
theorem none_of {k : Int} (h : knownP k = false) : hasR k = false ∧ hasA k = false ∧ hasB k = false ∧ hasF k = false ∧ numK k = 0 := by
  have hk : k < 1 ∨ 13 < k := by
    simp only [knownP, Bool.and_eq_false_iff, decide_eq_false_iff_not] at h; omega
  refine ⟨?_, ?_, ?_, ?_, ?_⟩
  · simp [hasR]; omega
  · simp [hasA]; omega
  · simp [hasB]; omega
  · simp [hasF]; omega
  · unfold numK; repeat (rw [if_neg (by omega)])
def nmV (k : Int) : Value := .agg #[.bool (hasR k), .bool (hasA k), .bool (hasB k), .bool (hasF k), .int .u8 (numK k)]

set_option maxHeartbeats 800000 in
theorem known_any (k : Int) (w : World) (hk : U8 k) : Calls Tryd.prog 82 #[.int .u8 k] w fun e w' => e = .returned (.bool (knownP k)) ∧ Below w.heap.size w w' := by
  unfold U8 at hk
  by_cases h1 : 1 ≤ k
  · by_cases h2 : k ≤ 13
    · go_enter Tryd.func82, Tryd.ntmps82
      go_wp2_with fail
      go_ret
      exact ⟨ret_bool (by simp [knownP, h1, h2]), Below.refl _ _⟩
    · go_enter Tryd.func82, Tryd.ntmps82
      go_wp2_with fail
      go_ret
      exact ⟨ret_bool (by simp [knownP, h2]), Below.refl _ _⟩
  · go_enter Tryd.func82, Tryd.ntmps82
    go_wp2_with fail
    go_ret
    exact ⟨ret_bool (by rw [knownP, decide_eq_false (by omega : ¬ 1 ≤ k)]; rfl), Below.refl _ _⟩
set_option maxHeartbeats 800000 in
theorem within_any (n m : Int) (w : World) : Calls Tryd.prog 104 #[.int .i64 n, .int .i64 m] w fun e w' => e = .returned (.bool (inP n m)) ∧ Below w.heap.size w w' := by
  by_cases h1 : 0 ≤ n
  · by_cases h2 : n < m
    · go_enter Tryd.func104, Tryd.ntmps104
      go_wp2_with fail
      go_ret
      exact ⟨ret_bool (by simp [inP, h1, h2]), Below.refl _ _⟩
    · go_enter Tryd.func104, Tryd.ntmps104
      go_wp2_with fail
      go_ret
      exact ⟨ret_bool (by simp [inP, h2]), Below.refl _ _⟩
  · go_enter Tryd.func104, Tryd.ntmps104
    go_wp2_with fail
    go_ret
    exact ⟨ret_bool (by rw [inP, decide_eq_false (by omega : ¬ 0 ≤ n)]; rfl), Below.refl _ _⟩
set_option maxHeartbeats 1600000 in
theorem namesOf_any (k : Int) (w : World) (hk : U8 k) (hT : OpTab w) : Calls Tryd.prog 103 #[.int .u8 k] w fun e w' => e = .returned (nmV k) ∧ Below w.heap.size w w' := by
  have hkn := fun W => known_any k W hk
  have hz := hT.lt
  unfold U8 at hk
  cases hb : knownP k
  · obtain ⟨e0, e1, e2, e3, e4⟩ := none_of hb
    have hv : nmV k = .agg #[.bool false, .bool false, .bool false, .bool false, .int .u8 0] := by unfold nmV; rw [e0, e1, e2, e3, e4]
    rw [hv]
    rw [hb] at hkn
    clear hv e0 e1 e2 e3 e4 hb hT
    replace hkn := Lib.hid hkn
    go_enter Tryd.func103, Tryd.ntmps103
    go_wp2_with fail
    refine (hkn.out _).mono ?_
    rintro e w1 ⟨rfl, hb1⟩
    obtain ⟨hc, hf⟩ := bcell hb1
    have hr1 : w1.heap[w.heap.size]? = some (.cells #[.bool false, .bool false, .bool false, .bool false, .int .u8 0] 129 (0, 0)) := (hb1.block _ (by simp)).trans (World.alloc_heap_new w _)
    have hbb : Below w.heap.size w w1 := (((Below.refl _ _).alloc (Nat.le_refl _) _).trans (hb1.mono (by simp)))
    replace hr1 := Lib.hid hr1
    replace hbb := Lib.hid hbb
    clear hb1
    go_wp2_with fail
    exact bodyPost_ret (v := .agg #[.bool false, .bool false, .bool false, .bool false, .int .u8 0]) (results_cell_row Tryd.results103 _ _ w.heap.size _ _ _ _ rfl (heap_set5 hr1.out _ _ _ _ _) Tryd.underlying129 rfl (by kernel_rfl)) rfl ⟨rfl, below_set5 hbb.out (Nat.le_refl _) _ _ _ _ _⟩
  · have h13 : 1 ≤ k ∧ k ≤ 13 := by simpa [knownP] using hb
    obtain ⟨c0, c1, c2, c3, c4⟩ := opTab_at hT k (by omega) (by omega)
    rw [hb] at hkn
    unfold nmV
    generalize hasR k = xR at *
    generalize hasA k = xA at *
    generalize hasB k = xB at *
    generalize hasF k = xF at *
    generalize numK k = xN at *
    clear hb hT
    replace hkn := Lib.hid hkn
    go_enter Tryd.func103, Tryd.ntmps103
    go_wp2_with fail
    refine (hkn.out _).mono ?_
    rintro e w1 ⟨rfl, hb1⟩
    have q : ∀ o, w1.cell? ⟨0, o, none⟩ = w.cell? ⟨0, o, none⟩ := fun o => (hb1.cell (p := ⟨0, o, none⟩) (Nat.lt_of_lt_of_le hz (by simp))).trans (World.cell?_alloc_lt w _ _ hz)
    have d0 := (q _).trans c0
    have d1 := (q _).trans c1
    have d2 := (q _).trans c2
    have d3 := (q _).trans c3
    have d4 := (q _).trans c4
    clear q c0 c1 c2 c3 c4
    obtain ⟨hc, hf⟩ := bcell hb1
    have hr1 : w1.heap[w.heap.size]? = some (.cells #[.bool false, .bool false, .bool false, .bool false, .int .u8 0] 129 (0, 0)) := (hb1.block _ (by simp)).trans (World.alloc_heap_new w _)
    have hbb : Below w.heap.size w w1 := (((Below.refl _ _).alloc (Nat.le_refl _) _).trans (hb1.mono (by simp)))
    replace hr1 := Lib.hid hr1
    replace hbb := Lib.hid hbb
    clear hb1
    go_wp2_with fail
    exact bodyPost_ret (v := .agg #[.bool xR, .bool xA, .bool xB, .bool xF, .int .u8 xN]) (results_cell_row Tryd.results103 _ _ w.heap.size _ _ _ _ rfl (heap_set5 hr1.out _ _ _ _ _) Tryd.underlying129 rfl (by kernel_rfl)) rfl ⟨rfl, below_set5 hbb.out (Nat.le_refl _) _ _ _ _ _⟩
end Go.Proofs.YtkmlhijnkilfpaaDoor.Cd
namespace Go.Proofs.YtkmlhijnkilfpaaDoor.Cd
open Go Go.RowKit
open Go.Proofs.YtkmlhijnkilfpaaDoor.Lx Go.Proofs.YtkmlhijnkilfpaaDoor.Tr Go.Proofs.YtkmlhijnkilfpaaDoor.Rg

@[reducible] def Ins.val (i : Ins) : Value := .agg #[.int .u8 i.op, .int .i64 i.r, .int .i64 i.a, .int .i64 i.b, .int .i64 i.n, .slice i.aa i.args.length i.acap]
@[reducible] def Fn.val (f : Fn) : Value := .agg #[.string f.name, .bool f.thread, .int .i64 f.params, .int .i64 f.regs, .slice f.ca f.code.length f.ccap]
@[reducible] def Mm.val (m : Mm) : Value := .agg #[.string m.name, .int .i64 m.size, .int .i64 m.first]
@[reducible] def Pg.val (p : Pg) : Value := .agg #[.slice p.ma p.mems.length p.mcap, .slice p.la p.locks.length p.lcap, .slice p.fa p.funs.length p.fcap]
theorem b_alloc (w : World) (o : Obj) : Below w.heap.size w (w.alloc o) := (Below.refl _ _).alloc (Nat.le_refl _) _
theorem b_alloc2 (w : World) (o o' : Obj) : Below w.heap.size w ((w.alloc o).alloc o') := (b_alloc w o).alloc (by simp) _
theorem b_alloc3 (w : World) (o o' o2 : Obj) : Below w.heap.size w (((w.alloc o).alloc o').alloc o2) := (b_alloc2 w o o').alloc (by simp; omega) _
theorem b_next {w w1 : World} {o : Obj} (h : Below (w.alloc o).heap.size (w.alloc o) w1) : Below w.heap.size w w1 := (b_alloc w o).trans (h.mono (by simp))
theorem b_next2 {w w1 : World} {o o' : Obj} (h : Below ((w.alloc o).alloc o').heap.size ((w.alloc o).alloc o') w1) : Below w.heap.size w w1 := (b_alloc2 w o o').trans (h.mono (by simp; omega))
theorem b_next3 {w w1 : World} {o o' o2 : Obj} (h : Below (((w.alloc o).alloc o').alloc o2).heap.size (((w.alloc o).alloc o').alloc o2) w1) : Below w.heap.size w w1 := (b_alloc3 w o o' o2).trans (h.mono (by simp; omega))
theorem fl_nm0 (V : World) (a b c d : Bool) (n : Int) : (Instr.field 129 (.agg #[.bool a, .bool b, .bool c, .bool d, .int .u8 n]) 0).run Tryd.prog V = .ok (.bool a) V := by kernel_rfl
theorem fl_nm4 (V : World) (a b c d : Bool) (n : Int) : (Instr.field 129 (.agg #[.bool a, .bool b, .bool c, .bool d, .int .u8 n]) 4).run Tryd.prog V = .ok (.int .u8 n) V := by kernel_rfl
theorem tri (x : Bool) (p : Prop) : x = true ∨ (x = false ∧ p) ∨ (x = false ∧ ¬ p) := by
  cases x <;> simp [Classical.em]

set_option maxRecDepth 100000 in
set_option maxHeartbeats 1600000 in
theorem writes_any (i : Ins) (w : World) (hi : U8 i.op) (hT : OpTab w) :
    Calls Tryd.prog 106 #[i.val] w fun e w' => e = .returned (.tuple #[.int .i64 (wrP i).1, .bool (wrP i).2]) ∧ Below w.heap.size w w' := by
  have hn := fun W (hb : Below w.heap.size w W) => namesOf_any i.op W hi (hT.keep hb)
  unfold nmV at hn
  unfold wrP
  generalize hasR i.op = xR at *
  generalize hasA i.op = xA at *
  generalize hasB i.op = xB at *
  generalize hasF i.op = xF at *
  generalize numK i.op = xN at *
  clear hT
  replace hn := Lib.hid hn
  cases xR
  · go_enter Tryd.func106, Tryd.ntmps106
    go_wp2_with fail
    refine (hn.out _ (b_alloc _ _)).mono ?_
    rintro e w1 ⟨rfl, hb1⟩
    obtain ⟨hc, hf⟩ := bcell hb1
    have hlt : w.heap.size < w1.heap.size := by have := hb1.size; simp at this; omega
    have hfl := fl_nm0 w1
    go_wp2_with fail
    go_ret2
    exact ⟨rfl, b_next hb1⟩
  · go_enter Tryd.func106, Tryd.ntmps106
    go_wp2_with fail
    refine (hn.out _ (b_alloc _ _)).mono ?_
    rintro e w1 ⟨rfl, hb1⟩
    obtain ⟨hc, hf⟩ := bcell hb1
    have hlt : w.heap.size < w1.heap.size := by have := hb1.size; simp at this; omega
    have hfl := fl_nm0 w1
    go_wp2_with fail
    go_ret2
    exact ⟨rfl, b_next hb1⟩
set_option maxRecDepth 100000 in
set_option maxHeartbeats 1600000 in
theorem goal_any (i : Ins) (w : World) (hi : U8 i.op) (hT : OpTab w) :
    Calls Tryd.prog 110 #[i.val] w fun e w' => e = .returned (.tuple #[.int .i64 (glP i).1, .bool (glP i).2]) ∧ Below w.heap.size w w' := by
  have hn := fun W (hb : Below w.heap.size w W) => namesOf_any i.op W hi (hT.keep hb)
  unfold nmV at hn
  unfold glP
  generalize hasR i.op = xR at *
  generalize hasA i.op = xA at *
  generalize hasB i.op = xB at *
  generalize hasF i.op = xF at *
  generalize numK i.op = xN at *
  clear hT
  replace hn := Lib.hid hn
  by_cases h7 : xN = 7
  · rw [if_pos h7]
    go_enter Tryd.func110, Tryd.ntmps110
    go_wp2_with fail
    refine (hn.out _ (b_alloc _ _)).mono ?_
    rintro e w1 ⟨rfl, hb1⟩
    obtain ⟨hc, hf⟩ := bcell hb1
    have hlt : w.heap.size < w1.heap.size := by have := hb1.size; simp at this; omega
    have hfl := fl_nm4 w1
    go_wp2_with fail
    go_ret2
    exact ⟨rfl, b_next hb1⟩
  · rw [if_neg h7]
    go_enter Tryd.func110, Tryd.ntmps110
    go_wp2_with fail
    refine (hn.out _ (b_alloc _ _)).mono ?_
    rintro e w1 ⟨rfl, hb1⟩
    obtain ⟨hc, hf⟩ := bcell hb1
    have hlt : w.heap.size < w1.heap.size := by have := hb1.size; simp at this; omega
    have hfl := fl_nm4 w1
    go_wp2_with fail
    go_ret2
    exact ⟨rfl, b_next hb1⟩
set_option maxRecDepth 100000 in
set_option maxHeartbeats 8000000 in
theorem bare_any (i : Ins) (w : World) (hi : U8 i.op) (hT : OpTab w) :
    Calls Tryd.prog 83 #[i.val] w fun e w' => e = .returned (.bool (bareP i)) ∧ Below w.heap.size w w' := by
  have hn := fun W (hb : Below w.heap.size w W) => namesOf_any i.op W hi (hT.keep hb)
  unfold nmV at hn
  unfold bareP
  generalize hasR i.op = xR at *
  generalize hasA i.op = xA at *
  generalize hasB i.op = xB at *
  generalize hasF i.op = xF at *
  generalize numK i.op = xN at *
  clear hT
  replace hn := Lib.hid hn
  rcases tri xR (i.r = 0) with rfl | ⟨rfl, h1⟩ | ⟨rfl, h1⟩ <;> rcases tri xA (i.a = 0) with rfl | ⟨rfl, h2⟩ | ⟨rfl, h2⟩ <;> rcases tri xB (i.b = 0) with rfl | ⟨rfl, h3⟩ | ⟨rfl, h3⟩ <;>
  · go_enter Tryd.func83, Tryd.ntmps83
    go_wp2_with fail
    refine (hn.out _ (b_alloc _ _)).mono ?_
    rintro e w1 ⟨rfl, hb1⟩
    obtain ⟨hc, hf⟩ := bcell hb1
    have hlt : w.heap.size < w1.heap.size := by have := hb1.size; simp at this; omega
    go_wp2_with fail
    go_ret
    exact ⟨ret_bool (by simp [*]), (b_next hb1).alloc (b_next hb1).size _⟩
end Go.Proofs.YtkmlhijnkilfpaaDoor.Cd
namespace Go.Proofs.YtkmlhijnkilfpaaDoor.Cd
open Go Go.RowKit
open Go.Proofs.YtkmlhijnkilfpaaDoor.Lx Go.Proofs.YtkmlhijnkilfpaaDoor.Tr Go.Proofs.YtkmlhijnkilfpaaDoor.Rg

theorem numK_cases (op : Int) : numK op = 0 ∨ numK op = 1 ∨ numK op = 2 ∨ numK op = 3 ∨ numK op = 4 ∨ numK op = 5 ∨ numK op = 6 ∨ numK op = 7 := by
  unfold numK
  repeat' split
  all_goals simp
theorem fit_fin (A : Bool × Int) (l : Nat) (x : Bool) (c : Int) (h : A = (x, c)) : (A.1 && decide ((l : Int) = A.2)) = (x && decide ((l : Int) = c)) := by rw [h]

set_option maxRecDepth 100000 in
set_option maxHeartbeats 8000000 in
theorem mayNum_none (p : Pg) (f : Fn) (i : Ins) (w : World) (hi : U8 i.op) (hT : OpTab w) (hK : numK i.op = 0) :
    Calls Tryd.prog 84 #[p.val, f.val, i.val] w fun e w' => e = .returned (.bool (numP p f i)) ∧ Below w.heap.size w w' := by
  have hn := fun W (hb : Below w.heap.size w W) => namesOf_any i.op W hi (hT.keep hb)
  unfold nmV at hn
  rw [hK] at hn
  have hfit : numP p f i = _ := fit_fin (fitP p f i) i.args.length _ _ (by unfold fitP; simp only [hK]; rfl)
  rw [hfit]
  clear hfit hT
  generalize hasR i.op = xR at *
  generalize hasA i.op = xA at *
  generalize hasB i.op = xB at *
  generalize hasF i.op = xF at *
  replace hn := Lib.hid hn
  by_cases h1 : i.n = 0
  · rw [decide_eq_true h1]
    go_enter Tryd.func84, Tryd.ntmps84
    go_wp2_with fail
    refine (hn.out _ (b_alloc3 _ _ _ _)).mono ?_
    rintro e w1 ⟨rfl, hb1⟩
    obtain ⟨hc, hf⟩ := bcell hb1
    have hlt : w.heap.size + 2 < w1.heap.size := by have := hb1.size; simp at this; omega
    have hlt1 : w.heap.size + 1 < w1.heap.size := by omega
    have hlt0 : w.heap.size < w1.heap.size := by omega
    have hfl := fl_nm4 w1
    have hbb := Lib.hid (b_next3 hb1)
    clear hb1
    go_wp2_with fail
    go_ret
    exact ⟨ret_bool (by rw [Bool.eq_iff_iff] <;> simp [*]), hbb.out⟩
  · rw [decide_eq_false h1]
    go_enter Tryd.func84, Tryd.ntmps84
    go_wp2_with fail
    refine (hn.out _ (b_alloc3 _ _ _ _)).mono ?_
    rintro e w1 ⟨rfl, hb1⟩
    obtain ⟨hc, hf⟩ := bcell hb1
    have hlt : w.heap.size + 2 < w1.heap.size := by have := hb1.size; simp at this; omega
    have hlt1 : w.heap.size + 1 < w1.heap.size := by omega
    have hlt0 : w.heap.size < w1.heap.size := by omega
    have hfl := fl_nm4 w1
    have hbb := Lib.hid (b_next3 hb1)
    clear hb1
    go_wp2_with fail
    go_ret
    exact ⟨ret_bool (by rw [Bool.eq_iff_iff] <;> simp [*]), hbb.out⟩
set_option maxRecDepth 100000 in
set_option maxHeartbeats 8000000 in
theorem mayNum_any1 (p : Pg) (f : Fn) (i : Ins) (w : World) (hi : U8 i.op) (hT : OpTab w) (hK : numK i.op = 1) :
    Calls Tryd.prog 84 #[p.val, f.val, i.val] w fun e w' => e = .returned (.bool (numP p f i)) ∧ Below w.heap.size w w' := by
  have hn := fun W (hb : Below w.heap.size w W) => namesOf_any i.op W hi (hT.keep hb)
  unfold nmV at hn
  rw [hK] at hn
  have hfit : numP p f i = _ := fit_fin (fitP p f i) i.args.length _ _ (by unfold fitP; simp only [hK]; rfl)
  rw [hfit]
  clear hfit hT
  generalize hasR i.op = xR at *
  generalize hasA i.op = xA at *
  generalize hasB i.op = xB at *
  generalize hasF i.op = xF at *
  replace hn := Lib.hid hn
  go_enter Tryd.func84, Tryd.ntmps84
  go_wp2_with fail
  refine (hn.out _ (b_alloc3 _ _ _ _)).mono ?_
  rintro e w1 ⟨rfl, hb1⟩
  obtain ⟨hc, hf⟩ := bcell hb1
  have hlt : w.heap.size + 2 < w1.heap.size := by have := hb1.size; simp at this; omega
  have hlt1 : w.heap.size + 1 < w1.heap.size := by omega
  have hlt0 : w.heap.size < w1.heap.size := by omega
  have hfl := fl_nm4 w1
  have hbb := Lib.hid (b_next3 hb1)
  clear hb1
  go_wp2_with fail
  go_ret
  exact ⟨ret_bool (by rw [Bool.eq_iff_iff] <;> simp [*]), hbb.out⟩
set_option maxRecDepth 100000 in
set_option maxHeartbeats 8000000 in
theorem mayNum_one (p : Pg) (f : Fn) (i : Ins) (w : World) (hi : U8 i.op) (hT : OpTab w) (hK : numK i.op = 2) :
    Calls Tryd.prog 84 #[p.val, f.val, i.val] w fun e w' => e = .returned (.bool (numP p f i)) ∧ Below w.heap.size w w' := by
  have hn := fun W (hb : Below w.heap.size w W) => namesOf_any i.op W hi (hT.keep hb)
  unfold nmV at hn
  rw [hK] at hn
  have hfit : numP p f i = _ := fit_fin (fitP p f i) i.args.length _ _ (by unfold fitP; simp only [hK]; rfl)
  rw [hfit]
  clear hfit hT
  generalize hasR i.op = xR at *
  generalize hasA i.op = xA at *
  generalize hasB i.op = xB at *
  generalize hasF i.op = xF at *
  replace hn := Lib.hid hn
  by_cases h5 : i.n = 5
  · rw [decide_eq_true h5]
    go_enter Tryd.func84, Tryd.ntmps84
    go_wp2_with fail
    refine (hn.out _ (b_alloc3 _ _ _ _)).mono ?_
    rintro e w1 ⟨rfl, hb1⟩
    obtain ⟨hc, hf⟩ := bcell hb1
    have hlt : w.heap.size + 2 < w1.heap.size := by have := hb1.size; simp at this; omega
    have hlt1 : w.heap.size + 1 < w1.heap.size := by omega
    have hlt0 : w.heap.size < w1.heap.size := by omega
    have hfl := fl_nm4 w1
    have hbb := Lib.hid (b_next3 hb1)
    clear hb1
    go_wp2_with fail
    go_ret
    exact ⟨ret_bool (by rw [Bool.eq_iff_iff] <;> simp [*]), hbb.out⟩
  · rw [decide_eq_false h5]
    by_cases h6 : i.n = 6
    · rw [decide_eq_true h6]
      go_enter Tryd.func84, Tryd.ntmps84
      go_wp2_with fail
      refine (hn.out _ (b_alloc3 _ _ _ _)).mono ?_
      rintro e w1 ⟨rfl, hb1⟩
      obtain ⟨hc, hf⟩ := bcell hb1
      have hlt : w.heap.size + 2 < w1.heap.size := by have := hb1.size; simp at this; omega
      have hlt1 : w.heap.size + 1 < w1.heap.size := by omega
      have hlt0 : w.heap.size < w1.heap.size := by omega
      have hfl := fl_nm4 w1
      have hbb := Lib.hid (b_next3 hb1)
      clear hb1
      go_wp2_with fail
      go_ret
      exact ⟨ret_bool (by rw [Bool.eq_iff_iff] <;> simp [*]), hbb.out⟩
    · rw [decide_eq_false h6]
      go_enter Tryd.func84, Tryd.ntmps84
      go_wp2_with fail
      refine (hn.out _ (b_alloc3 _ _ _ _)).mono ?_
      rintro e w1 ⟨rfl, hb1⟩
      obtain ⟨hc, hf⟩ := bcell hb1
      have hlt : w.heap.size + 2 < w1.heap.size := by have := hb1.size; simp at this; omega
      have hlt1 : w.heap.size + 1 < w1.heap.size := by omega
      have hlt0 : w.heap.size < w1.heap.size := by omega
      have hfl := fl_nm4 w1
      have hbb := Lib.hid (b_next3 hb1)
      clear hb1
      go_wp2_with fail
      go_ret
      exact ⟨ret_bool (by rw [Bool.eq_iff_iff] <;> simp [*]), hbb.out⟩
set_option maxRecDepth 100000 in
set_option maxHeartbeats 8000000 in
theorem mayNum_two (p : Pg) (f : Fn) (i : Ins) (w : World) (hi : U8 i.op) (hT : OpTab w) (hK : numK i.op = 3) :
    Calls Tryd.prog 84 #[p.val, f.val, i.val] w fun e w' => e = .returned (.bool (numP p f i)) ∧ Below w.heap.size w w' := by
  have hn := fun W (hb : Below w.heap.size w W) => namesOf_any i.op W hi (hT.keep hb)
  unfold nmV at hn
  rw [hK] at hn
  have hfit : numP p f i = _ := fit_fin (fitP p f i) i.args.length _ _ (by unfold fitP; simp only [hK]; rfl)
  rw [hfit]
  clear hfit hT
  generalize hasR i.op = xR at *
  generalize hasA i.op = xA at *
  generalize hasB i.op = xB at *
  generalize hasF i.op = xF at *
  replace hn := Lib.hid hn
  by_cases h5 : 7 ≤ i.n
  · rw [decide_eq_true h5]
    by_cases h6 : i.n ≤ 17
    · rw [decide_eq_true h6]
      go_enter Tryd.func84, Tryd.ntmps84
      go_wp2_with fail
      refine (hn.out _ (b_alloc3 _ _ _ _)).mono ?_
      rintro e w1 ⟨rfl, hb1⟩
      obtain ⟨hc, hf⟩ := bcell hb1
      have hlt : w.heap.size + 2 < w1.heap.size := by have := hb1.size; simp at this; omega
      have hlt1 : w.heap.size + 1 < w1.heap.size := by omega
      have hlt0 : w.heap.size < w1.heap.size := by omega
      have hfl := fl_nm4 w1
      have hbb := Lib.hid (b_next3 hb1)
      clear hb1
      go_wp2_with fail
      go_ret
      exact ⟨ret_bool (by rw [Bool.eq_iff_iff] <;> simp [*]), hbb.out⟩
    · rw [decide_eq_false h6]
      go_enter Tryd.func84, Tryd.ntmps84
      go_wp2_with fail
      refine (hn.out _ (b_alloc3 _ _ _ _)).mono ?_
      rintro e w1 ⟨rfl, hb1⟩
      obtain ⟨hc, hf⟩ := bcell hb1
      have hlt : w.heap.size + 2 < w1.heap.size := by have := hb1.size; simp at this; omega
      have hlt1 : w.heap.size + 1 < w1.heap.size := by omega
      have hlt0 : w.heap.size < w1.heap.size := by omega
      have hfl := fl_nm4 w1
      have hbb := Lib.hid (b_next3 hb1)
      clear hb1
      go_wp2_with fail
      go_ret
      exact ⟨ret_bool (by rw [Bool.eq_iff_iff] <;> simp [*]), hbb.out⟩
  · rw [decide_eq_false h5]
    go_enter Tryd.func84, Tryd.ntmps84
    go_wp2_with fail
    refine (hn.out _ (b_alloc3 _ _ _ _)).mono ?_
    rintro e w1 ⟨rfl, hb1⟩
    obtain ⟨hc, hf⟩ := bcell hb1
    have hlt : w.heap.size + 2 < w1.heap.size := by have := hb1.size; simp at this; omega
    have hlt1 : w.heap.size + 1 < w1.heap.size := by omega
    have hlt0 : w.heap.size < w1.heap.size := by omega
    have hfl := fl_nm4 w1
    have hbb := Lib.hid (b_next3 hb1)
    clear hb1
    go_wp2_with fail
    go_ret
    exact ⟨ret_bool (by rw [Bool.eq_iff_iff] <;> simp [*]), hbb.out⟩
set_option maxRecDepth 100000 in
set_option maxHeartbeats 8000000 in
theorem mayNum_mem (p : Pg) (f : Fn) (i : Ins) (w : World) (hi : U8 i.op) (hT : OpTab w) (hK : numK i.op = 4) :
    Calls Tryd.prog 84 #[p.val, f.val, i.val] w fun e w' => e = .returned (.bool (numP p f i)) ∧ Below w.heap.size w w' := by
  have hn := fun W (hb : Below w.heap.size w W) => namesOf_any i.op W hi (hT.keep hb)
  unfold nmV at hn
  rw [hK] at hn
  have hfit : numP p f i = _ := fit_fin (fitP p f i) i.args.length _ _ (by unfold fitP; simp only [hK]; rfl)
  rw [hfit]
  clear hfit hT
  generalize hasR i.op = xR at *
  generalize hasA i.op = xA at *
  generalize hasB i.op = xB at *
  generalize hasF i.op = xF at *
  replace hn := Lib.hid hn
  have hwi := fun W => within_any i.n p.mems.length W
  generalize inP i.n p.mems.length = x at *
  replace hwi := Lib.hid hwi
  cases x
  · go_enter Tryd.func84, Tryd.ntmps84
    go_wp2_with fail
    refine (hn.out _ (b_alloc3 _ _ _ _)).mono ?_
    rintro e w1 ⟨rfl, hb1⟩
    obtain ⟨hc, hf⟩ := bcell hb1
    have hlt : w.heap.size + 2 < w1.heap.size := by have := hb1.size; simp at this; omega
    have hlt1 : w.heap.size + 1 < w1.heap.size := by omega
    have hlt0 : w.heap.size < w1.heap.size := by omega
    have hfl := fl_nm4 w1
    have hbb := Lib.hid (b_next3 hb1)
    clear hb1
    go_wp2_with fail
    refine (hwi.out _).mono ?_
    rintro e w2 ⟨rfl, hb2⟩
    obtain ⟨hc2, hf2⟩ := bcell hb2
    have hl2 := hb2.size
    have hbb2 := Lib.hid (hbb.out.trans (hb2.mono hbb.out.size))
    clear hb2 hbb
    go_wp2_with fail
    go_ret
    exact ⟨ret_bool (by rw [Bool.eq_iff_iff] <;> simp [*]), hbb2.out⟩
  · go_enter Tryd.func84, Tryd.ntmps84
    go_wp2_with fail
    refine (hn.out _ (b_alloc3 _ _ _ _)).mono ?_
    rintro e w1 ⟨rfl, hb1⟩
    obtain ⟨hc, hf⟩ := bcell hb1
    have hlt : w.heap.size + 2 < w1.heap.size := by have := hb1.size; simp at this; omega
    have hlt1 : w.heap.size + 1 < w1.heap.size := by omega
    have hlt0 : w.heap.size < w1.heap.size := by omega
    have hfl := fl_nm4 w1
    have hbb := Lib.hid (b_next3 hb1)
    clear hb1
    go_wp2_with fail
    refine (hwi.out _).mono ?_
    rintro e w2 ⟨rfl, hb2⟩
    obtain ⟨hc2, hf2⟩ := bcell hb2
    have hl2 := hb2.size
    have hbb2 := Lib.hid (hbb.out.trans (hb2.mono hbb.out.size))
    clear hb2 hbb
    go_wp2_with fail
    go_ret
    exact ⟨ret_bool (by rw [Bool.eq_iff_iff] <;> simp [*]), hbb2.out⟩
set_option maxRecDepth 100000 in
set_option maxHeartbeats 8000000 in
theorem mayNum_lock (p : Pg) (f : Fn) (i : Ins) (w : World) (hi : U8 i.op) (hT : OpTab w) (hK : numK i.op = 5) :
    Calls Tryd.prog 84 #[p.val, f.val, i.val] w fun e w' => e = .returned (.bool (numP p f i)) ∧ Below w.heap.size w w' := by
  have hn := fun W (hb : Below w.heap.size w W) => namesOf_any i.op W hi (hT.keep hb)
  unfold nmV at hn
  rw [hK] at hn
  have hfit : numP p f i = _ := fit_fin (fitP p f i) i.args.length _ _ (by unfold fitP; simp only [hK]; rfl)
  rw [hfit]
  clear hfit hT
  generalize hasR i.op = xR at *
  generalize hasA i.op = xA at *
  generalize hasB i.op = xB at *
  generalize hasF i.op = xF at *
  replace hn := Lib.hid hn
  have hwi := fun W => within_any i.n p.locks.length W
  generalize inP i.n p.locks.length = x at *
  replace hwi := Lib.hid hwi
  cases x
  · go_enter Tryd.func84, Tryd.ntmps84
    go_wp2_with fail
    refine (hn.out _ (b_alloc3 _ _ _ _)).mono ?_
    rintro e w1 ⟨rfl, hb1⟩
    obtain ⟨hc, hf⟩ := bcell hb1
    have hlt : w.heap.size + 2 < w1.heap.size := by have := hb1.size; simp at this; omega
    have hlt1 : w.heap.size + 1 < w1.heap.size := by omega
    have hlt0 : w.heap.size < w1.heap.size := by omega
    have hfl := fl_nm4 w1
    have hbb := Lib.hid (b_next3 hb1)
    clear hb1
    go_wp2_with fail
    refine (hwi.out _).mono ?_
    rintro e w2 ⟨rfl, hb2⟩
    obtain ⟨hc2, hf2⟩ := bcell hb2
    have hl2 := hb2.size
    have hbb2 := Lib.hid (hbb.out.trans (hb2.mono hbb.out.size))
    clear hb2 hbb
    go_wp2_with fail
    go_ret
    exact ⟨ret_bool (by rw [Bool.eq_iff_iff] <;> simp [*]), hbb2.out⟩
  · go_enter Tryd.func84, Tryd.ntmps84
    go_wp2_with fail
    refine (hn.out _ (b_alloc3 _ _ _ _)).mono ?_
    rintro e w1 ⟨rfl, hb1⟩
    obtain ⟨hc, hf⟩ := bcell hb1
    have hlt : w.heap.size + 2 < w1.heap.size := by have := hb1.size; simp at this; omega
    have hlt1 : w.heap.size + 1 < w1.heap.size := by omega
    have hlt0 : w.heap.size < w1.heap.size := by omega
    have hfl := fl_nm4 w1
    have hbb := Lib.hid (b_next3 hb1)
    clear hb1
    go_wp2_with fail
    refine (hwi.out _).mono ?_
    rintro e w2 ⟨rfl, hb2⟩
    obtain ⟨hc2, hf2⟩ := bcell hb2
    have hl2 := hb2.size
    have hbb2 := Lib.hid (hbb.out.trans (hb2.mono hbb.out.size))
    clear hb2 hbb
    go_wp2_with fail
    go_ret
    exact ⟨ret_bool (by rw [Bool.eq_iff_iff] <;> simp [*]), hbb2.out⟩
set_option maxRecDepth 100000 in
set_option maxHeartbeats 8000000 in
theorem mayNum_goal (p : Pg) (f : Fn) (i : Ins) (w : World) (hi : U8 i.op) (hT : OpTab w) (hK : numK i.op = 7) :
    Calls Tryd.prog 84 #[p.val, f.val, i.val] w fun e w' => e = .returned (.bool (numP p f i)) ∧ Below w.heap.size w w' := by
  have hn := fun W (hb : Below w.heap.size w W) => namesOf_any i.op W hi (hT.keep hb)
  unfold nmV at hn
  rw [hK] at hn
  have hfit : numP p f i = _ := fit_fin (fitP p f i) i.args.length _ _ (by unfold fitP; simp only [hK]; rfl)
  rw [hfit]
  clear hfit hT
  generalize hasR i.op = xR at *
  generalize hasA i.op = xA at *
  generalize hasB i.op = xB at *
  generalize hasF i.op = xF at *
  replace hn := Lib.hid hn
  have hwi := fun W => within_any i.n f.code.length W
  generalize inP i.n f.code.length = x at *
  replace hwi := Lib.hid hwi
  cases x
  · go_enter Tryd.func84, Tryd.ntmps84
    go_wp2_with fail
    refine (hn.out _ (b_alloc3 _ _ _ _)).mono ?_
    rintro e w1 ⟨rfl, hb1⟩
    obtain ⟨hc, hf⟩ := bcell hb1
    have hlt : w.heap.size + 2 < w1.heap.size := by have := hb1.size; simp at this; omega
    have hlt1 : w.heap.size + 1 < w1.heap.size := by omega
    have hlt0 : w.heap.size < w1.heap.size := by omega
    have hfl := fl_nm4 w1
    have hbb := Lib.hid (b_next3 hb1)
    clear hb1
    go_wp2_with fail
    refine (hwi.out _).mono ?_
    rintro e w2 ⟨rfl, hb2⟩
    obtain ⟨hc2, hf2⟩ := bcell hb2
    have hl2 := hb2.size
    have hbb2 := Lib.hid (hbb.out.trans (hb2.mono hbb.out.size))
    clear hb2 hbb
    go_wp2_with fail
    go_ret
    exact ⟨ret_bool (by rw [Bool.eq_iff_iff] <;> simp [*]), hbb2.out⟩
  · go_enter Tryd.func84, Tryd.ntmps84
    go_wp2_with fail
    refine (hn.out _ (b_alloc3 _ _ _ _)).mono ?_
    rintro e w1 ⟨rfl, hb1⟩
    obtain ⟨hc, hf⟩ := bcell hb1
    have hlt : w.heap.size + 2 < w1.heap.size := by have := hb1.size; simp at this; omega
    have hlt1 : w.heap.size + 1 < w1.heap.size := by omega
    have hlt0 : w.heap.size < w1.heap.size := by omega
    have hfl := fl_nm4 w1
    have hbb := Lib.hid (b_next3 hb1)
    clear hb1
    go_wp2_with fail
    refine (hwi.out _).mono ?_
    rintro e w2 ⟨rfl, hb2⟩
    obtain ⟨hc2, hf2⟩ := bcell hb2
    have hl2 := hb2.size
    have hbb2 := Lib.hid (hbb.out.trans (hb2.mono hbb.out.size))
    clear hb2 hbb
    go_wp2_with fail
    go_ret
    exact ⟨ret_bool (by rw [Bool.eq_iff_iff] <;> simp [*]), hbb2.out⟩
set_option maxRecDepth 100000 in
set_option maxHeartbeats 8000000 in
theorem mayNum_call_no (p : Pg) (f : Fn) (i : Ins) (w : World) (hi : U8 i.op) (hT : OpTab w) (hK : numK i.op = 6) (hin : inP i.n p.funs.length = false) :
    Calls Tryd.prog 84 #[p.val, f.val, i.val] w fun e w' => e = .returned (.bool (numP p f i)) ∧ Below w.heap.size w w' := by
  have hn := fun W (hb : Below w.heap.size w W) => namesOf_any i.op W hi (hT.keep hb)
  unfold nmV at hn
  rw [hK] at hn
  have hfit : numP p f i = _ := fit_fin (fitP p f i) i.args.length _ _ (by unfold fitP; simp only [hK, hin]; rfl)
  rw [hfit]
  clear hfit hT
  generalize hasR i.op = xR at *
  generalize hasA i.op = xA at *
  generalize hasB i.op = xB at *
  generalize hasF i.op = xF at *
  replace hn := Lib.hid hn
  have hwi := fun W => within_any i.n p.funs.length W
  rw [hin] at hwi
  replace hwi := Lib.hid hwi
  go_enter Tryd.func84, Tryd.ntmps84
  go_wp2_with fail
  refine (hn.out _ (b_alloc3 _ _ _ _)).mono ?_
  rintro e w1 ⟨rfl, hb1⟩
  obtain ⟨hc, hf⟩ := bcell hb1
  have hlt : w.heap.size + 2 < w1.heap.size := by have := hb1.size; simp at this; omega
  have hlt1 : w.heap.size + 1 < w1.heap.size := by omega
  have hlt0 : w.heap.size < w1.heap.size := by omega
  have hfl := fl_nm4 w1
  have hbb := Lib.hid (b_next3 hb1)
  clear hb1
  go_wp2_with fail
  refine (hwi.out _).mono ?_
  rintro e w2 ⟨rfl, hb2⟩
  obtain ⟨hc2, hf2⟩ := bcell hb2
  have hl2 := hb2.size
  have hbb2 := Lib.hid (hbb.out.trans (hb2.mono hbb.out.size))
  clear hb2 hbb
  go_wp2_with fail
  go_ret
  exact ⟨ret_bool (by rw [Bool.eq_iff_iff] <;> simp [*]), hbb2.out⟩
end Go.Proofs.YtkmlhijnkilfpaaDoor.Cd
namespace Go.Proofs.YtkmlhijnkilfpaaDoor.Cd
open Go Go.RowKit
open Go.Proofs.YtkmlhijnkilfpaaDoor.Lx Go.Proofs.YtkmlhijnkilfpaaDoor.Tr Go.Proofs.YtkmlhijnkilfpaaDoor.Rg

set_option maxRecDepth 100000 in
set_option maxHeartbeats 8000000 in
theorem mayNum_call_thr (p : Pg) (f : Fn) (i : Ins) (w : World) (hi : U8 i.op) (hT : OpTab w) (hK : numK i.op = 6) (m : Nat) (hm : i.n = m) (g : Fn) (hg : p.funs[m]? = some g) (hin : inP i.n p.funs.length = true) (hrow : RowAt w (fun _ => True) p.fa p.fcap p.funs.length (fnCells p.funs)) (ht : g.thread = true) :
    Calls Tryd.prog 84 #[p.val, f.val, i.val] w fun e w' => e = .returned (.bool (numP p f i)) ∧ Below w.heap.size w w' := by
  have hn := fun W (hb : Below w.heap.size w W) => namesOf_any i.op W hi (hT.keep hb)
  unfold nmV at hn
  rw [hK] at hn
  have hfit : numP p f i = _ := fit_fin (fitP p f i) i.args.length false 0 (by unfold fitP; simp only [hK, hin]; rw [hm, Int.toNat_natCast, hg]; simp only [ht] <;> rfl)
  rw [hfit]
  clear hfit hT
  generalize hasR i.op = xR at *
  generalize hasA i.op = xA at *
  generalize hasB i.op = xB at *
  generalize hasF i.op = xF at *
  replace hn := Lib.hid hn
  have hwi := fun W => within_any i.n p.funs.length W
  rw [hin, hm] at hwi
  replace hwi := Lib.hid hwi
  have hml : m < p.funs.length := (List.getElem?_eq_some_iff.1 hg).1
  have hml2 : (m : Int) < p.funs.length := by omega
  have hm0 : (0 : Int) ≤ m := by omega
  obtain ⟨b, off, hfa, _, _, c1, c2, _, _⟩ := fn_row hrow m g hg
  have hbl : b < w.heap.size := World.block_lt_of_cell? _ _ c1
  unfold Pg.val Ins.val
  rw [hfa, hm]
  clear hg hrow hin hfa
  rw [ht] at c1
  go_enter Tryd.func84, Tryd.ntmps84
  go_wp2_with fail
  refine (hn.out _ (b_alloc3 _ _ _ _)).mono ?_
  rintro e w1 ⟨rfl, hb1⟩
  obtain ⟨hc, hf⟩ := bcell hb1
  have hlt : w.heap.size + 2 < w1.heap.size := by have := hb1.size; simp at this; omega
  have hlt1 : w.heap.size + 1 < w1.heap.size := by omega
  have hlt0 : w.heap.size < w1.heap.size := by omega
  have hfl := fl_nm4 w1
  have hbb := Lib.hid (b_next3 hb1)
  clear hb1
  go_wp2_with fail
  refine (hwi.out _).mono ?_
  rintro e w2 ⟨rfl, hb2⟩
  obtain ⟨hc2, hf2⟩ := bcell hb2
  have hl2 := hb2.size
  have hbb2 := Lib.hid (hbb.out.trans (hb2.mono hbb.out.size))
  clear hb2 hbb
  have d1 := (hbb2.out.cell (p := ⟨b, off + m * 5 + 1, none⟩) hbl).trans c1
  have d2 := (hbb2.out.cell (p := ⟨b, off + m * 5 + 2, none⟩) hbl).trans c2
  go_wp2_with fail
  go_ret
  exact ⟨ret_bool (by rw [Bool.eq_iff_iff] <;> simp [*]), hbb2.out⟩
end Go.Proofs.YtkmlhijnkilfpaaDoor.Cd
namespace Go.Proofs.YtkmlhijnkilfpaaDoor.Cd
open Go Go.RowKit
open Go.Proofs.YtkmlhijnkilfpaaDoor.Lx Go.Proofs.YtkmlhijnkilfpaaDoor.Tr Go.Proofs.YtkmlhijnkilfpaaDoor.Rg

set_option maxRecDepth 100000 in
set_option maxHeartbeats 8000000 in
theorem mayNum_call_yes (p : Pg) (f : Fn) (i : Ins) (w : World) (hi : U8 i.op) (hT : OpTab w) (hK : numK i.op = 6) (m : Nat) (hm : i.n = m) (g : Fn) (hg : p.funs[m]? = some g) (hin : inP i.n p.funs.length = true) (hrow : RowAt w (fun _ => True) p.fa p.fcap p.funs.length (fnCells p.funs)) (ht : g.thread = false) :
    Calls Tryd.prog 84 #[p.val, f.val, i.val] w fun e w' => e = .returned (.bool (numP p f i)) ∧ Below w.heap.size w w' := by
  have hn := fun W (hb : Below w.heap.size w W) => namesOf_any i.op W hi (hT.keep hb)
  unfold nmV at hn
  rw [hK] at hn
  have hfit : numP p f i = _ := fit_fin (fitP p f i) i.args.length true g.params (by unfold fitP; simp only [hK, hin]; rw [hm, Int.toNat_natCast, hg]; simp only [ht] <;> rfl)
  rw [hfit]
  clear hfit hT
  generalize hasR i.op = xR at *
  generalize hasA i.op = xA at *
  generalize hasB i.op = xB at *
  generalize hasF i.op = xF at *
  replace hn := Lib.hid hn
  have hwi := fun W => within_any i.n p.funs.length W
  rw [hin, hm] at hwi
  replace hwi := Lib.hid hwi
  have hml : m < p.funs.length := (List.getElem?_eq_some_iff.1 hg).1
  have hml2 : (m : Int) < p.funs.length := by omega
  have hm0 : (0 : Int) ≤ m := by omega
  obtain ⟨b, off, hfa, _, _, c1, c2, _, _⟩ := fn_row hrow m g hg
  have hbl : b < w.heap.size := World.block_lt_of_cell? _ _ c1
  unfold Pg.val Ins.val
  rw [hfa, hm]
  clear hg hrow hin hfa
  rw [ht] at c1
  go_enter Tryd.func84, Tryd.ntmps84
  go_wp2_with fail
  refine (hn.out _ (b_alloc3 _ _ _ _)).mono ?_
  rintro e w1 ⟨rfl, hb1⟩
  obtain ⟨hc, hf⟩ := bcell hb1
  have hlt : w.heap.size + 2 < w1.heap.size := by have := hb1.size; simp at this; omega
  have hlt1 : w.heap.size + 1 < w1.heap.size := by omega
  have hlt0 : w.heap.size < w1.heap.size := by omega
  have hfl := fl_nm4 w1
  have hbb := Lib.hid (b_next3 hb1)
  clear hb1
  go_wp2_with fail
  refine (hwi.out _).mono ?_
  rintro e w2 ⟨rfl, hb2⟩
  obtain ⟨hc2, hf2⟩ := bcell hb2
  have hl2 := hb2.size
  have hbb2 := Lib.hid (hbb.out.trans (hb2.mono hbb.out.size))
  clear hb2 hbb
  have d1 := (hbb2.out.cell (p := ⟨b, off + m * 5 + 1, none⟩) hbl).trans c1
  have d2 := (hbb2.out.cell (p := ⟨b, off + m * 5 + 2, none⟩) hbl).trans c2
  go_wp2_with fail
  go_ret
  exact ⟨ret_bool (by rw [Bool.eq_iff_iff] <;> simp [*]), hbb2.out⟩
theorem mayNum_any (p : Pg) (f : Fn) (i : Ins) (w : World) (hi : U8 i.op) (hT : OpTab w) (hrow : RowAt w (fun _ => True) p.fa p.fcap p.funs.length (fnCells p.funs)) :
    Calls Tryd.prog 84 #[p.val, f.val, i.val] w fun e w' => e = .returned (.bool (numP p f i)) ∧ Below w.heap.size w w' := by
  rcases numK_cases i.op with h | h | h | h | h | h | h | h
  · exact mayNum_none p f i w hi  hT h
  · exact mayNum_any1 p f i w hi  hT h
  · exact mayNum_one p f i w hi  hT h
  · exact mayNum_two p f i w hi  hT h
  · exact mayNum_mem p f i w hi  hT h
  · exact mayNum_lock p f i w hi  hT h
  · cases hin : inP i.n p.funs.length
    · exact mayNum_call_no p f i w hi  hT h hin
    · have h2 : 0 ≤ i.n ∧ i.n < p.funs.length := by simpa [inP] using hin
      obtain ⟨m, hm⟩ : ∃ m : Nat, i.n = m := ⟨i.n.toNat, by omega⟩
      obtain ⟨g, hg⟩ : ∃ g, p.funs[m]? = some g := ⟨p.funs[m]'(by omega), by simp⟩
      cases ht : g.thread
      · exact mayNum_call_yes p f i w hi  hT h m hm g hg hin hrow ht
      · exact mayNum_call_thr p f i w hi  hT h m hm g hg hin hrow ht
  · exact mayNum_goal p f i w hi  hT h
end Go.Proofs.YtkmlhijnkilfpaaDoor.Cd
