/- What nobody's memory answers; MemNames answers true. Conditions: none. -/
import Derived.Test.YtimbhdekbceajaaMeO
namespace Go.Proofs.Ytimbhdekbceajaa.Me
open Go Go.RowKit

theorem cell_nil (a : Int) (i : Int) (V : World) : Calls Try.prog 52 #[.pointer none, .int .i64 a, .int .i64 i] V fun e w' => e = .returned (.tuple #[.pointer none, .int .i64 2]) ∧ w' = V := by
  go_enter Try.func52, Try.ntmps52
  go_wp2_with fail
  go_ret2
  exact ⟨rfl, rfl⟩
theorem Get_nil (a : Int) (i : Int) (V : World) : Calls Try.prog 24 #[.pointer none, .int .i64 a, .int .i64 i] V fun e w' => e = .returned (.tuple #[.int .i64 0, .int .i64 2]) ∧ w' = V := by
  have hc := Lib.hid (fun V => cell_nil a i V)
  go_enter Try.func24, Try.ntmps24
  go_wp2_with (go_at_call 52; refine (hc.out _).mono ?_; rintro e w' ⟨rfl, rfl⟩)
  go_ret2
  exact ⟨rfl, rfl⟩
theorem Set_nil (a : Int) (i : Int) (v : Int) (V : World) : Calls Try.prog 26 #[.pointer none, .int .i64 a, .int .i64 i, .int .i64 v] V fun e w' => e = .returned (.int .i64 2) ∧ w' = V := by
  have hc := Lib.hid (fun V => cell_nil a i V)
  go_enter Try.func26, Try.ntmps26
  go_wp2_with (go_at_call 52; refine (hc.out _).mono ?_; rintro e w' ⟨rfl, rfl⟩)
  go_ret
  exact ⟨rfl, rfl⟩
theorem look_nil (k : Int) (V : World) : Calls Try.prog 53 #[.pointer none, .int .i64 k] V fun e w' => e = .returned (.int .i64 2) ∧ w' = V := by
  go_enter Try.func53, Try.ntmps53
  go_wp2_with fail
  go_ret
  exact ⟨rfl, rfl⟩
theorem Take_nil (k : Int) (u : Int) (V : World) : Calls Try.prog 27 #[.pointer none, .int .i64 k, .int .i64 u] V fun e w' => e = .returned (.int .i64 2) ∧ w' = V := by
  have hc := Lib.hid (fun V => look_nil k V)
  go_enter Try.func27, Try.ntmps27
  go_wp2_with (go_at_call 53; refine (hc.out _).mono ?_; rintro e w' ⟨rfl, rfl⟩)
  go_ret
  exact ⟨rfl, rfl⟩
theorem Give_nil (k : Int) (u : Int) (V : World) : Calls Try.prog 28 #[.pointer none, .int .i64 k, .int .i64 u] V fun e w' => e = .returned (.int .i64 2) ∧ w' = V := by
  have hc := Lib.hid (fun V => look_nil k V)
  go_enter Try.func28, Try.ntmps28
  go_wp2_with (go_at_call 53; refine (hc.out _).mono ?_; rintro e w' ⟨rfl, rfl⟩)
  go_ret
  exact ⟨rfl, rfl⟩
theorem Holder_nil (k : Int) (V : World) : Calls Try.prog 25 #[.pointer none, .int .i64 k] V fun e w' => e = .returned (.tuple #[.int .i64 0, .bool false]) ∧ w' = V := by
  go_enter Try.func25, Try.ntmps25
  go_wp2_with fail
  go_ret2
  exact ⟨rfl, rfl⟩
theorem Cells_nil (V : World) : Calls Try.prog 29 #[.pointer none] V fun e w' => e = .returned (.slice none 0 0) ∧ w' = V := by
  go_enter Try.func29, Try.ntmps29
  go_wp2_with fail
  go_ret
  exact ⟨rfl, rfl⟩
theorem Copy_nil (V : World) : Calls Try.prog 14 #[.pointer none] V fun e w' => e = .returned (.pointer none) ∧ w' = V := by
  go_enter Try.func14, Try.ntmps14
  go_wp2_with fail
  go_ret
  exact ⟨rfl, rfl⟩
theorem run_nil_in (d : Nat) (V : World) (p : Nat) : (Op.equalIn (d + 1) 25 (.pointer none) (.pointer (some ⟨p, 0, none⟩))).run Try.prog V = .ok false V := by
  simp [Op.equalIn, run_underlying Try.underlying25]
theorem run_nil_equal (V : World) (p : Nat) : (Op.equal 25 (.pointer none) (.pointer (some ⟨p, 0, none⟩))).run Try.prog V = .ok false V := run_nil_in 9999 V p
theorem run_nil_eql (V : World) (p : Nat) : (binOp .eql 25 (.pointer none) (.pointer (some ⟨p, 0, none⟩))).run Try.prog V = .ok (.bool false) V := by
  simp only [binOp]
  simp [run_nil_equal V p]
set_option maxRecDepth 20000 in
theorem Same_nn (V : World) : Calls Try.prog 18 #[.pointer none, .pointer none] V fun e w' => e = .returned (.bool true) ∧ w' = V := by
  go_enter Try.func18, Try.ntmps18
  go_wp2_with fail
  go_ret
  exact ⟨rfl, rfl⟩
set_option maxRecDepth 20000 in
theorem Same_mn (p : Nat) (V : World) : Calls Try.prog 18 #[.pointer (some ⟨p, 0, none⟩), .pointer none] V fun e w' => e = .returned (.bool false) ∧ w' = V := by
  go_enter Try.func18, Try.ntmps18
  go_wp2_with fail
  go_ret
  exact ⟨rfl, rfl⟩
set_option maxRecDepth 20000 in
theorem Same_nm (p : Nat) (V : World) : Calls Try.prog 18 #[.pointer none, .pointer (some ⟨p, 0, none⟩)] V fun e w' => e = .returned (.bool false) ∧ w' = V := by
  have hq := run_nil_eql V p
  go_enter Try.func18, Try.ntmps18
  go_wp2_with fail
  go_ret
  exact ⟨rfl, rfl⟩
/-- one global's list -/
def oneG (sz fi : Int) : List Gm := [⟨⟨#[]⟩, sz, fi⟩]
theorem oneG_row (sz fi : Int) (w : World) : RowAt (w.alloc (.cells #[.string ⟨#[]⟩, .int .i64 sz, .int .i64 fi] 49)) (fun _ => True) (some ⟨w.heap.size, 0, none⟩) 1 (oneG sz fi).length (gmCells (oneG sz fi)) := by
  refine ⟨Nat.le_refl _, by unfold maxLen; omega, (fun h => nomatch h), fun j u hj => ⟨w.heap.size, 0, rfl, trivial, ?_⟩⟩
  rw [Nat.zero_add]
  refine blk_cell (MapKept.heap_alloc w _).1 ?_
  simpa [gmCells, oneG, Gm.vals] using hj
theorem New_bad {w V : World} (hV : Hid (Below w.heap.size w V)) (sz fi : Int) (h : (oneG sz fi).any badG = true) : Calls Try.prog 12 #[.slice (some ⟨V.heap.size, 0, none⟩) 1 1, .int .i64 0] (V.alloc (.cells #[.string ⟨#[]⟩, .int .i64 sz, .int .i64 fi] 49)) fun e w' => e = .returned (.tuple #[.pointer none, .int .i64 4]) ∧ Hid (Below w.heap.size w w') := by
  refine (New_c (oneG sz fi) 0 (some ⟨V.heap.size, 0, none⟩) 1 _ (oneG_row sz fi V) (by unfold oneG; simp)).mono ?_
  rintro e w' ⟨hb, h2⟩
  rw [if_pos h] at h2
  exact ⟨h2, Lib.hid (hV.out.trans ((b_alloc V _).trans (hb.mono (by simp)) |>.mono hV.out.size))⟩
theorem New_none {w V : World} (hV : Hid (Below w.heap.size w V)) (locks : Int) (h : locks < 0 ∨ 256 < locks) : Calls Try.prog 12 #[.slice none 0 0, .int .i64 locks] V fun e w' => e = .returned (.tuple #[.pointer none, .int .i64 1]) ∧ Hid (Below w.heap.size w w') := by
  refine (New_c [] locks none 0 V ⟨Nat.le_refl _, Nat.zero_le _, fun _ => rfl, fun j u hj => (by simp [gmCells] at hj)⟩ (by simp)).mono ?_
  rintro e w' ⟨hb, h2⟩
  rw [if_neg (by simp), if_pos h] at h2
  exact ⟨h2, Lib.hid (hV.out.trans (hb.mono hV.out.size))⟩
/-- the memory of the examples: its cells, who holds its lock -/
structure Mq (w : World) (mb : Nat) (C : List (List Int)) (h0 : Option Int) (N : Nat) (V : World) : Prop where
  ex : ∃ m : Mm, m.mb = mb ∧ m.In V ∧ m.C = C ∧ m.h 0 = h0 ∧ m.locks = 1 ∧ m.n ≤ N ∧ ∀ b, m.foot b → w.heap.size ≤ b
  bl : Below w.heap.size w V
theorem Mq.below {w V V' : World} {mb N : Nat} {C : List (List Int)} {h0 : Option Int} (h : Mq w mb C h0 N V) (hb : Below V.heap.size V V') : Mq w mb C h0 N V' := by
  obtain ⟨⟨m, h1, h2, h3⟩, h4⟩ := h
  exact ⟨⟨m, h1, h2.below hb, h3⟩, h4.trans (hb.mono h4.size)⟩
theorem New_good {w V : World} (hV : Hid (Below w.heap.size w V)) : Calls Try.prog 12 #[.slice (some ⟨V.heap.size, 0, none⟩) 1 1, .int .i64 1] (V.alloc (.cells #[.string ⟨#[]⟩, .int .i64 2, .int .i64 7] 49)) fun e w' => ∃ mb, e = .returned (.tuple #[.pointer (some ⟨mb, 0, none⟩), .int .i64 0]) ∧ Hid (Mq w mb [[7, 7]] none 0 w') := by
  refine (New_lit1 V).mono ?_
  rintro e w' ⟨m, h1, h2, h3, h4, h5, h6, h7, h8⟩
  exact ⟨m.mb, h1, Lib.hid ⟨⟨m, rfl, h2, h3, by rw [h5], h4, by omega, fun b hb => Nat.le_trans hV.out.size (h7 b hb)⟩, hV.out.trans (h8.mono hV.out.size)⟩⟩
variable {w V : World} {mb N : Nat} {C : List (List Int)} {h0 : Option Int}
theorem mq_set (h : Hid (Mq w mb C h0 N V)) (A I v er : Int) (C' : List (List Int)) (he : (getP C A I).2 = er) (hC : setC C A I v = C') : Calls Try.prog 26 #[.pointer (some ⟨mb, 0, none⟩), .int .i64 A, .int .i64 I, .int .i64 v] V fun e w' => e = .returned (.int .i64 er) ∧ Hid (Mq w mb C' h0 N w') := by
  obtain ⟨⟨m, rfl, h2, rfl, h4, h5, h6, h7⟩, hb⟩ := h.out
  refine (Set_c h2 A I v).mono ?_
  rintro e w' ⟨rfl, m', q1, q2, q3, q4, q5, q6, q7, q8, q9⟩
  exact ⟨by rw [he], Lib.hid ⟨⟨m', q6, q1, q2.trans hC, by rw [q3]; exact h4, q4.trans h5, by rw [q5]; exact h6, fun b hb' => h7 b ((q7 b).1 hb')⟩, hb.trans (q9 _ h7)⟩⟩

theorem takeE_zero' {locks : Int} {h : Int → Option Int} {k : Int} : takeE locks h k = 0 ↔ ¬ (k < 0 ∨ locks ≤ k) ∧ h k = none := by
  unfold takeE
  by_cases h1 : k < 0 ∨ locks ≤ k
  · rw [if_pos h1]
    exact ⟨fun e => by simp at e, fun e => absurd h1 e.1⟩
  · rw [if_neg h1]
    cases h k <;> simp [h1]
theorem giveE_zero' {locks : Int} {h : Int → Option Int} {k who : Int} : giveE locks h k who = 0 ↔ ¬ (k < 0 ∨ locks ≤ k) ∧ h k = some who := by
  unfold giveE
  by_cases h1 : k < 0 ∨ locks ≤ k
  · rw [if_pos h1]
    exact ⟨fun e => by simp at e, fun e => absurd h1 e.1⟩
  · rw [if_neg h1]
    by_cases h2 : h k = some who
    · simp [h2, h1]
    · simp [h2]
theorem takeH_eq' (m : Mm) (A I j : Int) : takeH m A I j = if (¬ (A < 0 ∨ m.locks ≤ A) ∧ m.h A = none) ∧ j = A then some I else m.h j := by
  unfold takeH
  by_cases h1 : takeE m.locks m.h A = 0
  · rw [if_pos h1]
    have h2 := takeE_zero'.1 h1
    by_cases h3 : j = A
    · rw [if_pos h3, if_pos ⟨h2, h3⟩]
    · rw [if_neg h3, if_neg (fun x => h3 x.2)]
  · rw [if_neg h1, if_neg (fun x => h1 (takeE_zero'.2 x.1))]
theorem giveH_eq' (m : Mm) (A I j : Int) : giveH m A I j = if (¬ (A < 0 ∨ m.locks ≤ A) ∧ m.h A = some I) ∧ j = A then none else m.h j := by
  unfold giveH
  by_cases h1 : giveE m.locks m.h A I = 0
  · rw [if_pos h1]
    have h2 := giveE_zero'.1 h1
    by_cases h3 : j = A
    · rw [if_pos h3, if_pos ⟨h2, h3⟩]
    · rw [if_neg h3, if_neg (fun x => h3 x.2)]
  · rw [if_neg h1, if_neg (fun x => h1 (giveE_zero'.2 x.1))]
theorem mq_take_free (h : Hid (Mq w mb C none N V)) (hN : N < 99) (u : Int) (hu : I64 u) : Calls Try.prog 27 #[.pointer (some ⟨mb, 0, none⟩), .int .i64 0, .int .i64 u] V fun e w' => e = .returned (.int .i64 0) ∧ Hid (Mq w mb C (some u) (N + 1) w') := by
  obtain ⟨⟨m, rfl, h2, rfl, h4, h5, h6, h7⟩, hb⟩ := h.out
  refine (Take_c h2 (by omega) 0 u hu).mono ?_
  rintro e w' ⟨rfl, m', q1, q2, q3, q4, q5, q6, q7, q8, q9⟩
  refine ⟨?_, Lib.hid ⟨⟨m', q6, q1, q2, ?_, q4.trans h5, by omega, fun b hb' => h7 b ((q7 b).1 hb')⟩, hb.trans (q9 _ h7)⟩⟩
  · unfold takeE; rw [h5, h4]; rfl
  · rw [q3]
    rw [takeH_eq', h5, h4, if_pos ⟨⟨by omega, rfl⟩, rfl⟩]

theorem mq_take_held {x : Int} (h : Hid (Mq w mb C (some x) N V)) (hN : N < 99) (u : Int) (hu : I64 u) : Calls Try.prog 27 #[.pointer (some ⟨mb, 0, none⟩), .int .i64 0, .int .i64 u] V fun e w' => e = .returned (.int .i64 6) ∧ Hid (Mq w mb C (some x) (N + 1) w') := by
  obtain ⟨⟨m, rfl, h2, rfl, h4, h5, h6, h7⟩, hb⟩ := h.out
  refine (Take_c h2 (by omega) 0 u hu).mono ?_
  rintro e w' ⟨rfl, m', q1, q2, q3, q4, q5, q6, q7, q8, q9⟩
  refine ⟨?_, Lib.hid ⟨⟨m', q6, q1, q2, ?_, q4.trans h5, by omega, fun b hb' => h7 b ((q7 b).1 hb')⟩, hb.trans (q9 _ h7)⟩⟩
  · unfold takeE; rw [h5, h4]; rfl
  · rw [q3]
    rw [takeH_eq', h5, h4, if_neg (fun y => by cases y.1.2)]

theorem mq_take_out (h : Hid (Mq w mb C h0 N V)) (hN : N < 99) (k u : Int) (hu : I64 u) (hk : k < 0 ∨ 1 ≤ k) : Calls Try.prog 27 #[.pointer (some ⟨mb, 0, none⟩), .int .i64 k, .int .i64 u] V fun e w' => e = .returned (.int .i64 1) ∧ Hid (Mq w mb C h0 (N + 1) w') := by
  obtain ⟨⟨m, rfl, h2, rfl, h4, h5, h6, h7⟩, hb⟩ := h.out
  refine (Take_c h2 (by omega) k u hu).mono ?_
  rintro e w' ⟨rfl, m', q1, q2, q3, q4, q5, q6, q7, q8, q9⟩
  refine ⟨?_, Lib.hid ⟨⟨m', q6, q1, q2, ?_, q4.trans h5, by omega, fun b hb' => h7 b ((q7 b).1 hb')⟩, hb.trans (q9 _ h7)⟩⟩
  · unfold takeE; rw [h5, if_pos hk]
  · rw [q3]
    rw [takeH_eq', h5, if_neg (fun y => y.1.1 hk)]; exact h4

theorem mq_give_no (h : Hid (Mq w mb C h0 N V)) (_hN : N < 99) (u : Int) (hu : h0 ≠ some u) : Calls Try.prog 28 #[.pointer (some ⟨mb, 0, none⟩), .int .i64 0, .int .i64 u] V fun e w' => e = .returned (.int .i64 69) ∧ Hid (Mq w mb C h0 (N + 1) w') := by
  obtain ⟨⟨m, rfl, h2, rfl, h4, h5, h6, h7⟩, hb⟩ := h.out
  refine (Give_c h2 0 u).mono ?_
  rintro e w' ⟨rfl, m', q1, q2, q3, q4, q5, q6, q7, q8, q9⟩
  refine ⟨?_, Lib.hid ⟨⟨m', q6, q1, q2, ?_, q4.trans h5, by omega, fun b hb' => h7 b ((q7 b).1 hb')⟩, hb.trans (q9 _ h7)⟩⟩
  · unfold giveE; rw [h5, h4, if_neg (by omega), if_neg hu]
  · rw [q3]
    rw [giveH_eq', h5, h4, if_neg (fun y => hu y.1.2)]

theorem mq_give_yes {u : Int} (h : Hid (Mq w mb C (some u) N V)) (_hN : N < 99) : Calls Try.prog 28 #[.pointer (some ⟨mb, 0, none⟩), .int .i64 0, .int .i64 u] V fun e w' => e = .returned (.int .i64 0) ∧ Hid (Mq w mb C none (N + 1) w') := by
  obtain ⟨⟨m, rfl, h2, rfl, h4, h5, h6, h7⟩, hb⟩ := h.out
  refine (Give_c h2 0 u).mono ?_
  rintro e w' ⟨rfl, m', q1, q2, q3, q4, q5, q6, q7, q8, q9⟩
  refine ⟨?_, Lib.hid ⟨⟨m', q6, q1, q2, ?_, q4.trans h5, by omega, fun b hb' => h7 b ((q7 b).1 hb')⟩, hb.trans (q9 _ h7)⟩⟩
  · unfold giveE; rw [h5, h4, if_neg (by omega), if_pos rfl]
  · rw [q3]
    rw [giveH_eq', h5, h4, if_pos ⟨⟨by omega, rfl⟩, rfl⟩]

theorem mq_give_out (h : Hid (Mq w mb C h0 N V)) (_hN : N < 99) (k u : Int) (hk : k < 0 ∨ 1 ≤ k) : Calls Try.prog 28 #[.pointer (some ⟨mb, 0, none⟩), .int .i64 k, .int .i64 u] V fun e w' => e = .returned (.int .i64 1) ∧ Hid (Mq w mb C h0 (N + 1) w') := by
  obtain ⟨⟨m, rfl, h2, rfl, h4, h5, h6, h7⟩, hb⟩ := h.out
  refine (Give_c h2 k u).mono ?_
  rintro e w' ⟨rfl, m', q1, q2, q3, q4, q5, q6, q7, q8, q9⟩
  refine ⟨?_, Lib.hid ⟨⟨m', q6, q1, q2, ?_, q4.trans h5, by omega, fun b hb' => h7 b ((q7 b).1 hb')⟩, hb.trans (q9 _ h7)⟩⟩
  · unfold giveE; rw [h5, if_pos hk]
  · rw [q3]
    rw [giveH_eq', h5, if_neg (fun y => y.1.1 hk)]; exact h4
end Go.Proofs.Ytimbhdekbceajaa.Me
