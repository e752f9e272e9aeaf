/- Walk of the iterator of code.read: the registers that an instruction reads, each told once. Conditions: the package's table holds its list; the instruction lies in memory. -/
import Derived.Test.YtiicjbnocpphdaaDoorCdE
namespace Go.Proofs.YtiicjbnocpphdaaDoor.Cd
open Go Go.RowKit Go.Shelf
open Go.Proofs.YtiicjbnocpphdaaDoor.Lx Go.Proofs.YtiicjbnocpphdaaDoor.Tr Go.Proofs.YtiicjbnocpphdaaDoor.Rg
attribute [local go_sem] Oper.semAt_some

theorem a_not6 {k : Int} (h : hasA k = true) : ¬ numK k = 6 := by
  simp only [hasA, Bool.or_eq_true, decide_eq_true_eq] at h
  have : k = 2 ∨ k = 3 ∨ k = 4 ∨ k = 5 ∨ k = 6 ∨ k = 9 ∨ k = 12 ∨ k = 13 := by omega
  rcases this with rfl | rfl | rfl | rfl | rfl | rfl | rfl | rfl <;> decide
theorem b_not6 {k : Int} (h : hasB k = true) : ¬ numK k = 6 := by
  simp only [hasB, Bool.or_eq_true, decide_eq_true_eq] at h
  rcases h with rfl | rfl <;> decide

/-- what is told of the instruction -/
structure InsAt (S : World → Nat → Prop) (W : World) (bx : Nat) (i : Ins) : Prop where
  sf : S W bx
  cells : ∀ j u, i.vals[j]? = some u → W.cell? ⟨bx, j, none⟩ = some u
  row : RowAt W (S W) i.aa i.acap i.args.length (numCells i.args)
theorem names_at {W : World} {B : Nat} {a b c d : Bool} {n : Int} (hB : W.heap.size = B) : (W.alloc (.cells #[.bool a, .bool b, .bool c, .bool d, .int .u8 n] 72)).cell? ⟨B, 2, none⟩ = some (.bool c) ∧ (W.alloc (.cells #[.bool a, .bool b, .bool c, .bool d, .int .u8 n] 72)).cell? ⟨B, 4, none⟩ = some (.int .u8 n) := by
  have h := blk_new W (.cells #[.bool a, .bool b, .bool c, .bool d, .int .u8 n] 72) hB
  have key : ∀ (V : World), V.heap[B]? = some (.cells #[.bool a, .bool b, .bool c, .bool d, .int .u8 n] 72) → V.cell? ⟨B, 2, none⟩ = some (.bool c) ∧ V.cell? ⟨B, 4, none⟩ = some (.int .u8 n) := fun V h => ⟨by simp [World.cell?, h], by simp [World.cell?, h]⟩
  exact key _ h

set_option maxRecDepth 100000 in
set_option maxHeartbeats 4000000 in
theorem read1_A (l n bx : Nat) (i : Ins) (Kp : World → World → Prop) (Sf : World → Nat → Prop) (J Jx : List Int → World → Prop) (W : World) (hat : InsAt Sf W bx i) (hi : U8 i.op) (hT : OpTab W) (hA : hasA i.op = true) (hF : hasF i.op = false) (hB : hasB i.op = false)
    (hs : Sfe J Kp Sf) (hY : Yld l (fun x : Int => #[.int .i64 x]) J Jx Kp (rdP i).length) (hJb : ∀ pre W1 W2, J pre W1 → Below W1.heap.size W1 W2 → J pre W2) (hJ0 : J [] W) :
    CallsIn Fence.wide n Tryd.prog 59 #[.func (.yield l) #[] #[], .pointer (some ⟨bx, 0, none⟩)] W fun e' W' => (∃ v, e' = .returned v) ∧
      ((∃ xs, xs = rdP i ∧ J xs W') ∨ (∃ pre, pre <+: rdP i ∧ Jx pre W')) := by
  have hn := fun V (hb : Below W.heap.size W V) => namesOf_any i.op V hi (hT.keep hb)
  unfold nmV at hn
  have h6 := a_not6 hA
  have hrd : rdP i = [i.a] := by simp [rdP, rdA, rdB, rdC, hA, hF, hB, h6]
  obtain ⟨c0, c1, c2, c3, c4, c5⟩ : W.cell? ⟨bx, 0, none⟩ = some (.int .u8 i.op) ∧ W.cell? ⟨bx, 1, none⟩ = some (.int .i64 i.r) ∧ W.cell? ⟨bx, 2, none⟩ = some (.int .i64 i.a) ∧ W.cell? ⟨bx, 3, none⟩ = some (.int .i64 i.b) ∧ W.cell? ⟨bx, 4, none⟩ = some (.int .i64 i.n) ∧ W.cell? ⟨bx, 5, none⟩ = some (.slice i.aa i.args.length i.acap) := ⟨hat.cells _ _ rfl, hat.cells _ _ rfl, hat.cells _ _ rfl, hat.cells _ _ rfl, hat.cells _ _ rfl, hat.cells _ _ rfl⟩
  have hbl : bx < W.heap.size := World.block_lt_of_cell? _ _ c0
  have hsx := hat.sf
  rw [hA, hF, hB] at hn
  generalize hasR i.op = xR at *
  generalize numK i.op = xN at *
  rw [hrd] at hY ⊢
  clear hrd hA hF hB hat hT hi
  replace hn := Lib.hid hn
  refine callsIn_of_wp Tryd.func59 rfl trivial ?_ rfl
  simp only [Tryd.ntmps59, List.size_toArray, List.length_cons, List.length_nil, Nat.reduceAdd, Nat.reduceSub, Array.replicate_succ, Array.replicate_zero, List.push_toArray, List.append_toArray, List.nil_append, List.cons_append]
  gi_wp2_with fail
  refine ⟨trivial, fun h => (by cases h), (callsIn_wide.2 (hn.out _ (Below.refl _ _))).mono ?_⟩
  rintro e w1 ⟨rfl, hb1⟩
  obtain ⟨hc, hf⟩ := bcell hb1
  have hz : bx < w1.heap.size := Nat.lt_of_lt_of_le hbl hb1.size
  have hb2 := Lib.hid (b_alloc w1 (.cells #[.bool xR, .bool true, .bool false, .bool false, .int .u8 xN] 72))
  have hb3 := Lib.hid (hb1.trans (hb2.out.mono hb1.size))
  have hJ2 := hJb _ _ _ hJ0 hb3.out
  have hsh := Lib.hid (hs.new _ _ _ w1.heap.size (hJb _ _ _ hJ0 hb1) hb2.out (Nat.le_refl _) (by simp))
  have hsb := Lib.hid (hs.ext _ _ _ hsx hbl hb3.out)
  obtain ⟨m2, m4⟩ := names_at (W := w1) (B := w1.heap.size) (a := xR) (b := true) (c := false) (d := false) (n := xN) rfl
  have e3 := Lib.hid (below_in hb3.out c3)
  have e2 := Lib.hid (below_in hb3.out c2)
  have e5 := Lib.hid (below_in hb3.out c5)
  replace m2 := Lib.hid m2
  replace m4 := Lib.hid m4
  obtain ⟨fn, tmps, assign, body, hy, hR⟩ := hY (n - 1) [] i.a _ hJ2 (by simp)
  clear hb1 hJ0 hJ2 hJb hn
  gi_wp2_with fail
  refine ⟨fun h => (by cases h), hR.mono ?_⟩
  clear hR hy
  rintro e W2 (⟨rfl, hJ2, hk2⟩ | ⟨rfl, hx2⟩)
  rotate_left
  · gi_wp2_with fail
    exact ⟨rfl, .tuple #[], by simp [results, Tryd.results59, go_sem], ⟨_, rfl⟩, .inr ⟨_, ⟨_, by rfl⟩, hx2⟩⟩
  rw [List.nil_append] at hJ2
  replace m2 := hs.cell _ _ _ _ _ hsh.out hk2 m2.out
  replace m4 := hs.cell _ _ _ _ _ hsh.out hk2 m4.out
  replace e3 := hs.cell _ _ _ _ _ hsb.out hk2 e3.out
  replace hsb := Lib.hid (hs.keep _ _ _ hsb.out hk2)
  have hz2 : bx < W2.heap.size := World.block_lt_of_cell? _ _ e3
  have hz3 : w1.heap.size < W2.heap.size := World.block_lt_of_cell? _ _ m2
  gi_wp2_with fail
  try (refine ⟨fun f h => (by cases h), ?_⟩; gi_wp2_with fail)
  exact ⟨rfl, .tuple #[], by simp [results, Tryd.results59, go_sem], ⟨_, rfl⟩, .inl ⟨_, rfl, hJ2⟩⟩
set_option maxRecDepth 100000 in
set_option maxHeartbeats 4000000 in
theorem read1_AB (l n bx : Nat) (i : Ins) (Kp : World → World → Prop) (Sf : World → Nat → Prop) (J Jx : List Int → World → Prop) (W : World) (hat : InsAt Sf W bx i) (hi : U8 i.op) (hT : OpTab W) (hA : hasA i.op = true) (hF : hasF i.op = false) (hB : hasB i.op = true)
    (hs : Sfe J Kp Sf) (hY : Yld l (fun x : Int => #[.int .i64 x]) J Jx Kp (rdP i).length) (hJb : ∀ pre W1 W2, J pre W1 → Below W1.heap.size W1 W2 → J pre W2) (hJ0 : J [] W) :
    CallsIn Fence.wide n Tryd.prog 59 #[.func (.yield l) #[] #[], .pointer (some ⟨bx, 0, none⟩)] W fun e' W' => (∃ v, e' = .returned v) ∧
      ((∃ xs, xs = rdP i ∧ J xs W') ∨ (∃ pre, pre <+: rdP i ∧ Jx pre W')) := by
  have hn := fun V (hb : Below W.heap.size W V) => namesOf_any i.op V hi (hT.keep hb)
  unfold nmV at hn
  have h6 := a_not6 hA
  have hrd : rdP i = [i.a, i.b] := by simp [rdP, rdA, rdB, rdC, hA, hF, hB, h6]
  obtain ⟨c0, c1, c2, c3, c4, c5⟩ : W.cell? ⟨bx, 0, none⟩ = some (.int .u8 i.op) ∧ W.cell? ⟨bx, 1, none⟩ = some (.int .i64 i.r) ∧ W.cell? ⟨bx, 2, none⟩ = some (.int .i64 i.a) ∧ W.cell? ⟨bx, 3, none⟩ = some (.int .i64 i.b) ∧ W.cell? ⟨bx, 4, none⟩ = some (.int .i64 i.n) ∧ W.cell? ⟨bx, 5, none⟩ = some (.slice i.aa i.args.length i.acap) := ⟨hat.cells _ _ rfl, hat.cells _ _ rfl, hat.cells _ _ rfl, hat.cells _ _ rfl, hat.cells _ _ rfl, hat.cells _ _ rfl⟩
  have hbl : bx < W.heap.size := World.block_lt_of_cell? _ _ c0
  have hsx := hat.sf
  rw [hA, hF, hB] at hn
  generalize hasR i.op = xR at *
  generalize numK i.op = xN at *
  rw [hrd] at hY ⊢
  clear hrd hA hF hB hat hT hi
  replace hn := Lib.hid hn
  refine callsIn_of_wp Tryd.func59 rfl trivial ?_ rfl
  simp only [Tryd.ntmps59, List.size_toArray, List.length_cons, List.length_nil, Nat.reduceAdd, Nat.reduceSub, Array.replicate_succ, Array.replicate_zero, List.push_toArray, List.append_toArray, List.nil_append, List.cons_append]
  gi_wp2_with fail
  refine ⟨trivial, fun h => (by cases h), (callsIn_wide.2 (hn.out _ (Below.refl _ _))).mono ?_⟩
  rintro e w1 ⟨rfl, hb1⟩
  obtain ⟨hc, hf⟩ := bcell hb1
  have hz : bx < w1.heap.size := Nat.lt_of_lt_of_le hbl hb1.size
  have hb2 := Lib.hid (b_alloc w1 (.cells #[.bool xR, .bool true, .bool true, .bool false, .int .u8 xN] 72))
  have hb3 := Lib.hid (hb1.trans (hb2.out.mono hb1.size))
  have hJ2 := hJb _ _ _ hJ0 hb3.out
  have hsh := Lib.hid (hs.new _ _ _ w1.heap.size (hJb _ _ _ hJ0 hb1) hb2.out (Nat.le_refl _) (by simp))
  have hsb := Lib.hid (hs.ext _ _ _ hsx hbl hb3.out)
  obtain ⟨m2, m4⟩ := names_at (W := w1) (B := w1.heap.size) (a := xR) (b := true) (c := true) (d := false) (n := xN) rfl
  have e3 := Lib.hid (below_in hb3.out c3)
  have e2 := Lib.hid (below_in hb3.out c2)
  have e5 := Lib.hid (below_in hb3.out c5)
  replace m2 := Lib.hid m2
  replace m4 := Lib.hid m4
  obtain ⟨fn, tmps, assign, body, hy, hR⟩ := hY (n - 1) [] i.a _ hJ2 (by simp)
  clear hb1 hJ0 hJ2 hJb hn
  gi_wp2_with fail
  refine ⟨fun h => (by cases h), hR.mono ?_⟩
  clear hR hy
  rintro e W2 (⟨rfl, hJ2, hk2⟩ | ⟨rfl, hx2⟩)
  rotate_left
  · gi_wp2_with fail
    exact ⟨rfl, .tuple #[], by simp [results, Tryd.results59, go_sem], ⟨_, rfl⟩, .inr ⟨_, ⟨_, by rfl⟩, hx2⟩⟩
  rw [List.nil_append] at hJ2
  replace m2 := hs.cell _ _ _ _ _ hsh.out hk2 m2.out
  replace m4 := hs.cell _ _ _ _ _ hsh.out hk2 m4.out
  replace e3 := hs.cell _ _ _ _ _ hsb.out hk2 e3.out
  replace hsb := Lib.hid (hs.keep _ _ _ hsb.out hk2)
  have hz2 : bx < W2.heap.size := World.block_lt_of_cell? _ _ e3
  have hz3 : w1.heap.size < W2.heap.size := World.block_lt_of_cell? _ _ m2
  obtain ⟨fn, tmps, assign, body, hy, hR⟩ := hY (n - 1) [i.a] i.b _ hJ2 (by simp)
  gi_wp2_with fail
  refine ⟨fun h => (by cases h), hR.mono ?_⟩
  clear hR hy
  rintro e W3 (⟨rfl, hJ3, hk3⟩ | ⟨rfl, hx3⟩)
  rotate_left
  · gi_wp2_with fail
    exact ⟨rfl, .tuple #[], by simp [results, Tryd.results59, go_sem], ⟨_, rfl⟩, .inr ⟨_, ⟨_, by rfl⟩, hx3⟩⟩
  replace m4 := hs.cell _ _ _ _ _ (hs.keep _ _ _ hsh.out hk2) hk3 m4
  have hz4 : w1.heap.size < W3.heap.size := World.block_lt_of_cell? _ _ m4
  gi_wp2_with fail
  exact ⟨rfl, .tuple #[], by simp [results, Tryd.results59, go_sem], ⟨_, rfl⟩, .inl ⟨_, rfl, hJ3⟩⟩
set_option maxRecDepth 100000 in
set_option maxHeartbeats 4000000 in
theorem read1_Fa (l n bx : Nat) (i : Ins) (Kp : World → World → Prop) (Sf : World → Nat → Prop) (J Jx : List Int → World → Prop) (W : World) (hat : InsAt Sf W bx i) (hi : U8 i.op) (hT : OpTab W) (hA : hasA i.op = true) (hF : hasF i.op = true) (hB : hasB i.op = false) (ha : ¬ i.a = -1)
    (hs : Sfe J Kp Sf) (hY : Yld l (fun x : Int => #[.int .i64 x]) J Jx Kp (rdP i).length) (hJb : ∀ pre W1 W2, J pre W1 → Below W1.heap.size W1 W2 → J pre W2) (hJ0 : J [] W) :
    CallsIn Fence.wide n Tryd.prog 59 #[.func (.yield l) #[] #[], .pointer (some ⟨bx, 0, none⟩)] W fun e' W' => (∃ v, e' = .returned v) ∧
      ((∃ xs, xs = rdP i ∧ J xs W') ∨ (∃ pre, pre <+: rdP i ∧ Jx pre W')) := by
  have hn := fun V (hb : Below W.heap.size W V) => namesOf_any i.op V hi (hT.keep hb)
  unfold nmV at hn
  have h6 := a_not6 hA
  have hrd : rdP i = [i.a] := by simp [rdP, rdA, rdB, rdC, hA, hF, hB, h6, ha]
  obtain ⟨c0, c1, c2, c3, c4, c5⟩ : W.cell? ⟨bx, 0, none⟩ = some (.int .u8 i.op) ∧ W.cell? ⟨bx, 1, none⟩ = some (.int .i64 i.r) ∧ W.cell? ⟨bx, 2, none⟩ = some (.int .i64 i.a) ∧ W.cell? ⟨bx, 3, none⟩ = some (.int .i64 i.b) ∧ W.cell? ⟨bx, 4, none⟩ = some (.int .i64 i.n) ∧ W.cell? ⟨bx, 5, none⟩ = some (.slice i.aa i.args.length i.acap) := ⟨hat.cells _ _ rfl, hat.cells _ _ rfl, hat.cells _ _ rfl, hat.cells _ _ rfl, hat.cells _ _ rfl, hat.cells _ _ rfl⟩
  have hbl : bx < W.heap.size := World.block_lt_of_cell? _ _ c0
  have hsx := hat.sf
  rw [hA, hF, hB] at hn
  generalize hasR i.op = xR at *
  generalize numK i.op = xN at *
  rw [hrd] at hY ⊢
  have hae : (i.a == -1) = false := by simpa using ha
  clear hrd hA hF hB hat hT hi
  replace hn := Lib.hid hn
  refine callsIn_of_wp Tryd.func59 rfl trivial ?_ rfl
  simp only [Tryd.ntmps59, List.size_toArray, List.length_cons, List.length_nil, Nat.reduceAdd, Nat.reduceSub, Array.replicate_succ, Array.replicate_zero, List.push_toArray, List.append_toArray, List.nil_append, List.cons_append]
  gi_wp2_with fail
  refine ⟨trivial, fun h => (by cases h), (callsIn_wide.2 (hn.out _ (Below.refl _ _))).mono ?_⟩
  rintro e w1 ⟨rfl, hb1⟩
  obtain ⟨hc, hf⟩ := bcell hb1
  have hz : bx < w1.heap.size := Nat.lt_of_lt_of_le hbl hb1.size
  have hb2 := Lib.hid (b_alloc w1 (.cells #[.bool xR, .bool true, .bool false, .bool true, .int .u8 xN] 72))
  have hb3 := Lib.hid (hb1.trans (hb2.out.mono hb1.size))
  have hJ2 := hJb _ _ _ hJ0 hb3.out
  have hsh := Lib.hid (hs.new _ _ _ w1.heap.size (hJb _ _ _ hJ0 hb1) hb2.out (Nat.le_refl _) (by simp))
  have hsb := Lib.hid (hs.ext _ _ _ hsx hbl hb3.out)
  obtain ⟨m2, m4⟩ := names_at (W := w1) (B := w1.heap.size) (a := xR) (b := true) (c := false) (d := true) (n := xN) rfl
  have e3 := Lib.hid (below_in hb3.out c3)
  have e2 := Lib.hid (below_in hb3.out c2)
  have e5 := Lib.hid (below_in hb3.out c5)
  replace m2 := Lib.hid m2
  replace m4 := Lib.hid m4
  obtain ⟨fn, tmps, assign, body, hy, hR⟩ := hY (n - 1) [] i.a _ hJ2 (by simp)
  clear hb1 hJ0 hJ2 hJb hn
  gi_wp2_with fail
  refine ⟨fun h => (by cases h), hR.mono ?_⟩
  clear hR hy
  rintro e W2 (⟨rfl, hJ2, hk2⟩ | ⟨rfl, hx2⟩)
  rotate_left
  · gi_wp2_with fail
    exact ⟨rfl, .tuple #[], by simp [results, Tryd.results59, go_sem], ⟨_, rfl⟩, .inr ⟨_, ⟨_, by rfl⟩, hx2⟩⟩
  rw [List.nil_append] at hJ2
  replace m2 := hs.cell _ _ _ _ _ hsh.out hk2 m2.out
  replace m4 := hs.cell _ _ _ _ _ hsh.out hk2 m4.out
  replace e3 := hs.cell _ _ _ _ _ hsb.out hk2 e3.out
  replace hsb := Lib.hid (hs.keep _ _ _ hsb.out hk2)
  have hz2 : bx < W2.heap.size := World.block_lt_of_cell? _ _ e3
  have hz3 : w1.heap.size < W2.heap.size := World.block_lt_of_cell? _ _ m2
  gi_wp2_with fail
  try (refine ⟨fun f h => (by cases h), ?_⟩; gi_wp2_with fail)
  exact ⟨rfl, .tuple #[], by simp [results, Tryd.results59, go_sem], ⟨_, rfl⟩, .inl ⟨_, rfl, hJ2⟩⟩
set_option maxRecDepth 100000 in
set_option maxHeartbeats 4000000 in
theorem read1_FaB (l n bx : Nat) (i : Ins) (Kp : World → World → Prop) (Sf : World → Nat → Prop) (J Jx : List Int → World → Prop) (W : World) (hat : InsAt Sf W bx i) (hi : U8 i.op) (hT : OpTab W) (hA : hasA i.op = true) (hF : hasF i.op = true) (hB : hasB i.op = true) (ha : ¬ i.a = -1)
    (hs : Sfe J Kp Sf) (hY : Yld l (fun x : Int => #[.int .i64 x]) J Jx Kp (rdP i).length) (hJb : ∀ pre W1 W2, J pre W1 → Below W1.heap.size W1 W2 → J pre W2) (hJ0 : J [] W) :
    CallsIn Fence.wide n Tryd.prog 59 #[.func (.yield l) #[] #[], .pointer (some ⟨bx, 0, none⟩)] W fun e' W' => (∃ v, e' = .returned v) ∧
      ((∃ xs, xs = rdP i ∧ J xs W') ∨ (∃ pre, pre <+: rdP i ∧ Jx pre W')) := by
  have hn := fun V (hb : Below W.heap.size W V) => namesOf_any i.op V hi (hT.keep hb)
  unfold nmV at hn
  have h6 := a_not6 hA
  have hrd : rdP i = [i.a, i.b] := by simp [rdP, rdA, rdB, rdC, hA, hF, hB, h6, ha]
  obtain ⟨c0, c1, c2, c3, c4, c5⟩ : W.cell? ⟨bx, 0, none⟩ = some (.int .u8 i.op) ∧ W.cell? ⟨bx, 1, none⟩ = some (.int .i64 i.r) ∧ W.cell? ⟨bx, 2, none⟩ = some (.int .i64 i.a) ∧ W.cell? ⟨bx, 3, none⟩ = some (.int .i64 i.b) ∧ W.cell? ⟨bx, 4, none⟩ = some (.int .i64 i.n) ∧ W.cell? ⟨bx, 5, none⟩ = some (.slice i.aa i.args.length i.acap) := ⟨hat.cells _ _ rfl, hat.cells _ _ rfl, hat.cells _ _ rfl, hat.cells _ _ rfl, hat.cells _ _ rfl, hat.cells _ _ rfl⟩
  have hbl : bx < W.heap.size := World.block_lt_of_cell? _ _ c0
  have hsx := hat.sf
  rw [hA, hF, hB] at hn
  generalize hasR i.op = xR at *
  generalize numK i.op = xN at *
  rw [hrd] at hY ⊢
  have hae : (i.a == -1) = false := by simpa using ha
  clear hrd hA hF hB hat hT hi
  replace hn := Lib.hid hn
  refine callsIn_of_wp Tryd.func59 rfl trivial ?_ rfl
  simp only [Tryd.ntmps59, List.size_toArray, List.length_cons, List.length_nil, Nat.reduceAdd, Nat.reduceSub, Array.replicate_succ, Array.replicate_zero, List.push_toArray, List.append_toArray, List.nil_append, List.cons_append]
  gi_wp2_with fail
  refine ⟨trivial, fun h => (by cases h), (callsIn_wide.2 (hn.out _ (Below.refl _ _))).mono ?_⟩
  rintro e w1 ⟨rfl, hb1⟩
  obtain ⟨hc, hf⟩ := bcell hb1
  have hz : bx < w1.heap.size := Nat.lt_of_lt_of_le hbl hb1.size
  have hb2 := Lib.hid (b_alloc w1 (.cells #[.bool xR, .bool true, .bool true, .bool true, .int .u8 xN] 72))
  have hb3 := Lib.hid (hb1.trans (hb2.out.mono hb1.size))
  have hJ2 := hJb _ _ _ hJ0 hb3.out
  have hsh := Lib.hid (hs.new _ _ _ w1.heap.size (hJb _ _ _ hJ0 hb1) hb2.out (Nat.le_refl _) (by simp))
  have hsb := Lib.hid (hs.ext _ _ _ hsx hbl hb3.out)
  obtain ⟨m2, m4⟩ := names_at (W := w1) (B := w1.heap.size) (a := xR) (b := true) (c := true) (d := true) (n := xN) rfl
  have e3 := Lib.hid (below_in hb3.out c3)
  have e2 := Lib.hid (below_in hb3.out c2)
  have e5 := Lib.hid (below_in hb3.out c5)
  replace m2 := Lib.hid m2
  replace m4 := Lib.hid m4
  obtain ⟨fn, tmps, assign, body, hy, hR⟩ := hY (n - 1) [] i.a _ hJ2 (by simp)
  clear hb1 hJ0 hJ2 hJb hn
  gi_wp2_with fail
  refine ⟨fun h => (by cases h), hR.mono ?_⟩
  clear hR hy
  rintro e W2 (⟨rfl, hJ2, hk2⟩ | ⟨rfl, hx2⟩)
  rotate_left
  · gi_wp2_with fail
    exact ⟨rfl, .tuple #[], by simp [results, Tryd.results59, go_sem], ⟨_, rfl⟩, .inr ⟨_, ⟨_, by rfl⟩, hx2⟩⟩
  rw [List.nil_append] at hJ2
  replace m2 := hs.cell _ _ _ _ _ hsh.out hk2 m2.out
  replace m4 := hs.cell _ _ _ _ _ hsh.out hk2 m4.out
  replace e3 := hs.cell _ _ _ _ _ hsb.out hk2 e3.out
  replace hsb := Lib.hid (hs.keep _ _ _ hsb.out hk2)
  have hz2 : bx < W2.heap.size := World.block_lt_of_cell? _ _ e3
  have hz3 : w1.heap.size < W2.heap.size := World.block_lt_of_cell? _ _ m2
  obtain ⟨fn, tmps, assign, body, hy, hR⟩ := hY (n - 1) [i.a] i.b _ hJ2 (by simp)
  gi_wp2_with fail
  refine ⟨fun h => (by cases h), hR.mono ?_⟩
  clear hR hy
  rintro e W3 (⟨rfl, hJ3, hk3⟩ | ⟨rfl, hx3⟩)
  rotate_left
  · gi_wp2_with fail
    exact ⟨rfl, .tuple #[], by simp [results, Tryd.results59, go_sem], ⟨_, rfl⟩, .inr ⟨_, ⟨_, by rfl⟩, hx3⟩⟩
  replace m4 := hs.cell _ _ _ _ _ (hs.keep _ _ _ hsh.out hk2) hk3 m4
  have hz4 : w1.heap.size < W3.heap.size := World.block_lt_of_cell? _ _ m4
  gi_wp2_with fail
  exact ⟨rfl, .tuple #[], by simp [results, Tryd.results59, go_sem], ⟨_, rfl⟩, .inl ⟨_, rfl, hJ3⟩⟩
set_option maxRecDepth 100000 in
set_option maxHeartbeats 4000000 in
theorem read1_Fn (l n bx : Nat) (i : Ins) (Kp : World → World → Prop) (Sf : World → Nat → Prop) (J Jx : List Int → World → Prop) (W : World) (hat : InsAt Sf W bx i) (hi : U8 i.op) (hT : OpTab W) (hA : hasA i.op = true) (hF : hasF i.op = true) (hB : hasB i.op = false) (ha :  i.a = -1)
    (hs : Sfe J Kp Sf) (_ : Yld l (fun x : Int => #[.int .i64 x]) J Jx Kp (rdP i).length) (hJb : ∀ pre W1 W2, J pre W1 → Below W1.heap.size W1 W2 → J pre W2) (hJ0 : J [] W) :
    CallsIn Fence.wide n Tryd.prog 59 #[.func (.yield l) #[] #[], .pointer (some ⟨bx, 0, none⟩)] W fun e' W' => (∃ v, e' = .returned v) ∧
      ((∃ xs, xs = rdP i ∧ J xs W') ∨ (∃ pre, pre <+: rdP i ∧ Jx pre W')) := by
  have hn := fun V (hb : Below W.heap.size W V) => namesOf_any i.op V hi (hT.keep hb)
  unfold nmV at hn
  have h6 := a_not6 hA
  have hrd : rdP i = [] := by simp [rdP, rdA, rdB, rdC, hA, hF, hB, h6, ha]
  obtain ⟨c0, c1, c2, c3, c4, c5⟩ : W.cell? ⟨bx, 0, none⟩ = some (.int .u8 i.op) ∧ W.cell? ⟨bx, 1, none⟩ = some (.int .i64 i.r) ∧ W.cell? ⟨bx, 2, none⟩ = some (.int .i64 i.a) ∧ W.cell? ⟨bx, 3, none⟩ = some (.int .i64 i.b) ∧ W.cell? ⟨bx, 4, none⟩ = some (.int .i64 i.n) ∧ W.cell? ⟨bx, 5, none⟩ = some (.slice i.aa i.args.length i.acap) := ⟨hat.cells _ _ rfl, hat.cells _ _ rfl, hat.cells _ _ rfl, hat.cells _ _ rfl, hat.cells _ _ rfl, hat.cells _ _ rfl⟩
  have hbl : bx < W.heap.size := World.block_lt_of_cell? _ _ c0
  have hsx := hat.sf
  rw [hA, hF, hB] at hn
  generalize hasR i.op = xR at *
  generalize numK i.op = xN at *
  rw [hrd]
  rw [ha] at c2
  clear hrd hA hF hB hat hT hi
  replace hn := Lib.hid hn
  refine callsIn_of_wp Tryd.func59 rfl trivial ?_ rfl
  simp only [Tryd.ntmps59, List.size_toArray, List.length_cons, List.length_nil, Nat.reduceAdd, Nat.reduceSub, Array.replicate_succ, Array.replicate_zero, List.push_toArray, List.append_toArray, List.nil_append, List.cons_append]
  gi_wp2_with fail
  refine ⟨trivial, fun h => (by cases h), (callsIn_wide.2 (hn.out _ (Below.refl _ _))).mono ?_⟩
  rintro e w1 ⟨rfl, hb1⟩
  obtain ⟨hc, hf⟩ := bcell hb1
  have hz : bx < w1.heap.size := Nat.lt_of_lt_of_le hbl hb1.size
  have hb2 := Lib.hid (b_alloc w1 (.cells #[.bool xR, .bool true, .bool false, .bool true, .int .u8 xN] 72))
  have hb3 := Lib.hid (hb1.trans (hb2.out.mono hb1.size))
  have hJ2 := hJb _ _ _ hJ0 hb3.out
  have hsh := Lib.hid (hs.new _ _ _ w1.heap.size (hJb _ _ _ hJ0 hb1) hb2.out (Nat.le_refl _) (by simp))
  have hsb := Lib.hid (hs.ext _ _ _ hsx hbl hb3.out)
  obtain ⟨m2, m4⟩ := names_at (W := w1) (B := w1.heap.size) (a := xR) (b := true) (c := false) (d := true) (n := xN) rfl
  have e3 := Lib.hid (below_in hb3.out c3)
  have e2 := Lib.hid (below_in hb3.out c2)
  have e5 := Lib.hid (below_in hb3.out c5)
  replace m2 := Lib.hid m2
  replace m4 := Lib.hid m4
  clear hb1 hJ0 hJb hn
  gi_wp2_with fail
  refine ⟨fun f h => (by cases h), ?_⟩
  gi_wp2_with fail
  try (refine ⟨fun f h => (by cases h), ?_⟩; gi_wp2_with fail)
  exact ⟨rfl, .tuple #[], by simp [results, Tryd.results59, go_sem], ⟨_, rfl⟩, .inl ⟨_, rfl, hJ2⟩⟩
set_option maxRecDepth 100000 in
set_option maxHeartbeats 4000000 in
theorem read1_FnB (l n bx : Nat) (i : Ins) (Kp : World → World → Prop) (Sf : World → Nat → Prop) (J Jx : List Int → World → Prop) (W : World) (hat : InsAt Sf W bx i) (hi : U8 i.op) (hT : OpTab W) (hA : hasA i.op = true) (hF : hasF i.op = true) (hB : hasB i.op = true) (ha :  i.a = -1)
    (hs : Sfe J Kp Sf) (hY : Yld l (fun x : Int => #[.int .i64 x]) J Jx Kp (rdP i).length) (hJb : ∀ pre W1 W2, J pre W1 → Below W1.heap.size W1 W2 → J pre W2) (hJ0 : J [] W) :
    CallsIn Fence.wide n Tryd.prog 59 #[.func (.yield l) #[] #[], .pointer (some ⟨bx, 0, none⟩)] W fun e' W' => (∃ v, e' = .returned v) ∧
      ((∃ xs, xs = rdP i ∧ J xs W') ∨ (∃ pre, pre <+: rdP i ∧ Jx pre W')) := by
  have hn := fun V (hb : Below W.heap.size W V) => namesOf_any i.op V hi (hT.keep hb)
  unfold nmV at hn
  have h6 := a_not6 hA
  have hrd : rdP i = [i.b] := by simp [rdP, rdA, rdB, rdC, hA, hF, hB, h6, ha]
  obtain ⟨c0, c1, c2, c3, c4, c5⟩ : W.cell? ⟨bx, 0, none⟩ = some (.int .u8 i.op) ∧ W.cell? ⟨bx, 1, none⟩ = some (.int .i64 i.r) ∧ W.cell? ⟨bx, 2, none⟩ = some (.int .i64 i.a) ∧ W.cell? ⟨bx, 3, none⟩ = some (.int .i64 i.b) ∧ W.cell? ⟨bx, 4, none⟩ = some (.int .i64 i.n) ∧ W.cell? ⟨bx, 5, none⟩ = some (.slice i.aa i.args.length i.acap) := ⟨hat.cells _ _ rfl, hat.cells _ _ rfl, hat.cells _ _ rfl, hat.cells _ _ rfl, hat.cells _ _ rfl, hat.cells _ _ rfl⟩
  have hbl : bx < W.heap.size := World.block_lt_of_cell? _ _ c0
  have hsx := hat.sf
  rw [hA, hF, hB] at hn
  generalize hasR i.op = xR at *
  generalize numK i.op = xN at *
  rw [hrd] at hY ⊢
  rw [ha] at c2
  clear hrd hA hF hB hat hT hi
  replace hn := Lib.hid hn
  refine callsIn_of_wp Tryd.func59 rfl trivial ?_ rfl
  simp only [Tryd.ntmps59, List.size_toArray, List.length_cons, List.length_nil, Nat.reduceAdd, Nat.reduceSub, Array.replicate_succ, Array.replicate_zero, List.push_toArray, List.append_toArray, List.nil_append, List.cons_append]
  gi_wp2_with fail
  refine ⟨trivial, fun h => (by cases h), (callsIn_wide.2 (hn.out _ (Below.refl _ _))).mono ?_⟩
  rintro e w1 ⟨rfl, hb1⟩
  obtain ⟨hc, hf⟩ := bcell hb1
  have hz : bx < w1.heap.size := Nat.lt_of_lt_of_le hbl hb1.size
  have hb2 := Lib.hid (b_alloc w1 (.cells #[.bool xR, .bool true, .bool true, .bool true, .int .u8 xN] 72))
  have hb3 := Lib.hid (hb1.trans (hb2.out.mono hb1.size))
  have hJ2 := hJb _ _ _ hJ0 hb3.out
  have hsh := Lib.hid (hs.new _ _ _ w1.heap.size (hJb _ _ _ hJ0 hb1) hb2.out (Nat.le_refl _) (by simp))
  have hsb := Lib.hid (hs.ext _ _ _ hsx hbl hb3.out)
  obtain ⟨m2, m4⟩ := names_at (W := w1) (B := w1.heap.size) (a := xR) (b := true) (c := true) (d := true) (n := xN) rfl
  have e3 := Lib.hid (below_in hb3.out c3)
  have e2 := Lib.hid (below_in hb3.out c2)
  have e5 := Lib.hid (below_in hb3.out c5)
  replace m2 := Lib.hid m2
  replace m4 := Lib.hid m4
  clear hb1 hJ0 hJb hn
  gi_wp2_with fail
  refine ⟨fun f h => (by cases h), ?_⟩
  obtain ⟨fn, tmps, assign, body, hy, hR⟩ := hY (n - 1) [] i.b _ hJ2 (by simp)
  gi_wp2_with fail
  refine ⟨fun h => (by cases h), hR.mono ?_⟩
  clear hR hy
  rintro e W3 (⟨rfl, hJ3, hk3⟩ | ⟨rfl, hx3⟩)
  rotate_left
  · gi_wp2_with fail
    exact ⟨rfl, .tuple #[], by simp [results, Tryd.results59, go_sem], ⟨_, rfl⟩, .inr ⟨_, ⟨_, by rfl⟩, hx3⟩⟩
  replace m4 := hs.cell _ _ _ _ _ hsh.out hk3 m4.out
  have hz4 : w1.heap.size < W3.heap.size := World.block_lt_of_cell? _ _ m4
  gi_wp2_with fail
  exact ⟨rfl, .tuple #[], by simp [results, Tryd.results59, go_sem], ⟨_, rfl⟩, .inl ⟨_, rfl, hJ3⟩⟩
set_option maxRecDepth 100000 in
set_option maxHeartbeats 4000000 in
theorem read1_B (l n bx : Nat) (i : Ins) (Kp : World → World → Prop) (Sf : World → Nat → Prop) (J Jx : List Int → World → Prop) (W : World) (hat : InsAt Sf W bx i) (hi : U8 i.op) (hT : OpTab W) (hA : hasA i.op = false) (hF : hasF i.op = false) (hB : hasB i.op = true)
    (hs : Sfe J Kp Sf) (hY : Yld l (fun x : Int => #[.int .i64 x]) J Jx Kp (rdP i).length) (hJb : ∀ pre W1 W2, J pre W1 → Below W1.heap.size W1 W2 → J pre W2) (hJ0 : J [] W) :
    CallsIn Fence.wide n Tryd.prog 59 #[.func (.yield l) #[] #[], .pointer (some ⟨bx, 0, none⟩)] W fun e' W' => (∃ v, e' = .returned v) ∧
      ((∃ xs, xs = rdP i ∧ J xs W') ∨ (∃ pre, pre <+: rdP i ∧ Jx pre W')) := by
  have hn := fun V (hb : Below W.heap.size W V) => namesOf_any i.op V hi (hT.keep hb)
  unfold nmV at hn
  have h6 := b_not6 hB
  have hrd : rdP i = [i.b] := by simp [rdP, rdA, rdB, rdC, hA, hF, hB, h6]
  obtain ⟨c0, c1, c2, c3, c4, c5⟩ : W.cell? ⟨bx, 0, none⟩ = some (.int .u8 i.op) ∧ W.cell? ⟨bx, 1, none⟩ = some (.int .i64 i.r) ∧ W.cell? ⟨bx, 2, none⟩ = some (.int .i64 i.a) ∧ W.cell? ⟨bx, 3, none⟩ = some (.int .i64 i.b) ∧ W.cell? ⟨bx, 4, none⟩ = some (.int .i64 i.n) ∧ W.cell? ⟨bx, 5, none⟩ = some (.slice i.aa i.args.length i.acap) := ⟨hat.cells _ _ rfl, hat.cells _ _ rfl, hat.cells _ _ rfl, hat.cells _ _ rfl, hat.cells _ _ rfl, hat.cells _ _ rfl⟩
  have hbl : bx < W.heap.size := World.block_lt_of_cell? _ _ c0
  have hsx := hat.sf
  rw [hA, hF, hB] at hn
  generalize hasR i.op = xR at *
  generalize numK i.op = xN at *
  rw [hrd] at hY ⊢
  clear hrd hA hF hB hat hT hi
  replace hn := Lib.hid hn
  refine callsIn_of_wp Tryd.func59 rfl trivial ?_ rfl
  simp only [Tryd.ntmps59, List.size_toArray, List.length_cons, List.length_nil, Nat.reduceAdd, Nat.reduceSub, Array.replicate_succ, Array.replicate_zero, List.push_toArray, List.append_toArray, List.nil_append, List.cons_append]
  gi_wp2_with fail
  refine ⟨trivial, fun h => (by cases h), (callsIn_wide.2 (hn.out _ (Below.refl _ _))).mono ?_⟩
  rintro e w1 ⟨rfl, hb1⟩
  obtain ⟨hc, hf⟩ := bcell hb1
  have hz : bx < w1.heap.size := Nat.lt_of_lt_of_le hbl hb1.size
  have hb2 := Lib.hid (b_alloc w1 (.cells #[.bool xR, .bool false, .bool true, .bool false, .int .u8 xN] 72))
  have hb3 := Lib.hid (hb1.trans (hb2.out.mono hb1.size))
  have hJ2 := hJb _ _ _ hJ0 hb3.out
  have hsh := Lib.hid (hs.new _ _ _ w1.heap.size (hJb _ _ _ hJ0 hb1) hb2.out (Nat.le_refl _) (by simp))
  have hsb := Lib.hid (hs.ext _ _ _ hsx hbl hb3.out)
  obtain ⟨m2, m4⟩ := names_at (W := w1) (B := w1.heap.size) (a := xR) (b := false) (c := true) (d := false) (n := xN) rfl
  have e3 := Lib.hid (below_in hb3.out c3)
  have e2 := Lib.hid (below_in hb3.out c2)
  have e5 := Lib.hid (below_in hb3.out c5)
  replace m2 := Lib.hid m2
  replace m4 := Lib.hid m4
  clear hb1 hJ0 hJb hn
  gi_wp2_with fail
  refine ⟨fun f h => (by cases h), ?_⟩
  obtain ⟨fn, tmps, assign, body, hy, hR⟩ := hY (n - 1) [] i.b _ hJ2 (by simp)
  gi_wp2_with fail
  refine ⟨fun h => (by cases h), hR.mono ?_⟩
  clear hR hy
  rintro e W3 (⟨rfl, hJ3, hk3⟩ | ⟨rfl, hx3⟩)
  rotate_left
  · gi_wp2_with fail
    exact ⟨rfl, .tuple #[], by simp [results, Tryd.results59, go_sem], ⟨_, rfl⟩, .inr ⟨_, ⟨_, by rfl⟩, hx3⟩⟩
  replace m4 := hs.cell _ _ _ _ _ hsh.out hk3 m4.out
  have hz4 : w1.heap.size < W3.heap.size := World.block_lt_of_cell? _ _ m4
  gi_wp2_with fail
  exact ⟨rfl, .tuple #[], by simp [results, Tryd.results59, go_sem], ⟨_, rfl⟩, .inl ⟨_, rfl, hJ3⟩⟩
set_option maxRecDepth 100000 in
set_option maxHeartbeats 4000000 in
theorem read1_Bf (l n bx : Nat) (i : Ins) (Kp : World → World → Prop) (Sf : World → Nat → Prop) (J Jx : List Int → World → Prop) (W : World) (hat : InsAt Sf W bx i) (hi : U8 i.op) (hT : OpTab W) (hA : hasA i.op = false) (hF : hasF i.op = true) (hB : hasB i.op = true)
    (hs : Sfe J Kp Sf) (hY : Yld l (fun x : Int => #[.int .i64 x]) J Jx Kp (rdP i).length) (hJb : ∀ pre W1 W2, J pre W1 → Below W1.heap.size W1 W2 → J pre W2) (hJ0 : J [] W) :
    CallsIn Fence.wide n Tryd.prog 59 #[.func (.yield l) #[] #[], .pointer (some ⟨bx, 0, none⟩)] W fun e' W' => (∃ v, e' = .returned v) ∧
      ((∃ xs, xs = rdP i ∧ J xs W') ∨ (∃ pre, pre <+: rdP i ∧ Jx pre W')) := by
  have hn := fun V (hb : Below W.heap.size W V) => namesOf_any i.op V hi (hT.keep hb)
  unfold nmV at hn
  have h6 := b_not6 hB
  have hrd : rdP i = [i.b] := by simp [rdP, rdA, rdB, rdC, hA, hF, hB, h6]
  obtain ⟨c0, c1, c2, c3, c4, c5⟩ : W.cell? ⟨bx, 0, none⟩ = some (.int .u8 i.op) ∧ W.cell? ⟨bx, 1, none⟩ = some (.int .i64 i.r) ∧ W.cell? ⟨bx, 2, none⟩ = some (.int .i64 i.a) ∧ W.cell? ⟨bx, 3, none⟩ = some (.int .i64 i.b) ∧ W.cell? ⟨bx, 4, none⟩ = some (.int .i64 i.n) ∧ W.cell? ⟨bx, 5, none⟩ = some (.slice i.aa i.args.length i.acap) := ⟨hat.cells _ _ rfl, hat.cells _ _ rfl, hat.cells _ _ rfl, hat.cells _ _ rfl, hat.cells _ _ rfl, hat.cells _ _ rfl⟩
  have hbl : bx < W.heap.size := World.block_lt_of_cell? _ _ c0
  have hsx := hat.sf
  rw [hA, hF, hB] at hn
  generalize hasR i.op = xR at *
  generalize numK i.op = xN at *
  rw [hrd] at hY ⊢
  clear hrd hA hF hB hat hT hi
  replace hn := Lib.hid hn
  refine callsIn_of_wp Tryd.func59 rfl trivial ?_ rfl
  simp only [Tryd.ntmps59, List.size_toArray, List.length_cons, List.length_nil, Nat.reduceAdd, Nat.reduceSub, Array.replicate_succ, Array.replicate_zero, List.push_toArray, List.append_toArray, List.nil_append, List.cons_append]
  gi_wp2_with fail
  refine ⟨trivial, fun h => (by cases h), (callsIn_wide.2 (hn.out _ (Below.refl _ _))).mono ?_⟩
  rintro e w1 ⟨rfl, hb1⟩
  obtain ⟨hc, hf⟩ := bcell hb1
  have hz : bx < w1.heap.size := Nat.lt_of_lt_of_le hbl hb1.size
  have hb2 := Lib.hid (b_alloc w1 (.cells #[.bool xR, .bool false, .bool true, .bool true, .int .u8 xN] 72))
  have hb3 := Lib.hid (hb1.trans (hb2.out.mono hb1.size))
  have hJ2 := hJb _ _ _ hJ0 hb3.out
  have hsh := Lib.hid (hs.new _ _ _ w1.heap.size (hJb _ _ _ hJ0 hb1) hb2.out (Nat.le_refl _) (by simp))
  have hsb := Lib.hid (hs.ext _ _ _ hsx hbl hb3.out)
  obtain ⟨m2, m4⟩ := names_at (W := w1) (B := w1.heap.size) (a := xR) (b := false) (c := true) (d := true) (n := xN) rfl
  have e3 := Lib.hid (below_in hb3.out c3)
  have e2 := Lib.hid (below_in hb3.out c2)
  have e5 := Lib.hid (below_in hb3.out c5)
  replace m2 := Lib.hid m2
  replace m4 := Lib.hid m4
  clear hb1 hJ0 hJb hn
  gi_wp2_with fail
  refine ⟨fun f h => (by cases h), ?_⟩
  obtain ⟨fn, tmps, assign, body, hy, hR⟩ := hY (n - 1) [] i.b _ hJ2 (by simp)
  gi_wp2_with fail
  refine ⟨fun h => (by cases h), hR.mono ?_⟩
  clear hR hy
  rintro e W3 (⟨rfl, hJ3, hk3⟩ | ⟨rfl, hx3⟩)
  rotate_left
  · gi_wp2_with fail
    exact ⟨rfl, .tuple #[], by simp [results, Tryd.results59, go_sem], ⟨_, rfl⟩, .inr ⟨_, ⟨_, by rfl⟩, hx3⟩⟩
  replace m4 := hs.cell _ _ _ _ _ hsh.out hk3 m4.out
  have hz4 : w1.heap.size < W3.heap.size := World.block_lt_of_cell? _ _ m4
  gi_wp2_with fail
  exact ⟨rfl, .tuple #[], by simp [results, Tryd.results59, go_sem], ⟨_, rfl⟩, .inl ⟨_, rfl, hJ3⟩⟩
set_option maxRecDepth 100000 in
set_option maxHeartbeats 4000000 in
theorem read1_n (l n bx : Nat) (i : Ins) (Kp : World → World → Prop) (Sf : World → Nat → Prop) (J Jx : List Int → World → Prop) (W : World) (hat : InsAt Sf W bx i) (hi : U8 i.op) (hT : OpTab W) (hA : hasA i.op = false) (hF : hasF i.op = false) (hB : hasB i.op = false) (h6 : ¬ numK i.op = 6)
    (hs : Sfe J Kp Sf) (_ : Yld l (fun x : Int => #[.int .i64 x]) J Jx Kp (rdP i).length) (hJb : ∀ pre W1 W2, J pre W1 → Below W1.heap.size W1 W2 → J pre W2) (hJ0 : J [] W) :
    CallsIn Fence.wide n Tryd.prog 59 #[.func (.yield l) #[] #[], .pointer (some ⟨bx, 0, none⟩)] W fun e' W' => (∃ v, e' = .returned v) ∧
      ((∃ xs, xs = rdP i ∧ J xs W') ∨ (∃ pre, pre <+: rdP i ∧ Jx pre W')) := by
  have hn := fun V (hb : Below W.heap.size W V) => namesOf_any i.op V hi (hT.keep hb)
  unfold nmV at hn
  have hrd : rdP i = [] := by simp [rdP, rdA, rdB, rdC, hA, hF, hB, h6]
  obtain ⟨c0, c1, c2, c3, c4, c5⟩ : W.cell? ⟨bx, 0, none⟩ = some (.int .u8 i.op) ∧ W.cell? ⟨bx, 1, none⟩ = some (.int .i64 i.r) ∧ W.cell? ⟨bx, 2, none⟩ = some (.int .i64 i.a) ∧ W.cell? ⟨bx, 3, none⟩ = some (.int .i64 i.b) ∧ W.cell? ⟨bx, 4, none⟩ = some (.int .i64 i.n) ∧ W.cell? ⟨bx, 5, none⟩ = some (.slice i.aa i.args.length i.acap) := ⟨hat.cells _ _ rfl, hat.cells _ _ rfl, hat.cells _ _ rfl, hat.cells _ _ rfl, hat.cells _ _ rfl, hat.cells _ _ rfl⟩
  have hbl : bx < W.heap.size := World.block_lt_of_cell? _ _ c0
  have hsx := hat.sf
  rw [hA, hF, hB] at hn
  generalize hasR i.op = xR at *
  generalize numK i.op = xN at *
  rw [hrd]
  clear hrd hA hF hB hat hT hi
  replace hn := Lib.hid hn
  refine callsIn_of_wp Tryd.func59 rfl trivial ?_ rfl
  simp only [Tryd.ntmps59, List.size_toArray, List.length_cons, List.length_nil, Nat.reduceAdd, Nat.reduceSub, Array.replicate_succ, Array.replicate_zero, List.push_toArray, List.append_toArray, List.nil_append, List.cons_append]
  gi_wp2_with fail
  refine ⟨trivial, fun h => (by cases h), (callsIn_wide.2 (hn.out _ (Below.refl _ _))).mono ?_⟩
  rintro e w1 ⟨rfl, hb1⟩
  obtain ⟨hc, hf⟩ := bcell hb1
  have hz : bx < w1.heap.size := Nat.lt_of_lt_of_le hbl hb1.size
  have hb2 := Lib.hid (b_alloc w1 (.cells #[.bool xR, .bool false, .bool false, .bool false, .int .u8 xN] 72))
  have hb3 := Lib.hid (hb1.trans (hb2.out.mono hb1.size))
  have hJ2 := hJb _ _ _ hJ0 hb3.out
  have hsh := Lib.hid (hs.new _ _ _ w1.heap.size (hJb _ _ _ hJ0 hb1) hb2.out (Nat.le_refl _) (by simp))
  have hsb := Lib.hid (hs.ext _ _ _ hsx hbl hb3.out)
  obtain ⟨m2, m4⟩ := names_at (W := w1) (B := w1.heap.size) (a := xR) (b := false) (c := false) (d := false) (n := xN) rfl
  have e3 := Lib.hid (below_in hb3.out c3)
  have e2 := Lib.hid (below_in hb3.out c2)
  have e5 := Lib.hid (below_in hb3.out c5)
  replace m2 := Lib.hid m2
  replace m4 := Lib.hid m4
  clear hb1 hJ0 hJb hn
  gi_wp2_with fail
  refine ⟨fun f h => (by cases h), ?_⟩
  gi_wp2_with fail
  try (refine ⟨fun f h => (by cases h), ?_⟩; gi_wp2_with fail)
  exact ⟨rfl, .tuple #[], by simp [results, Tryd.results59, go_sem], ⟨_, rfl⟩, .inl ⟨_, rfl, hJ2⟩⟩
set_option maxRecDepth 100000 in
set_option maxHeartbeats 4000000 in
theorem read1_nf (l n bx : Nat) (i : Ins) (Kp : World → World → Prop) (Sf : World → Nat → Prop) (J Jx : List Int → World → Prop) (W : World) (hat : InsAt Sf W bx i) (hi : U8 i.op) (hT : OpTab W) (hA : hasA i.op = false) (hF : hasF i.op = true) (hB : hasB i.op = false) (h6 : ¬ numK i.op = 6)
    (hs : Sfe J Kp Sf) (_ : Yld l (fun x : Int => #[.int .i64 x]) J Jx Kp (rdP i).length) (hJb : ∀ pre W1 W2, J pre W1 → Below W1.heap.size W1 W2 → J pre W2) (hJ0 : J [] W) :
    CallsIn Fence.wide n Tryd.prog 59 #[.func (.yield l) #[] #[], .pointer (some ⟨bx, 0, none⟩)] W fun e' W' => (∃ v, e' = .returned v) ∧
      ((∃ xs, xs = rdP i ∧ J xs W') ∨ (∃ pre, pre <+: rdP i ∧ Jx pre W')) := by
  have hn := fun V (hb : Below W.heap.size W V) => namesOf_any i.op V hi (hT.keep hb)
  unfold nmV at hn
  have hrd : rdP i = [] := by simp [rdP, rdA, rdB, rdC, hA, hF, hB, h6]
  obtain ⟨c0, c1, c2, c3, c4, c5⟩ : W.cell? ⟨bx, 0, none⟩ = some (.int .u8 i.op) ∧ W.cell? ⟨bx, 1, none⟩ = some (.int .i64 i.r) ∧ W.cell? ⟨bx, 2, none⟩ = some (.int .i64 i.a) ∧ W.cell? ⟨bx, 3, none⟩ = some (.int .i64 i.b) ∧ W.cell? ⟨bx, 4, none⟩ = some (.int .i64 i.n) ∧ W.cell? ⟨bx, 5, none⟩ = some (.slice i.aa i.args.length i.acap) := ⟨hat.cells _ _ rfl, hat.cells _ _ rfl, hat.cells _ _ rfl, hat.cells _ _ rfl, hat.cells _ _ rfl, hat.cells _ _ rfl⟩
  have hbl : bx < W.heap.size := World.block_lt_of_cell? _ _ c0
  have hsx := hat.sf
  rw [hA, hF, hB] at hn
  generalize hasR i.op = xR at *
  generalize numK i.op = xN at *
  rw [hrd]
  clear hrd hA hF hB hat hT hi
  replace hn := Lib.hid hn
  refine callsIn_of_wp Tryd.func59 rfl trivial ?_ rfl
  simp only [Tryd.ntmps59, List.size_toArray, List.length_cons, List.length_nil, Nat.reduceAdd, Nat.reduceSub, Array.replicate_succ, Array.replicate_zero, List.push_toArray, List.append_toArray, List.nil_append, List.cons_append]
  gi_wp2_with fail
  refine ⟨trivial, fun h => (by cases h), (callsIn_wide.2 (hn.out _ (Below.refl _ _))).mono ?_⟩
  rintro e w1 ⟨rfl, hb1⟩
  obtain ⟨hc, hf⟩ := bcell hb1
  have hz : bx < w1.heap.size := Nat.lt_of_lt_of_le hbl hb1.size
  have hb2 := Lib.hid (b_alloc w1 (.cells #[.bool xR, .bool false, .bool false, .bool true, .int .u8 xN] 72))
  have hb3 := Lib.hid (hb1.trans (hb2.out.mono hb1.size))
  have hJ2 := hJb _ _ _ hJ0 hb3.out
  have hsh := Lib.hid (hs.new _ _ _ w1.heap.size (hJb _ _ _ hJ0 hb1) hb2.out (Nat.le_refl _) (by simp))
  have hsb := Lib.hid (hs.ext _ _ _ hsx hbl hb3.out)
  obtain ⟨m2, m4⟩ := names_at (W := w1) (B := w1.heap.size) (a := xR) (b := false) (c := false) (d := true) (n := xN) rfl
  have e3 := Lib.hid (below_in hb3.out c3)
  have e2 := Lib.hid (below_in hb3.out c2)
  have e5 := Lib.hid (below_in hb3.out c5)
  replace m2 := Lib.hid m2
  replace m4 := Lib.hid m4
  clear hb1 hJ0 hJb hn
  gi_wp2_with fail
  refine ⟨fun f h => (by cases h), ?_⟩
  gi_wp2_with fail
  try (refine ⟨fun f h => (by cases h), ?_⟩; gi_wp2_with fail)
  exact ⟨rfl, .tuple #[], by simp [results, Tryd.results59, go_sem], ⟨_, rfl⟩, .inl ⟨_, rfl, hJ2⟩⟩
set_option maxRecDepth 100000 in
set_option maxHeartbeats 4000000 in
theorem read1_C (l n bx : Nat) (i : Ins) (Kp : World → World → Prop) (Sf : World → Nat → Prop) (J Jx : List Int → World → Prop) (W : World) (hat : InsAt Sf W bx i) (hi : U8 i.op) (hT : OpTab W) (hA : hasA i.op = false) (hF : hasF i.op = false) (hB : hasB i.op = false) (h6 :  numK i.op = 6)
    (hs : Sfe J Kp Sf) (hY : Yld l (fun x : Int => #[.int .i64 x]) J Jx Kp (rdP i).length) (hJb : ∀ pre W1 W2, J pre W1 → Below W1.heap.size W1 W2 → J pre W2) (hJ0 : J [] W) :
    CallsIn Fence.wide n Tryd.prog 59 #[.func (.yield l) #[] #[], .pointer (some ⟨bx, 0, none⟩)] W fun e' W' => (∃ v, e' = .returned v) ∧
      ((∃ xs, xs = rdP i ∧ J xs W') ∨ (∃ pre, pre <+: rdP i ∧ Jx pre W')) := by
  have hn := fun V (hb : Below W.heap.size W V) => namesOf_any i.op V hi (hT.keep hb)
  unfold nmV at hn
  have hrd : rdP i = i.args := by simp [rdP, rdA, rdB, rdC, hA, hF, hB, h6]
  obtain ⟨c0, c1, c2, c3, c4, c5⟩ : W.cell? ⟨bx, 0, none⟩ = some (.int .u8 i.op) ∧ W.cell? ⟨bx, 1, none⟩ = some (.int .i64 i.r) ∧ W.cell? ⟨bx, 2, none⟩ = some (.int .i64 i.a) ∧ W.cell? ⟨bx, 3, none⟩ = some (.int .i64 i.b) ∧ W.cell? ⟨bx, 4, none⟩ = some (.int .i64 i.n) ∧ W.cell? ⟨bx, 5, none⟩ = some (.slice i.aa i.args.length i.acap) := ⟨hat.cells _ _ rfl, hat.cells _ _ rfl, hat.cells _ _ rfl, hat.cells _ _ rfl, hat.cells _ _ rfl, hat.cells _ _ rfl⟩
  have hbl : bx < W.heap.size := World.block_lt_of_cell? _ _ c0
  have hsx := hat.sf
  have hrow := Lib.hid hat.row
  have hll : i.args.length ≤ 9223372036854775807 := by have := hat.row.le; have := hat.row.lim; unfold maxLen at this; omega
  rw [hA, hF, hB, h6] at hn
  generalize hasR i.op = xR at *
  rw [hrd] at hY ⊢
  clear hrd hA hF hB hat hT hi h6
  replace hn := Lib.hid hn
  refine callsIn_of_wp Tryd.func59 rfl trivial ?_ rfl
  simp only [Tryd.ntmps59, List.size_toArray, List.length_cons, List.length_nil, Nat.reduceAdd, Nat.reduceSub, Array.replicate_succ, Array.replicate_zero, List.push_toArray, List.append_toArray, List.nil_append, List.cons_append]
  gi_wp2_with fail
  refine ⟨trivial, fun h => (by cases h), (callsIn_wide.2 (hn.out _ (Below.refl _ _))).mono ?_⟩
  rintro e w1 ⟨rfl, hb1⟩
  obtain ⟨hc, hf⟩ := bcell hb1
  have hz : bx < w1.heap.size := Nat.lt_of_lt_of_le hbl hb1.size
  have hb2 := Lib.hid (b_alloc w1 (.cells #[.bool xR, .bool false, .bool false, .bool false, .int .u8 6] 72))
  have hb3 := Lib.hid (hb1.trans (hb2.out.mono hb1.size))
  have hJ2 := hJb _ _ _ hJ0 hb3.out
  have hsh := Lib.hid (hs.new _ _ _ w1.heap.size (hJb _ _ _ hJ0 hb1) hb2.out (Nat.le_refl _) (by simp))
  have hsb := Lib.hid (hs.ext _ _ _ hsx hbl hb3.out)
  obtain ⟨m2, m4⟩ := names_at (W := w1) (B := w1.heap.size) (a := xR) (b := false) (c := false) (d := false) (n := 6) rfl
  have e3 := Lib.hid (below_in hb3.out c3)
  have e2 := Lib.hid (below_in hb3.out c2)
  have e5 := Lib.hid (below_in hb3.out c5)
  replace m2 := Lib.hid m2
  replace m4 := Lib.hid m4
  clear hb1 hJ0 hJb hn
  gi_wp2_with fail
  refine ⟨fun f h => (by cases h), ?_⟩
  have hrw : Hid (RowAt (w1.alloc (.cells #[.bool xR, .bool false, .bool false, .bool false, .int .u8 6] 72)) (Sf (w1.alloc (.cells #[.bool xR, .bool false, .bool false, .bool false, .int .u8 6] 72))) i.aa i.acap i.args.length (numCells i.args)) := Lib.hid (((hrow.out.bds).below (fun b o v hb hcl => (hb3.out.cell (p := ⟨b, o, none⟩) hb.2).trans hcl)).mono (fun b hb => hs.ext _ _ _ hb.1 hb.2 hb3.out))
  clear hrow
  gi_wp2_with fail
  try (refine ⟨fun f h => (by cases h), ?_⟩; gi_wp2_with fail)
  generalize hW2 : (w1.alloc (.cells #[.bool xR, .bool false, .bool false, .bool false, .int .u8 6] 72)) = W2 at *
  gi_loopw [45] (fun i0 wr => ∃ k : Nat, k ≤ i.args.length ∧ i0 = .int .i64 k ∧ Hid (J (i.args.take k) wr) ∧ Hid (RowAt wr (Sf wr) i.aa i.acap i.args.length (numCells i.args))) (fun i0 _ => i.args.length - (intOf i0).toNat)
  case atStart => exact ⟨0, Nat.zero_le _, rfl, Lib.hid (by simpa using hJ2), hrw⟩
  case round =>
    obtain ⟨k, hk, rfl, hJk, hr⟩ := hrel
    by_cases hlt : k < i.args.length
    · obtain ⟨x, hx⟩ : ∃ x, i.args[k]? = some x := ⟨_, List.getElem?_eq_getElem hlt⟩
      obtain ⟨b, off, ha, hb, hcx⟩ := num_row hr.out k x hx
      have htk : i.args.take (k + 1) = i.args.take k ++ [x] := by rw [List.take_add_one, hx]; rfl
      obtain ⟨fn, tmps, assign, body, hy, hR⟩ := hY (n - 1) (i.args.take k) x wr hJk.out (by rw [List.length_take]; omega)
      rw [← htk] at hR
      have hr2 := Lib.hid (fun (W' : World) (hk : Kp wr W') => ((hr.out.below (fun b o v hb hcl => hs.cell _ _ _ _ _ hb hk hcl)).mono (fun b hb => hs.keep _ _ _ hb hk) : RowAt W' (Sf W') i.aa i.acap i.args.length (numCells i.args)))
      rw [ha]
      have hi0 : (0 : Int) ≤ (k : Int) := by omega
      have hi1 : (k : Int) < (i.args.length : Int) := by omega
      have hpp : Hid (i.args.take (k + 1) <+: i.args) := Lib.hid (List.take_prefix _ _)
      clear hx htk hJk hr hY hJ2 hrw
      gi_wp2_with fail
      refine ⟨fun h => (by cases h), hR.mono ?_⟩
      clear hR hy
      rintro e W3 (⟨rfl, hJ3, hk3⟩ | ⟨rfl, hx3⟩)
      · have hr3 := Lib.hid (hr2.out _ hk3)
        replace hJ3 := Lib.hid hJ3
        clear hr2
        gi_wp2_with fail
        go_roundw
        case rel => exact ⟨k + 1, by omega, by go_num, hJ3, by rw [← ha] at *; exact hr3⟩
        case measure => simp [intOf]; omega
      · replace hx3 := Lib.hid hx3
        clear hr2
        gi_wp2_with fail
        exact ⟨rfl, .tuple #[], by simp [results, Tryd.results59, go_sem], ⟨_, rfl⟩, .inr ⟨_, hpp.out, hx3.out⟩⟩
    · have hJe : Hid (J i.args wr) := Lib.hid (by have h := hJk.out; rw [List.take_of_length_le (by omega)] at h; exact h)
      clear hJk hr hY hJ2 hrw
      gi_wp2_with fail
      go_end0
      exact ⟨⟨_, rfl⟩, .inl ⟨_, rfl, hJe.out⟩⟩
set_option maxRecDepth 100000 in
set_option maxHeartbeats 4000000 in
theorem read1_Cf (l n bx : Nat) (i : Ins) (Kp : World → World → Prop) (Sf : World → Nat → Prop) (J Jx : List Int → World → Prop) (W : World) (hat : InsAt Sf W bx i) (hi : U8 i.op) (hT : OpTab W) (hA : hasA i.op = false) (hF : hasF i.op = true) (hB : hasB i.op = false) (h6 :  numK i.op = 6)
    (hs : Sfe J Kp Sf) (hY : Yld l (fun x : Int => #[.int .i64 x]) J Jx Kp (rdP i).length) (hJb : ∀ pre W1 W2, J pre W1 → Below W1.heap.size W1 W2 → J pre W2) (hJ0 : J [] W) :
    CallsIn Fence.wide n Tryd.prog 59 #[.func (.yield l) #[] #[], .pointer (some ⟨bx, 0, none⟩)] W fun e' W' => (∃ v, e' = .returned v) ∧
      ((∃ xs, xs = rdP i ∧ J xs W') ∨ (∃ pre, pre <+: rdP i ∧ Jx pre W')) := by
  have hn := fun V (hb : Below W.heap.size W V) => namesOf_any i.op V hi (hT.keep hb)
  unfold nmV at hn
  have hrd : rdP i = i.args := by simp [rdP, rdA, rdB, rdC, hA, hF, hB, h6]
  obtain ⟨c0, c1, c2, c3, c4, c5⟩ : W.cell? ⟨bx, 0, none⟩ = some (.int .u8 i.op) ∧ W.cell? ⟨bx, 1, none⟩ = some (.int .i64 i.r) ∧ W.cell? ⟨bx, 2, none⟩ = some (.int .i64 i.a) ∧ W.cell? ⟨bx, 3, none⟩ = some (.int .i64 i.b) ∧ W.cell? ⟨bx, 4, none⟩ = some (.int .i64 i.n) ∧ W.cell? ⟨bx, 5, none⟩ = some (.slice i.aa i.args.length i.acap) := ⟨hat.cells _ _ rfl, hat.cells _ _ rfl, hat.cells _ _ rfl, hat.cells _ _ rfl, hat.cells _ _ rfl, hat.cells _ _ rfl⟩
  have hbl : bx < W.heap.size := World.block_lt_of_cell? _ _ c0
  have hsx := hat.sf
  have hrow := Lib.hid hat.row
  have hll : i.args.length ≤ 9223372036854775807 := by have := hat.row.le; have := hat.row.lim; unfold maxLen at this; omega
  rw [hA, hF, hB, h6] at hn
  generalize hasR i.op = xR at *
  rw [hrd] at hY ⊢
  clear hrd hA hF hB hat hT hi h6
  replace hn := Lib.hid hn
  refine callsIn_of_wp Tryd.func59 rfl trivial ?_ rfl
  simp only [Tryd.ntmps59, List.size_toArray, List.length_cons, List.length_nil, Nat.reduceAdd, Nat.reduceSub, Array.replicate_succ, Array.replicate_zero, List.push_toArray, List.append_toArray, List.nil_append, List.cons_append]
  gi_wp2_with fail
  refine ⟨trivial, fun h => (by cases h), (callsIn_wide.2 (hn.out _ (Below.refl _ _))).mono ?_⟩
  rintro e w1 ⟨rfl, hb1⟩
  obtain ⟨hc, hf⟩ := bcell hb1
  have hz : bx < w1.heap.size := Nat.lt_of_lt_of_le hbl hb1.size
  have hb2 := Lib.hid (b_alloc w1 (.cells #[.bool xR, .bool false, .bool false, .bool true, .int .u8 6] 72))
  have hb3 := Lib.hid (hb1.trans (hb2.out.mono hb1.size))
  have hJ2 := hJb _ _ _ hJ0 hb3.out
  have hsh := Lib.hid (hs.new _ _ _ w1.heap.size (hJb _ _ _ hJ0 hb1) hb2.out (Nat.le_refl _) (by simp))
  have hsb := Lib.hid (hs.ext _ _ _ hsx hbl hb3.out)
  obtain ⟨m2, m4⟩ := names_at (W := w1) (B := w1.heap.size) (a := xR) (b := false) (c := false) (d := true) (n := 6) rfl
  have e3 := Lib.hid (below_in hb3.out c3)
  have e2 := Lib.hid (below_in hb3.out c2)
  have e5 := Lib.hid (below_in hb3.out c5)
  replace m2 := Lib.hid m2
  replace m4 := Lib.hid m4
  clear hb1 hJ0 hJb hn
  gi_wp2_with fail
  refine ⟨fun f h => (by cases h), ?_⟩
  have hrw : Hid (RowAt (w1.alloc (.cells #[.bool xR, .bool false, .bool false, .bool true, .int .u8 6] 72)) (Sf (w1.alloc (.cells #[.bool xR, .bool false, .bool false, .bool true, .int .u8 6] 72))) i.aa i.acap i.args.length (numCells i.args)) := Lib.hid (((hrow.out.bds).below (fun b o v hb hcl => (hb3.out.cell (p := ⟨b, o, none⟩) hb.2).trans hcl)).mono (fun b hb => hs.ext _ _ _ hb.1 hb.2 hb3.out))
  clear hrow
  gi_wp2_with fail
  try (refine ⟨fun f h => (by cases h), ?_⟩; gi_wp2_with fail)
  generalize hW2 : (w1.alloc (.cells #[.bool xR, .bool false, .bool false, .bool true, .int .u8 6] 72)) = W2 at *
  gi_loopw [45] (fun i0 wr => ∃ k : Nat, k ≤ i.args.length ∧ i0 = .int .i64 k ∧ Hid (J (i.args.take k) wr) ∧ Hid (RowAt wr (Sf wr) i.aa i.acap i.args.length (numCells i.args))) (fun i0 _ => i.args.length - (intOf i0).toNat)
  case atStart => exact ⟨0, Nat.zero_le _, rfl, Lib.hid (by simpa using hJ2), hrw⟩
  case round =>
    obtain ⟨k, hk, rfl, hJk, hr⟩ := hrel
    by_cases hlt : k < i.args.length
    · obtain ⟨x, hx⟩ : ∃ x, i.args[k]? = some x := ⟨_, List.getElem?_eq_getElem hlt⟩
      obtain ⟨b, off, ha, hb, hcx⟩ := num_row hr.out k x hx
      have htk : i.args.take (k + 1) = i.args.take k ++ [x] := by rw [List.take_add_one, hx]; rfl
      obtain ⟨fn, tmps, assign, body, hy, hR⟩ := hY (n - 1) (i.args.take k) x wr hJk.out (by rw [List.length_take]; omega)
      rw [← htk] at hR
      have hr2 := Lib.hid (fun (W' : World) (hk : Kp wr W') => ((hr.out.below (fun b o v hb hcl => hs.cell _ _ _ _ _ hb hk hcl)).mono (fun b hb => hs.keep _ _ _ hb hk) : RowAt W' (Sf W') i.aa i.acap i.args.length (numCells i.args)))
      rw [ha]
      have hi0 : (0 : Int) ≤ (k : Int) := by omega
      have hi1 : (k : Int) < (i.args.length : Int) := by omega
      have hpp : Hid (i.args.take (k + 1) <+: i.args) := Lib.hid (List.take_prefix _ _)
      clear hx htk hJk hr hY hJ2 hrw
      gi_wp2_with fail
      refine ⟨fun h => (by cases h), hR.mono ?_⟩
      clear hR hy
      rintro e W3 (⟨rfl, hJ3, hk3⟩ | ⟨rfl, hx3⟩)
      · have hr3 := Lib.hid (hr2.out _ hk3)
        replace hJ3 := Lib.hid hJ3
        clear hr2
        gi_wp2_with fail
        go_roundw
        case rel => exact ⟨k + 1, by omega, by go_num, hJ3, by rw [← ha] at *; exact hr3⟩
        case measure => simp [intOf]; omega
      · replace hx3 := Lib.hid hx3
        clear hr2
        gi_wp2_with fail
        exact ⟨rfl, .tuple #[], by simp [results, Tryd.results59, go_sem], ⟨_, rfl⟩, .inr ⟨_, hpp.out, hx3.out⟩⟩
    · have hJe : Hid (J i.args wr) := Lib.hid (by have h := hJk.out; rw [List.take_of_length_le (by omega)] at h; exact h)
      clear hJk hr hY hJ2 hrw
      gi_wp2_with fail
      go_end0
      exact ⟨⟨_, rfl⟩, .inl ⟨_, rfl, hJe.out⟩⟩
theorem read1_any (l n bx : Nat) (i : Ins) (Kp : World → World → Prop) (Sf : World → Nat → Prop) (J Jx : List Int → World → Prop) (W : World) (hat : InsAt Sf W bx i) (hi : U8 i.op) (hT : OpTab W)
    (hs : Sfe J Kp Sf) (hY : Yld l (fun x : Int => #[.int .i64 x]) J Jx Kp (rdP i).length) (hJb : ∀ pre W1 W2, J pre W1 → Below W1.heap.size W1 W2 → J pre W2) (hJ0 : J [] W) :
    CallsIn Fence.wide n Tryd.prog 59 #[.func (.yield l) #[] #[], .pointer (some ⟨bx, 0, none⟩)] W fun e' W' => (∃ v, e' = .returned v) ∧
      ((∃ xs, xs = rdP i ∧ J xs W') ∨ (∃ pre, pre <+: rdP i ∧ Jx pre W')) := by
  cases hA : hasA i.op
  · cases hB : hasB i.op
    · by_cases h6 : numK i.op = 6
      · cases hF : hasF i.op
        · exact read1_C l n bx i Kp Sf J Jx W hat hi hT hA hF hB h6 hs hY hJb hJ0
        · exact read1_Cf l n bx i Kp Sf J Jx W hat hi hT hA hF hB h6 hs hY hJb hJ0
      · cases hF : hasF i.op
        · exact read1_n l n bx i Kp Sf J Jx W hat hi hT hA hF hB h6 hs hY hJb hJ0
        · exact read1_nf l n bx i Kp Sf J Jx W hat hi hT hA hF hB h6 hs hY hJb hJ0
    · cases hF : hasF i.op
      · exact read1_B l n bx i Kp Sf J Jx W hat hi hT hA hF hB hs hY hJb hJ0
      · exact read1_Bf l n bx i Kp Sf J Jx W hat hi hT hA hF hB hs hY hJb hJ0
  · cases hF : hasF i.op
    · cases hB : hasB i.op
      · exact read1_A l n bx i Kp Sf J Jx W hat hi hT hA hF hB hs hY hJb hJ0
      · exact read1_AB l n bx i Kp Sf J Jx W hat hi hT hA hF hB hs hY hJb hJ0
    · by_cases ha : i.a = -1
      · cases hB : hasB i.op
        · exact read1_Fn l n bx i Kp Sf J Jx W hat hi hT hA hF hB ha hs hY hJb hJ0
        · exact read1_FnB l n bx i Kp Sf J Jx W hat hi hT hA hF hB ha hs hY hJb hJ0
      · cases hB : hasB i.op
        · exact read1_Fa l n bx i Kp Sf J Jx W hat hi hT hA hF hB ha hs hY hJb hJ0
        · exact read1_FaB l n bx i Kp Sf J Jx W hat hi hT hA hF hB ha hs hY hJb hJ0
end Go.Proofs.YtiicjbnocpphdaaDoor.Cd
