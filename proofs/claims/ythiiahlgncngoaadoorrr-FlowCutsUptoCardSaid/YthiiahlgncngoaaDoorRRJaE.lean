/- Walks of code.read and its iterator, code.registers and its iterator. Conditions: the package's table holds its list. -/
import Derived.Test.YthiiahlgncngoaaDoorRRJM1
import Derived.Shelf.Abstract
import Derived.OwnWalkIn
import Derived.TacticsInMore
import Derived.LoopNIn
import Derived.LoopIn
set_option maxHeartbeats 16000000
set_option maxRecDepth 100000
namespace Go.Proofs.YthiiahlgncngoaaDoorRR.Cd
open Go Go.RowKit Go.Shelf
open Go.Proofs.YthiiahlgncngoaaDoorRR.Lx Go.Proofs.YthiiahlgncngoaaDoorRR.Tr Go.Proofs.YthiiahlgncngoaaDoorRR.Rg
attribute [local go_sem] Oper.semAt_some
theorem Qt (W : World) (o : Obj) {b : Nat} (hb : W.heap.size = b) : (W.alloc o).heap[b]? = some o := by subst hb; exact World.alloc_heap_new _ _
theorem Qe {w W : World} (h : Below w.heap.size w W) {b o : Nat} {v : Value} (hc : w.cell? ⟨b, o, none⟩ = some v) : W.cell? ⟨b, o, none⟩ = some v := Kps.of_below (S := fun _ => True) h b o v trivial hc
theorem _root_.Go.Proofs.YthiiahlgncngoaaDoorRR.Tr.RowAt.bds {w : World} {S : Nat → Prop} {a : Option Addr} {cap n : Nat} {xs : List Value} (h : RowAt w S a cap n xs) : RowAt w (fun b => S b ∧ b < w.heap.size) a cap n xs :=
 ⟨h.le, h.lim, h.nil, fun j u hj => by
  obtain ⟨b, off, ha, hs, hc⟩ := h.at_ j u hj
  exact ⟨b, off, ha, ⟨hs, World.block_lt_of_cell? _ _ hc⟩, hc⟩⟩
/-- what a round's keeping gives an iterator: which blocks read on -/
structure Sfe {α : Type} (J : List α → World → Prop) (Kp : World → World → Prop) (Sf : World → Nat → Prop) : Prop where
 keep : ∀ W W' b, Sf W b → Kp W W' → Sf W' b
 cell : ∀ W W' b o v, Sf W b → Kp W W' → W.cell? ⟨b, o, none⟩ = some v → W'.cell? ⟨b, o, none⟩ = some v
 new : ∀ pre W W' b, J pre W → Below W.heap.size W W' → W.heap.size ≤ b → b < W'.heap.size → Sf W' b
 ext : ∀ W W' b, Sf W b → b < W.heap.size → Below W.heap.size W W' → Sf W' b
theorem Sfe.all {α : Type} (J : List α → World → Prop) : Sfe J (Kps (fun _ => True)) (fun _ _ => True) :=
 ⟨fun _ _ _ _ _ => trivial, fun _ _ b o v _ k h => k b o v trivial h, fun _ _ _ _ _ _ _ _ => trivial, fun _ _ _ _ _ _ => trivial⟩
/-- a round -/
def Yld {α : Type} (l : Nat) (enc : α → Array Value) (J Jx : List α → World → Prop) (Kp : World → World → Prop) (N : Nat) : Prop :=
 ∀ m pre (x : α) W, J pre W → pre.length < N → YieldAt Fence.wide m Tryd.prog l (enc x) W fun e W' =>
  (e = .returned (.bool true) ∧ J (pre ++ [x]) W' ∧ Kp W W') ∨ (e = .returned (.bool false) ∧ Jx (pre ++ [x]) W')
theorem read_any (i : Ins) (w : World) :
 Calls Tryd.prog 100 #[i.val] w fun e w' =>
  e = .returned (.func (.func 108) #[] #[.pointer (some ⟨w.heap.size, 0, none⟩)]) ∧ w' = w.alloc (.cells ⟨i.vals⟩ 44) := by
 go_enter Tryd.func100, Tryd.ntmps100
 go_wp2_with fail
 go_ret
 exact ⟨rfl, rfl⟩
theorem registers_any (i : Ins) (w : World) :
 Calls Tryd.prog 68 #[i.val] w fun e w' =>
  e = .returned (.func (.func 98) #[] #[.pointer (some ⟨w.heap.size, 0, none⟩)]) ∧ w' = w.alloc (.cells ⟨i.vals⟩ 44) := by
 go_enter Tryd.func68, Tryd.ntmps68
 go_wp2_with fail
 go_ret
 exact ⟨rfl, rfl⟩
attribute [local go_sem] Oper.semAt_some
theorem a_not6 {k : Int} (h : hasA k = true) : ¬ numK k = 6 := by
 simp only [hasA, Bool.or_eq_true, decide_eq_true_eq] at h
 have : k = 2 ∨ k = 3 ∨ k = 4 ∨ k = 5 ∨ k = 6 ∨ k = 9 ∨ k = 12 ∨ k = 13 := by omega
 rcases this with rfl | rfl | rfl | rfl | rfl | rfl | rfl | rfl <;> decide
theorem b_not6 {k : Int} (h : hasB k = true) : ¬ numK k = 6 := by
 simp only [hasB, Bool.or_eq_true, decide_eq_true_eq] at h
 rcases h with rfl | rfl <;> decide
/-- what is told of the instruction -/
structure InsAt (S : World → Nat → Prop) (W : World) (bx : Nat) (i : Ins) : Prop where
 sf : S W bx
 cells : ∀ j u, i.vals[j]? = some u → W.cell? ⟨bx, j, none⟩ = some u
 row : RowAt W (S W) i.aa i.acap i.args.length (Qc i.args)
theorem Ya {W : World} {B : Nat} {a b c d : Bool} {n : Int} (hB : W.heap.size = B) : (W.alloc (.cells #[.bool a, .bool b, .bool c, .bool d, .int .u8 n] 107)).cell? ⟨B, 2, none⟩ = some (.bool c) ∧ (W.alloc (.cells #[.bool a, .bool b, .bool c, .bool d, .int .u8 n] 107)).cell? ⟨B, 4, none⟩ = some (.int .u8 n) := by
 have h := Qt W (.cells #[.bool a, .bool b, .bool c, .bool d, .int .u8 n] 107) hB
 have key : ∀ (V : World), V.heap[B]? = some (.cells #[.bool a, .bool b, .bool c, .bool d, .int .u8 n] 107) → V.cell? ⟨B, 2, none⟩ = some (.bool c) ∧ V.cell? ⟨B, 4, none⟩ = some (.int .u8 n) := fun V h => ⟨by simp [World.cell?, h], by simp [World.cell?, h]⟩
 exact key _ h
theorem read1_A (l n bx : Nat) (i : Ins) (Kp : World → World → Prop) (Sf : World → Nat → Prop) (J Jx : List Int → World → Prop) (W : World) (hat : InsAt Sf W bx i) (hi : U8 i.op) (hT : OpTab W) (hA : hasA i.op = true) (hF : hasF i.op = false) (hB : hasB i.op = false)
 (hs : Sfe J Kp Sf) (hY : Yld l (fun x : Int => #[.int .i64 x]) J Jx Kp (rdP i).length) (hJb : ∀ pre W1 W2, J pre W1 → Below W1.heap.size W1 W2 → J pre W2) (hJ0 : J [] W) :
 CallsIn Fence.wide n Tryd.prog 108 #[.func (.yield l) #[] #[], .pointer (some ⟨bx, 0, none⟩)] W fun e' W' => (∃ v, e' = .returned v) ∧
  ((∃ xs, xs = rdP i ∧ J xs W') ∨ (∃ pre, pre <+: rdP i ∧ Jx pre W')) := by
 have hn := fun V (hb : Below W.heap.size W V) => Q7 i.op V hi (hT.keep hb)
 unfold nmV at hn
 have h6 := a_not6 hA
 have hrd : rdP i = [i.a] := by simp [rdP, rdA, rdB, rdC, hA, hF, hB, h6]
 obtain ⟨c0, c1, c2, c3, c4, c5⟩ : W.cell? ⟨bx, 0, none⟩ = some (.int .u8 i.op) ∧ W.cell? ⟨bx, 1, none⟩ = some (.int .i64 i.r) ∧ W.cell? ⟨bx, 2, none⟩ = some (.int .i64 i.a) ∧ W.cell? ⟨bx, 3, none⟩ = some (.int .i64 i.b) ∧ W.cell? ⟨bx, 4, none⟩ = some (.int .i64 i.n) ∧ W.cell? ⟨bx, 5, none⟩ = some (.slice i.aa i.args.length i.acap) := ⟨hat.cells _ _ rfl, hat.cells _ _ rfl, hat.cells _ _ rfl, hat.cells _ _ rfl, hat.cells _ _ rfl, hat.cells _ _ rfl⟩
 have hbl : bx < W.heap.size := World.block_lt_of_cell? _ _ c0
 have hsx := hat.sf
 rw [hA, hF, hB] at hn
 generalize hasR i.op = xR at *
 generalize numK i.op = xN at *
 rw [hrd] at hY ⊢
 clear hrd hA hF hB hat hT hi
 replace hn := Lh hn
 refine callsIn_of_wp Tryd.func108 rfl trivial ?_ rfl
 simp only [Tryd.ntmps108, List.size_toArray, List.length_cons, List.length_nil, Nat.reduceAdd, Nat.reduceSub, Array.replicate_succ, Array.replicate_zero, List.push_toArray, List.append_toArray, List.nil_append, List.cons_append]
 gi_wp2_with fail
 refine ⟨trivial, fun h => (by cases h), (callsIn_wide.2 (hn.out _ (Below.refl _ _))).mono ?_⟩
 rintro e w1 ⟨rfl, hb1⟩
 obtain ⟨hc, hf⟩ := Q1 hb1
 have hz : bx < w1.heap.size := Nat.lt_of_lt_of_le hbl hb1.size
 have hb2 := Lh (Qh w1 (.cells #[.bool xR, .bool true, .bool false, .bool false, .int .u8 xN] 107))
 have hb3 := Lh (hb1.trans (hb2.out.mono hb1.size))
 have hJ2 := hJb _ _ _ hJ0 hb3.out
 have hsh := Lh (hs.new _ _ _ w1.heap.size (hJb _ _ _ hJ0 hb1) hb2.out (Nat.le_refl _) (by simp))
 have hsb := Lh (hs.ext _ _ _ hsx hbl hb3.out)
 obtain ⟨m2, m4⟩ := Ya (W := w1) (B := w1.heap.size) (a := xR) (b := true) (c := false) (d := false) (n := xN) rfl
 have e3 := Lh (Qe hb3.out c3)
 have e2 := Lh (Qe hb3.out c2)
 have e5 := Lh (Qe hb3.out c5)
 replace m2 := Lh m2
 replace m4 := Lh m4
 obtain ⟨fn, tmps, assign, body, hy, hR⟩ := hY (n - 1) [] i.a _ hJ2 (by simp)
 clear hb1 hJ0 hJ2 hJb hn
 gi_wp2_with fail
 refine ⟨fun h => (by cases h), hR.mono ?_⟩
 clear hR hy
 rintro e W2 (⟨rfl, hJ2, hk2⟩ | ⟨rfl, hx2⟩)
 rotate_left
 · gi_wp2_with fail
   exact ⟨rfl, .tuple #[], by simp [results, Tryd.results108, go_sem], ⟨_, rfl⟩, .inr ⟨_, ⟨_, by rfl⟩, hx2⟩⟩
 rw [List.nil_append] at hJ2
 replace m2 := hs.cell _ _ _ _ _ hsh.out hk2 m2.out
 replace m4 := hs.cell _ _ _ _ _ hsh.out hk2 m4.out
 replace e3 := hs.cell _ _ _ _ _ hsb.out hk2 e3.out
 replace hsb := Lh (hs.keep _ _ _ hsb.out hk2)
 have hz2 : bx < W2.heap.size := World.block_lt_of_cell? _ _ e3
 have hz3 : w1.heap.size < W2.heap.size := World.block_lt_of_cell? _ _ m2
 gi_wp2_with fail
 try (refine ⟨fun f h => (by cases h), ?_⟩; gi_wp2_with fail)
 exact ⟨rfl, .tuple #[], by simp [results, Tryd.results108, go_sem], ⟨_, rfl⟩, .inl ⟨_, rfl, hJ2⟩⟩
theorem read1_AB (l n bx : Nat) (i : Ins) (Kp : World → World → Prop) (Sf : World → Nat → Prop) (J Jx : List Int → World → Prop) (W : World) (hat : InsAt Sf W bx i) (hi : U8 i.op) (hT : OpTab W) (hA : hasA i.op = true) (hF : hasF i.op = false) (hB : hasB i.op = true)
 (hs : Sfe J Kp Sf) (hY : Yld l (fun x : Int => #[.int .i64 x]) J Jx Kp (rdP i).length) (hJb : ∀ pre W1 W2, J pre W1 → Below W1.heap.size W1 W2 → J pre W2) (hJ0 : J [] W) :
 CallsIn Fence.wide n Tryd.prog 108 #[.func (.yield l) #[] #[], .pointer (some ⟨bx, 0, none⟩)] W fun e' W' => (∃ v, e' = .returned v) ∧
  ((∃ xs, xs = rdP i ∧ J xs W') ∨ (∃ pre, pre <+: rdP i ∧ Jx pre W')) := by
 have hn := fun V (hb : Below W.heap.size W V) => Q7 i.op V hi (hT.keep hb)
 unfold nmV at hn
 have h6 := a_not6 hA
 have hrd : rdP i = [i.a, i.b] := by simp [rdP, rdA, rdB, rdC, hA, hF, hB, h6]
 obtain ⟨c0, c1, c2, c3, c4, c5⟩ : W.cell? ⟨bx, 0, none⟩ = some (.int .u8 i.op) ∧ W.cell? ⟨bx, 1, none⟩ = some (.int .i64 i.r) ∧ W.cell? ⟨bx, 2, none⟩ = some (.int .i64 i.a) ∧ W.cell? ⟨bx, 3, none⟩ = some (.int .i64 i.b) ∧ W.cell? ⟨bx, 4, none⟩ = some (.int .i64 i.n) ∧ W.cell? ⟨bx, 5, none⟩ = some (.slice i.aa i.args.length i.acap) := ⟨hat.cells _ _ rfl, hat.cells _ _ rfl, hat.cells _ _ rfl, hat.cells _ _ rfl, hat.cells _ _ rfl, hat.cells _ _ rfl⟩
 have hbl : bx < W.heap.size := World.block_lt_of_cell? _ _ c0
 have hsx := hat.sf
 rw [hA, hF, hB] at hn
 generalize hasR i.op = xR at *
 generalize numK i.op = xN at *
 rw [hrd] at hY ⊢
 clear hrd hA hF hB hat hT hi
 replace hn := Lh hn
 refine callsIn_of_wp Tryd.func108 rfl trivial ?_ rfl
 simp only [Tryd.ntmps108, List.size_toArray, List.length_cons, List.length_nil, Nat.reduceAdd, Nat.reduceSub, Array.replicate_succ, Array.replicate_zero, List.push_toArray, List.append_toArray, List.nil_append, List.cons_append]
 gi_wp2_with fail
 refine ⟨trivial, fun h => (by cases h), (callsIn_wide.2 (hn.out _ (Below.refl _ _))).mono ?_⟩
 rintro e w1 ⟨rfl, hb1⟩
 obtain ⟨hc, hf⟩ := Q1 hb1
 have hz : bx < w1.heap.size := Nat.lt_of_lt_of_le hbl hb1.size
 have hb2 := Lh (Qh w1 (.cells #[.bool xR, .bool true, .bool true, .bool false, .int .u8 xN] 107))
 have hb3 := Lh (hb1.trans (hb2.out.mono hb1.size))
 have hJ2 := hJb _ _ _ hJ0 hb3.out
 have hsh := Lh (hs.new _ _ _ w1.heap.size (hJb _ _ _ hJ0 hb1) hb2.out (Nat.le_refl _) (by simp))
 have hsb := Lh (hs.ext _ _ _ hsx hbl hb3.out)
 obtain ⟨m2, m4⟩ := Ya (W := w1) (B := w1.heap.size) (a := xR) (b := true) (c := true) (d := false) (n := xN) rfl
 have e3 := Lh (Qe hb3.out c3)
 have e2 := Lh (Qe hb3.out c2)
 have e5 := Lh (Qe hb3.out c5)
 replace m2 := Lh m2
 replace m4 := Lh m4
 obtain ⟨fn, tmps, assign, body, hy, hR⟩ := hY (n - 1) [] i.a _ hJ2 (by simp)
 clear hb1 hJ0 hJ2 hJb hn
 gi_wp2_with fail
 refine ⟨fun h => (by cases h), hR.mono ?_⟩
 clear hR hy
 rintro e W2 (⟨rfl, hJ2, hk2⟩ | ⟨rfl, hx2⟩)
 rotate_left
 · gi_wp2_with fail
   exact ⟨rfl, .tuple #[], by simp [results, Tryd.results108, go_sem], ⟨_, rfl⟩, .inr ⟨_, ⟨_, by rfl⟩, hx2⟩⟩
 rw [List.nil_append] at hJ2
 replace m2 := hs.cell _ _ _ _ _ hsh.out hk2 m2.out
 replace m4 := hs.cell _ _ _ _ _ hsh.out hk2 m4.out
 replace e3 := hs.cell _ _ _ _ _ hsb.out hk2 e3.out
 replace hsb := Lh (hs.keep _ _ _ hsb.out hk2)
 have hz2 : bx < W2.heap.size := World.block_lt_of_cell? _ _ e3
 have hz3 : w1.heap.size < W2.heap.size := World.block_lt_of_cell? _ _ m2
 obtain ⟨fn, tmps, assign, body, hy, hR⟩ := hY (n - 1) [i.a] i.b _ hJ2 (by simp)
 gi_wp2_with fail
 refine ⟨fun h => (by cases h), hR.mono ?_⟩
 clear hR hy
 rintro e W3 (⟨rfl, hJ3, hk3⟩ | ⟨rfl, hx3⟩)
 rotate_left
 · gi_wp2_with fail
   exact ⟨rfl, .tuple #[], by simp [results, Tryd.results108, go_sem], ⟨_, rfl⟩, .inr ⟨_, ⟨_, by rfl⟩, hx3⟩⟩
 replace m4 := hs.cell _ _ _ _ _ (hs.keep _ _ _ hsh.out hk2) hk3 m4
 have hz4 : w1.heap.size < W3.heap.size := World.block_lt_of_cell? _ _ m4
 gi_wp2_with fail
 exact ⟨rfl, .tuple #[], by simp [results, Tryd.results108, go_sem], ⟨_, rfl⟩, .inl ⟨_, rfl, hJ3⟩⟩
theorem read1_Fa (l n bx : Nat) (i : Ins) (Kp : World → World → Prop) (Sf : World → Nat → Prop) (J Jx : List Int → World → Prop) (W : World) (hat : InsAt Sf W bx i) (hi : U8 i.op) (hT : OpTab W) (hA : hasA i.op = true) (hF : hasF i.op = true) (hB : hasB i.op = false) (ha : ¬ i.a = -1)
 (hs : Sfe J Kp Sf) (hY : Yld l (fun x : Int => #[.int .i64 x]) J Jx Kp (rdP i).length) (hJb : ∀ pre W1 W2, J pre W1 → Below W1.heap.size W1 W2 → J pre W2) (hJ0 : J [] W) :
 CallsIn Fence.wide n Tryd.prog 108 #[.func (.yield l) #[] #[], .pointer (some ⟨bx, 0, none⟩)] W fun e' W' => (∃ v, e' = .returned v) ∧
  ((∃ xs, xs = rdP i ∧ J xs W') ∨ (∃ pre, pre <+: rdP i ∧ Jx pre W')) := by
 have hn := fun V (hb : Below W.heap.size W V) => Q7 i.op V hi (hT.keep hb)
 unfold nmV at hn
 have h6 := a_not6 hA
 have hrd : rdP i = [i.a] := by simp [rdP, rdA, rdB, rdC, hA, hF, hB, h6, ha]
 obtain ⟨c0, c1, c2, c3, c4, c5⟩ : W.cell? ⟨bx, 0, none⟩ = some (.int .u8 i.op) ∧ W.cell? ⟨bx, 1, none⟩ = some (.int .i64 i.r) ∧ W.cell? ⟨bx, 2, none⟩ = some (.int .i64 i.a) ∧ W.cell? ⟨bx, 3, none⟩ = some (.int .i64 i.b) ∧ W.cell? ⟨bx, 4, none⟩ = some (.int .i64 i.n) ∧ W.cell? ⟨bx, 5, none⟩ = some (.slice i.aa i.args.length i.acap) := ⟨hat.cells _ _ rfl, hat.cells _ _ rfl, hat.cells _ _ rfl, hat.cells _ _ rfl, hat.cells _ _ rfl, hat.cells _ _ rfl⟩
 have hbl : bx < W.heap.size := World.block_lt_of_cell? _ _ c0
 have hsx := hat.sf
 rw [hA, hF, hB] at hn
 generalize hasR i.op = xR at *
 generalize numK i.op = xN at *
 rw [hrd] at hY ⊢
 have hae : (i.a == -1) = false := by simpa using ha
 clear hrd hA hF hB hat hT hi
 replace hn := Lh hn
 refine callsIn_of_wp Tryd.func108 rfl trivial ?_ rfl
 simp only [Tryd.ntmps108, List.size_toArray, List.length_cons, List.length_nil, Nat.reduceAdd, Nat.reduceSub, Array.replicate_succ, Array.replicate_zero, List.push_toArray, List.append_toArray, List.nil_append, List.cons_append]
 gi_wp2_with fail
 refine ⟨trivial, fun h => (by cases h), (callsIn_wide.2 (hn.out _ (Below.refl _ _))).mono ?_⟩
 rintro e w1 ⟨rfl, hb1⟩
 obtain ⟨hc, hf⟩ := Q1 hb1
 have hz : bx < w1.heap.size := Nat.lt_of_lt_of_le hbl hb1.size
 have hb2 := Lh (Qh w1 (.cells #[.bool xR, .bool true, .bool false, .bool true, .int .u8 xN] 107))
 have hb3 := Lh (hb1.trans (hb2.out.mono hb1.size))
 have hJ2 := hJb _ _ _ hJ0 hb3.out
 have hsh := Lh (hs.new _ _ _ w1.heap.size (hJb _ _ _ hJ0 hb1) hb2.out (Nat.le_refl _) (by simp))
 have hsb := Lh (hs.ext _ _ _ hsx hbl hb3.out)
 obtain ⟨m2, m4⟩ := Ya (W := w1) (B := w1.heap.size) (a := xR) (b := true) (c := false) (d := true) (n := xN) rfl
 have e3 := Lh (Qe hb3.out c3)
 have e2 := Lh (Qe hb3.out c2)
 have e5 := Lh (Qe hb3.out c5)
 replace m2 := Lh m2
 replace m4 := Lh m4
 obtain ⟨fn, tmps, assign, body, hy, hR⟩ := hY (n - 1) [] i.a _ hJ2 (by simp)
 clear hb1 hJ0 hJ2 hJb hn
 gi_wp2_with fail
 refine ⟨fun h => (by cases h), hR.mono ?_⟩
 clear hR hy
 rintro e W2 (⟨rfl, hJ2, hk2⟩ | ⟨rfl, hx2⟩)
 rotate_left
 · gi_wp2_with fail
   exact ⟨rfl, .tuple #[], by simp [results, Tryd.results108, go_sem], ⟨_, rfl⟩, .inr ⟨_, ⟨_, by rfl⟩, hx2⟩⟩
 rw [List.nil_append] at hJ2
 replace m2 := hs.cell _ _ _ _ _ hsh.out hk2 m2.out
 replace m4 := hs.cell _ _ _ _ _ hsh.out hk2 m4.out
 replace e3 := hs.cell _ _ _ _ _ hsb.out hk2 e3.out
 replace hsb := Lh (hs.keep _ _ _ hsb.out hk2)
 have hz2 : bx < W2.heap.size := World.block_lt_of_cell? _ _ e3
 have hz3 : w1.heap.size < W2.heap.size := World.block_lt_of_cell? _ _ m2
 gi_wp2_with fail
 try (refine ⟨fun f h => (by cases h), ?_⟩; gi_wp2_with fail)
 exact ⟨rfl, .tuple #[], by simp [results, Tryd.results108, go_sem], ⟨_, rfl⟩, .inl ⟨_, rfl, hJ2⟩⟩
theorem read1_FaB (l n bx : Nat) (i : Ins) (Kp : World → World → Prop) (Sf : World → Nat → Prop) (J Jx : List Int → World → Prop) (W : World) (hat : InsAt Sf W bx i) (hi : U8 i.op) (hT : OpTab W) (hA : hasA i.op = true) (hF : hasF i.op = true) (hB : hasB i.op = true) (ha : ¬ i.a = -1)
 (hs : Sfe J Kp Sf) (hY : Yld l (fun x : Int => #[.int .i64 x]) J Jx Kp (rdP i).length) (hJb : ∀ pre W1 W2, J pre W1 → Below W1.heap.size W1 W2 → J pre W2) (hJ0 : J [] W) :
 CallsIn Fence.wide n Tryd.prog 108 #[.func (.yield l) #[] #[], .pointer (some ⟨bx, 0, none⟩)] W fun e' W' => (∃ v, e' = .returned v) ∧
  ((∃ xs, xs = rdP i ∧ J xs W') ∨ (∃ pre, pre <+: rdP i ∧ Jx pre W')) := by
 have hn := fun V (hb : Below W.heap.size W V) => Q7 i.op V hi (hT.keep hb)
 unfold nmV at hn
 have h6 := a_not6 hA
 have hrd : rdP i = [i.a, i.b] := by simp [rdP, rdA, rdB, rdC, hA, hF, hB, h6, ha]
 obtain ⟨c0, c1, c2, c3, c4, c5⟩ : W.cell? ⟨bx, 0, none⟩ = some (.int .u8 i.op) ∧ W.cell? ⟨bx, 1, none⟩ = some (.int .i64 i.r) ∧ W.cell? ⟨bx, 2, none⟩ = some (.int .i64 i.a) ∧ W.cell? ⟨bx, 3, none⟩ = some (.int .i64 i.b) ∧ W.cell? ⟨bx, 4, none⟩ = some (.int .i64 i.n) ∧ W.cell? ⟨bx, 5, none⟩ = some (.slice i.aa i.args.length i.acap) := ⟨hat.cells _ _ rfl, hat.cells _ _ rfl, hat.cells _ _ rfl, hat.cells _ _ rfl, hat.cells _ _ rfl, hat.cells _ _ rfl⟩
 have hbl : bx < W.heap.size := World.block_lt_of_cell? _ _ c0
 have hsx := hat.sf
 rw [hA, hF, hB] at hn
 generalize hasR i.op = xR at *
 generalize numK i.op = xN at *
 rw [hrd] at hY ⊢
 have hae : (i.a == -1) = false := by simpa using ha
 clear hrd hA hF hB hat hT hi
 replace hn := Lh hn
 refine callsIn_of_wp Tryd.func108 rfl trivial ?_ rfl
 simp only [Tryd.ntmps108, List.size_toArray, List.length_cons, List.length_nil, Nat.reduceAdd, Nat.reduceSub, Array.replicate_succ, Array.replicate_zero, List.push_toArray, List.append_toArray, List.nil_append, List.cons_append]
 gi_wp2_with fail
 refine ⟨trivial, fun h => (by cases h), (callsIn_wide.2 (hn.out _ (Below.refl _ _))).mono ?_⟩
 rintro e w1 ⟨rfl, hb1⟩
 obtain ⟨hc, hf⟩ := Q1 hb1
 have hz : bx < w1.heap.size := Nat.lt_of_lt_of_le hbl hb1.size
 have hb2 := Lh (Qh w1 (.cells #[.bool xR, .bool true, .bool true, .bool true, .int .u8 xN] 107))
 have hb3 := Lh (hb1.trans (hb2.out.mono hb1.size))
 have hJ2 := hJb _ _ _ hJ0 hb3.out
 have hsh := Lh (hs.new _ _ _ w1.heap.size (hJb _ _ _ hJ0 hb1) hb2.out (Nat.le_refl _) (by simp))
 have hsb := Lh (hs.ext _ _ _ hsx hbl hb3.out)
 obtain ⟨m2, m4⟩ := Ya (W := w1) (B := w1.heap.size) (a := xR) (b := true) (c := true) (d := true) (n := xN) rfl
 have e3 := Lh (Qe hb3.out c3)
 have e2 := Lh (Qe hb3.out c2)
 have e5 := Lh (Qe hb3.out c5)
 replace m2 := Lh m2
 replace m4 := Lh m4
 obtain ⟨fn, tmps, assign, body, hy, hR⟩ := hY (n - 1) [] i.a _ hJ2 (by simp)
 clear hb1 hJ0 hJ2 hJb hn
 gi_wp2_with fail
 refine ⟨fun h => (by cases h), hR.mono ?_⟩
 clear hR hy
 rintro e W2 (⟨rfl, hJ2, hk2⟩ | ⟨rfl, hx2⟩)
 rotate_left
 · gi_wp2_with fail
   exact ⟨rfl, .tuple #[], by simp [results, Tryd.results108, go_sem], ⟨_, rfl⟩, .inr ⟨_, ⟨_, by rfl⟩, hx2⟩⟩
 rw [List.nil_append] at hJ2
 replace m2 := hs.cell _ _ _ _ _ hsh.out hk2 m2.out
 replace m4 := hs.cell _ _ _ _ _ hsh.out hk2 m4.out
 replace e3 := hs.cell _ _ _ _ _ hsb.out hk2 e3.out
 replace hsb := Lh (hs.keep _ _ _ hsb.out hk2)
 have hz2 : bx < W2.heap.size := World.block_lt_of_cell? _ _ e3
 have hz3 : w1.heap.size < W2.heap.size := World.block_lt_of_cell? _ _ m2
 obtain ⟨fn, tmps, assign, body, hy, hR⟩ := hY (n - 1) [i.a] i.b _ hJ2 (by simp)
 gi_wp2_with fail
 refine ⟨fun h => (by cases h), hR.mono ?_⟩
 clear hR hy
 rintro e W3 (⟨rfl, hJ3, hk3⟩ | ⟨rfl, hx3⟩)
 rotate_left
 · gi_wp2_with fail
   exact ⟨rfl, .tuple #[], by simp [results, Tryd.results108, go_sem], ⟨_, rfl⟩, .inr ⟨_, ⟨_, by rfl⟩, hx3⟩⟩
 replace m4 := hs.cell _ _ _ _ _ (hs.keep _ _ _ hsh.out hk2) hk3 m4
 have hz4 : w1.heap.size < W3.heap.size := World.block_lt_of_cell? _ _ m4
 gi_wp2_with fail
 exact ⟨rfl, .tuple #[], by simp [results, Tryd.results108, go_sem], ⟨_, rfl⟩, .inl ⟨_, rfl, hJ3⟩⟩
theorem read1_Fn (l n bx : Nat) (i : Ins) (Kp : World → World → Prop) (Sf : World → Nat → Prop) (J Jx : List Int → World → Prop) (W : World) (hat : InsAt Sf W bx i) (hi : U8 i.op) (hT : OpTab W) (hA : hasA i.op = true) (hF : hasF i.op = true) (hB : hasB i.op = false) (ha :  i.a = -1)
 (hs : Sfe J Kp Sf) (_ : Yld l (fun x : Int => #[.int .i64 x]) J Jx Kp (rdP i).length) (hJb : ∀ pre W1 W2, J pre W1 → Below W1.heap.size W1 W2 → J pre W2) (hJ0 : J [] W) :
 CallsIn Fence.wide n Tryd.prog 108 #[.func (.yield l) #[] #[], .pointer (some ⟨bx, 0, none⟩)] W fun e' W' => (∃ v, e' = .returned v) ∧
  ((∃ xs, xs = rdP i ∧ J xs W') ∨ (∃ pre, pre <+: rdP i ∧ Jx pre W')) := by
 have hn := fun V (hb : Below W.heap.size W V) => Q7 i.op V hi (hT.keep hb)
 unfold nmV at hn
 have h6 := a_not6 hA
 have hrd : rdP i = [] := by simp [rdP, rdA, rdB, rdC, hA, hF, hB, h6, ha]
 obtain ⟨c0, c1, c2, c3, c4, c5⟩ : W.cell? ⟨bx, 0, none⟩ = some (.int .u8 i.op) ∧ W.cell? ⟨bx, 1, none⟩ = some (.int .i64 i.r) ∧ W.cell? ⟨bx, 2, none⟩ = some (.int .i64 i.a) ∧ W.cell? ⟨bx, 3, none⟩ = some (.int .i64 i.b) ∧ W.cell? ⟨bx, 4, none⟩ = some (.int .i64 i.n) ∧ W.cell? ⟨bx, 5, none⟩ = some (.slice i.aa i.args.length i.acap) := ⟨hat.cells _ _ rfl, hat.cells _ _ rfl, hat.cells _ _ rfl, hat.cells _ _ rfl, hat.cells _ _ rfl, hat.cells _ _ rfl⟩
 have hbl : bx < W.heap.size := World.block_lt_of_cell? _ _ c0
 have hsx := hat.sf
 rw [hA, hF, hB] at hn
 generalize hasR i.op = xR at *
 generalize numK i.op = xN at *
 rw [hrd]
 rw [ha] at c2
 clear hrd hA hF hB hat hT hi
 replace hn := Lh hn
 refine callsIn_of_wp Tryd.func108 rfl trivial ?_ rfl
 simp only [Tryd.ntmps108, List.size_toArray, List.length_cons, List.length_nil, Nat.reduceAdd, Nat.reduceSub, Array.replicate_succ, Array.replicate_zero, List.push_toArray, List.append_toArray, List.nil_append, List.cons_append]
 gi_wp2_with fail
 refine ⟨trivial, fun h => (by cases h), (callsIn_wide.2 (hn.out _ (Below.refl _ _))).mono ?_⟩
 rintro e w1 ⟨rfl, hb1⟩
 obtain ⟨hc, hf⟩ := Q1 hb1
 have hz : bx < w1.heap.size := Nat.lt_of_lt_of_le hbl hb1.size
 have hb2 := Lh (Qh w1 (.cells #[.bool xR, .bool true, .bool false, .bool true, .int .u8 xN] 107))
 have hb3 := Lh (hb1.trans (hb2.out.mono hb1.size))
 have hJ2 := hJb _ _ _ hJ0 hb3.out
 have hsh := Lh (hs.new _ _ _ w1.heap.size (hJb _ _ _ hJ0 hb1) hb2.out (Nat.le_refl _) (by simp))
 have hsb := Lh (hs.ext _ _ _ hsx hbl hb3.out)
 obtain ⟨m2, m4⟩ := Ya (W := w1) (B := w1.heap.size) (a := xR) (b := true) (c := false) (d := true) (n := xN) rfl
 have e3 := Lh (Qe hb3.out c3)
 have e2 := Lh (Qe hb3.out c2)
 have e5 := Lh (Qe hb3.out c5)
 replace m2 := Lh m2
 replace m4 := Lh m4
 clear hb1 hJ0 hJb hn
 gi_wp2_with fail
 refine ⟨fun f h => (by cases h), ?_⟩
 gi_wp2_with fail
 try (refine ⟨fun f h => (by cases h), ?_⟩; gi_wp2_with fail)
 exact ⟨rfl, .tuple #[], by simp [results, Tryd.results108, go_sem], ⟨_, rfl⟩, .inl ⟨_, rfl, hJ2⟩⟩
theorem read1_FnB (l n bx : Nat) (i : Ins) (Kp : World → World → Prop) (Sf : World → Nat → Prop) (J Jx : List Int → World → Prop) (W : World) (hat : InsAt Sf W bx i) (hi : U8 i.op) (hT : OpTab W) (hA : hasA i.op = true) (hF : hasF i.op = true) (hB : hasB i.op = true) (ha :  i.a = -1)
 (hs : Sfe J Kp Sf) (hY : Yld l (fun x : Int => #[.int .i64 x]) J Jx Kp (rdP i).length) (hJb : ∀ pre W1 W2, J pre W1 → Below W1.heap.size W1 W2 → J pre W2) (hJ0 : J [] W) :
 CallsIn Fence.wide n Tryd.prog 108 #[.func (.yield l) #[] #[], .pointer (some ⟨bx, 0, none⟩)] W fun e' W' => (∃ v, e' = .returned v) ∧
  ((∃ xs, xs = rdP i ∧ J xs W') ∨ (∃ pre, pre <+: rdP i ∧ Jx pre W')) := by
 have hn := fun V (hb : Below W.heap.size W V) => Q7 i.op V hi (hT.keep hb)
 unfold nmV at hn
 have h6 := a_not6 hA
 have hrd : rdP i = [i.b] := by simp [rdP, rdA, rdB, rdC, hA, hF, hB, h6, ha]
 obtain ⟨c0, c1, c2, c3, c4, c5⟩ : W.cell? ⟨bx, 0, none⟩ = some (.int .u8 i.op) ∧ W.cell? ⟨bx, 1, none⟩ = some (.int .i64 i.r) ∧ W.cell? ⟨bx, 2, none⟩ = some (.int .i64 i.a) ∧ W.cell? ⟨bx, 3, none⟩ = some (.int .i64 i.b) ∧ W.cell? ⟨bx, 4, none⟩ = some (.int .i64 i.n) ∧ W.cell? ⟨bx, 5, none⟩ = some (.slice i.aa i.args.length i.acap) := ⟨hat.cells _ _ rfl, hat.cells _ _ rfl, hat.cells _ _ rfl, hat.cells _ _ rfl, hat.cells _ _ rfl, hat.cells _ _ rfl⟩
 have hbl : bx < W.heap.size := World.block_lt_of_cell? _ _ c0
 have hsx := hat.sf
 rw [hA, hF, hB] at hn
 generalize hasR i.op = xR at *
 generalize numK i.op = xN at *
 rw [hrd] at hY ⊢
 rw [ha] at c2
 clear hrd hA hF hB hat hT hi
 replace hn := Lh hn
 refine callsIn_of_wp Tryd.func108 rfl trivial ?_ rfl
 simp only [Tryd.ntmps108, List.size_toArray, List.length_cons, List.length_nil, Nat.reduceAdd, Nat.reduceSub, Array.replicate_succ, Array.replicate_zero, List.push_toArray, List.append_toArray, List.nil_append, List.cons_append]
 gi_wp2_with fail
 refine ⟨trivial, fun h => (by cases h), (callsIn_wide.2 (hn.out _ (Below.refl _ _))).mono ?_⟩
 rintro e w1 ⟨rfl, hb1⟩
 obtain ⟨hc, hf⟩ := Q1 hb1
 have hz : bx < w1.heap.size := Nat.lt_of_lt_of_le hbl hb1.size
 have hb2 := Lh (Qh w1 (.cells #[.bool xR, .bool true, .bool true, .bool true, .int .u8 xN] 107))
 have hb3 := Lh (hb1.trans (hb2.out.mono hb1.size))
 have hJ2 := hJb _ _ _ hJ0 hb3.out
 have hsh := Lh (hs.new _ _ _ w1.heap.size (hJb _ _ _ hJ0 hb1) hb2.out (Nat.le_refl _) (by simp))
 have hsb := Lh (hs.ext _ _ _ hsx hbl hb3.out)
 obtain ⟨m2, m4⟩ := Ya (W := w1) (B := w1.heap.size) (a := xR) (b := true) (c := true) (d := true) (n := xN) rfl
 have e3 := Lh (Qe hb3.out c3)
 have e2 := Lh (Qe hb3.out c2)
 have e5 := Lh (Qe hb3.out c5)
 replace m2 := Lh m2
 replace m4 := Lh m4
 clear hb1 hJ0 hJb hn
 gi_wp2_with fail
 refine ⟨fun f h => (by cases h), ?_⟩
 obtain ⟨fn, tmps, assign, body, hy, hR⟩ := hY (n - 1) [] i.b _ hJ2 (by simp)
 gi_wp2_with fail
 refine ⟨fun h => (by cases h), hR.mono ?_⟩
 clear hR hy
 rintro e W3 (⟨rfl, hJ3, hk3⟩ | ⟨rfl, hx3⟩)
 rotate_left
 · gi_wp2_with fail
   exact ⟨rfl, .tuple #[], by simp [results, Tryd.results108, go_sem], ⟨_, rfl⟩, .inr ⟨_, ⟨_, by rfl⟩, hx3⟩⟩
 replace m4 := hs.cell _ _ _ _ _ hsh.out hk3 m4.out
 have hz4 : w1.heap.size < W3.heap.size := World.block_lt_of_cell? _ _ m4
 gi_wp2_with fail
 exact ⟨rfl, .tuple #[], by simp [results, Tryd.results108, go_sem], ⟨_, rfl⟩, .inl ⟨_, rfl, hJ3⟩⟩
theorem read1_B (l n bx : Nat) (i : Ins) (Kp : World → World → Prop) (Sf : World → Nat → Prop) (J Jx : List Int → World → Prop) (W : World) (hat : InsAt Sf W bx i) (hi : U8 i.op) (hT : OpTab W) (hA : hasA i.op = false) (hF : hasF i.op = false) (hB : hasB i.op = true)
 (hs : Sfe J Kp Sf) (hY : Yld l (fun x : Int => #[.int .i64 x]) J Jx Kp (rdP i).length) (hJb : ∀ pre W1 W2, J pre W1 → Below W1.heap.size W1 W2 → J pre W2) (hJ0 : J [] W) :
 CallsIn Fence.wide n Tryd.prog 108 #[.func (.yield l) #[] #[], .pointer (some ⟨bx, 0, none⟩)] W fun e' W' => (∃ v, e' = .returned v) ∧
  ((∃ xs, xs = rdP i ∧ J xs W') ∨ (∃ pre, pre <+: rdP i ∧ Jx pre W')) := by
 have hn := fun V (hb : Below W.heap.size W V) => Q7 i.op V hi (hT.keep hb)
 unfold nmV at hn
 have h6 := b_not6 hB
 have hrd : rdP i = [i.b] := by simp [rdP, rdA, rdB, rdC, hA, hF, hB, h6]
 obtain ⟨c0, c1, c2, c3, c4, c5⟩ : W.cell? ⟨bx, 0, none⟩ = some (.int .u8 i.op) ∧ W.cell? ⟨bx, 1, none⟩ = some (.int .i64 i.r) ∧ W.cell? ⟨bx, 2, none⟩ = some (.int .i64 i.a) ∧ W.cell? ⟨bx, 3, none⟩ = some (.int .i64 i.b) ∧ W.cell? ⟨bx, 4, none⟩ = some (.int .i64 i.n) ∧ W.cell? ⟨bx, 5, none⟩ = some (.slice i.aa i.args.length i.acap) := ⟨hat.cells _ _ rfl, hat.cells _ _ rfl, hat.cells _ _ rfl, hat.cells _ _ rfl, hat.cells _ _ rfl, hat.cells _ _ rfl⟩
 have hbl : bx < W.heap.size := World.block_lt_of_cell? _ _ c0
 have hsx := hat.sf
 rw [hA, hF, hB] at hn
 generalize hasR i.op = xR at *
 generalize numK i.op = xN at *
 rw [hrd] at hY ⊢
 clear hrd hA hF hB hat hT hi
 replace hn := Lh hn
 refine callsIn_of_wp Tryd.func108 rfl trivial ?_ rfl
 simp only [Tryd.ntmps108, List.size_toArray, List.length_cons, List.length_nil, Nat.reduceAdd, Nat.reduceSub, Array.replicate_succ, Array.replicate_zero, List.push_toArray, List.append_toArray, List.nil_append, List.cons_append]
 gi_wp2_with fail
 refine ⟨trivial, fun h => (by cases h), (callsIn_wide.2 (hn.out _ (Below.refl _ _))).mono ?_⟩
 rintro e w1 ⟨rfl, hb1⟩
 obtain ⟨hc, hf⟩ := Q1 hb1
 have hz : bx < w1.heap.size := Nat.lt_of_lt_of_le hbl hb1.size
 have hb2 := Lh (Qh w1 (.cells #[.bool xR, .bool false, .bool true, .bool false, .int .u8 xN] 107))
 have hb3 := Lh (hb1.trans (hb2.out.mono hb1.size))
 have hJ2 := hJb _ _ _ hJ0 hb3.out
 have hsh := Lh (hs.new _ _ _ w1.heap.size (hJb _ _ _ hJ0 hb1) hb2.out (Nat.le_refl _) (by simp))
 have hsb := Lh (hs.ext _ _ _ hsx hbl hb3.out)
 obtain ⟨m2, m4⟩ := Ya (W := w1) (B := w1.heap.size) (a := xR) (b := false) (c := true) (d := false) (n := xN) rfl
 have e3 := Lh (Qe hb3.out c3)
 have e2 := Lh (Qe hb3.out c2)
 have e5 := Lh (Qe hb3.out c5)
 replace m2 := Lh m2
 replace m4 := Lh m4
 clear hb1 hJ0 hJb hn
 gi_wp2_with fail
 refine ⟨fun f h => (by cases h), ?_⟩
 obtain ⟨fn, tmps, assign, body, hy, hR⟩ := hY (n - 1) [] i.b _ hJ2 (by simp)
 gi_wp2_with fail
 refine ⟨fun h => (by cases h), hR.mono ?_⟩
 clear hR hy
 rintro e W3 (⟨rfl, hJ3, hk3⟩ | ⟨rfl, hx3⟩)
 rotate_left
 · gi_wp2_with fail
   exact ⟨rfl, .tuple #[], by simp [results, Tryd.results108, go_sem], ⟨_, rfl⟩, .inr ⟨_, ⟨_, by rfl⟩, hx3⟩⟩
 replace m4 := hs.cell _ _ _ _ _ hsh.out hk3 m4.out
 have hz4 : w1.heap.size < W3.heap.size := World.block_lt_of_cell? _ _ m4
 gi_wp2_with fail
 exact ⟨rfl, .tuple #[], by simp [results, Tryd.results108, go_sem], ⟨_, rfl⟩, .inl ⟨_, rfl, hJ3⟩⟩
theorem read1_Bf (l n bx : Nat) (i : Ins) (Kp : World → World → Prop) (Sf : World → Nat → Prop) (J Jx : List Int → World → Prop) (W : World) (hat : InsAt Sf W bx i) (hi : U8 i.op) (hT : OpTab W) (hA : hasA i.op = false) (hF : hasF i.op = true) (hB : hasB i.op = true)
 (hs : Sfe J Kp Sf) (hY : Yld l (fun x : Int => #[.int .i64 x]) J Jx Kp (rdP i).length) (hJb : ∀ pre W1 W2, J pre W1 → Below W1.heap.size W1 W2 → J pre W2) (hJ0 : J [] W) :
 CallsIn Fence.wide n Tryd.prog 108 #[.func (.yield l) #[] #[], .pointer (some ⟨bx, 0, none⟩)] W fun e' W' => (∃ v, e' = .returned v) ∧
  ((∃ xs, xs = rdP i ∧ J xs W') ∨ (∃ pre, pre <+: rdP i ∧ Jx pre W')) := by
 have hn := fun V (hb : Below W.heap.size W V) => Q7 i.op V hi (hT.keep hb)
 unfold nmV at hn
 have h6 := b_not6 hB
 have hrd : rdP i = [i.b] := by simp [rdP, rdA, rdB, rdC, hA, hF, hB, h6]
 obtain ⟨c0, c1, c2, c3, c4, c5⟩ : W.cell? ⟨bx, 0, none⟩ = some (.int .u8 i.op) ∧ W.cell? ⟨bx, 1, none⟩ = some (.int .i64 i.r) ∧ W.cell? ⟨bx, 2, none⟩ = some (.int .i64 i.a) ∧ W.cell? ⟨bx, 3, none⟩ = some (.int .i64 i.b) ∧ W.cell? ⟨bx, 4, none⟩ = some (.int .i64 i.n) ∧ W.cell? ⟨bx, 5, none⟩ = some (.slice i.aa i.args.length i.acap) := ⟨hat.cells _ _ rfl, hat.cells _ _ rfl, hat.cells _ _ rfl, hat.cells _ _ rfl, hat.cells _ _ rfl, hat.cells _ _ rfl⟩
 have hbl : bx < W.heap.size := World.block_lt_of_cell? _ _ c0
 have hsx := hat.sf
 rw [hA, hF, hB] at hn
 generalize hasR i.op = xR at *
 generalize numK i.op = xN at *
 rw [hrd] at hY ⊢
 clear hrd hA hF hB hat hT hi
 replace hn := Lh hn
 refine callsIn_of_wp Tryd.func108 rfl trivial ?_ rfl
 simp only [Tryd.ntmps108, List.size_toArray, List.length_cons, List.length_nil, Nat.reduceAdd, Nat.reduceSub, Array.replicate_succ, Array.replicate_zero, List.push_toArray, List.append_toArray, List.nil_append, List.cons_append]
 gi_wp2_with fail
 refine ⟨trivial, fun h => (by cases h), (callsIn_wide.2 (hn.out _ (Below.refl _ _))).mono ?_⟩
 rintro e w1 ⟨rfl, hb1⟩
 obtain ⟨hc, hf⟩ := Q1 hb1
 have hz : bx < w1.heap.size := Nat.lt_of_lt_of_le hbl hb1.size
 have hb2 := Lh (Qh w1 (.cells #[.bool xR, .bool false, .bool true, .bool true, .int .u8 xN] 107))
 have hb3 := Lh (hb1.trans (hb2.out.mono hb1.size))
 have hJ2 := hJb _ _ _ hJ0 hb3.out
 have hsh := Lh (hs.new _ _ _ w1.heap.size (hJb _ _ _ hJ0 hb1) hb2.out (Nat.le_refl _) (by simp))
 have hsb := Lh (hs.ext _ _ _ hsx hbl hb3.out)
 obtain ⟨m2, m4⟩ := Ya (W := w1) (B := w1.heap.size) (a := xR) (b := false) (c := true) (d := true) (n := xN) rfl
 have e3 := Lh (Qe hb3.out c3)
 have e2 := Lh (Qe hb3.out c2)
 have e5 := Lh (Qe hb3.out c5)
 replace m2 := Lh m2
 replace m4 := Lh m4
 clear hb1 hJ0 hJb hn
 gi_wp2_with fail
 refine ⟨fun f h => (by cases h), ?_⟩
 obtain ⟨fn, tmps, assign, body, hy, hR⟩ := hY (n - 1) [] i.b _ hJ2 (by simp)
 gi_wp2_with fail
 refine ⟨fun h => (by cases h), hR.mono ?_⟩
 clear hR hy
 rintro e W3 (⟨rfl, hJ3, hk3⟩ | ⟨rfl, hx3⟩)
 rotate_left
 · gi_wp2_with fail
   exact ⟨rfl, .tuple #[], by simp [results, Tryd.results108, go_sem], ⟨_, rfl⟩, .inr ⟨_, ⟨_, by rfl⟩, hx3⟩⟩
 replace m4 := hs.cell _ _ _ _ _ hsh.out hk3 m4.out
 have hz4 : w1.heap.size < W3.heap.size := World.block_lt_of_cell? _ _ m4
 gi_wp2_with fail
 exact ⟨rfl, .tuple #[], by simp [results, Tryd.results108, go_sem], ⟨_, rfl⟩, .inl ⟨_, rfl, hJ3⟩⟩
theorem read1_n (l n bx : Nat) (i : Ins) (Kp : World → World → Prop) (Sf : World → Nat → Prop) (J Jx : List Int → World → Prop) (W : World) (hat : InsAt Sf W bx i) (hi : U8 i.op) (hT : OpTab W) (hA : hasA i.op = false) (hF : hasF i.op = false) (hB : hasB i.op = false) (h6 : ¬ numK i.op = 6)
 (hs : Sfe J Kp Sf) (_ : Yld l (fun x : Int => #[.int .i64 x]) J Jx Kp (rdP i).length) (hJb : ∀ pre W1 W2, J pre W1 → Below W1.heap.size W1 W2 → J pre W2) (hJ0 : J [] W) :
 CallsIn Fence.wide n Tryd.prog 108 #[.func (.yield l) #[] #[], .pointer (some ⟨bx, 0, none⟩)] W fun e' W' => (∃ v, e' = .returned v) ∧
  ((∃ xs, xs = rdP i ∧ J xs W') ∨ (∃ pre, pre <+: rdP i ∧ Jx pre W')) := by
 have hn := fun V (hb : Below W.heap.size W V) => Q7 i.op V hi (hT.keep hb)
 unfold nmV at hn
 have hrd : rdP i = [] := by simp [rdP, rdA, rdB, rdC, hA, hF, hB, h6]
 obtain ⟨c0, c1, c2, c3, c4, c5⟩ : W.cell? ⟨bx, 0, none⟩ = some (.int .u8 i.op) ∧ W.cell? ⟨bx, 1, none⟩ = some (.int .i64 i.r) ∧ W.cell? ⟨bx, 2, none⟩ = some (.int .i64 i.a) ∧ W.cell? ⟨bx, 3, none⟩ = some (.int .i64 i.b) ∧ W.cell? ⟨bx, 4, none⟩ = some (.int .i64 i.n) ∧ W.cell? ⟨bx, 5, none⟩ = some (.slice i.aa i.args.length i.acap) := ⟨hat.cells _ _ rfl, hat.cells _ _ rfl, hat.cells _ _ rfl, hat.cells _ _ rfl, hat.cells _ _ rfl, hat.cells _ _ rfl⟩
 have hbl : bx < W.heap.size := World.block_lt_of_cell? _ _ c0
 have hsx := hat.sf
 rw [hA, hF, hB] at hn
 generalize hasR i.op = xR at *
 generalize numK i.op = xN at *
 rw [hrd]
 clear hrd hA hF hB hat hT hi
 replace hn := Lh hn
 refine callsIn_of_wp Tryd.func108 rfl trivial ?_ rfl
 simp only [Tryd.ntmps108, List.size_toArray, List.length_cons, List.length_nil, Nat.reduceAdd, Nat.reduceSub, Array.replicate_succ, Array.replicate_zero, List.push_toArray, List.append_toArray, List.nil_append, List.cons_append]
 gi_wp2_with fail
 refine ⟨trivial, fun h => (by cases h), (callsIn_wide.2 (hn.out _ (Below.refl _ _))).mono ?_⟩
 rintro e w1 ⟨rfl, hb1⟩
 obtain ⟨hc, hf⟩ := Q1 hb1
 have hz : bx < w1.heap.size := Nat.lt_of_lt_of_le hbl hb1.size
 have hb2 := Lh (Qh w1 (.cells #[.bool xR, .bool false, .bool false, .bool false, .int .u8 xN] 107))
 have hb3 := Lh (hb1.trans (hb2.out.mono hb1.size))
 have hJ2 := hJb _ _ _ hJ0 hb3.out
 have hsh := Lh (hs.new _ _ _ w1.heap.size (hJb _ _ _ hJ0 hb1) hb2.out (Nat.le_refl _) (by simp))
 have hsb := Lh (hs.ext _ _ _ hsx hbl hb3.out)
 obtain ⟨m2, m4⟩ := Ya (W := w1) (B := w1.heap.size) (a := xR) (b := false) (c := false) (d := false) (n := xN) rfl
 have e3 := Lh (Qe hb3.out c3)
 have e2 := Lh (Qe hb3.out c2)
 have e5 := Lh (Qe hb3.out c5)
 replace m2 := Lh m2
 replace m4 := Lh m4
 clear hb1 hJ0 hJb hn
 gi_wp2_with fail
 refine ⟨fun f h => (by cases h), ?_⟩
 gi_wp2_with fail
 try (refine ⟨fun f h => (by cases h), ?_⟩; gi_wp2_with fail)
 exact ⟨rfl, .tuple #[], by simp [results, Tryd.results108, go_sem], ⟨_, rfl⟩, .inl ⟨_, rfl, hJ2⟩⟩
theorem read1_nf (l n bx : Nat) (i : Ins) (Kp : World → World → Prop) (Sf : World → Nat → Prop) (J Jx : List Int → World → Prop) (W : World) (hat : InsAt Sf W bx i) (hi : U8 i.op) (hT : OpTab W) (hA : hasA i.op = false) (hF : hasF i.op = true) (hB : hasB i.op = false) (h6 : ¬ numK i.op = 6)
 (hs : Sfe J Kp Sf) (_ : Yld l (fun x : Int => #[.int .i64 x]) J Jx Kp (rdP i).length) (hJb : ∀ pre W1 W2, J pre W1 → Below W1.heap.size W1 W2 → J pre W2) (hJ0 : J [] W) :
 CallsIn Fence.wide n Tryd.prog 108 #[.func (.yield l) #[] #[], .pointer (some ⟨bx, 0, none⟩)] W fun e' W' => (∃ v, e' = .returned v) ∧
  ((∃ xs, xs = rdP i ∧ J xs W') ∨ (∃ pre, pre <+: rdP i ∧ Jx pre W')) := by
 have hn := fun V (hb : Below W.heap.size W V) => Q7 i.op V hi (hT.keep hb)
 unfold nmV at hn
 have hrd : rdP i = [] := by simp [rdP, rdA, rdB, rdC, hA, hF, hB, h6]
 obtain ⟨c0, c1, c2, c3, c4, c5⟩ : W.cell? ⟨bx, 0, none⟩ = some (.int .u8 i.op) ∧ W.cell? ⟨bx, 1, none⟩ = some (.int .i64 i.r) ∧ W.cell? ⟨bx, 2, none⟩ = some (.int .i64 i.a) ∧ W.cell? ⟨bx, 3, none⟩ = some (.int .i64 i.b) ∧ W.cell? ⟨bx, 4, none⟩ = some (.int .i64 i.n) ∧ W.cell? ⟨bx, 5, none⟩ = some (.slice i.aa i.args.length i.acap) := ⟨hat.cells _ _ rfl, hat.cells _ _ rfl, hat.cells _ _ rfl, hat.cells _ _ rfl, hat.cells _ _ rfl, hat.cells _ _ rfl⟩
 have hbl : bx < W.heap.size := World.block_lt_of_cell? _ _ c0
 have hsx := hat.sf
 rw [hA, hF, hB] at hn
 generalize hasR i.op = xR at *
 generalize numK i.op = xN at *
 rw [hrd]
 clear hrd hA hF hB hat hT hi
 replace hn := Lh hn
 refine callsIn_of_wp Tryd.func108 rfl trivial ?_ rfl
 simp only [Tryd.ntmps108, List.size_toArray, List.length_cons, List.length_nil, Nat.reduceAdd, Nat.reduceSub, Array.replicate_succ, Array.replicate_zero, List.push_toArray, List.append_toArray, List.nil_append, List.cons_append]
 gi_wp2_with fail
 refine ⟨trivial, fun h => (by cases h), (callsIn_wide.2 (hn.out _ (Below.refl _ _))).mono ?_⟩
 rintro e w1 ⟨rfl, hb1⟩
 obtain ⟨hc, hf⟩ := Q1 hb1
 have hz : bx < w1.heap.size := Nat.lt_of_lt_of_le hbl hb1.size
 have hb2 := Lh (Qh w1 (.cells #[.bool xR, .bool false, .bool false, .bool true, .int .u8 xN] 107))
 have hb3 := Lh (hb1.trans (hb2.out.mono hb1.size))
 have hJ2 := hJb _ _ _ hJ0 hb3.out
 have hsh := Lh (hs.new _ _ _ w1.heap.size (hJb _ _ _ hJ0 hb1) hb2.out (Nat.le_refl _) (by simp))
 have hsb := Lh (hs.ext _ _ _ hsx hbl hb3.out)
 obtain ⟨m2, m4⟩ := Ya (W := w1) (B := w1.heap.size) (a := xR) (b := false) (c := false) (d := true) (n := xN) rfl
 have e3 := Lh (Qe hb3.out c3)
 have e2 := Lh (Qe hb3.out c2)
 have e5 := Lh (Qe hb3.out c5)
 replace m2 := Lh m2
 replace m4 := Lh m4
 clear hb1 hJ0 hJb hn
 gi_wp2_with fail
 refine ⟨fun f h => (by cases h), ?_⟩
 gi_wp2_with fail
 try (refine ⟨fun f h => (by cases h), ?_⟩; gi_wp2_with fail)
 exact ⟨rfl, .tuple #[], by simp [results, Tryd.results108, go_sem], ⟨_, rfl⟩, .inl ⟨_, rfl, hJ2⟩⟩
theorem read1_C (l n bx : Nat) (i : Ins) (Kp : World → World → Prop) (Sf : World → Nat → Prop) (J Jx : List Int → World → Prop) (W : World) (hat : InsAt Sf W bx i) (hi : U8 i.op) (hT : OpTab W) (hA : hasA i.op = false) (hF : hasF i.op = false) (hB : hasB i.op = false) (h6 :  numK i.op = 6)
 (hs : Sfe J Kp Sf) (hY : Yld l (fun x : Int => #[.int .i64 x]) J Jx Kp (rdP i).length) (hJb : ∀ pre W1 W2, J pre W1 → Below W1.heap.size W1 W2 → J pre W2) (hJ0 : J [] W) :
 CallsIn Fence.wide n Tryd.prog 108 #[.func (.yield l) #[] #[], .pointer (some ⟨bx, 0, none⟩)] W fun e' W' => (∃ v, e' = .returned v) ∧
  ((∃ xs, xs = rdP i ∧ J xs W') ∨ (∃ pre, pre <+: rdP i ∧ Jx pre W')) := by
 have hn := fun V (hb : Below W.heap.size W V) => Q7 i.op V hi (hT.keep hb)
 unfold nmV at hn
 have hrd : rdP i = i.args := by simp [rdP, rdA, rdB, rdC, hA, hF, hB, h6]
 obtain ⟨c0, c1, c2, c3, c4, c5⟩ : W.cell? ⟨bx, 0, none⟩ = some (.int .u8 i.op) ∧ W.cell? ⟨bx, 1, none⟩ = some (.int .i64 i.r) ∧ W.cell? ⟨bx, 2, none⟩ = some (.int .i64 i.a) ∧ W.cell? ⟨bx, 3, none⟩ = some (.int .i64 i.b) ∧ W.cell? ⟨bx, 4, none⟩ = some (.int .i64 i.n) ∧ W.cell? ⟨bx, 5, none⟩ = some (.slice i.aa i.args.length i.acap) := ⟨hat.cells _ _ rfl, hat.cells _ _ rfl, hat.cells _ _ rfl, hat.cells _ _ rfl, hat.cells _ _ rfl, hat.cells _ _ rfl⟩
 have hbl : bx < W.heap.size := World.block_lt_of_cell? _ _ c0
 have hsx := hat.sf
 have hrow := Lh hat.row
 have hll : i.args.length ≤ 9223372036854775807 := by have := hat.row.le; have := hat.row.lim; unfold maxLen at this; omega
 rw [hA, hF, hB, h6] at hn
 generalize hasR i.op = xR at *
 rw [hrd] at hY ⊢
 clear hrd hA hF hB hat hT hi h6
 replace hn := Lh hn
 refine callsIn_of_wp Tryd.func108 rfl trivial ?_ rfl
 simp only [Tryd.ntmps108, List.size_toArray, List.length_cons, List.length_nil, Nat.reduceAdd, Nat.reduceSub, Array.replicate_succ, Array.replicate_zero, List.push_toArray, List.append_toArray, List.nil_append, List.cons_append]
 gi_wp2_with fail
 refine ⟨trivial, fun h => (by cases h), (callsIn_wide.2 (hn.out _ (Below.refl _ _))).mono ?_⟩
 rintro e w1 ⟨rfl, hb1⟩
 obtain ⟨hc, hf⟩ := Q1 hb1
 have hz : bx < w1.heap.size := Nat.lt_of_lt_of_le hbl hb1.size
 have hb2 := Lh (Qh w1 (.cells #[.bool xR, .bool false, .bool false, .bool false, .int .u8 6] 107))
 have hb3 := Lh (hb1.trans (hb2.out.mono hb1.size))
 have hJ2 := hJb _ _ _ hJ0 hb3.out
 have hsh := Lh (hs.new _ _ _ w1.heap.size (hJb _ _ _ hJ0 hb1) hb2.out (Nat.le_refl _) (by simp))
 have hsb := Lh (hs.ext _ _ _ hsx hbl hb3.out)
 obtain ⟨m2, m4⟩ := Ya (W := w1) (B := w1.heap.size) (a := xR) (b := false) (c := false) (d := false) (n := 6) rfl
 have e3 := Lh (Qe hb3.out c3)
 have e2 := Lh (Qe hb3.out c2)
 have e5 := Lh (Qe hb3.out c5)
 replace m2 := Lh m2
 replace m4 := Lh m4
 clear hb1 hJ0 hJb hn
 gi_wp2_with fail
 refine ⟨fun f h => (by cases h), ?_⟩
 have hrw : Hid (RowAt (w1.alloc (.cells #[.bool xR, .bool false, .bool false, .bool false, .int .u8 6] 107)) (Sf (w1.alloc (.cells #[.bool xR, .bool false, .bool false, .bool false, .int .u8 6] 107))) i.aa i.acap i.args.length (Qc i.args)) := Lh (((hrow.out.bds).below (fun b o v hb hcl => (hb3.out.cell (p := ⟨b, o, none⟩) hb.2).trans hcl)).mono (fun b hb => hs.ext _ _ _ hb.1 hb.2 hb3.out))
 clear hrow
 gi_wp2_with fail
 try (refine ⟨fun f h => (by cases h), ?_⟩; gi_wp2_with fail)
 generalize hW2 : (w1.alloc (.cells #[.bool xR, .bool false, .bool false, .bool false, .int .u8 6] 107)) = W2 at *
 gi_loopw [45] (fun i0 wr => ∃ k : Nat, k ≤ i.args.length ∧ i0 = .int .i64 k ∧ Hid (J (i.args.take k) wr) ∧ Hid (RowAt wr (Sf wr) i.aa i.acap i.args.length (Qc i.args))) (fun i0 _ => i.args.length - (intOf i0).toNat)
 case atStart => exact ⟨0, Nat.zero_le _, rfl, Lh (by simpa using hJ2), hrw⟩
 case round =>
  obtain ⟨k, hk, rfl, hJk, hr⟩ := hrel
  by_cases hlt : k < i.args.length
  · obtain ⟨x, hx⟩ : ∃ x, i.args[k]? = some x := ⟨_, List.getElem?_eq_getElem hlt⟩
    obtain ⟨b, off, ha, hb, hcx⟩ := Xa hr.out k x hx
    have htk : i.args.take (k + 1) = i.args.take k ++ [x] := by rw [List.take_add_one, hx]; rfl
    obtain ⟨fn, tmps, assign, body, hy, hR⟩ := hY (n - 1) (i.args.take k) x wr hJk.out (by rw [List.length_take]; omega)
    rw [← htk] at hR
    have hr2 := Lh (fun (W' : World) (hk : Kp wr W') => ((hr.out.below (fun b o v hb hcl => hs.cell _ _ _ _ _ hb hk hcl)).mono (fun b hb => hs.keep _ _ _ hb hk) : RowAt W' (Sf W') i.aa i.acap i.args.length (Qc i.args)))
    rw [ha]
    have hi0 : (0 : Int) ≤ (k : Int) := by omega
    have hi1 : (k : Int) < (i.args.length : Int) := by omega
    have hpp : Hid (i.args.take (k + 1) <+: i.args) := Lh (List.take_prefix _ _)
    clear hx htk hJk hr hY hJ2 hrw
    gi_wp2_with fail
    refine ⟨fun h => (by cases h), hR.mono ?_⟩
    clear hR hy
    rintro e W3 (⟨rfl, hJ3, hk3⟩ | ⟨rfl, hx3⟩)
    · have hr3 := Lh (hr2.out _ hk3)
      replace hJ3 := Lh hJ3
      clear hr2
      gi_wp2_with fail
      go_roundw
      case rel => exact ⟨k + 1, by omega, by go_num, hJ3, by rw [← ha] at *; exact hr3⟩
      case measure => simp [intOf]; omega
    · replace hx3 := Lh hx3
      clear hr2
      gi_wp2_with fail
      exact ⟨rfl, .tuple #[], by simp [results, Tryd.results108, go_sem], ⟨_, rfl⟩, .inr ⟨_, hpp.out, hx3.out⟩⟩
  · have hJe : Hid (J i.args wr) := Lh (by have h := hJk.out; rw [List.take_of_length_le (by omega)] at h; exact h)
    clear hJk hr hY hJ2 hrw
    gi_wp2_with fail
    go_end0
    exact ⟨⟨_, rfl⟩, .inl ⟨_, rfl, hJe.out⟩⟩
theorem read1_Cf (l n bx : Nat) (i : Ins) (Kp : World → World → Prop) (Sf : World → Nat → Prop) (J Jx : List Int → World → Prop) (W : World) (hat : InsAt Sf W bx i) (hi : U8 i.op) (hT : OpTab W) (hA : hasA i.op = false) (hF : hasF i.op = true) (hB : hasB i.op = false) (h6 :  numK i.op = 6)
 (hs : Sfe J Kp Sf) (hY : Yld l (fun x : Int => #[.int .i64 x]) J Jx Kp (rdP i).length) (hJb : ∀ pre W1 W2, J pre W1 → Below W1.heap.size W1 W2 → J pre W2) (hJ0 : J [] W) :
 CallsIn Fence.wide n Tryd.prog 108 #[.func (.yield l) #[] #[], .pointer (some ⟨bx, 0, none⟩)] W fun e' W' => (∃ v, e' = .returned v) ∧
  ((∃ xs, xs = rdP i ∧ J xs W') ∨ (∃ pre, pre <+: rdP i ∧ Jx pre W')) := by
 have hn := fun V (hb : Below W.heap.size W V) => Q7 i.op V hi (hT.keep hb)
 unfold nmV at hn
 have hrd : rdP i = i.args := by simp [rdP, rdA, rdB, rdC, hA, hF, hB, h6]
 obtain ⟨c0, c1, c2, c3, c4, c5⟩ : W.cell? ⟨bx, 0, none⟩ = some (.int .u8 i.op) ∧ W.cell? ⟨bx, 1, none⟩ = some (.int .i64 i.r) ∧ W.cell? ⟨bx, 2, none⟩ = some (.int .i64 i.a) ∧ W.cell? ⟨bx, 3, none⟩ = some (.int .i64 i.b) ∧ W.cell? ⟨bx, 4, none⟩ = some (.int .i64 i.n) ∧ W.cell? ⟨bx, 5, none⟩ = some (.slice i.aa i.args.length i.acap) := ⟨hat.cells _ _ rfl, hat.cells _ _ rfl, hat.cells _ _ rfl, hat.cells _ _ rfl, hat.cells _ _ rfl, hat.cells _ _ rfl⟩
 have hbl : bx < W.heap.size := World.block_lt_of_cell? _ _ c0
 have hsx := hat.sf
 have hrow := Lh hat.row
 have hll : i.args.length ≤ 9223372036854775807 := by have := hat.row.le; have := hat.row.lim; unfold maxLen at this; omega
 rw [hA, hF, hB, h6] at hn
 generalize hasR i.op = xR at *
 rw [hrd] at hY ⊢
 clear hrd hA hF hB hat hT hi h6
 replace hn := Lh hn
 refine callsIn_of_wp Tryd.func108 rfl trivial ?_ rfl
 simp only [Tryd.ntmps108, List.size_toArray, List.length_cons, List.length_nil, Nat.reduceAdd, Nat.reduceSub, Array.replicate_succ, Array.replicate_zero, List.push_toArray, List.append_toArray, List.nil_append, List.cons_append]
 gi_wp2_with fail
 refine ⟨trivial, fun h => (by cases h), (callsIn_wide.2 (hn.out _ (Below.refl _ _))).mono ?_⟩
 rintro e w1 ⟨rfl, hb1⟩
 obtain ⟨hc, hf⟩ := Q1 hb1
 have hz : bx < w1.heap.size := Nat.lt_of_lt_of_le hbl hb1.size
 have hb2 := Lh (Qh w1 (.cells #[.bool xR, .bool false, .bool false, .bool true, .int .u8 6] 107))
 have hb3 := Lh (hb1.trans (hb2.out.mono hb1.size))
 have hJ2 := hJb _ _ _ hJ0 hb3.out
 have hsh := Lh (hs.new _ _ _ w1.heap.size (hJb _ _ _ hJ0 hb1) hb2.out (Nat.le_refl _) (by simp))
 have hsb := Lh (hs.ext _ _ _ hsx hbl hb3.out)
 obtain ⟨m2, m4⟩ := Ya (W := w1) (B := w1.heap.size) (a := xR) (b := false) (c := false) (d := true) (n := 6) rfl
 have e3 := Lh (Qe hb3.out c3)
 have e2 := Lh (Qe hb3.out c2)
 have e5 := Lh (Qe hb3.out c5)
 replace m2 := Lh m2
 replace m4 := Lh m4
 clear hb1 hJ0 hJb hn
 gi_wp2_with fail
 refine ⟨fun f h => (by cases h), ?_⟩
 have hrw : Hid (RowAt (w1.alloc (.cells #[.bool xR, .bool false, .bool false, .bool true, .int .u8 6] 107)) (Sf (w1.alloc (.cells #[.bool xR, .bool false, .bool false, .bool true, .int .u8 6] 107))) i.aa i.acap i.args.length (Qc i.args)) := Lh (((hrow.out.bds).below (fun b o v hb hcl => (hb3.out.cell (p := ⟨b, o, none⟩) hb.2).trans hcl)).mono (fun b hb => hs.ext _ _ _ hb.1 hb.2 hb3.out))
 clear hrow
 gi_wp2_with fail
 try (refine ⟨fun f h => (by cases h), ?_⟩; gi_wp2_with fail)
 generalize hW2 : (w1.alloc (.cells #[.bool xR, .bool false, .bool false, .bool true, .int .u8 6] 107)) = W2 at *
 gi_loopw [45] (fun i0 wr => ∃ k : Nat, k ≤ i.args.length ∧ i0 = .int .i64 k ∧ Hid (J (i.args.take k) wr) ∧ Hid (RowAt wr (Sf wr) i.aa i.acap i.args.length (Qc i.args))) (fun i0 _ => i.args.length - (intOf i0).toNat)
 case atStart => exact ⟨0, Nat.zero_le _, rfl, Lh (by simpa using hJ2), hrw⟩
 case round =>
  obtain ⟨k, hk, rfl, hJk, hr⟩ := hrel
  by_cases hlt : k < i.args.length
  · obtain ⟨x, hx⟩ : ∃ x, i.args[k]? = some x := ⟨_, List.getElem?_eq_getElem hlt⟩
    obtain ⟨b, off, ha, hb, hcx⟩ := Xa hr.out k x hx
    have htk : i.args.take (k + 1) = i.args.take k ++ [x] := by rw [List.take_add_one, hx]; rfl
    obtain ⟨fn, tmps, assign, body, hy, hR⟩ := hY (n - 1) (i.args.take k) x wr hJk.out (by rw [List.length_take]; omega)
    rw [← htk] at hR
    have hr2 := Lh (fun (W' : World) (hk : Kp wr W') => ((hr.out.below (fun b o v hb hcl => hs.cell _ _ _ _ _ hb hk hcl)).mono (fun b hb => hs.keep _ _ _ hb hk) : RowAt W' (Sf W') i.aa i.acap i.args.length (Qc i.args)))
    rw [ha]
    have hi0 : (0 : Int) ≤ (k : Int) := by omega
    have hi1 : (k : Int) < (i.args.length : Int) := by omega
    have hpp : Hid (i.args.take (k + 1) <+: i.args) := Lh (List.take_prefix _ _)
    clear hx htk hJk hr hY hJ2 hrw
    gi_wp2_with fail
    refine ⟨fun h => (by cases h), hR.mono ?_⟩
    clear hR hy
    rintro e W3 (⟨rfl, hJ3, hk3⟩ | ⟨rfl, hx3⟩)
    · have hr3 := Lh (hr2.out _ hk3)
      replace hJ3 := Lh hJ3
      clear hr2
      gi_wp2_with fail
      go_roundw
      case rel => exact ⟨k + 1, by omega, by go_num, hJ3, by rw [← ha] at *; exact hr3⟩
      case measure => simp [intOf]; omega
    · replace hx3 := Lh hx3
      clear hr2
      gi_wp2_with fail
      exact ⟨rfl, .tuple #[], by simp [results, Tryd.results108, go_sem], ⟨_, rfl⟩, .inr ⟨_, hpp.out, hx3.out⟩⟩
  · have hJe : Hid (J i.args wr) := Lh (by have h := hJk.out; rw [List.take_of_length_le (by omega)] at h; exact h)
    clear hJk hr hY hJ2 hrw
    gi_wp2_with fail
    go_end0
    exact ⟨⟨_, rfl⟩, .inl ⟨_, rfl, hJe.out⟩⟩
theorem read1_any (l n bx : Nat) (i : Ins) (Kp : World → World → Prop) (Sf : World → Nat → Prop) (J Jx : List Int → World → Prop) (W : World) (hat : InsAt Sf W bx i) (hi : U8 i.op) (hT : OpTab W)
 (hs : Sfe J Kp Sf) (hY : Yld l (fun x : Int => #[.int .i64 x]) J Jx Kp (rdP i).length) (hJb : ∀ pre W1 W2, J pre W1 → Below W1.heap.size W1 W2 → J pre W2) (hJ0 : J [] W) :
 CallsIn Fence.wide n Tryd.prog 108 #[.func (.yield l) #[] #[], .pointer (some ⟨bx, 0, none⟩)] W fun e' W' => (∃ v, e' = .returned v) ∧
  ((∃ xs, xs = rdP i ∧ J xs W') ∨ (∃ pre, pre <+: rdP i ∧ Jx pre W')) := by
 cases hA : hasA i.op
 · cases hB : hasB i.op
   · by_cases h6 : numK i.op = 6
     · cases hF : hasF i.op
       · exact read1_C l n bx i Kp Sf J Jx W hat hi hT hA hF hB h6 hs hY hJb hJ0
       · exact read1_Cf l n bx i Kp Sf J Jx W hat hi hT hA hF hB h6 hs hY hJb hJ0
     · cases hF : hasF i.op
       · exact read1_n l n bx i Kp Sf J Jx W hat hi hT hA hF hB h6 hs hY hJb hJ0
       · exact read1_nf l n bx i Kp Sf J Jx W hat hi hT hA hF hB h6 hs hY hJb hJ0
   · cases hF : hasF i.op
     · exact read1_B l n bx i Kp Sf J Jx W hat hi hT hA hF hB hs hY hJb hJ0
     · exact read1_Bf l n bx i Kp Sf J Jx W hat hi hT hA hF hB hs hY hJb hJ0
 · cases hF : hasF i.op
   · cases hB : hasB i.op
     · exact read1_A l n bx i Kp Sf J Jx W hat hi hT hA hF hB hs hY hJb hJ0
     · exact read1_AB l n bx i Kp Sf J Jx W hat hi hT hA hF hB hs hY hJb hJ0
   · by_cases ha : i.a = -1
     · cases hB : hasB i.op
       · exact read1_Fn l n bx i Kp Sf J Jx W hat hi hT hA hF hB ha hs hY hJb hJ0
       · exact read1_FnB l n bx i Kp Sf J Jx W hat hi hT hA hF hB ha hs hY hJb hJ0
     · cases hB : hasB i.op
       · exact read1_Fa l n bx i Kp Sf J Jx W hat hi hT hA hF hB ha hs hY hJb hJ0
       · exact read1_FaB l n bx i Kp Sf J Jx W hat hi hT hA hF hB ha hs hY hJb hJ0
attribute [local go_sem] Oper.semAt_some
theorem kall_of {A B : World} (h : Below A.heap.size A B) : Kps (fun _ => True) A B := Kps.of_below h
theorem Zk (W : World) (vs : List Value) (t : TypeId) : ∀ j u, vs[j]? = some u → (W.alloc (.cells ⟨vs⟩ t)).cell? ⟨W.heap.size, j, none⟩ = some u := by
 intro j u hu
 have h : (W.alloc (.cells ⟨vs⟩ t)).heap[W.heap.size]? = some (.cells ⟨vs⟩ t (0, 0)) := World.alloc_heap_new W _
 simp only [World.cell?, h]
 simpa using hu
theorem Qm {W : World} {bx : Nat} {i : Ins} (h : ∀ j u, i.vals[j]? = some u → W.cell? ⟨bx, j, none⟩ = some u) : W.cell? ⟨bx, 0, none⟩ = some (.int .u8 i.op) ∧ W.cell? ⟨bx, 1, none⟩ = some (.int .i64 i.r) ∧ W.cell? ⟨bx, 2, none⟩ = some (.int .i64 i.a) ∧ W.cell? ⟨bx, 3, none⟩ = some (.int .i64 i.b) ∧ W.cell? ⟨bx, 4, none⟩ = some (.int .i64 i.n) ∧ W.cell? ⟨bx, 5, none⟩ = some (.slice i.aa i.args.length i.acap) := ⟨h _ _ rfl, h _ _ rfl, h _ _ rfl, h _ _ rfl, h _ _ rfl, h _ _ rfl⟩
/-- the second half: the registers that are read, behind those that were told -/
theorem rest_in (l n : Nat) (i : Ins) (q : List Int) (J Jx : List Int → World → Prop) (W : World) (hrow : RowAt W (fun _ => True) i.aa i.acap i.args.length (Qc i.args)) (hi : U8 i.op) (hT : OpTab W)
 (hY : Yld l (fun x : Int => #[.int .i64 x]) J Jx (Kps (fun _ => True)) (q ++ rdP i).length) (hJb : ∀ pre W1 W2, J pre W1 → Below W1.heap.size W1 W2 → J pre W2) (hJ0 : J q W) :
 CallsIn Fence.wide n Tryd.prog 108 #[.func (.yield l) #[] #[], .pointer (some ⟨W.heap.size, 0, none⟩)] (W.alloc (.cells ⟨i.vals⟩ 44)) fun e' W' => (∃ v, e' = .returned v) ∧
  (J (q ++ rdP i) W' ∨ (∃ pre, pre <+: q ++ rdP i ∧ Jx pre W')) := by
 have hb := Qh W (.cells ⟨i.vals⟩ 44)
 refine (read1_any l n W.heap.size i (Kps (fun _ => True)) (fun _ _ => True) (fun pre => J (q ++ pre)) (fun pre => Jx (q ++ pre)) _ ⟨trivial, Zk W i.vals _, hrow.below (kall_of hb)⟩ hi (hT.keep hb) (Sfe.all _)
  (fun m pre x V hJ hl => ?_) (fun pre W1 W2 h hb => hJb _ _ _ h hb) (by rw [List.append_nil]; exact hJb _ _ _ hJ0 hb)).mono ?_
 · have := hY m (q ++ pre) x V hJ (by rw [List.length_append, List.length_append]; omega)
   rwa [List.append_assoc] at this
 · rintro e W' ⟨hv, ⟨xs, rfl, hJ⟩ | ⟨pre, hp, hx⟩⟩
   · exact ⟨hv, .inl hJ⟩
   · exact ⟨hv, .inr ⟨q ++ pre, (List.prefix_append_right_inj q).2 hp, hx⟩⟩
theorem registers1_in (l n bx : Nat) (i : Ins) (J Jx : List Int → World → Prop) (W : World) (hbx : ∀ j u, i.vals[j]? = some u → W.cell? ⟨bx, j, none⟩ = some u) (hrow : RowAt W (fun _ => True) i.aa i.acap i.args.length (Qc i.args)) (hi : U8 i.op) (hT : OpTab W)
 (hY : Yld l (fun x : Int => #[.int .i64 x]) J Jx (Kps (fun _ => True)) (regsP i).length) (hJb : ∀ pre W1 W2, J pre W1 → Below W1.heap.size W1 W2 → J pre W2) (hJ0 : J [] W) :
 CallsIn Fence.wide n Tryd.prog 98 #[.func (.yield l) #[] #[], .pointer (some ⟨bx, 0, none⟩)] W fun e' W' => (∃ v, e' = .returned v) ∧
  ((∃ xs, xs = regsP i ∧ J xs W') ∨ (∃ pre, pre <+: regsP i ∧ Jx pre W')) := by
 obtain ⟨c0, c1, c2, c3, c4, c5⟩ := Qm hbx
 have hw := Lh (writes_any i W hi hT)
 have hread := Lh (fun V => read_any i V)
 unfold regsP at hY ⊢
 unfold wrP at hw
 have hkp := Lh (fun V (k : Kps (fun _ => True) W V) => (⟨fun j u hu => k _ _ _ trivial (hbx j u hu), hrow.below k, hT.kps (S := fun _ => True) trivial k⟩ : (∀ j u, i.vals[j]? = some u → V.cell? ⟨bx, j, none⟩ = some u) ∧ RowAt V (fun _ => True) i.aa i.acap i.args.length (Qc i.args) ∧ OpTab V))
 clear hbx
 generalize hasR i.op = xR at *
 have hrest := Lh (fun (V : World) (q : List Int) (k : Kps (fun _ => True) W V) (hq : q = if xR then [i.r] else []) (hJ : J q V) => rest_in l (n - 1) i q J Jx V (hkp.out V k).2.1 hi (hkp.out V k).2.2 (by rw [hq]; exact hY) hJb hJ)
 clear hrow hT hi
 cases xR
 · simp only [Bool.false_eq_true, if_false, List.nil_append] at hY hrest ⊢
   clear hY
   refine callsIn_of_wp Tryd.func98 rfl trivial ?_ rfl
   simp only [Tryd.ntmps98, List.size_toArray, List.length_cons, List.length_nil, Nat.reduceAdd, Nat.reduceSub, Array.replicate_succ, Array.replicate_zero, List.push_toArray, List.append_toArray, List.nil_append, List.cons_append]
   gi_wp2_with fail
   refine ⟨trivial, fun h => (by cases h), (callsIn_wide.2 hw.out).mono ?_⟩
   rintro e w1 ⟨rfl, hb1⟩
   obtain ⟨hc, hf⟩ := Q1 hb1
   have hbl : bx < W.heap.size := World.block_lt_of_cell? _ _ c0
   have hbb := Lh hb1
   have hJ1 := Lh (hJb _ _ _ hJ0 hb1)
   clear hJ0 hb1
   gi_wp2_with fail
   refine ⟨fun f h => (by cases h), ?_⟩
   gi_wp2_with fail
   refine ⟨trivial, fun h => (by cases h), (callsIn_wide.2 (hread.out _)).mono ?_⟩
   rintro e w2 ⟨rfl, rfl⟩
   have hr := Lh (hrest.out w1 [] (kall_of hbb.out) rfl hJ1.out)
   clear hrest hread hkp hw
   gi_wp2_with fail
   refine ⟨trivial, fun h => (by cases h), hr.out.mono ?_⟩
   rintro e w3 ⟨⟨v, rfl⟩, hJ3⟩
   replace hJ3 := Lh hJ3
   gi_wp2_with fail
   go_end0
   refine ⟨⟨_, rfl⟩, ?_⟩
   rcases hJ3.out with h | h
   · exact .inl ⟨_, rfl, h⟩
   · exact .inr h
 · simp only [if_true] at hY hrest hw ⊢
   refine callsIn_of_wp Tryd.func98 rfl trivial ?_ rfl
   simp only [Tryd.ntmps98, List.size_toArray, List.length_cons, List.length_nil, Nat.reduceAdd, Nat.reduceSub, Array.replicate_succ, Array.replicate_zero, List.push_toArray, List.append_toArray, List.nil_append, List.cons_append]
   gi_wp2_with fail
   refine ⟨trivial, fun h => (by cases h), (callsIn_wide.2 hw.out).mono ?_⟩
   rintro e w1 ⟨rfl, hb1⟩
   obtain ⟨hc, hf⟩ := Q1 hb1
   have hbl : bx < W.heap.size := World.block_lt_of_cell? _ _ c0
   have hbb := Lh hb1
   have hJ1 := Lh (hJb _ _ _ hJ0 hb1)
   obtain ⟨fn, tmps, assign, body, hy, hR⟩ := hY (n - 1) [] i.r _ hJ1.out (by simp)
   clear hJ0 hb1 hY
   gi_wp2_with fail
   refine ⟨fun h => (by cases h), hR.mono ?_⟩
   clear hR hy
   rintro e W2 (⟨rfl, hJ2, hk2⟩ | ⟨rfl, hx2⟩)
   rotate_left
   · replace hx2 := Lh hx2
     gi_wp2_with fail
     try (refine ⟨fun f h => (by cases h), ?_⟩; gi_wp2_with fail)
     go_end0
     exact ⟨⟨_, rfl⟩, .inr ⟨_, ⟨_, by rfl⟩, hx2.out⟩⟩
   have hk := (kall_of hbb.out).trans hk2
   obtain ⟨d0, d1, d2, d3, d4, d5⟩ := Qm (hkp.out _ hk).1
   have hr := Lh (hrest.out W2 [i.r] hk rfl hJ2)
   clear hrest hkp hw hJ2 hk2 hk
   gi_wp2_with fail
   refine ⟨trivial, fun h => (by cases h), (callsIn_wide.2 (hread.out _)).mono ?_⟩
   rintro e w2 ⟨rfl, rfl⟩
   gi_wp2_with fail
   refine ⟨trivial, fun h => (by cases h), hr.out.mono ?_⟩
   rintro e w3 ⟨⟨v, rfl⟩, hJ3⟩
   replace hJ3 := Lh hJ3
   gi_wp2_with fail
   go_end0
   refine ⟨⟨_, rfl⟩, ?_⟩
   rcases hJ3.out with h | h
   · exact .inl ⟨_, rfl, h⟩
   · exact .inr h
attribute [local go_sem] Oper.semAt_some
/-- a round, told what it is handed -/
def YldR {α : Type} (l : Nat) (enc : α → Array Value) (R : α → Prop) (J Jx : List α → World → Prop) (Kp : World → World → Prop) (N : Nat) : Prop :=
 ∀ m pre (x : α) W, R x → J pre W → pre.length < N → YieldAt Fence.wide m Tryd.prog l (enc x) W fun e W' =>
  (e = .returned (.bool true) ∧ J (pre ++ [x]) W' ∧ Kp W W') ∨ (e = .returned (.bool false) ∧ Jx (pre ++ [x]) W')
theorem mem_pre {α : Type} {A B C : List α} {x : α} (h : A <+: B) (hx : A = C ++ [x]) : x ∈ B := h.subset (by rw [hx]; simp)
theorem allNames_any (p : Pg) (w : World) :
 Calls Tryd.prog 57 #[p.val] w fun e w' =>
  e = .returned (.func (.func 88) #[] #[.pointer (some ⟨w.heap.size, 0, none⟩)]) ∧ w' = w.alloc (.cells ⟨p.vals⟩ 26) := by
 go_enter Tryd.func57, Tryd.ntmps57
 go_wp2_with fail
 go_ret
 exact ⟨rfl, rfl⟩
theorem map_take {α β : Type} (f : α → β) {l : List α} {k : Nat} {x : α} (h : l[k]? = some x) : (l.map f).take (k + 1) = (l.map f).take k ++ [f x] := by
 rw [List.take_add_one, List.getElem?_map, h]; rfl
theorem allNames1_in (l n bx : Nat) (p : Pg) (S : Nat → Prop) (J Jx : List ByteArray → World → Prop) (W : World) (hSb : S bx) (hbx : ∀ j u, p.vals[j]? = some u → W.cell? ⟨bx, j, none⟩ = some u)
 (hm : RowAt W S p.ma p.mcap p.mems.length (mmCells p.mems)) (hl : RowAt W S p.la p.lcap p.locks.length (Ze p.locks)) (hf : RowAt W S p.fa p.fcap p.funs.length (Zw p.funs))
 (hY : YldR l (fun x : ByteArray => #[.string x]) (fun x => x ∈ Zn p) J Jx (Kps S) (Zn p).length) (hJb : ∀ pre W1 W2, J pre W1 → Below W1.heap.size W1 W2 → J pre W2) (hJ0 : J [] W) :
 CallsIn Fence.wide n Tryd.prog 88 #[.func (.yield l) #[] #[], .pointer (some ⟨bx, 0, none⟩)] W fun e' W' => (∃ v, e' = .returned v) ∧
  ((∃ xs, xs = Zn p ∧ J xs W') ∨ (∃ pre, pre <+: Zn p ∧ Jx pre W')) := by
 have hb0 := Lh (fun (V : World) (k : Kps S W V) => k _ _ _ hSb (hbx 0 _ rfl))
 have hb1 := Lh (fun (V : World) (k : Kps S W V) => k _ _ _ hSb (hbx 1 _ rfl))
 have hb2 := Lh (fun (V : World) (k : Kps S W V) => k _ _ _ hSb (hbx 2 _ rfl))
 have c0 := hb0.out W (Kps.refl _ _)
 clear hbx
 obtain ⟨x1, x2⟩ := (⟨hm.le, by have := hm.lim; unfold maxLen at this; omega⟩ : p.mems.length ≤ p.mcap ∧ p.mcap ≤ 9223372036854775807)
 obtain ⟨y1, y2⟩ := (⟨hl.le, by have := hl.lim; unfold maxLen at this; omega⟩ : p.locks.length ≤ p.lcap ∧ p.lcap ≤ 9223372036854775807)
 obtain ⟨z1, z2⟩ := (⟨hf.le, by have := hf.lim; unfold maxLen at this; omega⟩ : p.funs.length ≤ p.fcap ∧ p.fcap ≤ 9223372036854775807)
 obtain ⟨ma, mcap, mems, la, lcap, locks, fa, fcap, funs⟩ := p
 unfold Zn at hY ⊢
 simp only at *
 obtain ⟨M, hM⟩ : ∃ M, M = mems.map Mm.name := ⟨_, rfl⟩
 obtain ⟨F, hF⟩ : ∃ F, F = funs.map Fn.name := ⟨_, rfl⟩
 have hMl : M.length = mems.length := by rw [hM, List.length_map]
 have hFl : F.length = funs.length := by rw [hF, List.length_map]
 have hMt := Lh (fun (k : Nat) (x : Mm) (h : mems[k]? = some x) => (by rw [hM]; exact map_take Mm.name h : M.take (k + 1) = M.take k ++ [x.name]))
 have hFt := Lh (fun (k : Nat) (x : Fn) (h : funs[k]? = some x) => (by rw [hF]; exact map_take Fn.name h : F.take (k + 1) = F.take k ++ [x.name]))
 rw [← hM, ← hF] at hY ⊢
 clear hM hF
 have hlen : (M ++ (locks ++ F)).length = mems.length + (locks.length + funs.length) := by simp [hMl, hFl]
 rw [hlen] at hY
 replace hY := Lh hY
 refine callsIn_of_wp Tryd.func88 rfl trivial ?_ rfl
 simp only [Tryd.ntmps88, List.size_toArray, List.length_cons, List.length_nil, Nat.reduceAdd, Nat.reduceSub, Array.replicate_succ, Array.replicate_zero, List.push_toArray, List.append_toArray, List.nil_append, List.cons_append]
 gi_wp2_with fail
 gi_loopw [12] (fun i wr => ∃ k : Nat, k ≤ mems.length ∧ i = .int .i64 k ∧ Hid (J (M.take k) wr) ∧ Hid (Kps S W wr)) (fun i _ => mems.length - (intOf i).toNat)
 case atStart => exact ⟨0, Nat.zero_le _, rfl, Lh (by simpa using hJ0), Lh (Kps.refl _ _)⟩
 case round =>
  obtain ⟨k, hk, rfl, hJk, hkp⟩ := hrel
  by_cases hlt : k < mems.length
  · obtain ⟨x, hx⟩ : ∃ x, mems[k]? = some x := ⟨_, List.getElem?_eq_getElem hlt⟩
    obtain ⟨b, off, ha, _, d0, d1, d2⟩ := mm_row (hm.below hkp.out) k x hx
    have htk := hMt.out k x hx
    have hi0 : (0 : Int) ≤ (k : Int) := by omega
    have hi1 : (k : Int) < (mems.length : Int) := by omega
    have hbe := Lh (Qh wr (.cells #[.string x.name, .int .i64 x.size, .int .i64 x.first] 57))
    have hpp : Hid (M.take (k + 1) <+: M ++ (locks ++ F)) := Lh ((List.take_prefix _ _).trans (List.prefix_append _ _))
    obtain ⟨fn, tmps, assign, body, hy, hR⟩ := hY.out (n - 1) (M.take k) x.name _ (mem_pre hpp.out htk) (hJb _ _ _ hJk.out hbe.out) (by rw [List.length_take]; omega)
    rw [← htk] at hR
    have hkq := Lh (hkp.out.trans (Kps.of_below hbe.out))
    rw [ha]
    clear hx htk hJk hm hY hMt hFt hl hf hb0 hb1 hb2
    gi_wp2_with fail
    refine ⟨fun h => (by cases h), hR.mono ?_⟩
    clear hR hy
    rintro e W3 (⟨rfl, hJ3, hk3⟩ | ⟨rfl, hx3⟩)
    · have hk4 := Lh (hkq.out.trans hk3)
      replace hJ3 := Lh hJ3
      gi_wp2_with fail
      go_roundw
      case rel => exact ⟨k + 1, by omega, by go_num, hJ3, hk4⟩
      case measure => simp [intOf]; omega
    · replace hx3 := Lh hx3
      gi_wp2_with fail
      exact ⟨rfl, .tuple #[], by simp [results, Tryd.results88, go_sem], ⟨_, rfl⟩, .inr ⟨_, hpp.out, hx3.out⟩⟩
  · have hJe : Hid (J M wr) := Lh (by have h := hJk.out; rw [List.take_of_length_le (by omega)] at h; exact h)
    have e1 := hb1.out wr hkp.out
    clear hJk
    generalize wr = w1 at *
    gi_wp2_with fail
    gi_loopw [25] (fun i wr => ∃ k : Nat, k ≤ locks.length ∧ i = .int .i64 k ∧ Hid (J (M ++ locks.take k) wr) ∧ Hid (Kps S W wr)) (fun i _ => locks.length - (intOf i).toNat)
    case atStart => exact ⟨0, Nat.zero_le _, rfl, Lh (by simpa using hJe.out), hkp⟩
    case round =>
     clear hkp hJe e1
     obtain ⟨k, hk, rfl, hJk, hkp⟩ := hrel
     by_cases hlt : k < locks.length
     · obtain ⟨x, hx⟩ : ∃ x, locks[k]? = some x := ⟨_, List.getElem?_eq_getElem hlt⟩
       obtain ⟨b, off, ha, _, d0⟩ := str_row (hl.below hkp.out) k x hx
       have htk : M ++ locks.take (k + 1) = M ++ locks.take k ++ [x] := by rw [List.take_add_one, hx, List.append_assoc]; rfl
       have hi0 : (0 : Int) ≤ (k : Int) := by omega
       have hi1 : (k : Int) < (locks.length : Int) := by omega
       have hpp : Hid (M ++ locks.take (k + 1) <+: M ++ (locks ++ F)) := Lh ((List.prefix_append_right_inj M).2 ((List.take_prefix _ _).trans (List.prefix_append _ _)))
       obtain ⟨fn, tmps, assign, body, hy, hR⟩ := hY.out (n - 1) (M ++ locks.take k) x wr (mem_pre hpp.out htk) hJk.out (by rw [List.length_append, List.length_take]; omega)
       rw [← htk] at hR
       rw [ha]
       clear hx htk hJk hm hY hMt hFt hl hf hb0 hb1 hb2
       gi_wp2_with fail
       refine ⟨fun h => (by cases h), hR.mono ?_⟩
       clear hR hy
       rintro e W3 (⟨rfl, hJ3, hk3⟩ | ⟨rfl, hx3⟩)
       · have hk4 := Lh (hkp.out.trans hk3)
         replace hJ3 := Lh hJ3
         gi_wp2_with fail
         go_roundw
         case rel => exact ⟨k + 1, by omega, by go_num, hJ3, hk4⟩
         case measure => simp [intOf]; omega
       · replace hx3 := Lh hx3
         gi_wp2_with fail
         exact ⟨rfl, .tuple #[], by simp [results, Tryd.results88, go_sem], ⟨_, rfl⟩, .inr ⟨_, hpp.out, hx3.out⟩⟩
     · have hJe : Hid (J (M ++ locks) wr) := Lh (by have h := hJk.out; rw [List.take_of_length_le (by omega)] at h; exact h)
       have e2 := hb2.out wr hkp.out
       clear hJk
       generalize wr = w2 at *
       gi_wp2_with fail
       gi_loopw [37] (fun i wr => ∃ k : Nat, k ≤ funs.length ∧ i = .int .i64 k ∧ Hid (J (M ++ (locks ++ F.take k)) wr) ∧ Hid (Kps S W wr)) (fun i _ => funs.length - (intOf i).toNat)
       case atStart => exact ⟨0, Nat.zero_le _, rfl, Lh (by simpa using hJe.out), hkp⟩
       case round =>
        clear hkp hJe e2
        obtain ⟨k, hk, rfl, hJk, hkp⟩ := hrel
        by_cases hlt : k < funs.length
        · obtain ⟨x, hx⟩ : ∃ x, funs[k]? = some x := ⟨_, List.getElem?_eq_getElem hlt⟩
          obtain ⟨b, off, ha, _, d0, d1, d2, d3, d4⟩ := Yd (hf.below hkp.out) k x hx
          have htk : M ++ (locks ++ F.take (k + 1)) = M ++ (locks ++ F.take k) ++ [x.name] := by rw [hFt.out k x hx]; simp only [List.append_assoc]
          have hi0 : (0 : Int) ≤ (k : Int) := by omega
          have hi1 : (k : Int) < (funs.length : Int) := by omega
          have hbe := Lh (Qh wr (.cells #[.string x.name, .bool x.thread, .int .i64 x.params, .int .i64 x.regs, .slice x.ca x.code.length x.ccap] 50))
          have hpp : Hid (M ++ (locks ++ F.take (k + 1)) <+: M ++ (locks ++ F)) := Lh ((List.prefix_append_right_inj M).2 ((List.prefix_append_right_inj locks).2 (List.take_prefix _ _)))
          obtain ⟨fn, tmps, assign, body, hy, hR⟩ := hY.out (n - 1) (M ++ (locks ++ F.take k)) x.name _ (mem_pre hpp.out htk) (hJb _ _ _ hJk.out hbe.out) (by rw [List.length_append, List.length_append, List.length_take]; omega)
          rw [← htk] at hR
          have hkq := Lh (hkp.out.trans (Kps.of_below hbe.out))
          rw [ha]
          clear hx htk hJk hm hY hMt hFt hl hf hb0 hb1 hb2
          gi_wp2_with fail
          refine ⟨fun h => (by cases h), hR.mono ?_⟩
          clear hR hy
          rintro e W3 (⟨rfl, hJ3, hk3⟩ | ⟨rfl, hx3⟩)
          · have hk4 := Lh (hkq.out.trans hk3)
            replace hJ3 := Lh hJ3
            gi_wp2_with fail
            go_roundw
            case rel => exact ⟨k + 1, by omega, by go_num, hJ3, hk4⟩
            case measure => simp [intOf]; omega
          · replace hx3 := Lh hx3
            gi_wp2_with fail
            exact ⟨rfl, .tuple #[], by simp [results, Tryd.results88, go_sem], ⟨_, rfl⟩, .inr ⟨_, hpp.out, hx3.out⟩⟩
        · have hJe : Hid (J (M ++ (locks ++ F)) wr) := Lh (by have h := hJk.out; rw [List.take_of_length_le (by omega)] at h; exact h)
          clear hJk
          gi_wp2_with fail
          go_end0
          exact ⟨⟨_, rfl⟩, .inl ⟨_, rfl, hJe.out⟩⟩
attribute [local go_sem] Oper.semAt_some
theorem mayI_at {p : Pg} {m : Nat} {f : Fn} (hf : p.funs[m]? = some f) (i : Ins) : mayI p m i = mayF p f i := by
 have hm : m < p.funs.length := (List.getElem?_eq_some_iff.1 hf).1
 unfold mayI
 rw [show inP (m : Int) p.funs.length = true by unfold inP; simp; omega, if_pos rfl, Int.toNat_natCast, hf]
theorem mayF_eq (p : Pg) (f : Fn) (i : Ins) : mayF p f i = (Zf i.op && (bareP i && numP p f i && (regsP i).all fun r => inP r f.regs)) := rfl
theorem mayIns_out (p : Pg) (fn : Int) (i : Ins) (w : World) (h : inP fn p.funs.length = false) :
 Calls Tryd.prog 39 #[p.val, .int .i64 fn, i.val] w fun e w' => e = .returned (.bool (mayI p fn i)) ∧ Below w.heap.size w w' := by
 have hm : mayI p fn i = false := by unfold mayI; rw [h]; rfl
 rw [hm]
 clear hm
 unfold inP at h
 by_cases h0 : fn < 0
 · go_enter Tryd.func39, Tryd.ntmps39
   go_wp2_with fail
   refine ⟨rfl, .bool false, by simp [results, Tryd.results39, go_sem], rfl, ?_⟩
   exact (Qs _ _ _ _)
 · have h1 : (p.funs.length : Int) ≤ fn := by simp at h; omega
   go_enter Tryd.func39, Tryd.ntmps39
   go_wp2_with fail
   refine ⟨rfl, .bool false, by simp [results, Tryd.results39, go_sem], rfl, ?_⟩
   exact (Qs _ _ _ _)
theorem mayIns_unknown (p : Pg) (fn : Int) (i : Ins) (w : World) (hi : U8 i.op) (h0 : 0 ≤ fn) (h1 : fn < p.funs.length) (h : Zf i.op = false) :
 Calls Tryd.prog 39 #[p.val, .int .i64 fn, i.val] w fun e w' => e = .returned (.bool (mayI p fn i)) ∧ Below w.heap.size w w' := by
 have hm : mayI p fn i = false := by
  unfold mayI mayF
  rw [h]
  split
  · split <;> rfl
  · rfl
 rw [hm]
 have hkn := fun W => known_any i.op W hi
 rw [h] at hkn
 clear hm h hi
 replace hkn := Lh hkn
 go_enter Tryd.func39, Tryd.ntmps39
 go_wp2_with fail
 refine (hkn.out _).mono ?_
 rintro e w1 ⟨rfl, hb1⟩
 obtain ⟨hc, hf⟩ := Q1 hb1
 have hbb := Lh (Z3 hb1)
 have hlt : w.heap.size + 2 < w1.heap.size := by have := hb1.size; simp at this; omega
 have hlt1 : w.heap.size + 1 + 1 < w1.heap.size := by omega
 clear hb1
 go_wp2_with fail
 refine ⟨rfl, .bool false, by simp [results, Tryd.results39, go_sem, *], rfl, ?_⟩
 exact hbb.out.setCell (by show w.heap.size ≤ w.heap.size + 1 + 1; omega) _
theorem mayIns_bare (p : Pg) (m : Nat) (f : Fn) (i : Ins) (w : World) (hf : p.funs[m]? = some f) (hi : U8 i.op) (hT : OpTab w) (hrow : RowAt w (fun _ => True) p.fa p.fcap p.funs.length (Zw p.funs)) (hk : Zf i.op = true) (hbare : bareP i = false) :
 Calls Tryd.prog 39 #[p.val, .int .i64 m, i.val] w fun e w' => e = .returned (.bool (mayI p m i)) ∧ Below w.heap.size w w' := by
 rw [mayI_at hf, mayF_eq, hk, hbare]
 have hml : m < p.funs.length := (List.getElem?_eq_some_iff.1 hf).1
 obtain ⟨b, off, hfa, _, c0, c1, c2, c3, c4⟩ := Yd hrow m f hf
 have hbl : b < w.heap.size := World.block_lt_of_cell? _ _ c0
 have hml2 : (m : Int) < p.funs.length := by omega
 have hm0 : (0 : Int) ≤ m := by omega
 have hkn := fun W => known_any i.op W hi
 rw [hk] at hkn
 have hba := fun W (hb : Below w.heap.size w W) => bare_any i W hi (hT.keep hb)
 rw [hbare] at hba
 replace hkn := Lh hkn
 replace hba := Lh hba
 clear hT hk hbare hf hrow
 unfold Pg.val
 rw [hfa]
 go_enter Tryd.func39, Tryd.ntmps39
 go_wp2_with fail
 refine (hkn.out _).mono ?_
 rintro e w1 ⟨rfl, hb1⟩
 obtain ⟨hc, hf⟩ := Q1 hb1
 have hbb := Lh (Z3 hb1)
 have hlt : w.heap.size + 2 < w1.heap.size := by have := hb1.size; simp at this; omega
 have hlt1 : w.heap.size + 1 < w1.heap.size := by omega
 have hlt0 : w.heap.size < w1.heap.size := by omega
 have hbl1 : b < w1.heap.size := by omega
 have d0 := Qe hbb.out c0
 have d1 := Qe hbb.out c1
 have d2 := Qe hbb.out c2
 have d3 := Qe hbb.out c3
 have d4 := Qe hbb.out c4
 clear hb1 c0 c1 c2 c3 c4 hkn
 go_wp2_with fail
 have hbB := Lh (hbb.out.trans ((Qh w1 (.cells #[.string f.name, .bool f.thread, .int .i64 f.params, .int .i64 f.regs, .slice f.ca f.code.length f.ccap] 50)).mono hbb.out.size))
 refine (hba.out _ hbB.out).mono ?_
 rintro e w2 ⟨rfl, hb2⟩
 obtain ⟨hc2, hf2⟩ := Q1 hb2
 have hlt2 : w1.heap.size < w2.heap.size := by have := hb2.size; simp at this; omega
 have hlu : w.heap.size + 2 < w2.heap.size := by omega
 have hlu1 : w.heap.size + 1 < w2.heap.size := by omega
 have hlu0 : w.heap.size < w2.heap.size := by omega
 have hbb2 := Lh (hbB.out.trans (hb2.mono hbB.out.size))
 clear hb2 hba d0 d1 d2 d3 d4
 go_wp2_with fail
 refine ⟨rfl, .bool false, by simp [results, Tryd.results39, go_sem, *], rfl, ?_⟩
 exact hbb2.out.setCell (by show w.heap.size ≤ w.heap.size + 1 + 1; omega) _
theorem mayIns_num (p : Pg) (m : Nat) (f : Fn) (i : Ins) (w : World) (hf : p.funs[m]? = some f) (hi : U8 i.op) (hT : OpTab w) (hrow : RowAt w (fun _ => True) p.fa p.fcap p.funs.length (Zw p.funs)) (hk : Zf i.op = true) (hbare : bareP i = true) (hnum : numP p f i = false) :
 Calls Tryd.prog 39 #[p.val, .int .i64 m, i.val] w fun e w' => e = .returned (.bool (mayI p m i)) ∧ Below w.heap.size w w' := by
 rw [mayI_at hf, mayF_eq, hk, hbare, hnum]
 have hml : m < p.funs.length := (List.getElem?_eq_some_iff.1 hf).1
 obtain ⟨b, off, hfa, _, c0, c1, c2, c3, c4⟩ := Yd hrow m f hf
 have hbl : b < w.heap.size := World.block_lt_of_cell? _ _ c0
 have hml2 : (m : Int) < p.funs.length := by omega
 have hm0 : (0 : Int) ≤ m := by omega
 have hkn := fun W => known_any i.op W hi
 rw [hk] at hkn
 have hba := fun W (hb : Below w.heap.size w W) => bare_any i W hi (hT.keep hb)
 rw [hbare] at hba
 have hnu := fun W (hb : Below w.heap.size w W) => mayNum_any p f i W hi (hT.keep hb) (hrow.below (Kps.of_below hb))
 rw [hnum] at hnu
 unfold Pg.val at hnu
 rw [hfa] at hnu
 replace hnu := Lh hnu
 replace hkn := Lh hkn
 replace hba := Lh hba
 clear hT hk hbare hnum hf hrow
 unfold Pg.val
 rw [hfa]
 go_enter Tryd.func39, Tryd.ntmps39
 go_wp2_with fail
 refine (hkn.out _).mono ?_
 rintro e w1 ⟨rfl, hb1⟩
 obtain ⟨hc, hf⟩ := Q1 hb1
 have hbb := Lh (Z3 hb1)
 have hlt : w.heap.size + 2 < w1.heap.size := by have := hb1.size; simp at this; omega
 have hlt1 : w.heap.size + 1 < w1.heap.size := by omega
 have hlt0 : w.heap.size < w1.heap.size := by omega
 have hbl1 : b < w1.heap.size := by omega
 have d0 := Qe hbb.out c0
 have d1 := Qe hbb.out c1
 have d2 := Qe hbb.out c2
 have d3 := Qe hbb.out c3
 have d4 := Qe hbb.out c4
 clear hb1 c0 c1 c2 c3 c4 hkn
 go_wp2_with fail
 have hbB := Lh (hbb.out.trans ((Qh w1 (.cells #[.string f.name, .bool f.thread, .int .i64 f.params, .int .i64 f.regs, .slice f.ca f.code.length f.ccap] 50)).mono hbb.out.size))
 refine (hba.out _ hbB.out).mono ?_
 rintro e w2 ⟨rfl, hb2⟩
 obtain ⟨hc2, hf2⟩ := Q1 hb2
 have hlt2 : w1.heap.size < w2.heap.size := by have := hb2.size; simp at this; omega
 have hlu : w.heap.size + 2 < w2.heap.size := by omega
 have hlu1 : w.heap.size + 1 < w2.heap.size := by omega
 have hlu0 : w.heap.size < w2.heap.size := by omega
 have hbb2 := Lh (hbB.out.trans (hb2.mono hbB.out.size))
 clear hb2 hba d0 d1 d2 d3 d4
 go_wp2_with fail
 refine (hnu.out _ hbb2.out).mono ?_
 rintro e w3 ⟨rfl, hb3⟩
 obtain ⟨hc3, hf3⟩ := Q1 hb3
 have hlt3 : w1.heap.size < w3.heap.size := by have := hb3.size; omega
 have hlv : w.heap.size + 2 < w3.heap.size := by omega
 have hlv1 : w.heap.size + 1 < w3.heap.size := by omega
 have hlv0 : w.heap.size < w3.heap.size := by omega
 have hbb3 := Lh (hbb2.out.trans (hb3.mono hbb2.out.size))
 clear hb3 hnu
 go_wp2_with fail
 refine ⟨rfl, .bool false, by simp [results, Tryd.results39, go_sem, *], rfl, ?_⟩
 exact hbb3.out.setCell (by show w.heap.size ≤ w.heap.size + 1 + 1; omega) _
theorem mayIns_rng (p : Pg) (m : Nat) (f : Fn) (i : Ins) (w : World) (hf : p.funs[m]? = some f) (hi : U8 i.op) (hri : RowAt w (fun _ => True) i.aa i.acap i.args.length (Qc i.args)) (hT : OpTab w) (hrow : RowAt w (fun _ => True) p.fa p.fcap p.funs.length (Zw p.funs)) (hk : Zf i.op = true) (hbare : bareP i = true) (hnum : numP p f i = true) :
 Calls Tryd.prog 39 #[p.val, .int .i64 m, i.val] w fun e w' => e = .returned (.bool (mayI p m i)) ∧ Below w.heap.size w w' := by
 rw [mayI_at hf, mayF_eq, hk, hbare, hnum]
 have hml : m < p.funs.length := (List.getElem?_eq_some_iff.1 hf).1
 obtain ⟨b, off, hfa, _, c0, c1, c2, c3, c4⟩ := Yd hrow m f hf
 have hbl : b < w.heap.size := World.block_lt_of_cell? _ _ c0
 have hml2 : (m : Int) < p.funs.length := by omega
 have hm0 : (0 : Int) ≤ m := by omega
 have hkn := fun W => known_any i.op W hi
 rw [hk] at hkn
 have hba := fun W (hb : Below w.heap.size w W) => bare_any i W hi (hT.keep hb)
 rw [hbare] at hba
 have hnu := fun W (hb : Below w.heap.size w W) => mayNum_any p f i W hi (hT.keep hb) (hrow.below (Kps.of_below hb))
 rw [hnum] at hnu
 unfold Pg.val at hnu
 rw [hfa] at hnu
 replace hnu := Lh hnu
 replace hkn := Lh hkn
 replace hba := Lh hba
 have hreg := Lh (fun V => registers_any i V)
 have hits := Lh (fun (V : World) (hb : Below w.heap.size w V) (bx l n : Nat) (J Jx : List Int → World → Prop) (hbx : ∀ j u, i.vals[j]? = some u → V.cell? ⟨bx, j, none⟩ = some u) => registers1_in l n bx i J Jx V hbx (hri.below (Kps.of_below hb)) hi (hT.keep hb))
 clear hri hT hk hbare hnum hf hrow
 unfold Pg.val
 rw [hfa]
 refine (callsIn_wide (n := 2)).1 ?_
 refine callsIn_of_wp_marks Tryd.func39 rfl trivial ?_ rfl
 simp only [Tryd.ntmps39, List.size_toArray, List.length_cons, List.length_nil, Nat.reduceAdd, Nat.reduceSub, Array.replicate_succ, Array.replicate_zero, List.push_toArray, List.append_toArray, List.nil_append, List.cons_append]
 gi_wp2_with fail
 refine ⟨trivial, (callsIn_wide.2 (hkn.out _)).mono ?_⟩
 rintro e w1 ⟨rfl, hb1⟩
 obtain ⟨hc, hf⟩ := Q1 hb1
 have hbb := Lh (Z3 hb1)
 have hlt : w.heap.size + 2 < w1.heap.size := by have := hb1.size; simp at this; omega
 have hlt1 : w.heap.size + 1 < w1.heap.size := by omega
 have hlt0 : w.heap.size < w1.heap.size := by omega
 have hbl1 : b < w1.heap.size := by omega
 have d0 := Qe hbb.out c0
 have d1 := Qe hbb.out c1
 have d2 := Qe hbb.out c2
 have d3 := Qe hbb.out c3
 have d4 := Qe hbb.out c4
 clear hb1 c0 c1 c2 c3 c4 hkn
 gi_wp2_with fail
 have hbB := Lh (hbb.out.trans ((Qh w1 (.cells #[.string f.name, .bool f.thread, .int .i64 f.params, .int .i64 f.regs, .slice f.ca f.code.length f.ccap] 50)).mono hbb.out.size))
 refine ⟨trivial, (callsIn_wide.2 (hba.out _ hbB.out)).mono ?_⟩
 rintro e w2 ⟨rfl, hb2⟩
 obtain ⟨hc2, hf2⟩ := Q1 hb2
 have hlt2 : w1.heap.size < w2.heap.size := by have := hb2.size; simp at this; omega
 have hlu : w.heap.size + 2 < w2.heap.size := by omega
 have hlu1 : w.heap.size + 1 < w2.heap.size := by omega
 have hlu0 : w.heap.size < w2.heap.size := by omega
 have hbb2 := Lh (hbB.out.trans (hb2.mono hbB.out.size))
 clear hb2 hba d0 d1 d2 d3 d4
 gi_wp2_with fail
 refine ⟨trivial, (callsIn_wide.2 (hnu.out _ hbb2.out)).mono ?_⟩
 rintro e w3 ⟨rfl, hb3⟩
 obtain ⟨hc3, hf3⟩ := Q1 hb3
 have hlt3 : w1.heap.size < w3.heap.size := by have := hb3.size; omega
 have hlv : w.heap.size + 2 < w3.heap.size := by omega
 have hlv1 : w.heap.size + 1 < w3.heap.size := by omega
 have hlv0 : w.heap.size < w3.heap.size := by omega
 have hbb3 := Lh (hbb2.out.trans (hb3.mono hbb2.out.size))
 clear hb3 hnu
 gi_wp2_with fail
 refine ⟨trivial, (callsIn_wide.2 (hreg.out _)).mono ?_⟩
 rintro e w4 ⟨rfl, rfl⟩
 gi_wp2_with fail
 have k6 : Cel w (w.heap.size + 1 + 1) (.bool false) w3 := ⟨by go_simp, by go_simp⟩
 have k7 : w3.cell? ⟨w1.heap.size, 3, none⟩ = some (.int .i64 f.regs) := by go_simp
 generalize hw5 : w3.alloc (.cells ⟨i.vals⟩ 44) = w5
 have hb5 : Below w3.heap.size w3 w5 := by rw [← hw5]; exact Qh _ _
 have hs5 : w5.heap.size = w3.heap.size + 1 := by rw [← hw5]; simp
 have hbx5 : ∀ j u, i.vals[j]? = some u → w5.cell? ⟨w3.heap.size, j, none⟩ = some u := by rw [← hw5]; exact Zk w3 i.vals _
 have hbw5 := Lh (hbb3.out.trans (hb5.mono hbb3.out.size))
 replace k6 := k6.below hb5
 replace k7 := Qe hb5 k7
 clear hw5 hb5 hc3 hf3 hc2 hf2 hc hf hbb3 hbb2 hbB hbb
 refine range_lawB (α := Int) rfl rfl (gf := 98) (lb := #[.pointer (some ⟨w3.heap.size, 0, none⟩)]) rfl trivial (enters_of Tryd.func98 (by kernel_rfl) rfl) (encs := fun x => #[.int .i64 x]) (fun _ => rfl) (fun _ _ => True) (Kps (fun _ => True)) (fun xs => xs = regsP i) (fun pre => pre <+: regsP i) (regsP i).length
  (fun pre W => pre.all (fun r => inP r f.regs) = true ∧ Cel w (w.heap.size + 1 + 1) (.bool false) W ∧ W.cell? ⟨w1.heap.size, 3, none⟩ = some (.int .i64 f.regs) ∧ Below w.heap.size w W ∧ w5.heap.size ≤ W.heap.size)
  (fun pre W => pre.all (fun r => inP r f.regs) = false ∧ Cel w (w.heap.size + 1 + 1) (.bool false) W ∧ Below w.heap.size w W ∧ w5.heap.size ≤ W.heap.size)
  (fun l J Jx W hsz hb hY hJb hJI hJ0 => hits.out W (hbw5.out.trans (hb.mono hbw5.out.size)) w3.heap.size l (2 - 1) J Jx (fun j u hu => Qe hb (hbx5 j u hu)) (fun m pre x W1 h hl => hY m pre x W1 h trivial hl) hJb hJ0)
  (fun h k => h.trans k) (fun h => ceq_kps h.toCeq)
  ⟨fun pre W W' h hq hb => ⟨h.1, h.2.1.ceq hq.toCeq, (hq.cell _).trans h.2.2.1, h.2.2.2.1.trans (hb.mono (by omega)), by have := h.2.2.2.2; rw [hq.size]; exact this⟩, fun pre W W' h hs hb => ⟨h.1, h.2.1.below hb, Qe hb h.2.2.1, h.2.2.2.1.trans (hb.mono h.2.2.2.1.size), Nat.le_trans h.2.2.2.2 hb.size⟩⟩
  ⟨fun pre W W' h hq hb => ⟨h.1, h.2.1.ceq hq.toCeq, h.2.2.1.trans (hb.mono (by omega)), by have := h.2.2.2; rw [hq.size]; exact this⟩, fun pre W W' h hs hb => ⟨h.1, h.2.1.below hb, h.2.2.1.trans (hb.mono h.2.2.1.size), Nat.le_trans h.2.2.2 hb.size⟩⟩
  (fun _ _ h => h.2.2.2.2) ⟨rfl, k6, k7, hbw5.out, Nat.le_refl _⟩ ?round ?done ?stop
 case round =>
  rintro l m' pre x W ⟨hp, hk6, hk7, hbW, hsz⟩ _ _
  gi_wp2
  refine ⟨keeps_below (Below.refl _ _), Kps.refl _ _, fun W2 hq hb => ?_⟩
  have a6 := hk6.ceq hq.toCeq
  have e6 := a6.cell
  have f6 := a6.frozen
  have e7 := (hq.cell _).trans hk7
  have hbW2 := Lh (hbW.trans (hb.mono (by omega)))
  have hsz2 : w5.heap.size ≤ W2.heap.size := by rw [hq.size]; exact hsz
  replace hp := Lh hp
  replace a6 := Lh a6
  clear hq hb hk6 hk7 hbx5 hits
  by_cases h1 : 0 ≤ x
  · by_cases h2 : x < f.regs
    · have hin : Hid (inP x f.regs = true) := Lh (by unfold inP; simp [h1, h2])
      gi_wp2_with fail
      refine ⟨keeps_below (Below.refl _ _), Kps.refl _ _, ?_, a6.out, e7, hbW2.out, hsz2⟩
      rw [List.all_append, hp.out]; simp [hin.out]
    · have hin : Hid (inP x f.regs = false) := Lh (by unfold inP; simp; omega)
      gi_wp2_with fail
      exact ⟨(KeepsOthers.setCell _ _ _).from _, ⟨x, by simp, hin.out⟩, a6.out.setS _, hbW2.out.setCell (by show w.heap.size ≤ w.heap.size + 1 + 1; omega) _, by simp [World.setCell]; omega⟩
  · have hin : Hid (inP x f.regs = false) := Lh (by unfold inP; simp; omega)
    gi_wp2_with fail
    exact ⟨(KeepsOthers.setCell _ _ _).from _, ⟨x, by simp, hin.out⟩, a6.out.setS _, hbW2.out.setCell (by show w.heap.size ≤ w.heap.size + 1 + 1; omega) _, by simp [World.setCell]; omega⟩
 case done =>
  rintro D xs W hD rfl ⟨hp, hk6, hk7, hbW, hsz⟩ hK
  have a1 := hk6.cell
  have a2 := hk6.frozen
  have hlw : w.heap.size + 1 + 1 < W.heap.size := World.block_lt_of_cell? _ _ a1
  gi_wp2
  have hK' : (W.setCell ⟨w.heap.size + 1 + 1, 0, none⟩ (.bool true)).heap[D]? = some (.deferred (some [])) := (Below.heap_setCell _ _ _ _ (by simp; omega)).trans hK
  refine ⟨by simp, .inl ⟨_, _, rfl, run_takeDeferred hK', ?_⟩⟩
  have hc5 := ((hk6.setS (.bool true)).ceq (ceq_deferred (d' := none) hK')).cell
  refine ⟨.bool true, ?_, by rw [hp]; rfl, (hbW.setCell (by show w.heap.size ≤ w.heap.size + 1 + 1; omega) _).trans (below_put _ _ (by omega))⟩
  simp [results, Tryd.results39, go_sem, hc5]
 case stop =>
  rintro D pre W hD hpre ⟨hp, hk6, hbW, hsz⟩ hK
  gi_wp2
  refine ⟨by simp, .inl ⟨_, _, rfl, run_takeDeferred hK, ?_⟩⟩
  have hc5 := (hk6.ceq (ceq_deferred (d' := none) hK)).cell
  have hT : (regsP i).all (fun r => inP r f.regs) = false := by
   obtain ⟨r, hr⟩ := hpre
   rw [← hr, List.all_append, hp]; rfl
  refine ⟨.bool false, ?_, by rw [hT]; rfl, hbW.trans (below_put _ _ (by omega))⟩
  simp [results, Tryd.results39, go_sem, hc5]
/-- code.MayIns -/
theorem mayIns_any (p : Pg) (fn : Int) (i : Ins) (w : World) (hi : U8 i.op) (hri : RowAt w (fun _ => True) i.aa i.acap i.args.length (Qc i.args)) (hT : OpTab w) (hrow : RowAt w (fun _ => True) p.fa p.fcap p.funs.length (Zw p.funs)) :
 Calls Tryd.prog 39 #[p.val, .int .i64 fn, i.val] w fun e w' => e = .returned (.bool (mayI p fn i)) ∧ Below w.heap.size w w' := by
 cases hin : inP fn p.funs.length
 · exact mayIns_out p fn i w hin
 · have h2 : 0 ≤ fn ∧ fn < p.funs.length := by simpa [inP] using hin
   cases hk : Zf i.op
   · exact mayIns_unknown p fn i w hi h2.1 h2.2 hk
   · obtain ⟨m, rfl⟩ : ∃ m : Nat, fn = m := ⟨fn.toNat, by omega⟩
     obtain ⟨f, hf⟩ : ∃ f, p.funs[m]? = some f := ⟨p.funs[m]'(by omega), by simp⟩
     cases hbare : bareP i
     · exact mayIns_bare p m f i w hf hi hT hrow hk hbare
     · cases hnum : numP p f i
       · exact mayIns_num p m f i w hf hi hT hrow hk hbare hnum
       · exact mayIns_rng p m f i w hf hi hri hT hrow hk hbare hnum
end Go.Proofs.YthiiahlgncngoaaDoorRR.Cd
