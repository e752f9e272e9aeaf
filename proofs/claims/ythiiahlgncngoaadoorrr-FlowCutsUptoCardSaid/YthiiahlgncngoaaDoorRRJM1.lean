/- A range over a function whose iterator tells the round, beside the value, what lies in memory when it yields. Conditions: none. -/
import Derived.RangeFuncNested
import Derived.RangeFuncBound
import Derived.RangeFuncCalls
import Derived.RangeFuncLeaves
import Derived.Test.YthiiahlgncngoaaDoorRRJaB
set_option maxHeartbeats 16000000
set_option maxRecDepth 100000
namespace Go.Proofs.YthiiahlgncngoaaDoorRR.Rg
open Go Go.RowKit
/-- all cells read alike -/
structure Ceq (A B : World) : Prop where
 cell : ∀ a, B.cell? a = A.cell? a
 frozen : ∀ a, B.frozen? a = A.frozen? a
 size : B.heap.size = A.heap.size
theorem ceq_loop {W : World} {l : Nat} {r r' : Loop} (h : W.heap[l]? = some (.loop r)) : Ceq W (W.putObj l (.loop r')) := by
 have hl := (Array.getElem?_eq_some_iff.1 h).1
 refine ⟨fun a => ?_, fun a => ?_, World.putObj_size⟩
 · by_cases ha : a.block = l
   · unfold World.cell?; rw [ha, World.putObj_heap_same hl, h]
   · simp [World.cell?, World.putObj_heap_other ha]
 · by_cases ha : a.block = l
   · unfold World.frozen?; rw [ha, World.putObj_heap_same hl, h]
   · simp [World.frozen?, World.putObj_heap_other ha]
theorem ceq_deferred {W : World} {l : Nat} {d d' : Option (List Deferred)} (h : W.heap[l]? = some (.deferred d)) : Ceq W (W.putObj l (.deferred d')) := by
 have hl := (Array.getElem?_eq_some_iff.1 h).1
 refine ⟨fun a => ?_, fun a => ?_, World.putObj_size⟩
 · by_cases ha : a.block = l
   · unfold World.cell?; rw [ha, World.putObj_heap_same hl, h]
   · simp [World.cell?, World.putObj_heap_other ha]
 · by_cases ha : a.block = l
   · unfold World.frozen?; rw [ha, World.putObj_heap_same hl, h]
   · simp [World.frozen?, World.putObj_heap_other ha]
theorem below_put {B l : Nat} (W : World) (o : Obj) (hl : B ≤ l) : Below B W (W.putObj l o) :=
 ⟨rfl, rfl, rfl, by rw [World.putObj_size]; exact Nat.le_refl _, fun k hk => World.putObj_heap_other (by omega)⟩
/-- how a round's body may be left: on, or by the function's return -/
def rgPost {α : Type} (B : Nat) (Kp : World → World → Prop) (I Ix : List α → World → Prop) (xs : List α) (W : World) : Exit → Act → World → Prop
 | .normal, _, W' => KeepsFrom B W W' ∧ Kp W W' ∧ I xs W'
 | .ret, _, W' => KeepsFrom B W W' ∧ Ix xs W'
 | _, _, _ => False
/-- abides what reads alike, and new blocks -/
structure Abd (B : Nat) {α : Type} (I : α → World → Prop) : Prop where
 ceq : ∀ s W W', I s W → Ceq W W' → Below B W W' → I s W'
 alloc : ∀ s W o, I s W → B ≤ W.heap.size → I s (W.alloc o)
/-- all cells read alike, and all blocks of cells are as they were -/
structure Ceb (A B : World) : Prop extends Ceq A B where
 blk : ∀ (b : Nat) (vs : Array Value) (t : TypeId) (fr : Nat × Nat), A.heap[b]? = some (Obj.cells vs t fr) → B.heap[b]? = some (Obj.cells vs t fr)
theorem ceb_loop {W : World} {l : Nat} {r r' : Loop} (h : W.heap[l]? = some (.loop r)) : Ceb W (W.putObj l (.loop r')) :=
 ⟨ceq_loop h, fun b vs t fr hb => by
  have hne : b ≠ l := fun e => by subst e; rw [h] at hb; cases hb
  rw [World.putObj_heap_other hne]; exact hb⟩
/-- abides what reads alike, and new memory -/
structure Abe (B : Nat) {α : Type} (I : α → World → Prop) : Prop where
 ceq : ∀ s W W', I s W → Ceb W W' → Below B W W' → I s W'
 below : ∀ s W W', I s W → B ≤ W.heap.size → Below W.heap.size W W' → I s W'
theorem range_lawB {α : Type} {F : Fence} {n : Nat} {P : Program} {g : Operand} {ps : Array Tmp} {assign body : Code} {Q : Exit → Act → World → Prop} {a : Act} {w : World}
 (hro : F.round = none) (hd : F.depth = none) {gf : Nat} {lb : Array Value} (hg : a.eval g = .func (.func gf) #[] lb) (hFg : F.fn gf) (eg : ∀ args w, (callFunc gf args).run P w = .ok (.enter gf args) w)
 {encs : α → Array Value} (hps : ∀ x, (encs x).size = ps.size) (R : α → World → Prop) (Kp : World → World → Prop) (S Sp : List α → Prop) (N : Nat) (I Ix : List α → World → Prop)
 (hseq : ∀ (l : Nat) (J Jx : List α → World → Prop) (W : World), W.heap.size = w.heap.size + 2 → Below w.heap.size w W →
  (∀ m pre x W1, J pre W1 → R x W1 → pre.length < N → YieldAt F m P l (encs x) W1 fun e W' =>
   (e = .returned (.bool true) ∧ J (pre ++ [x]) W' ∧ Kp W1 W') ∨ (e = .returned (.bool false) ∧ Jx (pre ++ [x]) W')) →
  (∀ pre W1 W2, J pre W1 → Below W1.heap.size W1 W2 → J pre W2) → (∀ pre W1, J pre W1 → I pre W1) → J [] W →
  CallsIn F (n - 1) P gf (#[.func (.yield l) #[] #[]] ++ lb) W fun e W' => (∃ v, e = .returned v) ∧ ((∃ xs, S xs ∧ J xs W') ∨ (∃ pre, Sp pre ∧ Jx pre W')))
 (hKt : ∀ {A B C : World}, Kp A B → Kp B C → Kp A C) (hKc : ∀ {A B : World}, Ceb A B → Kp A B)
 (hI : Abe w.heap.size I) (hIx : Abe w.heap.size Ix) (hIs : ∀ pre W, I pre W → w.heap.size ≤ W.heap.size) (h0 : I [] w)
 (hround : ∀ (l m : Nat) (pre : List α) (x : α) (W : World), I pre W → R x W → pre.length < N →
  assign.wpIn (F.inRound l) m P (Exit.then (fun a₁ W₁ => KeepsFrom w.heap.size W W₁ ∧ Kp W W₁ ∧ ∀ W₂, Ceb W₁ W₂ → Below w.heap.size W₁ W₂ → body.wpIn (F.inRound l) m P (rgPost w.heap.size Kp I Ix (pre ++ [x]) W₂) a₁ W₂) (fun _ _ _ => False))
   { tmps := (ps.zip (encs x)).foldl (fun t (p, v) => t.setIfInBounds p v) a.tmps, defers := [] } W)
 (hdone : ∀ (D : Nat) (xs : List α) (W : World), w.heap.size ≤ D → S xs → I xs W → W.heap[D]? = some (.deferred (some [])) → Q .normal { a with defers := { target := .collected D, args := #[] } :: a.defers } W)
 (hstop : ∀ (D : Nat) (pre : List α) (W : World), w.heap.size ≤ D → Sp pre → Ix pre W → W.heap[D]? = some (.deferred (some [])) → Code.ret.wpIn F n P Q { a with defers := { target := .collected D, args := #[] } :: a.defers } W) :
 (Code.rangeFunc g ps assign body).wpIn F n P Q a w := by
 refine wpIn_rangeFunc fun fn hfn => ?_
 rw [hro]
 obtain ⟨rec, hrec⟩ : ∃ rec : LoopState → Option Code → Loop, rec = fun st pe => { state := st, pending := pe, fn, tmps := a.tmps, params := ps, assign, body, defers := w.heap.size } := ⟨_, rfl⟩
 obtain ⟨W1, hW1⟩ : ∃ W1, (w.alloc (.deferred (some []))).alloc (.loop (rec .ready none)) = W1 := ⟨_, rfl⟩
 have hL1 : W1.heap[w.heap.size + 1]? = some (.loop (rec .ready none)) := by
  rw [← hW1]; have := World.alloc_heap_new (w.alloc (.deferred (some []))) (.loop (rec .ready none)); rwa [World.size_alloc] at this
 have hK1 : W1.heap[w.heap.size]? = some (.deferred (some [])) := by
  rw [← hW1]; exact (Below.heap_alloc _ _ _ (by simp)).trans (World.alloc_heap_new w _)
 have hI1 : I [] W1 := by rw [← hW1]; exact hI.below _ _ _ (hI.below _ _ _ h0 (Nat.le_refl _) ((Below.refl _ _).alloc (Nat.le_refl _) _)) (by simp) ((Below.refl _ _).alloc (Nat.le_refl _) _)
 have hs1 : W1.heap.size = w.heap.size + 2 := by rw [← hW1]; simp
 have hb1 : Below w.heap.size w W1 := by rw [← hW1]; exact ((Below.refl _ w).alloc (Nat.le_refl _) _).alloc (by simp) _
 have hparams : ∀ st pe, (rec st pe).params = ps := fun _ _ => by rw [hrec]
 refine ⟨w.heap.size + 1, [{ target := .collected w.heap.size, args := #[] }], W1, { target := .fn (.func gf) lb, args := #[.func (.yield (w.heap.size + 1)) #[] #[]] }, W1, gf,
  #[.func (.yield (w.heap.size + 1)) #[] #[]] ++ lb, W1, ?_, ?_, ?_, ?_, fun h => (by rw [hd] at h; cases h), ?_⟩
 · rw [← hW1, hrec]; exact run_enterLoop_outer _ _ _ _ _
 · simp only [resolve, hg]
   simp [go_sem]
 · intro f' hf'; simp [Target.leads] at hf'; subst hf'; exact hFg
 · simp [invoke, go_sem, eg]
 refine (hseq (w.heap.size + 1)
  (fun pre W => I pre W ∧ W.heap[w.heap.size + 1]? = some (.loop (rec .ready none)) ∧ W.heap[w.heap.size]? = some (.deferred (some [])))
  (fun pre W => Ix pre W ∧ W.heap[w.heap.size + 1]? = some (.loop (rec .done (some .ret))) ∧ W.heap[w.heap.size]? = some (.deferred (some [])))
  W1 hs1 hb1 ?_ ?_ (fun _ _ h => h.1) ⟨hI1, hL1, hK1⟩).mono ?_
 · -- one round
   rintro m pre x W ⟨hi, hl, hk⟩ hr hlen
   have hy := run_yield (P := P) (args := encs x) hl (by rw [hparams]; exact hps x)
   rw [hrec] at hy
   refine ⟨fn, _, assign, body, hy, roundIn_of_wpIn hfn (wpIn_mono (hround _ _ pre x W hi hr hlen) ?_)⟩
   clear hy
   rintro e a₁ Wa hp
   cases e with
   | normal =>
     obtain ⟨hka, hpa, hbody⟩ := hp
     have hla := hka.same _ _ (by omega) hl rfl
     have hkka := hka.same _ _ (Nat.le_refl _) hk rfl
     have hlt : w.heap.size + 1 < Wa.heap.size := (Array.getElem?_eq_some_iff.1 hla).1
     refine ⟨_, run_beginRound hla (by rw [hrec]), ?_⟩
     have hl2 : (Wa.putObj (w.heap.size + 1) (.loop { rec .ready none with state := .busy })).heap[w.heap.size + 1]? = some (.loop { rec .ready none with state := .busy }) := World.putObj_heap_same hlt
     have hk2 : (Wa.putObj (w.heap.size + 1) (.loop { rec .ready none with state := .busy })).heap[w.heap.size]? = some (.deferred (some [])) := (World.putObj_heap_other (by omega)).trans hkka
     have hc2 : Ceb Wa (Wa.putObj (w.heap.size + 1) (.loop { rec .ready none with state := .busy })) := ceb_loop hla
     refine wpIn_mono (hbody _ hc2 (below_put _ _ (by omega))) ?_
     have fin : ∀ (jump : Option Code) (W3 : World), KeepsFrom w.heap.size (Wa.putObj (w.heap.size + 1) (.loop { rec .ready none with state := .busy })) W3 →
      (Instr.endRound (w.heap.size + 1) jump).run P W3 = .ok (.bool jump.isNone) (W3.putObj (w.heap.size + 1) (.loop (rec (if jump.isNone then .ready else .done) jump))) ∧
      (W3.putObj (w.heap.size + 1) (.loop (rec (if jump.isNone then .ready else .done) jump))).heap[w.heap.size + 1]? = some (.loop (rec (if jump.isNone then .ready else .done) jump)) ∧
      (W3.putObj (w.heap.size + 1) (.loop (rec (if jump.isNone then .ready else .done) jump))).heap[w.heap.size]? = some (.deferred (some [])) ∧
      Ceb W3 (W3.putObj (w.heap.size + 1) (.loop (rec (if jump.isNone then .ready else .done) jump))) := fun jump W3 hk3 => by
      have hl3 := hk3.same _ _ (by omega) hl2 rfl
      have hrun := run_endRound (P := P) jump hl3
      have hcq := ceb_loop (r' := rec (if jump.isNone then .ready else .done) jump) hl3
      rw [hrec] at hrun hcq ⊢
      exact ⟨hrun, World.putObj_heap_same (Array.getElem?_eq_some_iff.1 hl3).1, (World.putObj_heap_other (by omega)).trans (hk3.same _ _ (Nat.le_refl _) hk2 rfl), hcq⟩
     rintro e a3 W3 hp3
     cases e with
     | normal =>
       obtain ⟨hk3, hkp3, hi3⟩ := hp3
       obtain ⟨hrun, hl4, hk4, hc4⟩ := fin none W3 hk3
       exact ⟨_, _, hrun, .inl ⟨rfl, ⟨hI.ceq _ _ _ hi3 hc4 (below_put _ _ (by omega)), hl4, hk4⟩, hKt hpa (hKt (hKt (hKc hc2) hkp3) (hKc hc4))⟩⟩
     | ret =>
       obtain ⟨hk3, hi3⟩ := hp3
       obtain ⟨hrun, hl4, hk4, hc4⟩ := fin (some .ret) W3 hk3
       exact ⟨_, _, hrun, .inr ⟨rfl, hIx.ceq _ _ _ hi3 hc4 (below_put _ _ (by omega)), hl4, hk4⟩⟩
     | exit id => exact hp3.elim
     | goto t => exact hp3.elim
     | panic ch => exact hp3.elim
     | outgrown => exact hp3.elim
   | ret => exact hp.elim
   | exit id => exact hp.elim
   | goto t => exact hp.elim
   | panic ch => exact hp.elim
   | outgrown => exact hp.elim
 · rintro pre W W2 ⟨hi, hl, hk⟩ hb
   exact ⟨hI.below _ _ _ hi (hIs _ _ hi) hb, (hb.block _ (Array.getElem?_eq_some_iff.1 hl).1).trans hl, (hb.block _ (Array.getElem?_eq_some_iff.1 hk).1).trans hk⟩
 · -- behind the iterator
   rintro e W2 ⟨⟨v, rfl⟩, (⟨xs, hS, hi, hl, hk⟩ | ⟨pre, hSp, hi, hl, hk⟩)⟩
   · have hend := run_endLoop (P := P) hl (by rw [hrec]; simp)
     rw [hrec] at hend
     exact ⟨none, _, hend, hdone _ xs _ (Nat.le_refl _) hS (hI.ceq _ _ _ hi (ceb_loop hl) (below_put _ _ (by omega))) ((World.putObj_heap_other (by omega)).trans hk)⟩
   · have hend := run_endLoop (P := P) hl (by rw [hrec]; simp)
     rw [hrec] at hend
     exact ⟨some .ret, _, hend, hstop _ pre _ (Nat.le_refl _) hSp (hIx.ceq _ _ _ hi (ceb_loop hl) (below_put _ _ (by omega))) ((World.putObj_heap_other (by omega)).trans hk)⟩
end Go.Proofs.YthiiahlgncngoaaDoorRR.Rg
namespace Go.Proofs.YthiiahlgncngoaaDoorRR.Cd
open Go Go.RowKit
open Go.Proofs.YthiiahlgncngoaaDoorRR.Lx Go.Proofs.YthiiahlgncngoaaDoorRR.Tr Go.Proofs.YthiiahlgncngoaaDoorRR.Rg
theorem ceq_kps {S : Nat → Prop} {A B : World} (h : Ceq A B) : Kps S A B := fun _ _ _ _ hc => (h.cell _).trans hc
theorem keeps_below {B : Nat} {W W' : World} (h : Below W.heap.size W W') : KeepsFrom B W W' :=
 ⟨h.size, fun k _ _ hk _ => (h.block k (Array.getElem?_eq_some_iff.1 hk).1).trans hk⟩
theorem Q1 {W w1 : World} (hb : Below W.heap.size W w1) : (∀ b o, b < W.heap.size → w1.cell? ⟨b, o, none⟩ = W.cell? ⟨b, o, none⟩) ∧ (∀ b o, b < W.heap.size → w1.frozen? ⟨b, o, none⟩ = W.frozen? ⟨b, o, none⟩) :=
 ⟨fun b o h => hb.cell (p := ⟨b, o, none⟩) h, fun b o h => hb.frozen (p := ⟨b, o, none⟩) h⟩
/-! ### A cell of one's own -/
structure Cel (w : World) (r : Nat) (v : Value) (W : World) : Prop where
 cell : W.cell? ⟨r, 0, none⟩ = some v
 frozen : W.frozen? ⟨r, 0, none⟩ = false
theorem Cel.ceq {w : World} {r : Nat} {v : Value} {W W' : World} (h : Cel w r v W) (hc : Ceq W W') : Cel w r v W' := ⟨(hc.cell _).trans h.cell, (hc.frozen _).trans h.frozen⟩
theorem Cel.below {w : World} {r : Nat} {v : Value} {W W' : World} (h : Cel w r v W) (hb : Below W.heap.size W W') : Cel w r v W' :=
 have hl := World.block_lt_of_cell? _ _ h.cell
 ⟨(hb.cell (p := ⟨r, 0, none⟩) hl).trans h.cell, (hb.frozen (p := ⟨r, 0, none⟩) hl).trans h.frozen⟩
theorem Cel.alloc {w : World} {r : Nat} {v : Value} {W : World} (h : Cel w r v W) (o : Obj) : Cel w r v (W.alloc o) := h.below ((Below.refl _ _).alloc (Nat.le_refl _) _)
theorem Cel.setS {w : World} {r : Nat} {v : Value} {W : World} (h : Cel w r v W) (u : Value) : Cel w r u (W.setCell ⟨r, 0, none⟩ u) :=
 ⟨World.cell?_setCell_same _ _ _ h.cell, by rw [World.frozen?_setCell]; exact h.frozen⟩
/-! ### The table of operations -/
def opVals : Array Value := ((List.range 14).flatMap fun (i : Nat) => [Value.bool (hasR (i : Int)), .bool (hasA (i : Int)), .bool (hasB (i : Int)), .bool (hasF (i : Int)), .int .u8 (numK (i : Int))]).toArray
def OpTab (w : World) : Prop := ∀ j v, opVals[j]? = some v → w.cell? ⟨0, j, none⟩ = some v
theorem OpTab.lt {w : World} (h : OpTab w) : 0 < w.heap.size := World.block_lt_of_cell? _ _ (h 0 (.bool false) rfl)
theorem OpTab.kps {w w' : World} {S : Nat → Prop} (h : OpTab w) (hS : S 0) (k : Kps S w w') : OpTab w' := fun j v hv => k _ _ _ hS (h j v hv)
theorem OpTab.below {w w' : World} {B : Nat} (h : OpTab w) (hB : 0 < B) (hb : Below B w w') : OpTab w' := fun j v hv => (hb.cell (p := ⟨0, j, none⟩) hB).trans (h j v hv)
theorem OpTab.keep {w w' : World} (h : OpTab w) (hb : Below w.heap.size w w') : OpTab w' := h.below h.lt hb
theorem opTab_at {w : World} (h : OpTab w) (k : Int) (h0 : 0 ≤ k) (h1 : k ≤ 13) :
 w.cell? ⟨0, k.toNat * 5, none⟩ = some (.bool (hasR k)) ∧ w.cell? ⟨0, k.toNat * 5 + 1, none⟩ = some (.bool (hasA k)) ∧ w.cell? ⟨0, k.toNat * 5 + 2, none⟩ = some (.bool (hasB k)) ∧ w.cell? ⟨0, k.toNat * 5 + 3, none⟩ = some (.bool (hasF k)) ∧ w.cell? ⟨0, k.toNat * 5 + 4, none⟩ = some (.int .u8 (numK k)) := by
 obtain ⟨m, rfl⟩ : ∃ m : Nat, k = m := ⟨k.toNat, by omega⟩
 rw [Int.toNat_natCast]
 have hm : m < 14 := by omega
 clear h0 h1
 have hd : m = 0 ∨ m = 1 ∨ m = 2 ∨ m = 3 ∨ m = 4 ∨ m = 5 ∨ m = 6 ∨ m = 7 ∨ m = 8 ∨ m = 9 ∨ m = 10 ∨ m = 11 ∨ m = 12 ∨ m = 13 := by omega
 rcases hd with rfl | rfl | rfl | rfl | rfl | rfl | rfl | rfl | rfl | rfl | rfl | rfl | rfl | rfl <;> exact ⟨h _ _ rfl, h _ _ rfl, h _ _ rfl, h _ _ rfl, h _ _ rfl⟩
theorem Qy {w : World} {b : Nat} {vs : Array Value} {T : TypeId} {fr : Nat × Nat} (h : w.heap[b]? = some (.cells vs T fr)) (j : Nat) (v : Value) : (w.setCell ⟨b, j, none⟩ v).heap[b]? = some (.cells (vs.setIfInBounds j v) T fr) := by
 unfold World.setCell
 show (w.heap.modify b _)[b]? = _
 rw [Array.getElem?_modify, if_pos rfl, h]
 simp
theorem heap_set5 {W : World} {g : Nat} {a0 b0 c0 d0 e0 : Value} {T : TypeId} {fr : Nat × Nat} (h : W.heap[g]? = some (.cells #[a0, b0, c0, d0, e0] T fr)) (a b c d e : Value) :
 (((((W.setCell ⟨g, 0, none⟩ a).setCell ⟨g, 1, none⟩ b).setCell ⟨g, 2, none⟩ c).setCell ⟨g, 3, none⟩ d).setCell ⟨g, 4, none⟩ e).heap[g]? = some (.cells #[a, b, c, d, e] T fr) := by
 have := Qy (Qy (Qy (Qy (Qy h 0 a) 1 b) 2 c) 3 d) 4 e
 simpa using this
theorem below_set5 {B g : Nat} {w W : World} (h : Below B w W) (hg : B ≤ g) (a b c d e : Value) : Below B w (((((W.setCell ⟨g, 0, none⟩ a).setCell ⟨g, 1, none⟩ b).setCell ⟨g, 2, none⟩ c).setCell ⟨g, 3, none⟩ d).setCell ⟨g, 4, none⟩ e) :=
 ((((h.setCell (p := ⟨g, 0, none⟩) hg a).setCell (p := ⟨g, 1, none⟩) hg b).setCell (p := ⟨g, 2, none⟩) hg c).setCell (p := ⟨g, 3, none⟩) hg d).setCell (p := ⟨g, 4, none⟩) hg e
theorem none_of {k : Int} (h : Zf k = false) : hasR k = false ∧ hasA k = false ∧ hasB k = false ∧ hasF k = false ∧ numK k = 0 := by
 have hk : k < 1 ∨ 13 < k := by
  simp only [Zf, Bool.and_eq_false_iff, decide_eq_false_iff_not] at h; omega
 refine ⟨?_, ?_, ?_, ?_, ?_⟩
 · simp [hasR]; omega
 · simp [hasA]; omega
 · simp [hasB]; omega
 · simp [hasF]; omega
 · unfold numK; repeat (rw [if_neg (by omega)])
def nmV (k : Int) : Value := .agg #[.bool (hasR k), .bool (hasA k), .bool (hasB k), .bool (hasF k), .int .u8 (numK k)]
theorem known_any (k : Int) (w : World) (hk : U8 k) : Calls Tryd.prog 65 #[.int .u8 k] w fun e w' => e = .returned (.bool (Zf k)) ∧ Below w.heap.size w w' := by
 unfold U8 at hk
 by_cases h1 : 1 ≤ k
 · by_cases h2 : k ≤ 13
   · go_enter Tryd.func65, Tryd.ntmps65
     go_wp2_with fail
     go_ret
     exact ⟨Qi (by simp [Zf, h1, h2]), Below.refl _ _⟩
   · go_enter Tryd.func65, Tryd.ntmps65
     go_wp2_with fail
     go_ret
     exact ⟨Qi (by simp [Zf, h2]), Below.refl _ _⟩
 · go_enter Tryd.func65, Tryd.ntmps65
   go_wp2_with fail
   go_ret
   exact ⟨Qi (by rw [Zf, decide_eq_false (by omega : ¬ 1 ≤ k)]; rfl), Below.refl _ _⟩
theorem within_any (n m : Int) (w : World) : Calls Tryd.prog 97 #[.int .i64 n, .int .i64 m] w fun e w' => e = .returned (.bool (inP n m)) ∧ Below w.heap.size w w' := by
 by_cases h1 : 0 ≤ n
 · by_cases h2 : n < m
   · go_enter Tryd.func97, Tryd.ntmps97
     go_wp2_with fail
     go_ret
     exact ⟨Qi (by simp [inP, h1, h2]), Below.refl _ _⟩
   · go_enter Tryd.func97, Tryd.ntmps97
     go_wp2_with fail
     go_ret
     exact ⟨Qi (by simp [inP, h2]), Below.refl _ _⟩
 · go_enter Tryd.func97, Tryd.ntmps97
   go_wp2_with fail
   go_ret
   exact ⟨Qi (by rw [inP, decide_eq_false (by omega : ¬ 0 ≤ n)]; rfl), Below.refl _ _⟩
theorem Q7 (k : Int) (w : World) (hk : U8 k) (hT : OpTab w) : Calls Tryd.prog 69 #[.int .u8 k] w fun e w' => e = .returned (nmV k) ∧ Below w.heap.size w w' := by
 have hkn := fun W => known_any k W hk
 have hz := hT.lt
 unfold U8 at hk
 cases hb : Zf k
 · obtain ⟨e0, e1, e2, e3, e4⟩ := none_of hb
   have hv : nmV k = .agg #[.bool false, .bool false, .bool false, .bool false, .int .u8 0] := by unfold nmV; rw [e0, e1, e2, e3, e4]
   rw [hv]
   rw [hb] at hkn
   clear hv e0 e1 e2 e3 e4 hb hT
   replace hkn := Lh hkn
   go_enter Tryd.func69, Tryd.ntmps69
   go_wp2_with fail
   refine (hkn.out _).mono ?_
   rintro e w1 ⟨rfl, hb1⟩
   obtain ⟨hc, hf⟩ := Q1 hb1
   have hr1 : w1.heap[w.heap.size]? = some (.cells #[.bool false, .bool false, .bool false, .bool false, .int .u8 0] 107 (0, 0)) := (hb1.block _ (by simp)).trans (World.alloc_heap_new w _)
   have hbb : Below w.heap.size w w1 := (((Below.refl _ _).alloc (Nat.le_refl _) _).trans (hb1.mono (by simp)))
   replace hr1 := Lh hr1
   replace hbb := Lh hbb
   clear hb1
   go_wp2_with fail
   exact bodyPost_ret (v := .agg #[.bool false, .bool false, .bool false, .bool false, .int .u8 0]) (results_cell_row Tryd.results69 _ _ w.heap.size _ _ _ _ rfl (heap_set5 hr1.out _ _ _ _ _) Tryd.underlying107 rfl (by kernel_rfl)) rfl ⟨rfl, below_set5 hbb.out (Nat.le_refl _) _ _ _ _ _⟩
 · have h13 : 1 ≤ k ∧ k ≤ 13 := by simpa [Zf] using hb
   obtain ⟨c0, c1, c2, c3, c4⟩ := opTab_at hT k (by omega) (by omega)
   rw [hb] at hkn
   unfold nmV
   generalize hasR k = xR at *
   generalize hasA k = xA at *
   generalize hasB k = xB at *
   generalize hasF k = xF at *
   generalize numK k = xN at *
   clear hb hT
   replace hkn := Lh hkn
   go_enter Tryd.func69, Tryd.ntmps69
   go_wp2_with fail
   refine (hkn.out _).mono ?_
   rintro e w1 ⟨rfl, hb1⟩
   have q : ∀ o, w1.cell? ⟨0, o, none⟩ = w.cell? ⟨0, o, none⟩ := fun o => (hb1.cell (p := ⟨0, o, none⟩) (Nat.lt_of_lt_of_le hz (by simp))).trans (World.cell?_alloc_lt w _ _ hz)
   have d0 := (q _).trans c0
   have d1 := (q _).trans c1
   have d2 := (q _).trans c2
   have d3 := (q _).trans c3
   have d4 := (q _).trans c4
   clear q c0 c1 c2 c3 c4
   obtain ⟨hc, hf⟩ := Q1 hb1
   have hr1 : w1.heap[w.heap.size]? = some (.cells #[.bool false, .bool false, .bool false, .bool false, .int .u8 0] 107 (0, 0)) := (hb1.block _ (by simp)).trans (World.alloc_heap_new w _)
   have hbb : Below w.heap.size w w1 := (((Below.refl _ _).alloc (Nat.le_refl _) _).trans (hb1.mono (by simp)))
   replace hr1 := Lh hr1
   replace hbb := Lh hbb
   clear hb1
   go_wp2_with fail
   exact bodyPost_ret (v := .agg #[.bool xR, .bool xA, .bool xB, .bool xF, .int .u8 xN]) (results_cell_row Tryd.results69 _ _ w.heap.size _ _ _ _ rfl (heap_set5 hr1.out _ _ _ _ _) Tryd.underlying107 rfl (by kernel_rfl)) rfl ⟨rfl, below_set5 hbb.out (Nat.le_refl _) _ _ _ _ _⟩
@[reducible] def Ins.val (i : Ins) : Value := .agg #[.int .u8 i.op, .int .i64 i.r, .int .i64 i.a, .int .i64 i.b, .int .i64 i.n, .slice i.aa i.args.length i.acap]
@[reducible] def Fn.val (f : Fn) : Value := .agg #[.string f.name, .bool f.thread, .int .i64 f.params, .int .i64 f.regs, .slice f.ca f.code.length f.ccap]
@[reducible] def Mm.val (m : Mm) : Value := .agg #[.string m.name, .int .i64 m.size, .int .i64 m.first]
@[reducible] def Pg.val (p : Pg) : Value := .agg #[.slice p.ma p.mems.length p.mcap, .slice p.la p.locks.length p.lcap, .slice p.fa p.funs.length p.fcap]
theorem Qh (w : World) (o : Obj) : Below w.heap.size w (w.alloc o) := (Below.refl _ _).alloc (Nat.le_refl _) _
theorem Zc (w : World) (o o' : Obj) : Below w.heap.size w ((w.alloc o).alloc o') := (Qh w o).alloc (by simp) _
theorem Qs (w : World) (o o' o2 : Obj) : Below w.heap.size w (((w.alloc o).alloc o').alloc o2) := (Zc w o o').alloc (by simp; omega) _
theorem b_next {w w1 : World} {o : Obj} (h : Below (w.alloc o).heap.size (w.alloc o) w1) : Below w.heap.size w w1 := (Qh w o).trans (h.mono (by simp))
theorem Z3 {w w1 : World} {o o' o2 : Obj} (h : Below (((w.alloc o).alloc o').alloc o2).heap.size (((w.alloc o).alloc o').alloc o2) w1) : Below w.heap.size w w1 := (Qs w o o' o2).trans (h.mono (by simp; omega))
theorem fl_nm0 (V : World) (a b c d : Bool) (n : Int) : (Instr.field 107 (.agg #[.bool a, .bool b, .bool c, .bool d, .int .u8 n]) 0).run Tryd.prog V = .ok (.bool a) V := by kernel_rfl
theorem X2 (V : World) (a b c d : Bool) (n : Int) : (Instr.field 107 (.agg #[.bool a, .bool b, .bool c, .bool d, .int .u8 n]) 4).run Tryd.prog V = .ok (.int .u8 n) V := by kernel_rfl
theorem tri (x : Bool) (p : Prop) : x = true ∨ (x = false ∧ p) ∨ (x = false ∧ ¬ p) := by
 cases x <;> simp [Classical.em]
theorem writes_any (i : Ins) (w : World) (hi : U8 i.op) (hT : OpTab w) :
 Calls Tryd.prog 99 #[i.val] w fun e w' => e = .returned (.tuple #[.int .i64 (wrP i).1, .bool (wrP i).2]) ∧ Below w.heap.size w w' := by
 have hn := fun W (hb : Below w.heap.size w W) => Q7 i.op W hi (hT.keep hb)
 unfold nmV at hn
 unfold wrP
 generalize hasR i.op = xR at *
 generalize hasA i.op = xA at *
 generalize hasB i.op = xB at *
 generalize hasF i.op = xF at *
 generalize numK i.op = xN at *
 clear hT
 replace hn := Lh hn
 cases xR
 · go_enter Tryd.func99, Tryd.ntmps99
   go_wp2_with fail
   refine (hn.out _ (Qh _ _)).mono ?_
   rintro e w1 ⟨rfl, hb1⟩
   obtain ⟨hc, hf⟩ := Q1 hb1
   have hlt : w.heap.size < w1.heap.size := by have := hb1.size; simp at this; omega
   have hfl := fl_nm0 w1
   go_wp2_with fail
   go_ret2
   exact ⟨rfl, b_next hb1⟩
 · go_enter Tryd.func99, Tryd.ntmps99
   go_wp2_with fail
   refine (hn.out _ (Qh _ _)).mono ?_
   rintro e w1 ⟨rfl, hb1⟩
   obtain ⟨hc, hf⟩ := Q1 hb1
   have hlt : w.heap.size < w1.heap.size := by have := hb1.size; simp at this; omega
   have hfl := fl_nm0 w1
   go_wp2_with fail
   go_ret2
   exact ⟨rfl, b_next hb1⟩
theorem goal_any (i : Ins) (w : World) (hi : U8 i.op) (hT : OpTab w) :
 Calls Tryd.prog 40 #[i.val] w fun e w' => e = .returned (.tuple #[.int .i64 (glP i).1, .bool (glP i).2]) ∧ Below w.heap.size w w' := by
 have hn := fun W (hb : Below w.heap.size w W) => Q7 i.op W hi (hT.keep hb)
 unfold nmV at hn
 unfold glP
 generalize hasR i.op = xR at *
 generalize hasA i.op = xA at *
 generalize hasB i.op = xB at *
 generalize hasF i.op = xF at *
 generalize numK i.op = xN at *
 clear hT
 replace hn := Lh hn
 by_cases h7 : xN = 7
 · rw [if_pos h7]
   go_enter Tryd.func40, Tryd.ntmps40
   go_wp2_with fail
   refine (hn.out _ (Qh _ _)).mono ?_
   rintro e w1 ⟨rfl, hb1⟩
   obtain ⟨hc, hf⟩ := Q1 hb1
   have hlt : w.heap.size < w1.heap.size := by have := hb1.size; simp at this; omega
   have hfl := X2 w1
   go_wp2_with fail
   go_ret2
   exact ⟨rfl, b_next hb1⟩
 · rw [if_neg h7]
   go_enter Tryd.func40, Tryd.ntmps40
   go_wp2_with fail
   refine (hn.out _ (Qh _ _)).mono ?_
   rintro e w1 ⟨rfl, hb1⟩
   obtain ⟨hc, hf⟩ := Q1 hb1
   have hlt : w.heap.size < w1.heap.size := by have := hb1.size; simp at this; omega
   have hfl := X2 w1
   go_wp2_with fail
   go_ret2
   exact ⟨rfl, b_next hb1⟩
theorem bare_any (i : Ins) (w : World) (hi : U8 i.op) (hT : OpTab w) :
 Calls Tryd.prog 66 #[i.val] w fun e w' => e = .returned (.bool (bareP i)) ∧ Below w.heap.size w w' := by
 have hn := fun W (hb : Below w.heap.size w W) => Q7 i.op W hi (hT.keep hb)
 unfold nmV at hn
 unfold bareP
 generalize hasR i.op = xR at *
 generalize hasA i.op = xA at *
 generalize hasB i.op = xB at *
 generalize hasF i.op = xF at *
 generalize numK i.op = xN at *
 clear hT
 replace hn := Lh hn
 rcases tri xR (i.r = 0) with rfl | ⟨rfl, h1⟩ | ⟨rfl, h1⟩ <;> rcases tri xA (i.a = 0) with rfl | ⟨rfl, h2⟩ | ⟨rfl, h2⟩ <;> rcases tri xB (i.b = 0) with rfl | ⟨rfl, h3⟩ | ⟨rfl, h3⟩ <;>
 · go_enter Tryd.func66, Tryd.ntmps66
   go_wp2_with fail
   refine (hn.out _ (Qh _ _)).mono ?_
   rintro e w1 ⟨rfl, hb1⟩
   obtain ⟨hc, hf⟩ := Q1 hb1
   have hlt : w.heap.size < w1.heap.size := by have := hb1.size; simp at this; omega
   go_wp2_with fail
   go_ret
   exact ⟨Qi (by simp [*]), (b_next hb1).alloc (b_next hb1).size _⟩
theorem numK_cases (op : Int) : numK op = 0 ∨ numK op = 1 ∨ numK op = 2 ∨ numK op = 3 ∨ numK op = 4 ∨ numK op = 5 ∨ numK op = 6 ∨ numK op = 7 := by
 unfold numK
 repeat' split
 all_goals simp
theorem fit_fin (A : Bool × Int) (l : Nat) (x : Bool) (c : Int) (h : A = (x, c)) : (A.1 && decide ((l : Int) = A.2)) = (x && decide ((l : Int) = c)) := by rw [h]
theorem mayNum_none (p : Pg) (f : Fn) (i : Ins) (w : World) (hi : U8 i.op) (hT : OpTab w) (hK : numK i.op = 0) :
 Calls Tryd.prog 67 #[p.val, f.val, i.val] w fun e w' => e = .returned (.bool (numP p f i)) ∧ Below w.heap.size w w' := by
 have hn := fun W (hb : Below w.heap.size w W) => Q7 i.op W hi (hT.keep hb)
 unfold nmV at hn
 rw [hK] at hn
 have hfit : numP p f i = _ := fit_fin (fitP p f i) i.args.length _ _ (by unfold fitP; simp only [hK]; rfl)
 rw [hfit]
 clear hfit hT
 generalize hasR i.op = xR at *
 generalize hasA i.op = xA at *
 generalize hasB i.op = xB at *
 generalize hasF i.op = xF at *
 replace hn := Lh hn
 by_cases h1 : i.n = 0
 · rw [decide_eq_true h1]
   go_enter Tryd.func67, Tryd.ntmps67
   go_wp2_with fail
   refine (hn.out _ (Qs _ _ _ _)).mono ?_
   rintro e w1 ⟨rfl, hb1⟩
   obtain ⟨hc, hf⟩ := Q1 hb1
   have hlt : w.heap.size + 2 < w1.heap.size := by have := hb1.size; simp at this; omega
   have hlt1 : w.heap.size + 1 < w1.heap.size := by omega
   have hlt0 : w.heap.size < w1.heap.size := by omega
   have hfl := X2 w1
   have hbb := Lh (Z3 hb1)
   clear hb1
   go_wp2_with fail
   go_ret
   exact ⟨Qi (by rw [Bool.eq_iff_iff] <;> simp [*]), hbb.out⟩
 · rw [decide_eq_false h1]
   go_enter Tryd.func67, Tryd.ntmps67
   go_wp2_with fail
   refine (hn.out _ (Qs _ _ _ _)).mono ?_
   rintro e w1 ⟨rfl, hb1⟩
   obtain ⟨hc, hf⟩ := Q1 hb1
   have hlt : w.heap.size + 2 < w1.heap.size := by have := hb1.size; simp at this; omega
   have hlt1 : w.heap.size + 1 < w1.heap.size := by omega
   have hlt0 : w.heap.size < w1.heap.size := by omega
   have hfl := X2 w1
   have hbb := Lh (Z3 hb1)
   clear hb1
   go_wp2_with fail
   go_ret
   exact ⟨Qi (by rw [Bool.eq_iff_iff] <;> simp [*]), hbb.out⟩
theorem mayNum_any1 (p : Pg) (f : Fn) (i : Ins) (w : World) (hi : U8 i.op) (hT : OpTab w) (hK : numK i.op = 1) :
 Calls Tryd.prog 67 #[p.val, f.val, i.val] w fun e w' => e = .returned (.bool (numP p f i)) ∧ Below w.heap.size w w' := by
 have hn := fun W (hb : Below w.heap.size w W) => Q7 i.op W hi (hT.keep hb)
 unfold nmV at hn
 rw [hK] at hn
 have hfit : numP p f i = _ := fit_fin (fitP p f i) i.args.length _ _ (by unfold fitP; simp only [hK]; rfl)
 rw [hfit]
 clear hfit hT
 generalize hasR i.op = xR at *
 generalize hasA i.op = xA at *
 generalize hasB i.op = xB at *
 generalize hasF i.op = xF at *
 replace hn := Lh hn
 go_enter Tryd.func67, Tryd.ntmps67
 go_wp2_with fail
 refine (hn.out _ (Qs _ _ _ _)).mono ?_
 rintro e w1 ⟨rfl, hb1⟩
 obtain ⟨hc, hf⟩ := Q1 hb1
 have hlt : w.heap.size + 2 < w1.heap.size := by have := hb1.size; simp at this; omega
 have hlt1 : w.heap.size + 1 < w1.heap.size := by omega
 have hlt0 : w.heap.size < w1.heap.size := by omega
 have hfl := X2 w1
 have hbb := Lh (Z3 hb1)
 clear hb1
 go_wp2_with fail
 go_ret
 exact ⟨Qi (by rw [Bool.eq_iff_iff] <;> simp [*]), hbb.out⟩
theorem mayNum_one (p : Pg) (f : Fn) (i : Ins) (w : World) (hi : U8 i.op) (hT : OpTab w) (hK : numK i.op = 2) :
 Calls Tryd.prog 67 #[p.val, f.val, i.val] w fun e w' => e = .returned (.bool (numP p f i)) ∧ Below w.heap.size w w' := by
 have hn := fun W (hb : Below w.heap.size w W) => Q7 i.op W hi (hT.keep hb)
 unfold nmV at hn
 rw [hK] at hn
 have hfit : numP p f i = _ := fit_fin (fitP p f i) i.args.length _ _ (by unfold fitP; simp only [hK]; rfl)
 rw [hfit]
 clear hfit hT
 generalize hasR i.op = xR at *
 generalize hasA i.op = xA at *
 generalize hasB i.op = xB at *
 generalize hasF i.op = xF at *
 replace hn := Lh hn
 by_cases h5 : i.n = 5
 · rw [decide_eq_true h5]
   go_enter Tryd.func67, Tryd.ntmps67
   go_wp2_with fail
   refine (hn.out _ (Qs _ _ _ _)).mono ?_
   rintro e w1 ⟨rfl, hb1⟩
   obtain ⟨hc, hf⟩ := Q1 hb1
   have hlt : w.heap.size + 2 < w1.heap.size := by have := hb1.size; simp at this; omega
   have hlt1 : w.heap.size + 1 < w1.heap.size := by omega
   have hlt0 : w.heap.size < w1.heap.size := by omega
   have hfl := X2 w1
   have hbb := Lh (Z3 hb1)
   clear hb1
   go_wp2_with fail
   go_ret
   exact ⟨Qi (by rw [Bool.eq_iff_iff] <;> simp [*]), hbb.out⟩
 · rw [decide_eq_false h5]
   by_cases h6 : i.n = 6
   · rw [decide_eq_true h6]
     go_enter Tryd.func67, Tryd.ntmps67
     go_wp2_with fail
     refine (hn.out _ (Qs _ _ _ _)).mono ?_
     rintro e w1 ⟨rfl, hb1⟩
     obtain ⟨hc, hf⟩ := Q1 hb1
     have hlt : w.heap.size + 2 < w1.heap.size := by have := hb1.size; simp at this; omega
     have hlt1 : w.heap.size + 1 < w1.heap.size := by omega
     have hlt0 : w.heap.size < w1.heap.size := by omega
     have hfl := X2 w1
     have hbb := Lh (Z3 hb1)
     clear hb1
     go_wp2_with fail
     go_ret
     exact ⟨Qi (by rw [Bool.eq_iff_iff] <;> simp [*]), hbb.out⟩
   · rw [decide_eq_false h6]
     go_enter Tryd.func67, Tryd.ntmps67
     go_wp2_with fail
     refine (hn.out _ (Qs _ _ _ _)).mono ?_
     rintro e w1 ⟨rfl, hb1⟩
     obtain ⟨hc, hf⟩ := Q1 hb1
     have hlt : w.heap.size + 2 < w1.heap.size := by have := hb1.size; simp at this; omega
     have hlt1 : w.heap.size + 1 < w1.heap.size := by omega
     have hlt0 : w.heap.size < w1.heap.size := by omega
     have hfl := X2 w1
     have hbb := Lh (Z3 hb1)
     clear hb1
     go_wp2_with fail
     go_ret
     exact ⟨Qi (by rw [Bool.eq_iff_iff] <;> simp [*]), hbb.out⟩
theorem mayNum_two (p : Pg) (f : Fn) (i : Ins) (w : World) (hi : U8 i.op) (hT : OpTab w) (hK : numK i.op = 3) :
 Calls Tryd.prog 67 #[p.val, f.val, i.val] w fun e w' => e = .returned (.bool (numP p f i)) ∧ Below w.heap.size w w' := by
 have hn := fun W (hb : Below w.heap.size w W) => Q7 i.op W hi (hT.keep hb)
 unfold nmV at hn
 rw [hK] at hn
 have hfit : numP p f i = _ := fit_fin (fitP p f i) i.args.length _ _ (by unfold fitP; simp only [hK]; rfl)
 rw [hfit]
 clear hfit hT
 generalize hasR i.op = xR at *
 generalize hasA i.op = xA at *
 generalize hasB i.op = xB at *
 generalize hasF i.op = xF at *
 replace hn := Lh hn
 by_cases h5 : 7 ≤ i.n
 · rw [decide_eq_true h5]
   by_cases h6 : i.n ≤ 17
   · rw [decide_eq_true h6]
     go_enter Tryd.func67, Tryd.ntmps67
     go_wp2_with fail
     refine (hn.out _ (Qs _ _ _ _)).mono ?_
     rintro e w1 ⟨rfl, hb1⟩
     obtain ⟨hc, hf⟩ := Q1 hb1
     have hlt : w.heap.size + 2 < w1.heap.size := by have := hb1.size; simp at this; omega
     have hlt1 : w.heap.size + 1 < w1.heap.size := by omega
     have hlt0 : w.heap.size < w1.heap.size := by omega
     have hfl := X2 w1
     have hbb := Lh (Z3 hb1)
     clear hb1
     go_wp2_with fail
     go_ret
     exact ⟨Qi (by rw [Bool.eq_iff_iff] <;> simp [*]), hbb.out⟩
   · rw [decide_eq_false h6]
     go_enter Tryd.func67, Tryd.ntmps67
     go_wp2_with fail
     refine (hn.out _ (Qs _ _ _ _)).mono ?_
     rintro e w1 ⟨rfl, hb1⟩
     obtain ⟨hc, hf⟩ := Q1 hb1
     have hlt : w.heap.size + 2 < w1.heap.size := by have := hb1.size; simp at this; omega
     have hlt1 : w.heap.size + 1 < w1.heap.size := by omega
     have hlt0 : w.heap.size < w1.heap.size := by omega
     have hfl := X2 w1
     have hbb := Lh (Z3 hb1)
     clear hb1
     go_wp2_with fail
     go_ret
     exact ⟨Qi (by rw [Bool.eq_iff_iff] <;> simp [*]), hbb.out⟩
 · rw [decide_eq_false h5]
   go_enter Tryd.func67, Tryd.ntmps67
   go_wp2_with fail
   refine (hn.out _ (Qs _ _ _ _)).mono ?_
   rintro e w1 ⟨rfl, hb1⟩
   obtain ⟨hc, hf⟩ := Q1 hb1
   have hlt : w.heap.size + 2 < w1.heap.size := by have := hb1.size; simp at this; omega
   have hlt1 : w.heap.size + 1 < w1.heap.size := by omega
   have hlt0 : w.heap.size < w1.heap.size := by omega
   have hfl := X2 w1
   have hbb := Lh (Z3 hb1)
   clear hb1
   go_wp2_with fail
   go_ret
   exact ⟨Qi (by rw [Bool.eq_iff_iff] <;> simp [*]), hbb.out⟩
theorem mayNum_mem (p : Pg) (f : Fn) (i : Ins) (w : World) (hi : U8 i.op) (hT : OpTab w) (hK : numK i.op = 4) :
 Calls Tryd.prog 67 #[p.val, f.val, i.val] w fun e w' => e = .returned (.bool (numP p f i)) ∧ Below w.heap.size w w' := by
 have hn := fun W (hb : Below w.heap.size w W) => Q7 i.op W hi (hT.keep hb)
 unfold nmV at hn
 rw [hK] at hn
 have hfit : numP p f i = _ := fit_fin (fitP p f i) i.args.length _ _ (by unfold fitP; simp only [hK]; rfl)
 rw [hfit]
 clear hfit hT
 generalize hasR i.op = xR at *
 generalize hasA i.op = xA at *
 generalize hasB i.op = xB at *
 generalize hasF i.op = xF at *
 replace hn := Lh hn
 have hwi := fun W => within_any i.n p.mems.length W
 generalize inP i.n p.mems.length = x at *
 replace hwi := Lh hwi
 cases x
 · go_enter Tryd.func67, Tryd.ntmps67
   go_wp2_with fail
   refine (hn.out _ (Qs _ _ _ _)).mono ?_
   rintro e w1 ⟨rfl, hb1⟩
   obtain ⟨hc, hf⟩ := Q1 hb1
   have hlt : w.heap.size + 2 < w1.heap.size := by have := hb1.size; simp at this; omega
   have hlt1 : w.heap.size + 1 < w1.heap.size := by omega
   have hlt0 : w.heap.size < w1.heap.size := by omega
   have hfl := X2 w1
   have hbb := Lh (Z3 hb1)
   clear hb1
   go_wp2_with fail
   refine (hwi.out _).mono ?_
   rintro e w2 ⟨rfl, hb2⟩
   obtain ⟨hc2, hf2⟩ := Q1 hb2
   have hl2 := hb2.size
   have hbb2 := Lh (hbb.out.trans (hb2.mono hbb.out.size))
   clear hb2 hbb
   go_wp2_with fail
   go_ret
   exact ⟨Qi (by rw [Bool.eq_iff_iff] <;> simp [*]), hbb2.out⟩
 · go_enter Tryd.func67, Tryd.ntmps67
   go_wp2_with fail
   refine (hn.out _ (Qs _ _ _ _)).mono ?_
   rintro e w1 ⟨rfl, hb1⟩
   obtain ⟨hc, hf⟩ := Q1 hb1
   have hlt : w.heap.size + 2 < w1.heap.size := by have := hb1.size; simp at this; omega
   have hlt1 : w.heap.size + 1 < w1.heap.size := by omega
   have hlt0 : w.heap.size < w1.heap.size := by omega
   have hfl := X2 w1
   have hbb := Lh (Z3 hb1)
   clear hb1
   go_wp2_with fail
   refine (hwi.out _).mono ?_
   rintro e w2 ⟨rfl, hb2⟩
   obtain ⟨hc2, hf2⟩ := Q1 hb2
   have hl2 := hb2.size
   have hbb2 := Lh (hbb.out.trans (hb2.mono hbb.out.size))
   clear hb2 hbb
   go_wp2_with fail
   go_ret
   exact ⟨Qi (by rw [Bool.eq_iff_iff] <;> simp [*]), hbb2.out⟩
theorem mayNum_lock (p : Pg) (f : Fn) (i : Ins) (w : World) (hi : U8 i.op) (hT : OpTab w) (hK : numK i.op = 5) :
 Calls Tryd.prog 67 #[p.val, f.val, i.val] w fun e w' => e = .returned (.bool (numP p f i)) ∧ Below w.heap.size w w' := by
 have hn := fun W (hb : Below w.heap.size w W) => Q7 i.op W hi (hT.keep hb)
 unfold nmV at hn
 rw [hK] at hn
 have hfit : numP p f i = _ := fit_fin (fitP p f i) i.args.length _ _ (by unfold fitP; simp only [hK]; rfl)
 rw [hfit]
 clear hfit hT
 generalize hasR i.op = xR at *
 generalize hasA i.op = xA at *
 generalize hasB i.op = xB at *
 generalize hasF i.op = xF at *
 replace hn := Lh hn
 have hwi := fun W => within_any i.n p.locks.length W
 generalize inP i.n p.locks.length = x at *
 replace hwi := Lh hwi
 cases x
 · go_enter Tryd.func67, Tryd.ntmps67
   go_wp2_with fail
   refine (hn.out _ (Qs _ _ _ _)).mono ?_
   rintro e w1 ⟨rfl, hb1⟩
   obtain ⟨hc, hf⟩ := Q1 hb1
   have hlt : w.heap.size + 2 < w1.heap.size := by have := hb1.size; simp at this; omega
   have hlt1 : w.heap.size + 1 < w1.heap.size := by omega
   have hlt0 : w.heap.size < w1.heap.size := by omega
   have hfl := X2 w1
   have hbb := Lh (Z3 hb1)
   clear hb1
   go_wp2_with fail
   refine (hwi.out _).mono ?_
   rintro e w2 ⟨rfl, hb2⟩
   obtain ⟨hc2, hf2⟩ := Q1 hb2
   have hl2 := hb2.size
   have hbb2 := Lh (hbb.out.trans (hb2.mono hbb.out.size))
   clear hb2 hbb
   go_wp2_with fail
   go_ret
   exact ⟨Qi (by rw [Bool.eq_iff_iff] <;> simp [*]), hbb2.out⟩
 · go_enter Tryd.func67, Tryd.ntmps67
   go_wp2_with fail
   refine (hn.out _ (Qs _ _ _ _)).mono ?_
   rintro e w1 ⟨rfl, hb1⟩
   obtain ⟨hc, hf⟩ := Q1 hb1
   have hlt : w.heap.size + 2 < w1.heap.size := by have := hb1.size; simp at this; omega
   have hlt1 : w.heap.size + 1 < w1.heap.size := by omega
   have hlt0 : w.heap.size < w1.heap.size := by omega
   have hfl := X2 w1
   have hbb := Lh (Z3 hb1)
   clear hb1
   go_wp2_with fail
   refine (hwi.out _).mono ?_
   rintro e w2 ⟨rfl, hb2⟩
   obtain ⟨hc2, hf2⟩ := Q1 hb2
   have hl2 := hb2.size
   have hbb2 := Lh (hbb.out.trans (hb2.mono hbb.out.size))
   clear hb2 hbb
   go_wp2_with fail
   go_ret
   exact ⟨Qi (by rw [Bool.eq_iff_iff] <;> simp [*]), hbb2.out⟩
theorem mayNum_goal (p : Pg) (f : Fn) (i : Ins) (w : World) (hi : U8 i.op) (hT : OpTab w) (hK : numK i.op = 7) :
 Calls Tryd.prog 67 #[p.val, f.val, i.val] w fun e w' => e = .returned (.bool (numP p f i)) ∧ Below w.heap.size w w' := by
 have hn := fun W (hb : Below w.heap.size w W) => Q7 i.op W hi (hT.keep hb)
 unfold nmV at hn
 rw [hK] at hn
 have hfit : numP p f i = _ := fit_fin (fitP p f i) i.args.length _ _ (by unfold fitP; simp only [hK]; rfl)
 rw [hfit]
 clear hfit hT
 generalize hasR i.op = xR at *
 generalize hasA i.op = xA at *
 generalize hasB i.op = xB at *
 generalize hasF i.op = xF at *
 replace hn := Lh hn
 have hwi := fun W => within_any i.n f.code.length W
 generalize inP i.n f.code.length = x at *
 replace hwi := Lh hwi
 cases x
 · go_enter Tryd.func67, Tryd.ntmps67
   go_wp2_with fail
   refine (hn.out _ (Qs _ _ _ _)).mono ?_
   rintro e w1 ⟨rfl, hb1⟩
   obtain ⟨hc, hf⟩ := Q1 hb1
   have hlt : w.heap.size + 2 < w1.heap.size := by have := hb1.size; simp at this; omega
   have hlt1 : w.heap.size + 1 < w1.heap.size := by omega
   have hlt0 : w.heap.size < w1.heap.size := by omega
   have hfl := X2 w1
   have hbb := Lh (Z3 hb1)
   clear hb1
   go_wp2_with fail
   refine (hwi.out _).mono ?_
   rintro e w2 ⟨rfl, hb2⟩
   obtain ⟨hc2, hf2⟩ := Q1 hb2
   have hl2 := hb2.size
   have hbb2 := Lh (hbb.out.trans (hb2.mono hbb.out.size))
   clear hb2 hbb
   go_wp2_with fail
   go_ret
   exact ⟨Qi (by rw [Bool.eq_iff_iff] <;> simp [*]), hbb2.out⟩
 · go_enter Tryd.func67, Tryd.ntmps67
   go_wp2_with fail
   refine (hn.out _ (Qs _ _ _ _)).mono ?_
   rintro e w1 ⟨rfl, hb1⟩
   obtain ⟨hc, hf⟩ := Q1 hb1
   have hlt : w.heap.size + 2 < w1.heap.size := by have := hb1.size; simp at this; omega
   have hlt1 : w.heap.size + 1 < w1.heap.size := by omega
   have hlt0 : w.heap.size < w1.heap.size := by omega
   have hfl := X2 w1
   have hbb := Lh (Z3 hb1)
   clear hb1
   go_wp2_with fail
   refine (hwi.out _).mono ?_
   rintro e w2 ⟨rfl, hb2⟩
   obtain ⟨hc2, hf2⟩ := Q1 hb2
   have hl2 := hb2.size
   have hbb2 := Lh (hbb.out.trans (hb2.mono hbb.out.size))
   clear hb2 hbb
   go_wp2_with fail
   go_ret
   exact ⟨Qi (by rw [Bool.eq_iff_iff] <;> simp [*]), hbb2.out⟩
theorem mayNum_call_no (p : Pg) (f : Fn) (i : Ins) (w : World) (hi : U8 i.op) (hT : OpTab w) (hK : numK i.op = 6) (hin : inP i.n p.funs.length = false) :
 Calls Tryd.prog 67 #[p.val, f.val, i.val] w fun e w' => e = .returned (.bool (numP p f i)) ∧ Below w.heap.size w w' := by
 have hn := fun W (hb : Below w.heap.size w W) => Q7 i.op W hi (hT.keep hb)
 unfold nmV at hn
 rw [hK] at hn
 have hfit : numP p f i = _ := fit_fin (fitP p f i) i.args.length _ _ (by unfold fitP; simp only [hK, hin]; rfl)
 rw [hfit]
 clear hfit hT
 generalize hasR i.op = xR at *
 generalize hasA i.op = xA at *
 generalize hasB i.op = xB at *
 generalize hasF i.op = xF at *
 replace hn := Lh hn
 have hwi := fun W => within_any i.n p.funs.length W
 rw [hin] at hwi
 replace hwi := Lh hwi
 go_enter Tryd.func67, Tryd.ntmps67
 go_wp2_with fail
 refine (hn.out _ (Qs _ _ _ _)).mono ?_
 rintro e w1 ⟨rfl, hb1⟩
 obtain ⟨hc, hf⟩ := Q1 hb1
 have hlt : w.heap.size + 2 < w1.heap.size := by have := hb1.size; simp at this; omega
 have hlt1 : w.heap.size + 1 < w1.heap.size := by omega
 have hlt0 : w.heap.size < w1.heap.size := by omega
 have hfl := X2 w1
 have hbb := Lh (Z3 hb1)
 clear hb1
 go_wp2_with fail
 refine (hwi.out _).mono ?_
 rintro e w2 ⟨rfl, hb2⟩
 obtain ⟨hc2, hf2⟩ := Q1 hb2
 have hl2 := hb2.size
 have hbb2 := Lh (hbb.out.trans (hb2.mono hbb.out.size))
 clear hb2 hbb
 go_wp2_with fail
 go_ret
 exact ⟨Qi (by rw [Bool.eq_iff_iff] <;> simp [*]), hbb2.out⟩
theorem mayNum_call_thr (p : Pg) (f : Fn) (i : Ins) (w : World) (hi : U8 i.op) (hT : OpTab w) (hK : numK i.op = 6) (m : Nat) (hm : i.n = m) (g : Fn) (hg : p.funs[m]? = some g) (hin : inP i.n p.funs.length = true) (hrow : RowAt w (fun _ => True) p.fa p.fcap p.funs.length (Zw p.funs)) (ht : g.thread = true) :
 Calls Tryd.prog 67 #[p.val, f.val, i.val] w fun e w' => e = .returned (.bool (numP p f i)) ∧ Below w.heap.size w w' := by
 have hn := fun W (hb : Below w.heap.size w W) => Q7 i.op W hi (hT.keep hb)
 unfold nmV at hn
 rw [hK] at hn
 have hfit : numP p f i = _ := fit_fin (fitP p f i) i.args.length false 0 (by unfold fitP; simp only [hK, hin]; rw [hm, Int.toNat_natCast, hg]; simp only [ht] <;> rfl)
 rw [hfit]
 clear hfit hT
 generalize hasR i.op = xR at *
 generalize hasA i.op = xA at *
 generalize hasB i.op = xB at *
 generalize hasF i.op = xF at *
 replace hn := Lh hn
 have hwi := fun W => within_any i.n p.funs.length W
 rw [hin, hm] at hwi
 replace hwi := Lh hwi
 have hml : m < p.funs.length := (List.getElem?_eq_some_iff.1 hg).1
 have hml2 : (m : Int) < p.funs.length := by omega
 have hm0 : (0 : Int) ≤ m := by omega
 obtain ⟨b, off, hfa, _, _, c1, c2, _, _⟩ := Yd hrow m g hg
 have hbl : b < w.heap.size := World.block_lt_of_cell? _ _ c1
 unfold Pg.val Ins.val
 rw [hfa, hm]
 clear hg hrow hin hfa
 rw [ht] at c1
 go_enter Tryd.func67, Tryd.ntmps67
 go_wp2_with fail
 refine (hn.out _ (Qs _ _ _ _)).mono ?_
 rintro e w1 ⟨rfl, hb1⟩
 obtain ⟨hc, hf⟩ := Q1 hb1
 have hlt : w.heap.size + 2 < w1.heap.size := by have := hb1.size; simp at this; omega
 have hlt1 : w.heap.size + 1 < w1.heap.size := by omega
 have hlt0 : w.heap.size < w1.heap.size := by omega
 have hfl := X2 w1
 have hbb := Lh (Z3 hb1)
 clear hb1
 go_wp2_with fail
 refine (hwi.out _).mono ?_
 rintro e w2 ⟨rfl, hb2⟩
 obtain ⟨hc2, hf2⟩ := Q1 hb2
 have hl2 := hb2.size
 have hbb2 := Lh (hbb.out.trans (hb2.mono hbb.out.size))
 clear hb2 hbb
 have d1 := (hbb2.out.cell (p := ⟨b, off + m * 5 + 1, none⟩) hbl).trans c1
 have d2 := (hbb2.out.cell (p := ⟨b, off + m * 5 + 2, none⟩) hbl).trans c2
 go_wp2_with fail
 go_ret
 exact ⟨Qi (by rw [Bool.eq_iff_iff] <;> simp [*]), hbb2.out⟩
theorem mayNum_call_yes (p : Pg) (f : Fn) (i : Ins) (w : World) (hi : U8 i.op) (hT : OpTab w) (hK : numK i.op = 6) (m : Nat) (hm : i.n = m) (g : Fn) (hg : p.funs[m]? = some g) (hin : inP i.n p.funs.length = true) (hrow : RowAt w (fun _ => True) p.fa p.fcap p.funs.length (Zw p.funs)) (ht : g.thread = false) :
 Calls Tryd.prog 67 #[p.val, f.val, i.val] w fun e w' => e = .returned (.bool (numP p f i)) ∧ Below w.heap.size w w' := by
 have hn := fun W (hb : Below w.heap.size w W) => Q7 i.op W hi (hT.keep hb)
 unfold nmV at hn
 rw [hK] at hn
 have hfit : numP p f i = _ := fit_fin (fitP p f i) i.args.length true g.params (by unfold fitP; simp only [hK, hin]; rw [hm, Int.toNat_natCast, hg]; simp only [ht] <;> rfl)
 rw [hfit]
 clear hfit hT
 generalize hasR i.op = xR at *
 generalize hasA i.op = xA at *
 generalize hasB i.op = xB at *
 generalize hasF i.op = xF at *
 replace hn := Lh hn
 have hwi := fun W => within_any i.n p.funs.length W
 rw [hin, hm] at hwi
 replace hwi := Lh hwi
 have hml : m < p.funs.length := (List.getElem?_eq_some_iff.1 hg).1
 have hml2 : (m : Int) < p.funs.length := by omega
 have hm0 : (0 : Int) ≤ m := by omega
 obtain ⟨b, off, hfa, _, _, c1, c2, _, _⟩ := Yd hrow m g hg
 have hbl : b < w.heap.size := World.block_lt_of_cell? _ _ c1
 unfold Pg.val Ins.val
 rw [hfa, hm]
 clear hg hrow hin hfa
 rw [ht] at c1
 go_enter Tryd.func67, Tryd.ntmps67
 go_wp2_with fail
 refine (hn.out _ (Qs _ _ _ _)).mono ?_
 rintro e w1 ⟨rfl, hb1⟩
 obtain ⟨hc, hf⟩ := Q1 hb1
 have hlt : w.heap.size + 2 < w1.heap.size := by have := hb1.size; simp at this; omega
 have hlt1 : w.heap.size + 1 < w1.heap.size := by omega
 have hlt0 : w.heap.size < w1.heap.size := by omega
 have hfl := X2 w1
 have hbb := Lh (Z3 hb1)
 clear hb1
 go_wp2_with fail
 refine (hwi.out _).mono ?_
 rintro e w2 ⟨rfl, hb2⟩
 obtain ⟨hc2, hf2⟩ := Q1 hb2
 have hl2 := hb2.size
 have hbb2 := Lh (hbb.out.trans (hb2.mono hbb.out.size))
 clear hb2 hbb
 have d1 := (hbb2.out.cell (p := ⟨b, off + m * 5 + 1, none⟩) hbl).trans c1
 have d2 := (hbb2.out.cell (p := ⟨b, off + m * 5 + 2, none⟩) hbl).trans c2
 go_wp2_with fail
 go_ret
 exact ⟨Qi (by rw [Bool.eq_iff_iff] <;> simp [*]), hbb2.out⟩
theorem mayNum_any (p : Pg) (f : Fn) (i : Ins) (w : World) (hi : U8 i.op) (hT : OpTab w) (hrow : RowAt w (fun _ => True) p.fa p.fcap p.funs.length (Zw p.funs)) :
 Calls Tryd.prog 67 #[p.val, f.val, i.val] w fun e w' => e = .returned (.bool (numP p f i)) ∧ Below w.heap.size w w' := by
 rcases numK_cases i.op with h | h | h | h | h | h | h | h
 · exact mayNum_none p f i w hi  hT h
 · exact mayNum_any1 p f i w hi  hT h
 · exact mayNum_one p f i w hi  hT h
 · exact mayNum_two p f i w hi  hT h
 · exact mayNum_mem p f i w hi  hT h
 · exact mayNum_lock p f i w hi  hT h
 · cases hin : inP i.n p.funs.length
   · exact mayNum_call_no p f i w hi  hT h hin
   · have h2 : 0 ≤ i.n ∧ i.n < p.funs.length := by simpa [inP] using hin
     obtain ⟨m, hm⟩ : ∃ m : Nat, i.n = m := ⟨i.n.toNat, by omega⟩
     obtain ⟨g, hg⟩ : ∃ g, p.funs[m]? = some g := ⟨p.funs[m]'(by omega), by simp⟩
     cases ht : g.thread
     · exact mayNum_call_yes p f i w hi  hT h m hm g hg hin hrow ht
     · exact mayNum_call_thr p f i w hi  hT h m hm g hg hin hrow ht
 · exact mayNum_goal p f i w hi  hT h
end Go.Proofs.YthiiahlgncngoaaDoorRR.Cd
