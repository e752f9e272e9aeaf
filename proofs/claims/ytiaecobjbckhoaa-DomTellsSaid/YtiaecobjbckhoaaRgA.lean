/- A range over a function whose iterator tells the round, beside the value, what lies in memory when it yields. Conditions: none. -/
import Derived.RangeFuncNested
import Derived.RangeFuncBound
import Derived.RangeFuncCalls
import Derived.RangeFuncLeaves
import Derived.Below
namespace Go.Proofs.Ytiaecobjbckhoaa.Rg
open Go Go.RowKit

/-- all cells read alike -/
structure Ceq (A B : World) : Prop where
  cell : ∀ a, B.cell? a = A.cell? a
  frozen : ∀ a, B.frozen? a = A.frozen? a
  size : B.heap.size = A.heap.size

theorem ceq_loop {W : World} {l : Nat} {r r' : Loop} (h : W.heap[l]? = some (.loop r)) : Ceq W (W.putObj l (.loop r')) := by
  have hl := (Array.getElem?_eq_some_iff.1 h).1
  refine ⟨fun a => ?_, fun a => ?_, World.putObj_size⟩
  · by_cases ha : a.block = l
    · unfold World.cell?; rw [ha, World.putObj_heap_same hl, h]
    · simp [World.cell?, World.putObj_heap_other ha]
  · by_cases ha : a.block = l
    · unfold World.frozen?; rw [ha, World.putObj_heap_same hl, h]
    · simp [World.frozen?, World.putObj_heap_other ha]
theorem ceq_deferred {W : World} {l : Nat} {d d' : Option (List Deferred)} (h : W.heap[l]? = some (.deferred d)) : Ceq W (W.putObj l (.deferred d')) := by
  have hl := (Array.getElem?_eq_some_iff.1 h).1
  refine ⟨fun a => ?_, fun a => ?_, World.putObj_size⟩
  · by_cases ha : a.block = l
    · unfold World.cell?; rw [ha, World.putObj_heap_same hl, h]
    · simp [World.cell?, World.putObj_heap_other ha]
  · by_cases ha : a.block = l
    · unfold World.frozen?; rw [ha, World.putObj_heap_same hl, h]
    · simp [World.frozen?, World.putObj_heap_other ha]
theorem below_put {B l : Nat} (W : World) (o : Obj) (hl : B ≤ l) : Below B W (W.putObj l o) :=
  ⟨rfl, rfl, rfl, by rw [World.putObj_size]; exact Nat.le_refl _, fun k hk => World.putObj_heap_other (by omega)⟩

/-- how a round's body may be left: on, or by the function's return -/
def rgPost {α : Type} (B : Nat) (Kp : World → World → Prop) (I Ix : List α → World → Prop) (xs : List α) (W : World) : Exit → Act → World → Prop
  | .normal, _, W' => KeepsFrom B W W' ∧ Kp W W' ∧ I xs W'
  | .ret, _, W' => KeepsFrom B W W' ∧ Ix xs W'
  | _, _, _ => False

/-- abides what reads alike, and new blocks -/
structure Abd (B : Nat) {α : Type} (I : α → World → Prop) : Prop where
  ceq : ∀ s W W', I s W → Ceq W W' → Below B W W' → I s W'
  alloc : ∀ s W o, I s W → B ≤ W.heap.size → I s (W.alloc o)

theorem range_law {α : Type} {F : Fence} {n : Nat} {P : Program} {g : Operand} {ps : Array Tmp} {assign body : Code} {Q : Exit → Act → World → Prop} {a : Act} {w : World}
    (hro : F.round = none) (hd : F.depth = none) {gf : Nat} {lb : Array Value} (hg : a.eval g = .func (.func gf) #[] lb) (hFg : F.fn gf) (eg : ∀ args w, (callFunc gf args).run P w = .ok (.enter gf args) w)
    {encs : α → Array Value} (hps : ∀ x, (encs x).size = ps.size) (R : α → World → Prop) (Kp : World → World → Prop) (S Sp : List α → Prop) (N : Nat)
    (hseq : ∀ (l : Nat) (J Jx : List α → World → Prop) (W : World), W.heap.size = w.heap.size + 2 → Below w.heap.size w W →
      (∀ m pre x W1, J pre W1 → R x W1 → pre.length < N → YieldAt F m P l (encs x) W1 fun e W' =>
        (e = .returned (.bool true) ∧ J (pre ++ [x]) W' ∧ Kp W1 W') ∨ (e = .returned (.bool false) ∧ Jx (pre ++ [x]) W')) →
      (∀ pre W1 o, J pre W1 → J pre (W1.alloc o)) → J [] W →
      CallsIn F (n - 1) P gf (#[.func (.yield l) #[] #[]] ++ lb) W fun e W' => (∃ v, e = .returned v) ∧ ((∃ xs, S xs ∧ J xs W') ∨ (∃ pre, Sp pre ∧ Jx pre W')))
    (hKt : ∀ {A B C : World}, Kp A B → Kp B C → Kp A C) (hKc : ∀ {A B : World}, Ceq A B → Kp A B)
    (I Ix : List α → World → Prop) (hI : Abd w.heap.size I) (hIx : Abd w.heap.size Ix) (hIs : ∀ pre W, I pre W → w.heap.size ≤ W.heap.size) (h0 : I [] w)
    (hround : ∀ (l m : Nat) (pre : List α) (x : α) (W : World), I pre W → R x W → pre.length < N →
      assign.wpIn (F.inRound l) m P (Exit.then (fun a₁ W₁ => KeepsFrom w.heap.size W W₁ ∧ Kp W W₁ ∧ ∀ W₂, Ceq W₁ W₂ → Below w.heap.size W₁ W₂ → body.wpIn (F.inRound l) m P (rgPost w.heap.size Kp I Ix (pre ++ [x]) W₂) a₁ W₂) (fun _ _ _ => False))
        { tmps := (ps.zip (encs x)).foldl (fun t (p, v) => t.setIfInBounds p v) a.tmps, defers := [] } W)
    (hdone : ∀ (D : Nat) (xs : List α) (W : World), w.heap.size ≤ D → S xs → I xs W → W.heap[D]? = some (.deferred (some [])) → Q .normal { a with defers := { target := .collected D, args := #[] } :: a.defers } W)
    (hstop : ∀ (D : Nat) (pre : List α) (W : World), w.heap.size ≤ D → Sp pre → Ix pre W → W.heap[D]? = some (.deferred (some [])) → Code.ret.wpIn F n P Q { a with defers := { target := .collected D, args := #[] } :: a.defers } W) :
    (Code.rangeFunc g ps assign body).wpIn F n P Q a w := by
  refine wpIn_rangeFunc fun fn hfn => ?_
  rw [hro]
  obtain ⟨rec, hrec⟩ : ∃ rec : LoopState → Option Code → Loop, rec = fun st pe => { state := st, pending := pe, fn, tmps := a.tmps, params := ps, assign, body, defers := w.heap.size } := ⟨_, rfl⟩
  obtain ⟨W1, hW1⟩ : ∃ W1, (w.alloc (.deferred (some []))).alloc (.loop (rec .ready none)) = W1 := ⟨_, rfl⟩
  have hL1 : W1.heap[w.heap.size + 1]? = some (.loop (rec .ready none)) := by
    rw [← hW1]; have := World.alloc_heap_new (w.alloc (.deferred (some []))) (.loop (rec .ready none)); rwa [World.size_alloc] at this
  have hK1 : W1.heap[w.heap.size]? = some (.deferred (some [])) := by
    rw [← hW1]; exact (Below.heap_alloc _ _ _ (by simp)).trans (World.alloc_heap_new w _)
  have hI1 : I [] W1 := by rw [← hW1]; exact hI.alloc _ _ _ (hI.alloc _ _ _ h0 (Nat.le_refl _)) (by simp)
  have hs1 : W1.heap.size = w.heap.size + 2 := by rw [← hW1]; simp
  have hb1 : Below w.heap.size w W1 := by rw [← hW1]; exact ((Below.refl _ w).alloc (Nat.le_refl _) _).alloc (by simp) _
  have hparams : ∀ st pe, (rec st pe).params = ps := fun _ _ => by rw [hrec]
  refine ⟨w.heap.size + 1, [{ target := .collected w.heap.size, args := #[] }], W1, { target := .fn (.func gf) lb, args := #[.func (.yield (w.heap.size + 1)) #[] #[]] }, W1, gf,
    #[.func (.yield (w.heap.size + 1)) #[] #[]] ++ lb, W1, ?_, ?_, ?_, ?_, fun h => (by rw [hd] at h; cases h), ?_⟩
  · rw [← hW1, hrec]; exact run_enterLoop_outer _ _ _ _ _
  · simp only [resolve, hg]
    simp [go_sem]
  · intro f' hf'; simp [Target.leads] at hf'; subst hf'; exact hFg
  · simp [invoke, go_sem, eg]
  refine (hseq (w.heap.size + 1)
    (fun pre W => I pre W ∧ W.heap[w.heap.size + 1]? = some (.loop (rec .ready none)) ∧ W.heap[w.heap.size]? = some (.deferred (some [])))
    (fun pre W => Ix pre W ∧ W.heap[w.heap.size + 1]? = some (.loop (rec .done (some .ret))) ∧ W.heap[w.heap.size]? = some (.deferred (some [])))
    W1 hs1 hb1 ?_ ?_ ⟨hI1, hL1, hK1⟩).mono ?_
  · -- one round
    rintro m pre x W ⟨hi, hl, hk⟩ hr hlen
    have hy := run_yield (P := P) (args := encs x) hl (by rw [hparams]; exact hps x)
    rw [hrec] at hy
    refine ⟨fn, _, assign, body, hy, roundIn_of_wpIn hfn (wpIn_mono (hround _ _ pre x W hi hr hlen) ?_)⟩
    clear hy
    rintro e a₁ Wa hp
    cases e with
    | normal =>
      obtain ⟨hka, hpa, hbody⟩ := hp
      have hla := hka.same _ _ (by omega) hl rfl
      have hkka := hka.same _ _ (Nat.le_refl _) hk rfl
      have hlt : w.heap.size + 1 < Wa.heap.size := (Array.getElem?_eq_some_iff.1 hla).1
      refine ⟨_, run_beginRound hla (by rw [hrec]), ?_⟩
      have hl2 : (Wa.putObj (w.heap.size + 1) (.loop { rec .ready none with state := .busy })).heap[w.heap.size + 1]? = some (.loop { rec .ready none with state := .busy }) := World.putObj_heap_same hlt
      have hk2 : (Wa.putObj (w.heap.size + 1) (.loop { rec .ready none with state := .busy })).heap[w.heap.size]? = some (.deferred (some [])) := (World.putObj_heap_other (by omega)).trans hkka
      have hc2 : Ceq Wa (Wa.putObj (w.heap.size + 1) (.loop { rec .ready none with state := .busy })) := ceq_loop hla
      refine wpIn_mono (hbody _ hc2 (below_put _ _ (by omega))) ?_
      have fin : ∀ (jump : Option Code) (W3 : World), KeepsFrom w.heap.size (Wa.putObj (w.heap.size + 1) (.loop { rec .ready none with state := .busy })) W3 →
          (Instr.endRound (w.heap.size + 1) jump).run P W3 = .ok (.bool jump.isNone) (W3.putObj (w.heap.size + 1) (.loop (rec (if jump.isNone then .ready else .done) jump))) ∧
          (W3.putObj (w.heap.size + 1) (.loop (rec (if jump.isNone then .ready else .done) jump))).heap[w.heap.size + 1]? = some (.loop (rec (if jump.isNone then .ready else .done) jump)) ∧
          (W3.putObj (w.heap.size + 1) (.loop (rec (if jump.isNone then .ready else .done) jump))).heap[w.heap.size]? = some (.deferred (some [])) ∧
          Ceq W3 (W3.putObj (w.heap.size + 1) (.loop (rec (if jump.isNone then .ready else .done) jump))) := fun jump W3 hk3 => by
        have hl3 := hk3.same _ _ (by omega) hl2 rfl
        have hrun := run_endRound (P := P) jump hl3
        have hcq := ceq_loop (r' := rec (if jump.isNone then .ready else .done) jump) hl3
        rw [hrec] at hrun hcq ⊢
        exact ⟨hrun, World.putObj_heap_same (Array.getElem?_eq_some_iff.1 hl3).1, (World.putObj_heap_other (by omega)).trans (hk3.same _ _ (Nat.le_refl _) hk2 rfl), hcq⟩
      rintro e a3 W3 hp3
      cases e with
      | normal =>
        obtain ⟨hk3, hkp3, hi3⟩ := hp3
        obtain ⟨hrun, hl4, hk4, hc4⟩ := fin none W3 hk3
        exact ⟨_, _, hrun, .inl ⟨rfl, ⟨hI.ceq _ _ _ hi3 hc4 (below_put _ _ (by omega)), hl4, hk4⟩, hKt hpa (hKt (hKt (hKc hc2) hkp3) (hKc hc4))⟩⟩
      | ret =>
        obtain ⟨hk3, hi3⟩ := hp3
        obtain ⟨hrun, hl4, hk4, hc4⟩ := fin (some .ret) W3 hk3
        exact ⟨_, _, hrun, .inr ⟨rfl, hIx.ceq _ _ _ hi3 hc4 (below_put _ _ (by omega)), hl4, hk4⟩⟩
      | exit id => exact hp3.elim
      | goto t => exact hp3.elim
      | panic ch => exact hp3.elim
      | outgrown => exact hp3.elim
    | ret => exact hp.elim
    | exit id => exact hp.elim
    | goto t => exact hp.elim
    | panic ch => exact hp.elim
    | outgrown => exact hp.elim
  · rintro pre W o ⟨hi, hl, hk⟩
    exact ⟨hI.alloc _ _ _ hi (hIs _ _ hi), (Below.heap_alloc _ _ _ (Array.getElem?_eq_some_iff.1 hl).1).trans hl, (Below.heap_alloc _ _ _ (Array.getElem?_eq_some_iff.1 hk).1).trans hk⟩
  · -- behind the iterator
    rintro e W2 ⟨⟨v, rfl⟩, (⟨xs, hS, hi, hl, hk⟩ | ⟨pre, hSp, hi, hl, hk⟩)⟩
    · have hend := run_endLoop (P := P) hl (by rw [hrec]; simp)
      rw [hrec] at hend
      exact ⟨none, _, hend, hdone _ xs _ (Nat.le_refl _) hS (hI.ceq _ _ _ hi (ceq_loop hl) (below_put _ _ (by omega))) ((World.putObj_heap_other (by omega)).trans hk)⟩
    · have hend := run_endLoop (P := P) hl (by rw [hrec]; simp)
      rw [hrec] at hend
      exact ⟨some .ret, _, hend, hstop _ pre _ (Nat.le_refl _) hSp (hIx.ceq _ _ _ hi (ceq_loop hl) (below_put _ _ (by omega))) ((World.putObj_heap_other (by omega)).trans hk)⟩
end Go.Proofs.Ytiaecobjbckhoaa.Rg
