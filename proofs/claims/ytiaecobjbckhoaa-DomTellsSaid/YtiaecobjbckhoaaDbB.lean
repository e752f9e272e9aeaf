/- Numbers in a row of a block; what a call may change. Conditions: none. -/
import Derived.Test.YtiaecobjbckhoaaDbA
namespace Go.Proofs.Ytiaecobjbckhoaa.Db
open Go Go.RowKit
open Go.WideShapes Go.MapKept

/-- numbers in the first cells of a block -/
structure InR (g n : Nat) (f : Nat → Int) (W : World) : Prop where
  ex : ∃ cur : List Value, n ≤ cur.length ∧ W.heap[g]? = some (.cells ⟨cur⟩ 3 (0, 0)) ∧ ∀ k, k < n → cur[k]? = some (.int .i64 (f k))
theorem InR.lt {g n : Nat} {f : Nat → Int} {W : World} (h : InR g n f W) : g < W.heap.size := by
  obtain ⟨_, _, h, _⟩ := h.ex
  exact (Array.getElem?_eq_some_iff.1 h).1
theorem InR.get {g n : Nat} {f : Nat → Int} {W : World} (h : InR g n f W) {k : Nat} (hk : k < n) : W.cell? ⟨g, k, none⟩ = some (.int .i64 (f k)) ∧ W.frozen? ⟨g, k, none⟩ = false := by
  obtain ⟨cur, h1, h2, h3⟩ := h.ex
  exact ⟨blk_cell h2 (by simpa using h3 k hk), blk_free h2 _⟩
theorem InR.at_ {g n : Nat} {f : Nat → Int} {W W' : World} (h : InR g n f W) (e : W'.heap[g]? = W.heap[g]?) : InR g n f W' := by
  obtain ⟨cur, h1, h2, h3⟩ := h.ex
  exact ⟨cur, h1, by rw [e]; exact h2, h3⟩
theorem InR.cong {g n : Nat} {f f' : Nat → Int} {W : World} (h : InR g n f W) (e : ∀ k, k < n → f' k = f k) : InR g n f' W := by
  obtain ⟨cur, h1, h2, h3⟩ := h.ex
  exact ⟨cur, h1, h2, fun k hk => by rw [e k hk]; exact h3 k hk⟩
theorem InR.set {g n : Nat} {f : Nat → Int} {W : World} (h : InR g n f W) {k : Nat} (hk : k < n) (x : Int) (f' : Nat → Int) (hf : ∀ i, i < n → f' i = if i = k then x else f i) : InR g n f' (W.setCell ⟨g, k, none⟩ (.int .i64 x)) := by
  obtain ⟨cur, h1, h2, h3⟩ := h.ex
  refine ⟨cur.set k (.int .i64 x), by simpa using h1, by rw [heap_set1 h2]; simp, fun i hi => ?_⟩
  rw [hf i hi]
  by_cases e : i = k
  · subst e; rw [List.getElem?_set_self (by omega), if_pos rfl]
  · rw [List.getElem?_set_ne (fun h => e h.symm), if_neg e]; exact h3 i hi
theorem InR.of_own {B n : Nat} {f : Nat → Int} {W : World} {g cap : Nat} (h : W.ownsRow B 3 1 (.slice (some ⟨g, 0, none⟩) n cap) n (numCells (nums n f))) : InR g n f W := by
  rcases h.2 with ⟨e, _⟩ | ⟨q, cap', cur, e, hb, hg, h1, h2, h3, ht⟩
  · cases e
  · cases e
    refine ⟨cur.toList, ?_, hg, fun k hk => ?_⟩
    · have := congrArg List.length ht
      rw [List.length_take, show (numCells (nums n f)).length = n by simp [numCells, nums]] at this
      omega
    · have : (cur.toList.take (n * 1))[k]? = (numCells (nums n f))[k]? := by rw [ht]
      rw [List.getElem?_take, if_pos (by omega)] at this
      rw [this]
      simp [numCells, nums, hk]

/-- all blocks but some are as they were -/
structure Fr (S : Nat → Prop) (W W' : World) : Prop where
  os : W'.os = W.os
  tape : W'.tape = W.tape
  output : W'.output = W.output
  size : W.heap.size ≤ W'.heap.size
  block : ∀ i, i < W.heap.size → ¬S i → W'.heap[i]? = W.heap[i]?
theorem Fr.refl (S : Nat → Prop) (W : World) : Fr S W W := ⟨rfl, rfl, rfl, Nat.le_refl _, fun _ _ _ => rfl⟩
theorem Fr.trans {S : Nat → Prop} {A B C : World} (h : Fr S A B) (k : Fr S B C) : Fr S A C :=
  ⟨k.os.trans h.os, k.tape.trans h.tape, k.output.trans h.output, Nat.le_trans h.size k.size, fun i hi hs => (k.block i (Nat.lt_of_lt_of_le hi h.size) hs).trans (h.block i hi hs)⟩
theorem Fr.mono {S S' : Nat → Prop} {A B : World} (h : Fr S A B) (hs : ∀ i, i < A.heap.size → S i → S' i) : Fr S' A B := ⟨h.os, h.tape, h.output, h.size, fun i hi hn => h.block i hi (fun e => hn (hs i hi e))⟩
theorem Fr.of_below {S : Nat → Prop} {A B : World} (h : Below A.heap.size A B) : Fr S A B := ⟨h.os, h.tape, h.output, h.size, fun i hi _ => h.block i hi⟩
theorem Fr.below {S : Nat → Prop} {A B : World} {n : Nat} (h : Fr S A B) (hn : n ≤ A.heap.size) (hs : ∀ i, S i → n ≤ i) : Below n A B := ⟨h.os, h.tape, h.output, h.size, fun i hi => h.block i (by omega) (fun e => by have := hs i e; omega)⟩
theorem Fr.drew (S : Nat → Prop) (W : World) (n : Nat) : Fr S W (W.drewN n) := ⟨rfl, rfl, rfl, Nat.le_refl _, fun _ _ _ => rfl⟩
theorem Fr.set {S : Nat → Prop} (W : World) {g o : Nat} (v : Value) (hg : S g) : Fr S W (W.setCell ⟨g, o, none⟩ v) :=
  ⟨rfl, rfl, rfl, by simp [World.setCell], fun i _ hn => Below.heap_setCell _ _ _ _ (fun e => hn (e ▸ hg))⟩
theorem Fr.cell {S : Nat → Prop} {A B : World} (h : Fr S A B) {b o : Nat} (hn : ¬S b) {v : Value} (hc : A.cell? ⟨b, o, none⟩ = some v) : B.cell? ⟨b, o, none⟩ = some v := by
  have := h.block b (World.block_lt_of_cell? _ _ hc) hn
  rw [World.cell?_of_block (w := A) this]; exact hc
theorem Fr.inr {S : Nat → Prop} {A B : World} (h : Fr S A B) {g n : Nat} {f : Nat → Int} (hi : InR g n f A) (hn : ¬S g) : InR g n f B := hi.at_ (h.block g hi.lt hn)
theorem Fr.row {S : Nat → Prop} {A B : World} (h : Fr S A B) {a : Option Addr} {cap n : Nat} {xs : List Value} (hr : RowAt A (fun b => ¬S b) a cap n xs) : RowAt B (fun b => ¬S b) a cap n xs :=
  hr.below fun _ _ _ hb hc => h.cell hb hc
end Go.Proofs.Ytiaecobjbckhoaa.Db
