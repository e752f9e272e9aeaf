/- Rows of numbers in memory, numbers in a block, lists of numbers in a block: what is general. Conditions: none. -/
import Derived.Test.YtiaecobjbckhoaaChecked
import Derived.WalkKit
import Derived.ProofKit
import Derived.OpenShut
import Derived.MapKept
import Derived.Maps.Own
import Derived.Maps.OwnOps
import Derived.Maps.OwnSet
import Derived.Maps.AppendAt
import Derived.Below
import Derived.Carry
import Derived.Laws.Rows
import Derived.Laws.CopyOwn
import Derived.Laws.MakeOwn
import Derived.OneCell
import Derived.Laws.Concat
import Derived.RangeFuncNested
import Derived.RangeFuncBound
import Derived.RangeFuncCalls
import Derived.RangeFuncLeaves
import Derived.Deep.Slices
import Derived.OwnWalk
import Derived.BigQuiet
import Derived.Lib.Hide
import Derived.Deep.QuietTactic
import Derived.Deep.Cut
import Derived.Deep.CutBlock
import Derived.Deep.DeepCutAuto
import Derived.Deep.RegionHeld
import Derived.Deep.Draws
import Derived.LoopTactic
import Derived.LoopIn
import Derived.LoopNIn
namespace Go.Proofs.Ytiaecobjbckhoaa.Db
open Go Go.RowKit
open Go.WideShapes Go.MapKept

abbrev Tt : Nat → Prop := fun _ => True
def I64 (a : Int) : Prop := -9223372036854775808 ≤ a ∧ a ≤ 9223372036854775807
/-- the cells of some blocks read on as they read -/
def Kps (S : Nat → Prop) (A B : World) : Prop := ∀ b o v, S b → A.cell? ⟨b, o, none⟩ = some v → B.cell? ⟨b, o, none⟩ = some v
theorem Kps.refl (S : Nat → Prop) (A : World) : Kps S A A := fun _ _ _ _ h => h
theorem Kps.trans {S : Nat → Prop} {A B C : World} (h : Kps S A B) (k : Kps S B C) : Kps S A C := fun b o v hs hc => k b o v hs (h b o v hs hc)
theorem Kps.of_below {S : Nat → Prop} {A B : World} (h : Below A.heap.size A B) : Kps S A B := fun b o _ _ hc => (h.cell (p := ⟨b, o, none⟩) (World.block_lt_of_cell? _ _ hc)).trans hc
theorem Kps.mono {S S' : Nat → Prop} {A B : World} (h : Kps S A B) (hs : ∀ b, S' b → S b) : Kps S' A B := fun b o v hb hc => h b o v (hs b hb) hc
theorem Kps.alloc {S : Nat → Prop} (A : World) (o : Obj) : Kps S A (A.alloc o) := Kps.of_below ((Below.refl _ _).alloc (Nat.le_refl _) _)
/-- a list's cells lie from its address on, in a block of S -/
structure RowAt (w : World) (S : Nat → Prop) (a : Option Addr) (cap n : Nat) (xs : List Value) : Prop where
  le : n ≤ cap
  lim : cap ≤ maxLen
  nil : a = none → cap = 0
  at_ : ∀ j u, xs[j]? = some u → ∃ b off, a = some ⟨b, off, none⟩ ∧ S b ∧ w.cell? ⟨b, off + j, none⟩ = some u
theorem RowAt.below {w w' : World} {S : Nat → Prop} {a : Option Addr} {cap n : Nat} {xs : List Value} (h : RowAt w S a cap n xs) (hb : Kps S w w') : RowAt w' S a cap n xs :=
  ⟨h.le, h.lim, h.nil, fun j u hj => by
    obtain ⟨b, off, ha, hB, hc⟩ := h.at_ j u hj
    exact ⟨b, off, ha, hB, hb _ _ _ hB hc⟩⟩
theorem RowAt.mono {w : World} {S S' : Nat → Prop} {a : Option Addr} {cap n : Nat} {xs : List Value} (h : RowAt w S a cap n xs) (hb : ∀ b, S b → S' b) : RowAt w S' a cap n xs :=
  ⟨h.le, h.lim, h.nil, fun j u hj => by
    obtain ⟨b, off, ha, hB, hc⟩ := h.at_ j u hj
    exact ⟨b, off, ha, hb _ hB, hc⟩⟩
theorem flat_at {α : Type} (f : α → List Value) (c : Nat) (hc : ∀ x, (f x).length = c) : ∀ (l : List α) (i j : Nat) (x : α), l[i]? = some x → j < c → (l.flatMap f)[i * c + j]? = (f x)[j]?
  | [], i, j, x, h, _ => by simp at h
  | y :: r, 0, j, x, h, hj => by
    simp at h; subst h
    rw [List.flatMap_cons, Nat.zero_mul, Nat.zero_add, List.getElem?_append_left (by rw [hc]; exact hj)]
  | y :: r, i + 1, j, x, h, hj => by
    rw [List.flatMap_cons, List.getElem?_append_right (by rw [hc, Nat.succ_mul]; omega), hc]
    have e : (i + 1) * c + j - c = i * c + j := by rw [Nat.succ_mul]; omega
    rw [e]
    exact flat_at f c hc r i j x (by simpa using h) hj
theorem row_get {α : Type} (f : α → List Value) (c : Nat) (hc : ∀ x, (f x).length = c) (hc0 : 0 < c) {w : World} {S : Nat → Prop} {a : Option Addr} {cap : Nat} {l : List α} (h : RowAt w S a cap l.length (l.flatMap f)) (i : Nat) (e : α) (he : l[i]? = some e) :
    ∃ b off, a = some ⟨b, off, none⟩ ∧ S b ∧ ∀ j u, (f e)[j]? = some u → w.cell? ⟨b, off + (i * c + j), none⟩ = some u := by
  have key : ∀ j u, (f e)[j]? = some u → (l.flatMap f)[i * c + j]? = some u := by
    intro j u hu
    have hj : j < c := by have := (List.getElem?_eq_some_iff.1 hu).1; rw [hc] at this; exact this
    rw [flat_at f c hc l i j e he hj]; exact hu
  obtain ⟨u, hu⟩ : ∃ u, (f e)[0]? = some u := ⟨_, List.getElem?_eq_getElem (by rw [hc]; exact hc0)⟩
  obtain ⟨b, off, ha, hb, _⟩ := h.at_ _ _ (key 0 u hu)
  refine ⟨b, off, ha, hb, fun j v hv => ?_⟩
  obtain ⟨b', off', ha', _, hc⟩ := h.at_ _ _ (key j v hv)
  rw [ha] at ha'
  cases ha'
  exact hc
theorem len_i {w : World} {S : Nat → Prop} {a : Option Addr} {cap n : Nat} {xs : List Value} (h : RowAt w S a cap n xs) : n ≤ cap ∧ cap ≤ 9223372036854775807 := ⟨h.le, by have := h.lim; unfold maxLen at this; omega⟩
theorem ret_bool {a b : Bool} (h : a = b) : Ending.returned (.bool a) = .returned (.bool b) := by rw [h]
def numCells (l : List Int) : List Value := l.map (Value.int .i64)
theorem b_alloc (w : World) (o : Obj) : Below w.heap.size w (w.alloc o) := (Below.refl _ _).alloc (Nat.le_refl _) _
theorem num_row {w : World} {S : Nat → Prop} {a : Option Addr} {cap : Nat} {l : List Int} (h : RowAt w S a cap l.length (numCells l)) (i : Nat) (e : Int) (he : l[i]? = some e) :
    ∃ b off, a = some ⟨b, off, none⟩ ∧ S b ∧ w.cell? ⟨b, off + i, none⟩ = some (.int .i64 e) := by
  obtain ⟨b, off, ha, hb, hcl⟩ := h.at_ i (.int .i64 e) (by unfold numCells; rw [List.getElem?_map, he]; rfl)
  exact ⟨b, off, ha, hb, hcl⟩
theorem blk_cell {W : World} {b : Nat} {vs : Array Value} {t : TypeId} {fr : Nat × Nat} (h : W.heap[b]? = some (.cells vs t fr)) {j : Nat} {u : Value} (hu : vs[j]? = some u) : W.cell? ⟨b, j, none⟩ = some u := by
  simp only [World.cell?, h]
  simpa using hu
theorem blk_free {W : World} {b : Nat} {vs : Array Value} {t : TypeId} (h : W.heap[b]? = some (.cells vs t (0, 0))) (j : Nat) : W.frozen? ⟨b, j, none⟩ = false := by
  simp [World.frozen?, h]
theorem bcell {W w1 : World} (hb : Below W.heap.size W w1) : (∀ b o, b < W.heap.size → w1.cell? ⟨b, o, none⟩ = W.cell? ⟨b, o, none⟩) ∧ (∀ b o, b < W.heap.size → w1.frozen? ⟨b, o, none⟩ = W.frozen? ⟨b, o, none⟩) :=
  ⟨fun b o h => hb.cell (p := ⟨b, o, none⟩) h, fun b o h => hb.frozen (p := ⟨b, o, none⟩) h⟩
set_option maxRecDepth 100000 in
theorem info_i : ∃ i, Try.prog.info? 3 = some i ∧ i.zero = some (.int .i64 0) ∧ i.size = 1 ∧ i.bytes = 8 := ⟨_, rfl, rfl, rfl, rfl⟩
theorem own_below {B : Nat} {e : TypeId} {c : Nat} {v : Value} {n : Nat} {xs : List Value} {W W' : World} (h : W.ownsRow B e c v n xs) (hb : Below W.heap.size W W') : W'.ownsRow B e c v n xs :=
  ⟨h.1, h.2.imp id fun ⟨g, cap, cur, hv, hB, hg, hr⟩ => ⟨g, cap, cur, hv, hB, (hb.block g (Array.getElem?_eq_some_iff.1 hg).1).trans hg, hr⟩⟩
theorem one_at (W : World) (v : Value) (t : TypeId) (B : Nat) (hB : W.heap.size = B) : ∀ j u, [v][j]? = some u → (W.alloc (.cells #[v] t)).cell? ((⟨B, 0, none⟩ : Addr).add j) = some u := by
  subst hB; exact cell_one_new _ _ _
theorem info_in : (Try.prog.info? 3).map (fun i => (i.zero, i.size, i.bytes)) = some (some (.int .i64 0), 1, 8) := by kernel_rfl
theorem info_li : (Try.prog.info? 33).map (fun i => (i.zero, i.size, i.bytes)) = some (some (.slice none 0 0), 1, 24) := by kernel_rfl
theorem made_one (v : Value) (hv : v.cells = #[v]) (n : Nat) : madeCells v.cells n = (List.replicate n v).toArray := by
  rw [hv]
  unfold madeCells
  apply Array.ext
  · simp
  · intro i h1 h2
    simp [Nat.mod_one]
theorem make_in (n : Nat) (hn : n ≤ 1000000) (V : World) : (Instr.makeSlice 33 (.int .i64 (n : Int)) (.int .i64 (n : Int))).run Try.prog V = .ok (.slice (some ⟨V.heap.size, 0, none⟩) n n) (V.alloc (.cells (Array.replicate n (Value.int .i64 0)) 3)) := by
  obtain ⟨i0, hi0, hz0, hz1, hz2⟩ := info_parts info_in
  have h := run_makeSlice (P := Try.prog) V 33 3 i0 _ Try.underlying33 hi0 hz0 .i64 .i64 (n : Int) (n : Int) (by omega) (Int.le_refl _) (by rw [hz1]; omega) (by rw [hz2]; omega) (by omega)
  rw [hz1, Int.toNat_natCast, Nat.mul_one, made_one _ rfl, List.toArray_replicate] at h
  exact h
theorem make_ll (n : Nat) (hn : n ≤ 1000000000) (V : World) : (Instr.makeSlice 22 (.int .i64 (n : Int)) (.int .i64 (n : Int))).run Try.prog V = .ok (.slice (some ⟨V.heap.size, 0, none⟩) n n) (V.alloc (.cells (Array.replicate n (Value.slice none 0 0)) 33)) := by
  obtain ⟨i0, hi0, hz0, hz1, hz2⟩ := info_parts info_li
  have h := run_make (P := Try.prog) V 22 33 i0 _ Try.underlying22 hi0 hz0 .i64 .i64 (n : Int) (n : Int) (by omega) (Int.le_refl _) (by rw [hz2]; omega) (by omega)
  rw [hz1, Int.toNat_natCast, Nat.mul_one, made_one _ rfl, List.toArray_replicate] at h
  exact h
theorem num_snoc (l : List Int) (x : Int) : numCells (l ++ [x]) = numCells l ++ [.int .i64 x] := by unfold numCells; rw [List.map_append]; rfl
theorem own_mono {W : World} {B B' : Nat} {e : TypeId} {c : Nat} {v : Value} {n : Nat} {xs : List Value} (h : W.ownsRow B e c v n xs) (hB : B' ≤ B) : W.ownsRow B' e c v n xs :=
  ⟨h.1, h.2.imp id fun ⟨g, cap, cur, hv, hb, hr⟩ => ⟨g, cap, cur, hv, Nat.le_trans hB hb, hr⟩⟩
theorem own_apart {W : World} {B g : Nat} {e : TypeId} {c : Nat} {v : Value} {n : Nat} {xs : List Value} (h : W.ownsRow B e c v n xs) (hg : g < B) : v.ownBlock ≠ some g := fun e' => by
  have := (h.lt _ e').1
  omega
theorem heap_set1 {w : World} {b : Nat} {vs : Array Value} {T : TypeId} {fr : Nat × Nat} (h : w.heap[b]? = some (.cells vs T fr)) (j : Nat) (v : Value) : (w.setCell ⟨b, j, none⟩ v).heap[b]? = some (.cells (vs.setIfInBounds j v) T fr) := by
  unfold World.setCell
  show (w.heap.modify b _)[b]? = _
  rw [Array.getElem?_modify, if_pos rfl, h]
  simp
theorem blk_new (W : World) (o : Obj) {b : Nat} (hb : W.heap.size = b) : (W.alloc o).heap[b]? = some o := by subst hb; exact World.alloc_heap_new _ _
/-- lists of numbers, each in a row of its own, in a block -/
structure Src (B g n : Nat) (f : Nat → List Int) (W : World) : Prop where
  hg : True
  ex : ∃ vs : List Value, vs.length = n ∧ W.heap[g]? = some (.cells ⟨vs⟩ 33 (0, 0)) ∧
    (∀ (k : Nat) (v : Value), vs[k]? = some v → W.ownsRow B 3 1 v (f k).length (numCells (f k))) ∧
    (∀ (i j : Nat) (v u : Value), i ≠ j → vs[i]? = some v → vs[j]? = some u → v.ownBlock ≠ none → v.ownBlock ≠ u.ownBlock)
theorem row_none (W : World) (S : Nat → Prop) : RowAt W S none 0 0 [] := ⟨Nat.le_refl _, by unfold maxLen; omega, fun _ => rfl, fun j u hj => by simp at hj⟩
theorem Src.start (W : World) (B n : Nat) (_ : B ≤ W.heap.size) : Src B W.heap.size n (fun _ => []) (W.alloc (.cells (Array.replicate n (.slice none 0 0)) 33)) := by
  refine ⟨trivial, List.replicate n (.slice none 0 0), by simp, ?_, ?_, ?_⟩
  · rw [blk_new W _ rfl]; simp
  · intro k v hv
    rw [List.getElem?_replicate] at hv
    split at hv
    · cases hv; exact World.ownsRow_nil _ _ _ _
    · cases hv
  · intro i j v u _ hv _ hne
    rw [List.getElem?_replicate] at hv
    split at hv
    · cases hv; exact absurd rfl hne
    · cases hv
theorem Src.keep {B g n : Nat} {f : Nat → List Int} {W W' : World} (h : Src B g n f W) (hb : Below W.heap.size W W') : Src B g n f W' := by
  obtain ⟨hg, vs, h1, h2, h3, h4⟩ := h
  exact ⟨hg, vs, h1, (hb.block g (Array.getElem?_eq_some_iff.1 h2).1).trans h2, fun k v hv => own_below (h3 k v hv) hb, h4⟩
theorem Src.cong {B g n : Nat} {f f' : Nat → List Int} {W : World} (h : Src B g n f W) (e : ∀ k, k < n → f k = f' k) : Src B g n f' W := by
  obtain ⟨hg, vs, h1, h2, h3, h4⟩ := h
  refine ⟨hg, vs, h1, h2, fun k v hv => ?_, h4⟩
  rw [← e k (by rw [← h1]; exact (List.getElem?_eq_some_iff.1 hv).1)]
  exact h3 k v hv
theorem row_own1 {W : World} {B : Nat} {v : Value} {l : List Int} (h : W.ownsRow B 3 1 v l.length (numCells l)) : ∃ a cap, v = .slice a l.length cap ∧ RowAt W Tt a cap l.length (numCells l) := by
  rcases h.2 with ⟨rfl, h0⟩ | ⟨g, cap, cur, rfl, _, hg, h1, h2, _, ht⟩
  · have hl : l = [] := List.eq_nil_of_length_eq_zero h0
    subst hl
    exact ⟨none, 0, rfl, row_none _ _⟩
  · refine ⟨some ⟨g, 0, none⟩, cap, rfl, h1, h2, fun e => (by cases e), fun j u hu => ⟨g, 0, rfl, trivial, ?_⟩⟩
    rw [Nat.zero_add]
    have hjl : j < (numCells l).length := (List.getElem?_eq_some_iff.1 hu).1
    rw [show (numCells l).length = l.length from by simp [numCells]] at hjl
    rw [← ht, List.getElem?_take, if_pos (by omega)] at hu
    simp only [World.cell?, hg]
    simpa using hu
theorem Src.get {B g n : Nat} {f : Nat → List Int} {W : World} (h : Src B g n f W) {k : Nat} (hk : k < n) : ∃ a cap, W.cell? ⟨g, k, none⟩ = some (.slice a (f k).length cap) ∧ W.frozen? ⟨g, k, none⟩ = false ∧ W.ownsRow B 3 1 (.slice a (f k).length cap) (f k).length (numCells (f k)) ∧ RowAt W Tt a cap (f k).length (numCells (f k)) := by
  obtain ⟨hg, vs, h1, h2, h3, h4⟩ := h
  obtain ⟨v, hv⟩ : ∃ v, vs[k]? = some v := ⟨_, List.getElem?_eq_getElem (by omega)⟩
  have ho := h3 k v hv
  obtain ⟨a, cap, rfl, hr⟩ := row_own1 ho
  exact ⟨a, cap, blk_cell h2 (by simpa using hv), blk_free h2 _, ho, hr⟩
theorem own_ne {B g : Nat} {vs : Array Value} {v : Value} {m : Nat} {xs : List Value} {W : World} (hg : W.heap[g]? = some (.cells vs 33 (0, 0))) (h : W.ownsRow B 3 1 v m xs) : v.ownBlock ≠ some g := by
  intro e
  rcases h.2 with ⟨rfl, _⟩ | ⟨q, cap, cur, rfl, _, hq, _⟩
  · cases e
  · have : q = g := by simpa [Value.ownBlock] using e
    subst this
    rw [hg] at hq
    have := Option.some.inj hq
    simp at this
theorem Src.at3 {B g n : Nat} {f : Nat → List Int} {W w3 : World} {o : Obj} {v : Value} (h : Src B g n f W) {k : Nat} (hk : k < n) (hc : W.cell? ⟨g, k, none⟩ = some v) (hgr : (W.alloc o).grownBy w3 v.ownBlock) :
    w3.cell? ⟨g, k, none⟩ = some v ∧ w3.frozen? ⟨g, k, none⟩ = false ∧ g < w3.heap.size := by
  obtain ⟨hg, vs, h1, h2, h3, h4⟩ := h
  have hgl := (Array.getElem?_eq_some_iff.1 h2).1
  have hv : vs[k]? = some v := by
    obtain ⟨u, hu⟩ : ∃ v, vs[k]? = some v := ⟨_, List.getElem?_eq_getElem (by omega)⟩
    have := blk_cell h2 (j := k) (u := u) (by simpa using hu)
    rw [hc] at this; cases this; exact hu
  have hb3 : w3.heap[g]? = some (.cells ⟨vs⟩ 33 (0, 0)) :=
    (hgr.block g (by simp; omega) (fun e => own_ne h2 (h3 k v hv) e.symm)).trans ((Below.heap_alloc _ _ _ hgl).trans h2)
  exact ⟨blk_cell hb3 (by simpa using hv), blk_free hb3 _, (Array.getElem?_eq_some_iff.1 hb3).1⟩
theorem Src.step {B g n : Nat} {f : Nat → List Int} {W w3 : World} {o : Obj} {v v' : Value} {x : Int} (h : Src B g n f W) {k : Nat} (hk : k < n) (hc : W.cell? ⟨g, k, none⟩ = some v) (hgr : (W.alloc o).grownBy w3 v.ownBlock)
    (ho : w3.ownsRow B 3 1 v' ((f k).length + 1) (numCells (f k) ++ [.int .i64 x])) (hloc : v'.ownBlock = v.ownBlock ∨ v'.ownBlock = some (W.alloc o).heap.size) :
    Src B g n (fun i => if i = k then f k ++ [x] else f i) (w3.setCell ⟨g, k, none⟩ v') := by
  obtain ⟨hg, vs, h1, h2, h3, h4⟩ := h
  have hgl := (Array.getElem?_eq_some_iff.1 h2).1
  have hv : vs[k]? = some v := by
    obtain ⟨u, hu⟩ : ∃ v, vs[k]? = some v := ⟨_, List.getElem?_eq_getElem (by omega)⟩
    have := blk_cell h2 (j := k) (u := u) (by simpa using hu)
    rw [hc] at this; cases this; exact hu
  have hb3 : w3.heap[g]? = some (.cells ⟨vs⟩ 33 (0, 0)) :=
    (hgr.block g (by simp; omega) (fun e => own_ne h2 (h3 k v hv) e.symm)).trans ((Below.heap_alloc _ _ _ hgl).trans h2)
  have hnew : ∀ (i : Nat) (y : Value), (vs.set k v')[i]? = some y → (i = k ∧ y = v') ∨ (i ≠ k ∧ vs[i]? = some y) := by
    intro i y hy
    by_cases hik : i = k
    · subst hik
      rw [List.getElem?_set_self (by omega)] at hy
      cases hy; exact .inl ⟨rfl, rfl⟩
    · rw [List.getElem?_set_ne (by omega)] at hy
      exact .inr ⟨hik, hy⟩
  refine ⟨hg, vs.set k v', by simp [h1], ?_, ?_, ?_⟩
  · have := heap_set1 hb3 k v'
    rw [this]; simp
  · intro i y hy
    rcases hnew i y hy with ⟨rfl, rfl⟩ | ⟨hik, hvi⟩
    · simp only [if_true]
      have hx : numCells (f i ++ [x]) = numCells (f i) ++ [.int .i64 x] := by unfold numCells; rw [List.map_append]; rfl
      rw [hx, List.length_append]
      exact ownsRow_setCell_other ho (own_ne hb3 ho) _
    · simp only [if_neg hik]
      have hr := h3 i y hvi
      have hr3 : w3.ownsRow B 3 1 y (f i).length (numCells (f i)) := by
        refine World.ownsRow.kept (own_below hr (b_alloc W o)) hgr ?_
        by_cases hn : y.ownBlock = none
        · exact .inl hn
        · exact .inr (h4 i k y v hik hvi hv hn)
      exact ownsRow_setCell_other hr3 (own_ne hb3 hr3) _
  · intro i j y u hij hy hu hne
    have hlt : ∀ (i : Nat) (y : Value), vs[i]? = some y → y.ownBlock ≠ some (W.alloc o).heap.size := by
      intro i y hy e
      have := (h3 i y hy).lt _ e
      simp at this
      omega
    rcases hnew i y hy with ⟨rfl, rfl⟩ | ⟨hik, hvi⟩
    · rcases hnew j u hu with ⟨rfl, _⟩ | ⟨hjk, hvj⟩
      · exact absurd rfl hij
      · rcases hloc with e | e
        · rw [e] at hne ⊢
          exact h4 i j v u hij hv hvj hne
        · rw [e]
          exact fun e' => hlt j u hvj e'.symm
    · rcases hnew j u hu with ⟨rfl, rfl⟩ | ⟨hjk, hvj⟩
      · rcases hloc with e | e
        · rw [e]
          exact h4 i j y v hij hvi hv hne
        · rw [e]
          exact hlt i y hvi
      · exact h4 i j y u hij hvi hvj hne
/-- numbers in a block -/
structure InB (g n : Nat) (f : Nat → Int) (W : World) : Prop where
  ex : W.heap[g]? = some (.cells ⟨(List.range n).map fun j => .int .i64 (f j)⟩ 3 (0, 0))
theorem InB.start (W : World) (n : Nat) : InB W.heap.size n (fun _ => 0) (W.alloc (.cells (Array.replicate n (.int .i64 0)) 3)) := ⟨by
  rw [blk_new W _ rfl]
  congr 2
  apply Array.toList_inj.1
  apply List.ext_getElem?
  intro i
  simp [List.getElem?_replicate]
  by_cases h : i < n <;> simp [h]⟩
theorem InB.keep {g n : Nat} {f : Nat → Int} {W W' : World} (h : InB g n f W) (hb : Below W.heap.size W W') : InB g n f W' :=
  ⟨(hb.block g (Array.getElem?_eq_some_iff.1 h.ex).1).trans h.ex⟩
theorem InB.lt {g n : Nat} {f : Nat → Int} {W : World} (h : InB g n f W) : g < W.heap.size := (Array.getElem?_eq_some_iff.1 h.ex).1
theorem InB.cong {g n : Nat} {f f' : Nat → Int} {W : World} (h : InB g n f W) (e : ∀ k, k < n → f k = f' k) : InB g n f' W := ⟨by
  rw [h.ex]
  congr 3
  apply List.map_congr_left
  intro k hk
  rw [e k (List.mem_range.1 hk)]⟩
theorem InB.get {g n : Nat} {f : Nat → Int} {W : World} (h : InB g n f W) {k : Nat} (hk : k < n) : W.cell? ⟨g, k, none⟩ = some (.int .i64 (f k)) ∧ W.frozen? ⟨g, k, none⟩ = false :=
  ⟨blk_cell h.ex (by simp [hk]), blk_free h.ex _⟩
theorem InB.set {g n : Nat} {f : Nat → Int} {W : World} (h : InB g n f W) {k : Nat} (hk : k < n) (x : Int) (f' : Nat → Int) (hf : ∀ i, i < n → f' i = if i = k then x else f i) : InB g n f' (W.setCell ⟨g, k, none⟩ (.int .i64 x)) := ⟨by
  rw [heap_set1 h.ex]
  congr 2
  apply Array.toList_inj.1
  rw [Array.toList_setIfInBounds]
  apply List.ext_getElem?
  intro i
  by_cases hi : i < n
  · rw [List.getElem?_set]
    simp only [List.getElem?_map, List.getElem?_range hi, Option.map_some, List.length_map, List.length_range]
    rw [hf i hi]
    by_cases e : k = i
    · rw [if_pos e, if_pos (by omega), if_pos e.symm]
    · rw [if_neg e, if_neg (by omega)]
  · rw [List.getElem?_eq_none (by simp; omega), List.getElem?_eq_none (by simp; omega)]⟩
def nums (n : Nat) (f : Nat → Int) : List Int := (List.range n).map f
theorem nums_len (n : Nat) (f : Nat → Int) : (nums n f).length = n := by simp [nums]
theorem nums_get {n k : Nat} (f : Nat → Int) (h : k < n) : (nums n f)[k]? = some (f k) := by simp [nums, h]
theorem InB.row {g n : Nat} {f : Nat → Int} {W : World} (h : InB g n f W) (hn : n ≤ maxLen) : RowAt W Tt (some ⟨g, 0, none⟩) n n (numCells (nums n f)) := by
  refine ⟨Nat.le_refl _, hn, fun e => (by cases e), fun j u hu => ⟨g, 0, rfl, trivial, ?_⟩⟩
  rw [Nat.zero_add]
  refine blk_cell h.ex ?_
  unfold numCells nums at hu
  rw [List.map_map] at hu
  simpa using hu
end Go.Proofs.Ytiaecobjbckhoaa.Db
