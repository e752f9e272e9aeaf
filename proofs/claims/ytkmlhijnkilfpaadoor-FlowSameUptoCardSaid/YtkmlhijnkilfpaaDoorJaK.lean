/- make of lists of numbers, of lists of lists. Conditions: bounded lengths. Walk of sources. Conditions: the blocks lie in memory; each goes to blocks. -/
import Derived.Test.YtkmlhijnkilfpaaDoorJFwA
import Derived.Laws.CopyOwn
import Derived.Laws.MakeOwn
import Derived.Test.YtkmlhijnkilfpaaDoorJaJ
import Derived.Test.YtkmlhijnkilfpaaDoorJaH
import Derived.Test.YtkmlhijnkilfpaaDoorJaI
import Derived.OneCell
namespace Go.Proofs.YtkmlhijnkilfpaaDoor.Fw
open Go Go.RowKit
theorem info_in : (Tryd.prog.info? 3).map (fun i => (i.zero, i.size, i.bytes)) = some (some (.int .i64 0), 1, 8) := by kernel_rfl
theorem info_li : (Tryd.prog.info? 40).map (fun i => (i.zero, i.size, i.bytes)) = some (some (.slice none 0 0), 1, 24) := by kernel_rfl
theorem made_one (v : Value) (hv : v.cells = #[v]) (n : Nat) : madeCells v.cells n = (List.replicate n v).toArray := by
  rw [hv]
  unfold madeCells
  apply Array.ext
  · simp
  · intro i h1 h2
    simp [Nat.mod_one]
theorem make_in (n : Nat) (hn : n ≤ 1000000) (V : World) : (Instr.makeSlice 40 (.int .i64 (n : Int)) (.int .i64 (n : Int))).run Tryd.prog V = .ok (.slice (some ⟨V.heap.size, 0, none⟩) n n) (V.alloc (.cells (Array.replicate n (Value.int .i64 0)) 3)) := by
  obtain ⟨i0, hi0, hz0, hz1, hz2⟩ := info_parts info_in
  have h := run_makeSlice (P := Tryd.prog) V 40 3 i0 _ Tryd.underlying40 hi0 hz0 .i64 .i64 (n : Int) (n : Int) (by omega) (Int.le_refl _) (by rw [hz1]; omega) (by rw [hz2]; omega) (by omega)
  rw [hz1, Int.toNat_natCast, Nat.mul_one, made_one _ rfl, List.toArray_replicate] at h
  exact h
theorem make_ll (n : Nat) (hn : n ≤ 1000000000) (V : World) : (Instr.makeSlice 87 (.int .i64 (n : Int)) (.int .i64 (n : Int))).run Tryd.prog V = .ok (.slice (some ⟨V.heap.size, 0, none⟩) n n) (V.alloc (.cells (Array.replicate n (Value.slice none 0 0)) 40)) := by
  obtain ⟨i0, hi0, hz0, hz1, hz2⟩ := info_parts info_li
  have h := run_make (P := Tryd.prog) V 87 40 i0 _ Tryd.underlying87 hi0 hz0 .i64 .i64 (n : Int) (n : Int) (by omega) (Int.le_refl _) (by rw [hz2]; omega) (by omega)
  rw [hz1, Int.toNat_natCast, Nat.mul_one, made_one _ rfl, List.toArray_replicate] at h
  exact h
end Go.Proofs.YtkmlhijnkilfpaaDoor.Fw
namespace Go.Proofs.YtkmlhijnkilfpaaDoor.Fw
open Go Go.RowKit
open Go.Proofs.YtkmlhijnkilfpaaDoor.Lx Go.Proofs.YtkmlhijnkilfpaaDoor.Tr Go.Proofs.YtkmlhijnkilfpaaDoor.Cd

/-- lists of numbers, each in a row of its own, in a block -/
structure Src (B g n : Nat) (f : Nat → List Int) (W : World) : Prop where
  hg : B ≤ g
  ex : ∃ vs : List Value, vs.length = n ∧ W.heap[g]? = some (.cells ⟨vs⟩ 40 (0, 0)) ∧
    (∀ (k : Nat) (v : Value), vs[k]? = some v → W.ownsRow B 3 1 v (f k).length (numCells (f k))) ∧
    (∀ (i j : Nat) (v u : Value), i ≠ j → vs[i]? = some v → vs[j]? = some u → v.ownBlock ≠ none → v.ownBlock ≠ u.ownBlock)
theorem row_none (W : World) (S : Nat → Prop) : RowAt W S none 0 0 [] := ⟨Nat.le_refl _, by unfold maxLen; omega, fun _ => rfl, fun j u hj => by simp at hj⟩
theorem Src.start (W : World) (B n : Nat) (h : B ≤ W.heap.size) : Src B W.heap.size n (fun _ => []) (W.alloc (.cells (Array.replicate n (.slice none 0 0)) 40)) := by
  refine ⟨h, List.replicate n (.slice none 0 0), by simp, ?_, ?_, ?_⟩
  · rw [blk_new W _ rfl]; simp
  · intro k v hv
    rw [List.getElem?_replicate] at hv
    split at hv
    · cases hv; exact World.ownsRow_nil _ _ _ _
    · cases hv
  · intro i j v u _ hv _ hne
    rw [List.getElem?_replicate] at hv
    split at hv
    · cases hv; exact absurd rfl hne
    · cases hv
theorem Src.keep {B g n : Nat} {f : Nat → List Int} {W W' : World} (h : Src B g n f W) (hb : Below W.heap.size W W') : Src B g n f W' := by
  obtain ⟨hg, vs, h1, h2, h3, h4⟩ := h
  exact ⟨hg, vs, h1, (hb.block g (Array.getElem?_eq_some_iff.1 h2).1).trans h2, fun k v hv => own_below (h3 k v hv) hb, h4⟩
theorem Src.cong {B g n : Nat} {f f' : Nat → List Int} {W : World} (h : Src B g n f W) (e : ∀ k, k < n → f k = f' k) : Src B g n f' W := by
  obtain ⟨hg, vs, h1, h2, h3, h4⟩ := h
  refine ⟨hg, vs, h1, h2, fun k v hv => ?_, h4⟩
  rw [← e k (by rw [← h1]; exact (List.getElem?_eq_some_iff.1 hv).1)]
  exact h3 k v hv
theorem row_own1 {W : World} {B : Nat} {v : Value} {l : List Int} (h : W.ownsRow B 3 1 v l.length (numCells l)) : ∃ a cap, v = .slice a l.length cap ∧ RowAt W Tt a cap l.length (numCells l) := by
  rcases h.2 with ⟨rfl, h0⟩ | ⟨g, cap, cur, rfl, _, hg, h1, h2, _, ht⟩
  · have hl : l = [] := List.eq_nil_of_length_eq_zero h0
    subst hl
    exact ⟨none, 0, rfl, row_none _ _⟩
  · refine ⟨some ⟨g, 0, none⟩, cap, rfl, h1, h2, fun e => (by cases e), fun j u hu => ⟨g, 0, rfl, trivial, ?_⟩⟩
    rw [Nat.zero_add]
    have hjl : j < (numCells l).length := (List.getElem?_eq_some_iff.1 hu).1
    rw [show (numCells l).length = l.length from by simp [numCells]] at hjl
    rw [← ht, List.getElem?_take, if_pos (by omega)] at hu
    simp only [World.cell?, hg]
    simpa using hu
theorem Src.get {B g n : Nat} {f : Nat → List Int} {W : World} (h : Src B g n f W) {k : Nat} (hk : k < n) : ∃ a cap, W.cell? ⟨g, k, none⟩ = some (.slice a (f k).length cap) ∧ W.frozen? ⟨g, k, none⟩ = false ∧ W.ownsRow B 3 1 (.slice a (f k).length cap) (f k).length (numCells (f k)) ∧ RowAt W Tt a cap (f k).length (numCells (f k)) := by
  obtain ⟨hg, vs, h1, h2, h3, h4⟩ := h
  obtain ⟨v, hv⟩ : ∃ v, vs[k]? = some v := ⟨_, List.getElem?_eq_getElem (by omega)⟩
  have ho := h3 k v hv
  obtain ⟨a, cap, rfl, hr⟩ := row_own1 ho
  exact ⟨a, cap, blk_cell h2 (by simpa using hv), blk_free h2 _, ho, hr⟩
theorem own_ne {B g : Nat} {vs : Array Value} {v : Value} {m : Nat} {xs : List Value} {W : World} (hg : W.heap[g]? = some (.cells vs 40 (0, 0))) (h : W.ownsRow B 3 1 v m xs) : v.ownBlock ≠ some g := by
  intro e
  rcases h.2 with ⟨rfl, _⟩ | ⟨q, cap, cur, rfl, _, hq, _⟩
  · cases e
  · have : q = g := by simpa [Value.ownBlock] using e
    subst this
    rw [hg] at hq
    have := Option.some.inj hq
    simp at this
theorem Src.at3 {B g n : Nat} {f : Nat → List Int} {W w3 : World} {o : Obj} {v : Value} (h : Src B g n f W) {k : Nat} (hk : k < n) (hc : W.cell? ⟨g, k, none⟩ = some v) (hgr : (W.alloc o).grownBy w3 v.ownBlock) :
    w3.cell? ⟨g, k, none⟩ = some v ∧ w3.frozen? ⟨g, k, none⟩ = false ∧ g < w3.heap.size := by
  obtain ⟨hg, vs, h1, h2, h3, h4⟩ := h
  have hgl := (Array.getElem?_eq_some_iff.1 h2).1
  have hv : vs[k]? = some v := by
    obtain ⟨u, hu⟩ : ∃ v, vs[k]? = some v := ⟨_, List.getElem?_eq_getElem (by omega)⟩
    have := blk_cell h2 (j := k) (u := u) (by simpa using hu)
    rw [hc] at this; cases this; exact hu
  have hb3 : w3.heap[g]? = some (.cells ⟨vs⟩ 40 (0, 0)) :=
    (hgr.block g (by simp; omega) (fun e => own_ne h2 (h3 k v hv) e.symm)).trans ((Below.heap_alloc _ _ _ hgl).trans h2)
  exact ⟨blk_cell hb3 (by simpa using hv), blk_free hb3 _, (Array.getElem?_eq_some_iff.1 hb3).1⟩
theorem Src.step {B g n : Nat} {f : Nat → List Int} {W w3 : World} {o : Obj} {v v' : Value} {x : Int} (h : Src B g n f W) {k : Nat} (hk : k < n) (hc : W.cell? ⟨g, k, none⟩ = some v) (hgr : (W.alloc o).grownBy w3 v.ownBlock)
    (ho : w3.ownsRow B 3 1 v' ((f k).length + 1) (numCells (f k) ++ [.int .i64 x])) (hloc : v'.ownBlock = v.ownBlock ∨ v'.ownBlock = some (W.alloc o).heap.size) :
    Src B g n (fun i => if i = k then f k ++ [x] else f i) (w3.setCell ⟨g, k, none⟩ v') := by
  obtain ⟨hg, vs, h1, h2, h3, h4⟩ := h
  have hgl := (Array.getElem?_eq_some_iff.1 h2).1
  have hv : vs[k]? = some v := by
    obtain ⟨u, hu⟩ : ∃ v, vs[k]? = some v := ⟨_, List.getElem?_eq_getElem (by omega)⟩
    have := blk_cell h2 (j := k) (u := u) (by simpa using hu)
    rw [hc] at this; cases this; exact hu
  have hb3 : w3.heap[g]? = some (.cells ⟨vs⟩ 40 (0, 0)) :=
    (hgr.block g (by simp; omega) (fun e => own_ne h2 (h3 k v hv) e.symm)).trans ((Below.heap_alloc _ _ _ hgl).trans h2)
  have hnew : ∀ (i : Nat) (y : Value), (vs.set k v')[i]? = some y → (i = k ∧ y = v') ∨ (i ≠ k ∧ vs[i]? = some y) := by
    intro i y hy
    by_cases hik : i = k
    · subst hik
      rw [List.getElem?_set_self (by omega)] at hy
      cases hy; exact .inl ⟨rfl, rfl⟩
    · rw [List.getElem?_set_ne (by omega)] at hy
      exact .inr ⟨hik, hy⟩
  refine ⟨hg, vs.set k v', by simp [h1], ?_, ?_, ?_⟩
  · have := heap_set1 hb3 k v'
    rw [this]; simp
  · intro i y hy
    rcases hnew i y hy with ⟨rfl, rfl⟩ | ⟨hik, hvi⟩
    · simp only [if_true]
      have hx : numCells (f i ++ [x]) = numCells (f i) ++ [.int .i64 x] := by unfold numCells; rw [List.map_append]; rfl
      rw [hx, List.length_append]
      exact ownsRow_setCell_other ho (own_ne hb3 ho) _
    · simp only [if_neg hik]
      have hr := h3 i y hvi
      have hr3 : w3.ownsRow B 3 1 y (f i).length (numCells (f i)) := by
        refine World.ownsRow.kept (own_below hr (b_alloc W o)) hgr ?_
        by_cases hn : y.ownBlock = none
        · exact .inl hn
        · exact .inr (h4 i k y v hik hvi hv hn)
      exact ownsRow_setCell_other hr3 (own_ne hb3 hr3) _
  · intro i j y u hij hy hu hne
    have hlt : ∀ (i : Nat) (y : Value), vs[i]? = some y → y.ownBlock ≠ some (W.alloc o).heap.size := by
      intro i y hy e
      have := (h3 i y hy).lt _ e
      simp at this
      omega
    rcases hnew i y hy with ⟨rfl, rfl⟩ | ⟨hik, hvi⟩
    · rcases hnew j u hu with ⟨rfl, _⟩ | ⟨hjk, hvj⟩
      · exact absurd rfl hij
      · rcases hloc with e | e
        · rw [e] at hne ⊢
          exact h4 i j v u hij hv hvj hne
        · rw [e]
          exact fun e' => hlt j u hvj e'.symm
    · rcases hnew j u hu with ⟨rfl, rfl⟩ | ⟨hjk, hvj⟩
      · rcases hloc with e | e
        · rw [e]
          exact h4 i j y v hij hvi hv hne
        · rw [e]
          exact hlt i y hvi
      · exact h4 i j y u hij hvi hvj hne

/-! the plain side -/
theorem fromsF_app (l r : List Bk) (k : Nat) (n : Int) : fromsF k (l ++ r) n = fromsF k l n ++ fromsF (k + l.length) r n := by
  induction l generalizing k with
  | nil => simp [fromsF]
  | cons f l ih =>
    rw [List.cons_append, fromsF, fromsF, ih (k + 1), List.append_assoc, List.length_cons, show k + 1 + l.length = k + (l.length + 1) by omega]
theorem fromsF_take {l : List Bk} {k : Nat} {x : Bk} (h : l[k]? = some x) (n : Int) : fromsF 0 (l.take (k + 1)) n = fromsF 0 (l.take k) n ++ if x.tt.contains n then [(k : Int)] else [] := by
  have hk : k < l.length := (List.getElem?_eq_some_iff.1 h).1
  rw [List.take_add_one, h, fromsF_app]
  have : (l.take k).length = k := by rw [List.length_take]; omega
  rw [this]
  simp [fromsF]
theorem fromsF_lt (l : List Bk) (k : Nat) (n : Int) : ∀ y ∈ fromsF k l n, (k : Int) ≤ y ∧ y < (k + l.length : Nat) := by
  induction l generalizing k with
  | nil => intro y hy; simp [fromsF] at hy
  | cons f l ih =>
    intro y hy
    rw [fromsF, List.mem_append] at hy
    rcases hy with hy | hy
    · split at hy
      · have := List.mem_singleton.1 hy
        subst this
        constructor
        · omega
        · simp; omega
      · simp at hy
    · have := ih (k + 1) y hy
      rw [List.length_cons]
      omega
theorem fromsF_len (l : List Bk) (k : Nat) (n : Int) : (fromsF k l n).length ≤ l.length := by
  induction l generalizing k with
  | nil => simp [fromsF]
  | cons f l ih =>
    rw [fromsF, List.length_append, List.length_cons]
    have := ih (k + 1)
    split <;> simp <;> omega
/-- what is known when so many blocks, and so many of the next one's ways, are gone through -/
def curP (l : List Bk) (x : Bk) (k j : Nat) (n : Nat) : List Int := fromsF 0 (l.take k) n ++ if (x.tt.take j).contains (n : Int) then [(k : Int)] else []
theorem cur_zero (l : List Bk) (x : Bk) (k n : Nat) : fromsF 0 (l.take k) n = curP l x k 0 n := by unfold curP; simp
theorem cur_end {l : List Bk} {x : Bk} {k : Nat} (h : l[k]? = some x) (n : Nat) : curP l x k x.tt.length n = fromsF 0 (l.take (k + 1)) n := by
  unfold curP; rw [List.take_length, fromsF_take h]
theorem take_has {l : List Int} {j : Nat} {y : Int} (h : l[j]? = some y) (n : Int) : (l.take (j + 1)).contains n = ((l.take j).contains n || decide (n = y)) := by
  rw [List.take_add_one, h, Bool.eq_iff_iff]; simp
theorem cur_has {l : List Bk} {x : Bk} {k j m : Nat} (h : x.tt[j]? = some (m : Int)) (hc : (x.tt.take j).contains (m : Int) = true) (n : Nat) : curP l x k j n = curP l x k (j + 1) n := by
  unfold curP
  rw [take_has h]
  by_cases e : (n : Int) = m
  · have : n = m := by omega
    subst this
    rw [hc]; rfl
  · rw [decide_eq_false e, Bool.or_false]
theorem cur_new {l : List Bk} {x : Bk} {k j m : Nat} (h : x.tt[j]? = some (m : Int)) (hc : (x.tt.take j).contains (m : Int) = false) (n : Nat) : (if n = m then curP l x k j m ++ [(k : Int)] else curP l x k j n) = curP l x k (j + 1) n := by
  unfold curP
  rw [take_has h]
  by_cases e : n = m
  · subst e
    rw [hc]; simp
  · rw [if_neg e, decide_eq_false (by omega), Bool.or_false]
theorem cur_len (l : List Bk) (x : Bk) (k j n : Nat) : (curP l x k j n).length ≤ l.length + 1 := by
  unfold curP
  rw [List.length_append]
  have := fromsF_len (l.take k) 0 n
  rw [List.length_take] at this
  split <;> simp <;> omega
/-- the last number of a list that has some -/
theorem last_has {l : List Bk} {x : Bk} {k j n : Nat} (hc : (x.tt.take j).contains (n : Int) = true) : ∃ m, (curP l x k j n).length = m + 1 ∧ (curP l x k j n)[m]? = some (k : Int) := by
  refine ⟨(fromsF 0 (l.take k) n).length, ?_, ?_⟩
  · unfold curP; rw [hc]; simp
  · unfold curP; rw [hc]; simp
theorem last_new {l : List Bk} {x : Bk} {k j n : Nat} (hk : k ≤ l.length) (hc : (x.tt.take j).contains (n : Int) = false) : (curP l x k j n).length = 0 ∨ ∃ m y, (curP l x k j n).length = m + 1 ∧ (curP l x k j n)[m]? = some y ∧ y ≠ (k : Int) := by
  have he : curP l x k j n = fromsF 0 (l.take k) n := by unfold curP; rw [hc]; simp
  rw [he]
  cases hl : (fromsF 0 (l.take k) n).length with
  | zero => exact .inl rfl
  | succ m =>
    obtain ⟨y, hy⟩ : ∃ y, (fromsF 0 (l.take k) n)[m]? = some y := ⟨_, List.getElem?_eq_getElem (by omega)⟩
    refine .inr ⟨m, y, rfl, hy, ?_⟩
    have := fromsF_lt (l.take k) 0 n y (List.mem_of_getElem? hy)
    rw [List.length_take] at this
    omega
theorem src_append {w W w3 : World} {n m : Nat} {f f' : Nat → List Int} {a : Option Addr} {cap : Nat} {x : Int} {o : Obj} {v' : Value} (h : Src w.heap.size w.heap.size n f W) (hm : m < n) (hc : W.cell? ⟨w.heap.size, m, none⟩ = some (.slice a (f m).length cap))
    (ho : W.ownsRow w.heap.size 3 1 (.slice a (f m).length cap) (f m).length (numCells (f m))) (hb : Below w.heap.size w W) (hf : ∀ i, (if i = m then f m ++ [x] else f i) = f' i)
    (hgr : (W.alloc o).grownBy w3 (Value.slice a (f m).length cap).ownBlock) (h3 : w3.ownsRow w.heap.size 3 1 v' ((f m).length + 1) (numCells (f m) ++ [.int .i64 x]))
    (hloc : v'.ownBlock = (Value.slice a (f m).length cap).ownBlock ∨ v'.ownBlock = some (W.heap.size + 1)) :
    (∃ va vcap, v' = .slice va ((f m).length + 1) vcap) ∧ Src w.heap.size w.heap.size n f' (w3.setCell ⟨w.heap.size, m, none⟩ v') ∧ (w3.cell? ⟨w.heap.size, m, none⟩ = some (.slice a (f m).length cap) ∧ w3.frozen? ⟨w.heap.size, m, none⟩ = false ∧ w.heap.size < w3.heap.size) ∧ Below w.heap.size w (w3.setCell ⟨w.heap.size, m, none⟩ v') := by
  refine ⟨?_, (h.step hm hc hgr h3 (by simpa using hloc)).cong (fun k _ => hf k), h.at3 hm hc hgr, ?_⟩
  · rcases h3.2 with ⟨_, h0⟩ | ⟨g, cap, cur, rfl, _⟩
    · omega
    · exact ⟨_, _, rfl⟩
  · exact ((hb.alloc hb.size o).grown hgr (by have := hb.size; simp; omega) (fun q e => (ho.lt q e).1)).setCell (p := ⟨w.heap.size, m, none⟩) (Nat.le_refl _) _
set_option maxHeartbeats 4000000 in
set_option maxRecDepth 100000 in
theorem sources_c (l : List Bk) (a : Option Addr) (cap : Nat) (w : World) (hrow : RowAt w Tt a cap l.length (bkCells l)) (hin : ∀ b ∈ l, Bk.In w b) (hto : ∀ b ∈ l, ∀ t ∈ b.tt, 0 ≤ t ∧ t < l.length) (hn : l.length ≤ 32768) :
    Calls Tryd.prog 63 #[.slice a l.length cap] w fun e w' => ∃ g, e = .returned (.slice (some ⟨g, 0, none⟩) l.length l.length) ∧ Src w.heap.size g l.length (fun k => fromsP l k) w' ∧ Below w.heap.size w w' := by
  obtain ⟨hc1, hc2⟩ := len_i hrow
  obtain ⟨i0, hi0, hz0, hz1, hz2⟩ := info_i
  have hR := Lib.hid (fun V (hv : Below w.heap.size w V) => hrow.below (Kps.of_below hv))
  have hT := Lib.hid (fun (b : Bk) V (hb : b ∈ l) (hv : Below w.heap.size w V) => ((hin b hb).keep hv).trow)
  have hto' := Lib.hid hto
  have hS0 := Lib.hid (Src.start w w.heap.size l.length (Nat.le_refl _))
  have hmk := make_ll l.length (by omega) w
  have hB0 := Lib.hid (b_alloc w (.cells (Array.replicate l.length (.slice none 0 0)) 40))
  clear hrow hin hto
  go_enter Tryd.func63, Tryd.ntmps63
  go_wp2_with fail
  go_loopw [14] (fun i wr => ∃ k : Nat, k ≤ l.length ∧ i = .int .i64 k ∧ Hid (Src w.heap.size w.heap.size l.length (fun n => fromsF 0 (l.take k) n) wr) ∧ Hid (Below w.heap.size w wr)) (fun i _ => l.length - (intOf i).toNat)
  case atStart => exact ⟨0, Nat.zero_le _, rfl, Lib.hid (hS0.out.cong (fun k _ => by simp [fromsF])), hB0⟩
  case round =>
    obtain ⟨k, hk, rfl, hS, hb⟩ := hrel
    by_cases hlt : k < l.length
    · obtain ⟨x, hx⟩ : ∃ x, l[k]? = some x := ⟨_, List.getElem?_eq_getElem hlt⟩
      obtain ⟨b, off, ha, _, c0, c1, c2, c3⟩ := bk_row (hR.out wr hb.out) k x hx
      have hbl : b < wr.heap.size := World.block_lt_of_cell? _ _ c0
      have hi0' : (0 : Int) ≤ (k : Int) := by omega
      have hi1 : (k : Int) < (l.length : Int) := by omega
      have hm := List.mem_of_getElem? hx
      have hend := Lib.hid (fun n => cur_end hx n)
      have hbe := Lib.hid (b_alloc wr (.cells #[.slice x.pa x.phis.length x.pcap, .slice x.ca x.code.length x.ccap, .slice x.fa x.fm.length x.fcap, .slice x.ta x.tt.length x.tcap] 42))
      have hbx := Lib.hid (hb.out.trans (hbe.out.mono hb.out.size))
      have hS1 := Lib.hid ((hS.out.keep hbe.out).cong (f' := curP l x k 0) (fun n _ => cur_zero l x k n))
      have hT1 := Lib.hid (fun V (hv : Below w.heap.size w V) => hT.out x V hm hv)
      have hto1 := Lib.hid (hto'.out x hm)
      obtain ⟨cl1, cl2⟩ := len_i (hT.out x wr hm hb.out)
      clear hT hm hx hS hto' hbe
      subst ha
      go_wp2_with fail
      go_loopw [22] (fun i wq => ∃ j : Nat, j ≤ x.tt.length ∧ i = .int .i64 j ∧ Hid (Src w.heap.size w.heap.size l.length (curP l x k j) wq) ∧ Hid (Below w.heap.size w wq)) (fun i _ => x.tt.length - (intOf i).toNat)
      case atStart => exact ⟨0, Nat.zero_le _, rfl, hS1, hbx⟩
      case round =>
        obtain ⟨j, hj, rfl, hS2, hbq⟩ := hrel
        by_cases hjt : j < x.tt.length
        · obtain ⟨y, hy⟩ : ∃ y, x.tt[j]? = some y := ⟨_, List.getElem?_eq_getElem hjt⟩
          obtain ⟨b', off', ha', _, d0⟩ := num_row (hT1.out _ hbq.out) j y hy
          have hyr := hto1.out y (List.mem_of_getElem? hy)
          obtain ⟨m, rfl⟩ : ∃ m : Nat, y = m := ⟨y.toNat, by omega⟩
          have hm0 : (0 : Int) ≤ (m : Int) := by omega
          have hm1 : (m : Int) < (l.length : Int) := by omega
          have hml : m < l.length := by omega
          have hj0' : (0 : Int) ≤ (j : Int) := by omega
          have hj1 : (j : Int) < (x.tt.length : Int) := by omega
          obtain ⟨fa, fcap, e0, ef, ho, hro⟩ := hS2.out.get hml
          obtain ⟨fl1, fl2⟩ := len_i hro
          have hfl := cur_len l x k j m
          have hl63 : (curP l x k j m).length ≤ 9223372036854775807 := by omega
          rw [ha']
          by_cases hc : (x.tt.take j).contains (m : Int) = true
          · obtain ⟨q, hq1, hq2⟩ := last_has (l := l) (k := k) hc
            obtain ⟨b2, off2, ha2, _, f0⟩ := num_row hro q _ hq2
            have hS3 := Lib.hid (hS2.out.cong (fun n _ => cur_has hy hc n))
            subst ha2
            rw [hq1] at e0
            clear hy hc hro ho hS2 ha' hyr hq2
            have hq3 : ((((q + 1 : Nat) : Int) - 1)).toNat = q := by omega
            have hq4 : (0 : Int) ≤ ((q + 1 : Nat) : Int) - 1 := by omega
            have hq5 : ((q + 1 : Nat) : Int) - 1 < ((q + 1 : Nat) : Int) := by omega
            have hq6 : (((q + 1 : Nat) : Int) == 0) = false := by simp; omega
            rw [hq1] at fl1 hl63
            clear hq1 hfl
            generalize hQ : ((q + 1 : Nat) : Int) = Q at *
            clear hQ
            go_wp2_with fail
            go_roundw
            case rel => exact ⟨j + 1, by omega, by go_num, hS3, hbq⟩
            case measure => simp [intOf]; omega
          · have hc' : (x.tt.take j).contains (m : Int) = false := by simpa using hc
            have hap := Lib.hid (fun (w3 : World) (o : Obj) (v' : Value) hgr h3 hloc => src_append (w3 := w3) (o := o) (v' := v') (x := (k : Int)) hS2.out hml e0 ho hbq.out (fun i => cur_new hy hc' i) hgr h3 hloc)
            have hln := last_new (l := l) (k := k) (n := m) (by omega) hc'
            have ho2 := ho
            have hro2 := hro
            generalize hF : curP l x k j m = F at *
            generalize hG : F.length = L at *
            have hAP := Lib.hid (fun w3 o v' => hap.out w3 o v')
            have hown := Lib.hid ho
            have hxx : Hid (numCells F = numCells F) := Lib.hid rfl
            clear hS2 hy hc hc' ha' hyr hap ho ho2 hro hxx
            rcases hln with h0 | ⟨q, y, hq1, hq2, hyk⟩
            · subst h0
              clear hro2 hF hG
              go_wp2_with (at_builtin; refine wpList_append_own_at _ rfl _ _ 40 rfl w.heap.size 3 i0 _ 1 8 Tryd.underlying40 hi0 hz0 hz1 hz2 rfl (by decide) _ _ _ rfl (own_below hown.out (b_alloc _ _)) _ 1 1 [.int .i64 k] rfl rfl (one_at _ _ _ _ (by first | rfl | simp)) (by simp [Value.oneCell']) ?c1 ?c2 ?c3 ?_)
              case c1 => unfold maxLen; omega
              case c2 => omega
              case c3 => have := hbq.out.size; simp; omega
              intro v' w3 hown3 hg3 _ hat3
              obtain ⟨⟨va, vcap, rfl⟩, hS4, ⟨h3c, h3f, h3l⟩, hb4⟩ := hAP.out _ _ _ hg3 hown3 hat3
              replace hS4 := Lib.hid hS4
              replace hb4 := Lib.hid hb4
              clear hown3 hg3 hat3 hAP hown
              go_wp2_with fail
              go_roundw
              case rel => exact ⟨j + 1, by omega, by go_num, hS4, hb4⟩
              case measure => simp [intOf]; omega
            · obtain ⟨b2, off2, ha2, _, f0⟩ := num_row (by rw [← hG] at hro2; exact hro2) q _ hq2
              subst ha2
              subst hq1
              have hq3 : ((((q + 1 : Nat) : Int) - 1)).toNat = q := by omega
              have hq4 : (0 : Int) ≤ ((q + 1 : Nat) : Int) - 1 := by omega
              have hq5 : ((q + 1 : Nat) : Int) - 1 < ((q + 1 : Nat) : Int) := by omega
              have hq6 : (((q + 1 : Nat) : Int) == 0) = false := by simp; omega
              have hq7 := ne_n hyk
              clear hro2 hF hG hq2 hyk
              go_wp2_with (at_builtin; refine wpList_append_own_at _ rfl _ _ 40 rfl w.heap.size 3 i0 _ 1 8 Tryd.underlying40 hi0 hz0 hz1 hz2 rfl (by decide) _ _ _ rfl (own_below hown.out (b_alloc _ _)) _ 1 1 [.int .i64 k] rfl rfl (one_at _ _ _ _ (by first | rfl | simp)) (by simp [Value.oneCell']) ?c1 ?c2 ?c3 ?_)
              case c1 => unfold maxLen; omega
              case c2 => omega
              case c3 => have := hbq.out.size; simp; omega
              intro v' w3 hown3 hg3 _ hat3
              obtain ⟨⟨va, vcap, rfl⟩, hS4, ⟨h3c, h3f, h3l⟩, hb4⟩ := hAP.out _ _ _ hg3 hown3 hat3
              replace hS4 := Lib.hid hS4
              replace hb4 := Lib.hid hb4
              clear hown3 hg3 hat3 hAP hown
              go_wp2_with fail
              go_roundw
              case rel => exact ⟨j + 1, by omega, by go_num, hS4, hb4⟩
              case measure => simp [intOf]; omega
        · have hjj : j = x.tt.length := by omega
          have hS5 := Lib.hid (hS2.out.cong (f' := fun n => fromsF 0 (l.take (k + 1)) n) (fun n _ => by rw [hjj]; exact hend.out n))
          clear hS2 hjj
          go_wp2_with fail
          go_roundw
          case rel => exact ⟨k + 1, by omega, by go_num, hS5, hbq⟩
          case measure => simp [intOf]; omega
    · have hk2 : k = l.length := by omega
      subst hk2
      have hS5 := Lib.hid (hS.out.cong (f' := fun n => fromsP l n) (fun n _ => by simp [fromsP]))
      clear hS
      go_wp2_with fail
      go_ret
      exact ⟨_, rfl, hS5.out, hb.out⟩
end Go.Proofs.YtkmlhijnkilfpaaDoor.Fw
