/- Chains of next ones above; the row's facts; marks in memory. Conditions: none. -/
import Derived.Test.YtiaecobjbckhoaaDnE
set_option linter.unusedVariables false
set_option linter.unusedSimpArgs false
namespace Go.Proofs.Ytiaecobjbckhoaa.Db
open Go Go.RowKit

section
variable {n : Nat} {next : Nat → Int} {ht : Nat → Nat}
theorem Un.strict (H : Hn n next ht) {a b : Nat} (h : Un n next a b) (hne : a ≠ b) : ht b < ht a := by
  cases h with
  | here => exact absurd rfl hne
  | @step _ p hc he hu =>
    have h5 := hu.ht_le H
    rcases H.up b hc with h7 | ⟨q, h7, _, h8⟩
    · omega
    · have : q = p := by omega
      subst this; omega
theorem Un.asym (H : Hn n next ht) {a b : Nat} (h : Un n next a b) (k : Un n next b a) : a = b := by
  apply Classical.byContradiction
  intro hne
  have h1 := h.strict H hne
  have h2 := k.ht_le H
  omega
/-- one is reached if one below it is -/
theorem Un.top (H : Hn n next ht) {a b : Nat} (h : Un n next a b) (k : Un n next 0 b) : Un n next 0 a := by
  rcases k.linear h with h1 | h1
  · exact h1
  · have := h1.root H
    subst this; exact .here
theorem Hn.nx_some (H : Hn n next ht) {a : Nat} (h : Un n next 0 a) (h0 : a ≠ 0) : ∃ p : Nat, next a = p ∧ p < n ∧ ht a < ht p ∧ a < n ∧ Un n next 0 p := by
  cases h with
  | here => exact absurd rfl h0
  | @step _ p hc he hu =>
    rcases H.up a hc with h7 | ⟨q, h7, h8, h9⟩
    · omega
    · have : q = p := by omega
      subst this
      exact ⟨q, h7, h8, h9, hc, hu⟩
/-- what was gone over on the way up -/
def Chn (n : Nat) (next : Nat → Int) (b a : Nat) (f : Nat → Bool) : Prop := ∀ x, x < n → (f x = true ↔ Un n next a x ∧ x ≠ a ∧ Un n next x b)
theorem Chn.start (b : Nat) (H : Hn n next ht) : Chn n next b b (fun _ => false) := fun x _ => by
  constructor
  · intro h; cases h
  · rintro ⟨h1, h2, h3⟩
    exact absurd (h3.asym H h1) h2
theorem Chn.step (H : Hn n next ht) {b a p : Nat} {f f' : Nat → Bool} (h : Chn n next b a f) (hab : Un n next a b) (ha : a < n) (he : next a = (p : Int)) (hlt : ht a < ht p) (hf : ∀ i, i < n → f' i = if i = a then true else f i) : Chn n next b p f' := fun x hx => by
  have hpa : Un n next p a := .step ha he .here
  rw [hf x hx]
  by_cases e : x = a
  · subst e
    rw [if_pos rfl]
    exact ⟨fun _ => ⟨hpa, fun e => by subst e; omega, hab⟩, fun _ => rfl⟩
  · rw [if_neg e, h x hx]
    constructor
    · rintro ⟨h1, h2, h3⟩
      refine ⟨hpa.trans h1, fun e' => ?_, h3⟩
      subst e'
      have := h1.ht_le H
      omega
    · rintro ⟨h1, h2, h3⟩
      refine ⟨?_, e, h3⟩
      rcases h3.linear hab with h4 | h4
      · cases h4 with
        | here => exact .here
        | @step _ q _ he' hu =>
          have : q = p := by omega
          subst this
          exact absurd (hu.asym H h1) h2
      · exact h4
theorem Chn.fin (H : Hn n next ht) {b : Nat} {f f' : Nat → Bool} (h : Chn n next b 0 f) (hb : Un n next 0 b) (hf : ∀ i, i < n → f' i = if i = 0 then true else f i) : ∀ x, x < n → f' x = (growP n next).above (x : Int) (b : Int) := fun x hx => by
  rw [Bool.eq_iff_iff, H.above, hf x hx]
  by_cases e : x = 0
  · subst e
    rw [if_pos rfl]
    exact ⟨fun _ => ⟨.here, hb, hb⟩, fun _ => rfl⟩
  · rw [if_neg e, h x hx]
    exact ⟨fun ⟨h1, h2, h3⟩ => ⟨h1, hb, h3⟩, fun ⟨h1, h2, h3⟩ => ⟨h1, e, h3⟩⟩
/-- the row: what stands in it -/
theorem Hn.row (H : Hn n next ht) {i : Nat} {x : Int} (h : (growP n next).order[i]? = some x) : ∃ y : Nat, x = y ∧ y < n ∧ (growP n next).reach x = true ∧ x ∉ (growP n next).order.take i ∧ (i = 0 → y = 0) ∧ (0 < i → ∃ p : Nat, (growP n next).nextP x = p ∧ p < n ∧ (p : Int) ∈ (growP n next).order.take i) := by
  rw [H.order] at h ⊢
  obtain ⟨y, rfl, hu⟩ := (H.mem 0 x).1 (List.mem_of_getElem? h)
  have hi := (List.getElem?_eq_some_iff.1 h).1
  have hnd := H.nodup 0
  have uniq : ∀ j, (lst n next 0)[j]? = some (y : Int) → j = i := fun j hj => by
    have h1 := (H.place hj).1
    have h2 := (H.place h).1
    omega
  have hr : (growP n next).reach (y : Int) = true := (H.reach y).2 hu
  have h0 : (lst n next 0)[0]? = some ((0 : Nat) : Int) := by rw [H.eq]; rfl
  refine ⟨y, rfl, H.un_lt hu H.pos, hr, fun hm => ?_, fun e => ?_, fun hpos => ?_⟩
  · obtain ⟨j, hj⟩ := List.mem_iff_getElem?.1 hm
    rw [List.getElem?_take] at hj
    split at hj
    · have := uniq j hj; omega
    · cases hj
  · subst e
    have := h0.symm.trans h; have := Option.some.inj this; omega
  · have hy0 : y ≠ 0 := fun e => by subst e; have := uniq 0 h0; omega
    obtain ⟨p, h1, h2, h3, h4, h5⟩ := H.nx_some hu hy0
    refine ⟨p, ?_, h2, ?_⟩
    · unfold Tp.nextP
      rw [if_pos hr, Int.toNat_natCast]
      exact h1
    · obtain ⟨k, hk⟩ := H.find h5
      obtain ⟨A, C, e1, e2⟩ := H.at_ 0 k p hk
      obtain ⟨j, hj⟩ := List.mem_iff_getElem?.1 ((H.mem p _).2 ⟨y, rfl, .step h4 h1 .here⟩)
      have hjl := (List.getElem?_eq_some_iff.1 hj).1
      have hj2 := uniq (k + j) (by rw [e1, List.getElem?_append_right (by omega), List.getElem?_append_left (by omega), ← e2, Nat.add_sub_cancel_left]; exact hj)
      have hj0 : j ≠ 0 := fun e => by
        subst e
        rw [H.eq p, List.getElem?_cons_zero] at hj
        have := Option.some.inj hj
        have : p = y := by omega
        subst this; omega
      exact List.mem_iff_getElem?.2 ⟨k, by rw [List.getElem?_take, if_pos (by omega)]; exact hk⟩
theorem cnt_filter (p : Nat → Bool) : ∀ k, ((List.range k).filter p).length = cnt p k
  | 0 => rfl
  | k + 1 => by
    have e : cnt p (k + 1) = cnt p k + (if p k = true then 1 else 0) := rfl
    rw [List.range_succ, List.filter_append, List.length_append, cnt_filter p k, e]
    cases h : p k <;> simp [h]
theorem Hn.order_cnt (H : Hn n next ht) : (growP n next).order.length = cnt (fun b => (growP n next).reach (b : Int)) n := by
  rw [← cnt_filter, H.order]
  have e : ((List.range n).filter fun (b : Nat) => (growP n next).reach (b : Int)).length = (((List.range n).filter fun (b : Nat) => (growP n next).reach (b : Int)).map fun (b : Nat) => (b : Int)).length := by simp
  rw [e]
  have hnd : (((List.range n).filter fun (b : Nat) => (growP n next).reach (b : Int)).map fun (b : Nat) => (b : Int)).Nodup := by
    unfold List.Nodup
    rw [List.pairwise_map]
    exact ((List.nodup_range (n := n)).filter _).imp fun h e => h (by omega)
  refine Nat.le_antisymm (List.Nodup.length_le_of_subset (H.nodup 0) fun x hx => ?_) (List.Nodup.length_le_of_subset hnd fun x hx => ?_)
  · obtain ⟨y, rfl, hu⟩ := (H.mem 0 x).1 hx
    exact List.mem_map.2 ⟨y, List.mem_filter.2 ⟨List.mem_range.2 (H.un_lt hu H.pos), (H.reach y).2 hu⟩, rfl⟩
  · obtain ⟨y, hy, rfl⟩ := List.mem_map.1 hx
    exact (H.mem 0 _).2 ⟨y, rfl, (H.reach y).1 (List.mem_filter.1 hy).2⟩
end
theorem info_bb : (Try.prog.info? 4).map (fun i => (i.zero, i.size, i.bytes)) = some (some (.bool false), 1, 1) := by kernel_rfl
theorem make_bb (n : Nat) (hn : n ≤ 1000000000) (V : World) : (Instr.makeSlice 38 (.int .i64 (n : Int)) (.int .i64 (n : Int))).run Try.prog V = .ok (.slice (some ⟨V.heap.size, 0, none⟩) n n) (V.alloc (.cells (Array.replicate n (Value.bool false)) 4)) := by
  obtain ⟨i0, hi0, hz0, hz1, hz2⟩ := info_parts info_bb
  have h := run_make (P := Try.prog) V 38 4 i0 _ Try.underlying38 hi0 hz0 .i64 .i64 (n : Int) (n : Int) (by omega) (Int.le_refl _) (by rw [hz2]; omega) (by omega)
  rw [hz1, Int.toNat_natCast, Nat.mul_one, made_one _ rfl, List.toArray_replicate] at h
  exact h
/-- marks in a block -/
structure MkB (g n : Nat) (f : Nat → Bool) (W : World) : Prop where
  ex : W.heap[g]? = some (.cells ⟨(List.range n).map fun j => .bool (f j)⟩ 4 (0, 0))
theorem MkB.start (W : World) (n : Nat) : MkB W.heap.size n (fun _ => false) (W.alloc (.cells (Array.replicate n (.bool false)) 4)) := ⟨by
  rw [blk_new W _ rfl]
  congr 2
  apply Array.toList_inj.1
  apply List.ext_getElem?
  intro i
  simp [List.getElem?_replicate]
  by_cases h : i < n <;> simp [h]⟩
theorem MkB.keep {g n : Nat} {f : Nat → Bool} {W W' : World} (h : MkB g n f W) (hb : Below W.heap.size W W') : MkB g n f W' :=
  ⟨(hb.block g (Array.getElem?_eq_some_iff.1 h.ex).1).trans h.ex⟩
theorem MkB.lt {g n : Nat} {f : Nat → Bool} {W : World} (h : MkB g n f W) : g < W.heap.size := (Array.getElem?_eq_some_iff.1 h.ex).1
theorem MkB.cong {g n : Nat} {f f' : Nat → Bool} {W : World} (h : MkB g n f W) (e : ∀ k, k < n → f k = f' k) : MkB g n f' W := ⟨by
  rw [h.ex]
  congr 3
  apply List.map_congr_left
  intro k hk
  rw [e k (List.mem_range.1 hk)]⟩
theorem MkB.get {g n : Nat} {f : Nat → Bool} {W : World} (h : MkB g n f W) {k : Nat} (hk : k < n) : W.cell? ⟨g, k, none⟩ = some (.bool (f k)) ∧ W.frozen? ⟨g, k, none⟩ = false :=
  ⟨blk_cell h.ex (by simp [hk]), blk_free h.ex _⟩
theorem MkB.set {g n : Nat} {f : Nat → Bool} {W : World} (h : MkB g n f W) {k : Nat} (hk : k < n) (f' : Nat → Bool) (hf : ∀ i, i < n → f' i = if i = k then true else f i) : MkB g n f' (W.setCell ⟨g, k, none⟩ (.bool true)) := ⟨by
  rw [heap_set1 h.ex]
  congr 2
  apply Array.toList_inj.1
  rw [Array.toList_setIfInBounds]
  apply List.ext_getElem?
  intro i
  by_cases hi : i < n
  · rw [List.getElem?_set]
    simp only [List.getElem?_map, List.getElem?_range hi, Option.map_some, List.length_map, List.length_range]
    rw [hf i hi]
    by_cases e : k = i
    · rw [if_pos e, if_pos (by omega), if_pos e.symm]
    · rw [if_neg e, if_neg (by omega)]
  · rw [List.getElem?_eq_none (by simp; omega), List.getElem?_eq_none (by simp; omega)]⟩
end Go.Proofs.Ytiaecobjbckhoaa.Db
