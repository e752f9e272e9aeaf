/- Walk of mem.New. Conditions: the list lies in memory. -/
import Derived.Test.YtnoilcchegmpfaaMeJ
import Derived.Deep.RegionHeld3
import Derived.Deep.Cut
namespace Go.Proofs.Ytnoilcchegmpfaa.Me
open Go Go.RowKit

theorem set_ne {W : World} {b k : Nat} {v : Value} {p : Addr} (h : ¬ p.block = b) : (W.setCell ⟨b, k, none⟩ v).cell? p = W.cell? p := World.cell?_of_block (w := W) (heap_set_ne h k v)
/-- the cells of globals at first -/
def firstC (l : List Gm) : List (List Int) := l.map fun g => List.replicate g.size.toNat g.first
theorem firstC_take {l : List Gm} {k : Nat} {x : Gm} (hx : l[k]? = some x) : firstC (l.take (k + 1)) = firstC (l.take k) ++ [List.replicate x.size.toNat x.first] := by
  unfold firstC
  rw [List.take_add_one, hx]
  simp
/-- New's memory, as far as it is made -/
structure Mk (w : World) (B : Nat) (l : List Gm) (locks : Int) (k : Nat) (wr : World) : Prop where
  ex : ∃ R : List Row, R.length = k ∧ R.map Row.l = firstC (l.take k) ∧ (∀ r ∈ R, r.In wr ∧ B + 1 + 1 < r.b) ∧ (R.map Row.b).Nodup ∧
    wr.heap[B]? = some (.cells (R.map Row.val ++ List.replicate (l.length - k) (Value.slice none 0 0)).toArray 52 (0, 0))
  mp : wr.heap[B + 1]? = some (.map #[] 0)
  mm : wr.heap[B + 1 + 1]? = some (.cells #[.slice (some ⟨B, 0, none⟩) l.length l.length, .int .i64 locks, .map (some (B + 1))] 57 (0, 0))
  bl : Below w.heap.size w wr
  sz : B + 1 + 1 < wr.heap.size
  bs : w.heap.size ≤ B
theorem three_new (w : World) (o1 o2 o3 : Obj) : (((w.alloc o1).alloc o2).alloc o3).heap[w.heap.size]? = some o1 ∧ (((w.alloc o1).alloc o2).alloc o3).heap[w.heap.size + 1]? = some o2 ∧ (((w.alloc o1).alloc o2).alloc o3).heap[w.heap.size + 1 + 1]? = some o3 ∧ (((w.alloc o1).alloc o2).alloc o3).heap.size = w.heap.size + 1 + 1 + 1 ∧ Below w.heap.size w (((w.alloc o1).alloc o2).alloc o3) := by
  have e1 : (w.alloc o1).heap.size = w.heap.size + 1 := by simp
  have e2 : ((w.alloc o1).alloc o2).heap.size = w.heap.size + 1 + 1 := by simp
  refine ⟨?_, ?_, ?_, by simp, (((Below.refl _ w).alloc (Nat.le_refl _) o1).alloc (by simp) o2).alloc (by simp; omega) o3⟩
  · rw [Below.heap_alloc _ _ _ (by omega), Below.heap_alloc _ _ _ (by omega)]
    exact (MapKept.heap_alloc w o1).1
  · rw [Below.heap_alloc _ _ _ (by omega), ← e1]
    exact (MapKept.heap_alloc _ o2).1
  · rw [← e2]
    exact (MapKept.heap_alloc _ o3).1
theorem Mk.start {w w1 : World} (hb : Below w.heap.size w w1) (l : List Gm) (locks : Int) : Mk w w1.heap.size l locks 0 (((w1.alloc (.cells (Array.replicate l.length (Value.slice none 0 0)) 52)).alloc (.map #[] 0)).alloc (.cells #[.slice (some ⟨w1.heap.size, 0, none⟩) l.length l.length, .int .i64 locks, .map (some (w1.heap.size + 1))] 57)) := by
  obtain ⟨h1, h2, h3, h4, h5⟩ := three_new w1 (.cells (Array.replicate l.length (Value.slice none 0 0)) 52) (.map #[] 0) (.cells #[.slice (some ⟨w1.heap.size, 0, none⟩) l.length l.length, .int .i64 locks, .map (some (w1.heap.size + 1))] 57)
  exact ⟨⟨[], rfl, by simp [firstC], fun r hr => (by simp at hr), List.nodup_nil, by simpa using h1⟩, h2, h3, hb.trans (h5.mono hb.size), by rw [h4]; omega, hb.size⟩
/-- one more global's cells are made and kept -/
theorem Mk.step {w wr w5 : World} {B : Nat} {l : List Gm} {locks : Int} {k : Nat} (h : Mk w B l locks k wr) {x : Gm} (hx : l[k]? = some x) (hs : 1 ≤ x.size ∧ x.size ≤ 1024) {g : Nat} (hb : Below wr.heap.size wr w5) (hg : w5.heap[g]? = some (.cells (List.replicate x.size.toNat (Value.int .i64 x.first)).toArray 2 (0, 0))) (hgl : wr.heap.size ≤ g) :
    Mk w B l locks (k + 1) (w5.setCell ⟨B, k, none⟩ (.slice (some ⟨g, 0, none⟩) x.size.toNat x.size.toNat)) := by
  obtain ⟨⟨R, h1, h2, h3, h4, h5⟩, hmp, hmm, hbl, hsz, hbs⟩ := h
  have hk := (List.getElem?_eq_some_iff.1 hx).1
  have hn : 1 ≤ x.size.toNat ∧ x.size.toNat ≤ 1024 := by omega
  have hB5 : w5.heap[B]? = wr.heap[B]? := hb.block B (by omega)
  refine ⟨⟨R ++ [⟨g, x.size.toNat, List.replicate x.size.toNat x.first⟩], by simp [h1], by rw [List.map_append, h2, firstC_take hx]; rfl, fun r hr => ?_, ?_, ?_⟩, ?_, ?_, (hbl.trans (hb.mono hbl.size)).setCell hbs _, by simp only [World.setCell, Array.size_modify]; have := hb.size; omega, hbs⟩
  · rcases List.mem_append.1 hr with hr | hr
    · obtain ⟨q1, q2⟩ := h3 r hr
      exact ⟨(q1.keep (hb.block _ q1.lt)).keep (heap_set_ne (by omega) _ _), q2⟩
    · rw [List.mem_singleton.1 hr]
      refine ⟨⟨⟨_, (heap_set_ne (show g ≠ B by omega) _ _).trans hg, fun j u hj => ?_⟩, by simpa using hn, by simp, by unfold maxLen; simp; omega⟩, by show B + 1 + 1 < g; omega⟩
      simp only [List.getElem?_replicate] at hj
      split at hj
      · cases hj
        simp only [List.getElem?_toArray, List.getElem?_replicate]
        rw [if_pos (by assumption)]
      · cases hj
  · rw [List.map_append]
    refine List.nodup_append.2 ⟨h4, by simp, fun a ha b hb' => ?_⟩
    obtain ⟨r, hr, rfl⟩ := List.mem_map.1 ha
    simp at hb'
    have := (h3 r hr).1.lt
    omega
  · rw [heap_set (hB5.trans h5)]
    congr 2
    have hl : (R.map Row.val).length = k := by simp [h1]
    apply Array.ext'
    rw [Array.toList_setIfInBounds]
    simp only [List.map_append, List.map_cons, List.map_nil, List.append_assoc, List.cons_append, List.nil_append]
    rw [List.set_append_right _ _ (by omega), hl, Nat.sub_self]
    obtain ⟨m, hm⟩ : ∃ m, l.length - k = m + 1 := ⟨l.length - k - 1, by omega⟩
    rw [hm, show l.length - (k + 1) = m by omega, List.replicate_succ]
    simp [Row.val]
  · exact (heap_set_ne (show B + 1 ≠ B by omega) _ _).trans ((hb.block _ (by omega)).trans hmp)
  · exact (heap_set_ne (show B + 1 + 1 ≠ B by omega) _ _).trans ((hb.block _ (by omega)).trans hmm)
/-- all are made -/
theorem Mk.done {w wr : World} {B : Nat} {l : List Gm} {locks : Int} (h : Mk w B l locks l.length wr) (hlim : l.length ≤ 1000000000) (hl : 0 ≤ locks ∧ locks ≤ 256) : ∃ m : Mm, m.In wr ∧ m.C = firstC l ∧ m.locks = locks ∧ m.h = (fun _ => none) ∧ m.n = 0 ∧ (∀ b, m.foot b → w.heap.size ≤ b) ∧ m.mb = B + 1 + 1 := by
  obtain ⟨⟨R, h1, h2, h3, h4, h5⟩, hmp, hmm, hbl, hsz, hbs⟩ := h
  rw [List.take_length] at h2
  rw [Nat.sub_self, List.replicate_zero, List.append_nil] at h5
  refine ⟨⟨B + 1 + 1, B, B + 1, 0, R, locks, fun _ => none⟩, ⟨by rw [h1]; exact hmm, h5, fun r hr => (h3 r hr).1, h4, ⟨.map [], ⟨#[], 0, hmp, ⟨by simp, MapKept.stamped_empty 0, by simp⟩, Nat.le_refl _, rfl⟩, fun i => rfl⟩, by rw [h1]; exact hlim, hl⟩, h2, rfl, rfl, rfl, ?_, rfl⟩
  rintro b (rfl | rfl | rfl | ⟨r, hr, rfl⟩)
  · show w.heap.size ≤ B + 1 + 1; omega
  · exact hbs
  · show w.heap.size ≤ B + 1; omega
  · have := (h3 r hr).2; omega
def PostN (l : List Gm) (locks : Int) (w : World) (e : Ending) (w' : World) : Prop :=
  Below w.heap.size w w' ∧
  if l.any badG = true then e = .returned (.tuple #[.pointer none, .int .i64 4])
  else if locks < 0 ∨ 256 < locks then e = .returned (.tuple #[.pointer none, .int .i64 1])
  else ∃ m : Mm, m.In w' ∧ m.C = firstC l ∧ m.locks = locks ∧ m.h = (fun _ => none) ∧ m.n = 0 ∧ (∀ b, m.foot b → w.heap.size ≤ b) ∧ e = .returned (.tuple #[.pointer (some ⟨m.mb, 0, none⟩), .int .i64 0])
set_option maxHeartbeats 4000000 in
set_option maxRecDepth 100000 in
theorem New_c (l : List Gm) (locks : Int) (a : Option Addr) (cap : Nat) (w : World) (hrow : RowAt w (fun _ => True) a cap l.length (gmCells l)) (hlim : l.length ≤ 1000000000) :
    Calls Try.prog 5 #[.slice a l.length cap, .int .i64 locks] w (PostN l locks w) := by
  obtain ⟨hc1, hc2⟩ := len_i hrow
  have hC := Lib.hid (containsFunc_c l a cap w hrow)
  cases hbad : l.any badG with
  | true =>
    rw [hbad] at hC
    have hfin : ∀ e W, Below w.heap.size w W → e = Ending.returned (.tuple #[.pointer none, .int .i64 4]) → PostN l locks w e W := fun e W hb he => ⟨hb, by rw [if_pos hbad]; exact he⟩
    replace hfin := Lib.hid hfin
    clear hrow hbad
    go_enter Try.func5, Try.ntmps5
    go_wp2_with (go_at_call 19; refine hC.out.mono ?_; rintro e w1 ⟨rfl, hb1⟩)
    go_ret2
    exact hfin.out _ _ hb1 rfl
  | false =>
    rw [hbad] at hC
    by_cases hl : locks < 0 ∨ 256 < locks
    · have hfin : ∀ e W, Below w.heap.size w W → e = Ending.returned (.tuple #[.pointer none, .int .i64 1]) → PostN l locks w e W := fun e W hb he => ⟨hb, by rw [if_neg (by rw [hbad]; simp), if_pos hl]; exact he⟩
      replace hfin := Lib.hid hfin
      clear hrow hbad
      by_cases h0 : locks < 0
      · clear hl
        go_enter Try.func5, Try.ntmps5
        go_wp2_with (go_at_call 19; refine hC.out.mono ?_; rintro e w1 ⟨rfl, hb1⟩)
        go_ret2
        exact hfin.out _ _ hb1 rfl
      · have h1 : 256 < locks := by omega
        clear hl
        go_enter Try.func5, Try.ntmps5
        go_wp2_with (go_at_call 19; refine hC.out.mono ?_; rintro e w1 ⟨rfl, hb1⟩)
        go_ret2
        exact hfin.out _ _ hb1 rfl
    · have h0 : ¬ locks < 0 := by omega
      have h1 : ¬ 256 < locks := by omega
      have hbad' := Lib.hid hbad
      have hl' := Lib.hid hl
      clear hl hbad
      go_enter Try.func5, Try.ntmps5
      go_upto_region 5 with (go_at_call 19; refine hC.out.mono ?_; rintro e w1 ⟨rfl, hb1⟩)
      have hmk := make_rows l.length hlim w1
      have hmm := run_makeMap (P := Try.prog) 55 (w1.alloc (.cells (List.replicate l.length (Value.slice none 0 0)).toArray 52))
      rw [List.toArray_replicate] at hmk hmm
      go_upto_region 6 with fail
      have hM := Mk.start hb1 l locks
      generalize ((w1.alloc (.cells (Array.replicate l.length (Value.slice none 0 0)) 52)).alloc (.map #[] 0)).alloc (.cells #[.slice (some ⟨w1.heap.size, 0, none⟩) l.length l.length, .int .i64 locks, .map (some (w1.heap.size + 1))] 57) = W at hM ⊢
      generalize w1.heap.size = B at hM ⊢
      clear hmk hmm hb1 hC
      replace hM := Lib.hid hM
      go_wp2_with fail
      go_loopw [26] (fun i wr => ∃ k : Nat, k ≤ l.length ∧ i = .int .i64 k ∧ Hid (Mk w B l locks k wr)) (fun i _ => l.length - (intOf i).toNat)
      case atStart => exact ⟨0, Nat.zero_le _, rfl, hM⟩
      case round =>
        clear hM
        obtain ⟨k, hk, rfl, hM⟩ := hrel
        by_cases hlt : k < l.length
        · obtain ⟨x, hx⟩ : ∃ x, l[k]? = some x := ⟨_, List.getElem?_eq_getElem hlt⟩
          obtain ⟨b, off, ha, _, c0, c1, c2⟩ := gm_row (hrow.below (Kps.of_below hM.out.bl)) k x hx
          subst ha
          have hi0' : (0 : Int) ≤ (k : Int) := by omega
          have hi1 : (k : Int) < (l.length : Int) := by omega
          have hxs : 1 ≤ x.size ∧ x.size ≤ 1024 := by
            have := hbad'.out
            rw [List.any_eq_false] at this
            have := this x (List.mem_of_getElem? hx)
            simp [badG] at this
            omega
          obtain ⟨z, hz⟩ : ∃ z : Nat, x.size = z := ⟨x.size.toNat, by omega⟩
          have m0 : wr.cell? ⟨B + 1 + 1, 0, none⟩ = some (.slice (some ⟨B, 0, none⟩) l.length l.length) := blk_cell hM.out.mm rfl
          have m1 : wr.frozen? ⟨B, k, none⟩ = false := by
            obtain ⟨⟨R, _, _, _, _, h5⟩, _⟩ := hM.out
            exact blk_free h5 k
          have m6 : wr.cell? ⟨B, k, none⟩ = some (.slice none 0 0) := by
            obtain ⟨⟨R, q1, _, _, _, h5⟩, _⟩ := hM.out
            refine blk_cell h5 ?_
            have hl : (R.map Row.val).length = k := by simp [q1]
            rw [List.getElem?_toArray, List.getElem?_append_right (by omega), hl, Nat.sub_self, List.getElem?_replicate, if_pos (by omega)]
          have hsz := hM.out.sz
          have hstep := Lib.hid (fun (w5 : World) (g : Nat) => hM.out.step hx hxs (w5 := w5) (g := g))
          obtain ⟨nm, sz, fi⟩ := x
          simp only at hz c0 c1 c2 hxs
          subst hz
          clear hx hrow hM
          rw [Int.toNat_natCast] at hstep
          go_upto_region 9 with fail
          have hR := Lib.hid (repeat_c (wr.heap.size + 1) 0 1 fi z (by omega) (by omega) ((wr.alloc (.cells #[.string nm, .int .i64 z, .int .i64 fi] 41)).alloc (.cells #[.int .i64 fi] 2)).drew (blk_cell (W := (wr.alloc (.cells #[.string nm, .int .i64 z, .int .i64 fi] 41)).alloc (.cells #[.int .i64 fi] 2)) (by rw [show wr.heap.size + 1 = (wr.alloc (.cells #[.string nm, .int .i64 z, .int .i64 fi] 41)).heap.size by simp]; exact (MapKept.heap_alloc _ _).1) rfl))
          have hR2 : Hid (Calls Try.prog 21 #[.slice (some ⟨wr.heap.size + 1, 0, none⟩) 1 1, .int .i64 z] ((wr.alloc (.cells #[.string nm, .int .i64 z, .int .i64 fi] 41)).alloc (.cells #[.int .i64 fi] 2)).drew fun e w' => ∃ g, e = .returned (.slice (some ⟨g, 0, none⟩) z z) ∧ w'.heap[g]? = some (.cells (List.replicate z (Value.int .i64 fi)).toArray 2 (0, 0)) ∧ wr.heap.size ≤ g ∧ Below ((wr.alloc (.cells #[.string nm, .int .i64 z, .int .i64 fi] 41)).alloc (.cells #[.int .i64 fi] 2)).drew.heap.size ((wr.alloc (.cells #[.string nm, .int .i64 z, .int .i64 fi] 41)).alloc (.cells #[.int .i64 fi] 2)).drew w') := Lib.hid (hR.out.mono fun e w' ⟨h1, h2, h3, _⟩ => ⟨_, h1, h2, by show wr.heap.size ≤ ((wr.alloc (.cells #[.string nm, .int .i64 z, .int .i64 fi] 41)).alloc (.cells #[.int .i64 fi] 2)).heap.size; simp; omega, h3⟩)
          clear hR
          have hQ : Hid (∀ w5, Below ((wr.alloc (.cells #[.string nm, .int .i64 z, .int .i64 fi] 41)).alloc (.cells #[.int .i64 fi] 2)).drew.heap.size ((wr.alloc (.cells #[.string nm, .int .i64 z, .int .i64 fi] 41)).alloc (.cells #[.int .i64 fi] 2)).drew w5 → w5.cell? ⟨B + 1 + 1, 0, none⟩ = some (.slice (some ⟨B, 0, none⟩) l.length l.length) ∧ w5.frozen? ⟨B, k, none⟩ = false ∧ w5.cell? ⟨B, k, none⟩ = some (.slice none 0 0) ∧ w5.cell? ⟨wr.heap.size, 1, none⟩ = some (.int .i64 z) ∧ w5.cell? ⟨wr.heap.size, 2, none⟩ = some (.int .i64 fi) ∧ Hid (Below wr.heap.size wr w5)) := Lib.hid fun w5 hb5 => by
            have hb7 : Below (wr.heap.size + 1) (wr.alloc (.cells #[.string nm, .int .i64 z, .int .i64 fi] 41)) w5 := (((Below.refl _ _).alloc (by simp) _).drew).trans (hb5.mono (by show _ ≤ ((wr.alloc _).alloc _).heap.size; simp))
            have hb6 : Below wr.heap.size wr w5 := (b_alloc wr _).trans (hb7.mono (by omega))
            exact ⟨(hb6.cell (p := ⟨B + 1 + 1, 0, none⟩) (by show B + 1 + 1 < _; omega)).trans m0, (hb6.frozen (p := ⟨B, k, none⟩) (by show B < _; omega)).trans m1, (hb6.cell (p := ⟨B, k, none⟩) (by show B < _; omega)).trans m6, (hb7.cell (p := ⟨wr.heap.size, 1, none⟩) (by show wr.heap.size < _; omega)).trans (blk_cell (MapKept.heap_alloc wr _).1 rfl), (hb7.cell (p := ⟨wr.heap.size, 2, none⟩) (by show wr.heap.size < _; omega)).trans (blk_cell (MapKept.heap_alloc wr _).1 rfl), Lib.hid hb6⟩
          have hS0 : (fun X : World => X.cell? ⟨B + 1 + 1, 0, none⟩ = some (.slice (some ⟨B, 0, none⟩) l.length l.length) ∧ X.cell? ⟨wr.heap.size, 1, none⟩ = some (.int .i64 z) ∧ X.cell? ⟨wr.heap.size, 2, none⟩ = some (.int .i64 fi)) (wr.alloc (.cells #[.string nm, .int .i64 z, .int .i64 fi] 41)).drew := ⟨((b_alloc wr _).cell (p := ⟨B + 1 + 1, 0, none⟩) (by show B + 1 + 1 < _; omega)).trans m0, blk_cell (MapKept.heap_alloc wr _).1 rfl, blk_cell (MapKept.heap_alloc wr _).1 rfl⟩
          refine wp_region_noPanic ?_
          refine wp_region_held_drew (S := (fun X : World => X.cell? ⟨B + 1 + 1, 0, none⟩ = some (.slice (some ⟨B, 0, none⟩) l.length l.length) ∧ X.cell? ⟨wr.heap.size, 1, none⟩ = some (.int .i64 z) ∧ X.cell? ⟨wr.heap.size, 2, none⟩ = some (.int .i64 fi))) (by kernel_rfl) hS0 (fun hHeld => ?_)
          refine' wpAnyH_take (i := 0) (oi := _) (v := _) rfl (by kernel_rfl) (by kernel_rfl) (by kernel_rfl) (fun _ _ _ h => h) (Or.inl ⟨by rfl, ?hyp0⟩) (by assumption) ?restp0
          case hyp0 => (intro w hSw; obtain ⟨s0, s1, s2⟩ := hSw; go_simp; all_goals (with_reducible rfl))
          try simp only [Act.put, List.getElem_toArray, List.getElem_cons_zero, List.setIfInBounds_toArray, List.set_cons_zero, List.set_cons_succ]
          refine' wpAnyH_take (i := 1) (oi := _) (v := _) rfl (by kernel_rfl) (by kernel_rfl) (by kernel_rfl) (fun _ _ _ h => h) (Or.inl ⟨by rfl, ?hyp1⟩) (by assumption) ?restp1
          case hyp1 => (intro w hSw; obtain ⟨s0, s1, s2⟩ := hSw; go_simp; all_goals (with_reducible rfl))
          try simp only [Act.put, List.getElem_toArray, List.getElem_cons_zero, List.getElem_cons_succ, List.setIfInBounds_toArray, List.set_cons_zero, List.set_cons_succ]
          refine' wpAnyH_take (i := 2) (oi := _) (v := _) rfl (by kernel_rfl) (by kernel_rfl) (by kernel_rfl) (fun _ _ _ h => h) (Or.inl ⟨by rfl, ?hyp2⟩) (by assumption) ?restp2
          case hyp2 => (intro w hSw; obtain ⟨s0, s1, s2⟩ := hSw; go_simp; all_goals (with_reducible rfl))
          try simp only [Act.put, List.getElem_toArray, List.getElem_cons_zero, List.getElem_cons_succ, List.setIfInBounds_toArray, List.set_cons_zero, List.set_cons_succ]
          refine' wpAnyH_take (i := 3) (oi := _) (v := _) rfl (by kernel_rfl) (by kernel_rfl) (by kernel_rfl) (fun _ _ _ h => h) (Or.inl ⟨by rfl, ?hyp3⟩) (by assumption) ?restp3
          case hyp3 => (intro w hSw; obtain ⟨s0, s1, s2⟩ := hSw; go_simp; all_goals (with_reducible rfl))
          try simp only [Act.put, List.getElem_toArray, List.getElem_cons_zero, List.getElem_cons_succ, List.setIfInBounds_toArray, List.set_cons_zero, List.set_cons_succ]
          refine' wpAnyH_take (i := 4) (oi := _) (v := _) rfl (by kernel_rfl) (by kernel_rfl) (by kernel_rfl) (fun _ _ _ h => h) (Or.inl ⟨by rfl, ?hyp4⟩) (by assumption) ?restp4
          case hyp4 => (intro w hSw; obtain ⟨s0, s1, s2⟩ := hSw; go_simp; all_goals (with_reducible rfl))
          try simp only [Act.put, List.getElem_toArray, List.getElem_cons_zero, List.getElem_cons_succ, List.setIfInBounds_toArray, List.set_cons_zero, List.set_cons_succ]
          refine' wpAnyH_take (i := 5) (oi := _) (v := _) rfl (by kernel_rfl) (by kernel_rfl) (by kernel_rfl) (fun _ _ _ h => h) (Or.inl ⟨by rfl, ?hyp5⟩) (by assumption) ?restp5
          case hyp5 => (intro w hSw; obtain ⟨s0, s1, s2⟩ := hSw; go_simp; all_goals (with_reducible rfl))
          try simp only [Act.put, List.getElem_toArray, List.getElem_cons_zero, List.getElem_cons_succ, List.setIfInBounds_toArray, List.set_cons_zero, List.set_cons_succ]
          refine' wpAnyH_take (i := 6) (oi := _) (v := _) rfl (by kernel_rfl) (by kernel_rfl) (by kernel_rfl) (fun _ _ _ h => h) (Or.inl ⟨by rfl, ?hyp6⟩) (by assumption) ?restp6
          case hyp6 => (intro w hSw; obtain ⟨s0, s1, s2⟩ := hSw; go_simp; all_goals (with_reducible rfl))
          try simp only [Act.put, List.getElem_toArray, List.getElem_cons_zero, List.getElem_cons_succ, List.setIfInBounds_toArray, List.set_cons_zero, List.set_cons_succ]
          refine' wpAnyH_take (i := 8) (oi := _) (v := _) rfl (by kernel_rfl) (by kernel_rfl) (by kernel_rfl) (fun _ _ _ h => h) (Or.inl ⟨by rfl, ?hyp8⟩) (by assumption) ?restp8
          case hyp8 => (intro w hSw; obtain ⟨s0, s1, s2⟩ := hSw; go_simp; all_goals (with_reducible rfl))
          try simp only [Act.put, List.getElem_toArray, List.getElem_cons_zero, List.getElem_cons_succ, List.setIfInBounds_toArray, List.set_cons_zero, List.set_cons_succ]
          refine' wpAnyH_take (i := 9) (oi := _) (v := _) rfl (by kernel_rfl) (by kernel_rfl) (by kernel_rfl) (fun _ _ _ h => h) (Or.inl ⟨by rfl, ?hyp9⟩) (by assumption) ?restp9
          case hyp9 => (intro w hSw; obtain ⟨s0, s1, s2⟩ := hSw; go_simp; all_goals (with_reducible rfl))
          try simp only [Act.put, List.getElem_toArray, List.getElem_cons_zero, List.getElem_cons_succ, List.setIfInBounds_toArray, List.set_cons_zero, List.set_cons_succ]
          refine wpAnyH_ready (rs := [7]) (by kernel_rfl) (by simp) ?_
          refine AllReadyH.cons (o := _) rfl (fun K hK => ?_) AllReadyH.nil
          go_simp
          refine hK.out _ _ (by refine ⟨?_, ?_, ?_⟩ <;> go_keep) (fun hHeld => ?_)
          clear hK K
          try simp only [Act.put, List.getElem_toArray, List.getElem_cons_zero, List.getElem_cons_succ, List.setIfInBounds_toArray, List.set_cons_zero, List.set_cons_succ]
          refine wpAnyH_ready (rs := [10]) (by kernel_rfl) (by simp) ?_
          refine AllReadyH.cons (o := _) rfl (fun K hK => ?_) AllReadyH.nil
          go_simp
          go_at_call 21
          refine hR2.out.mono ?_
          rintro e w5 ⟨g, rfl, hg5, hgl, hb5⟩
          obtain ⟨m2, m3, m7, m4, m5, hb6⟩ := hQ.out w5 hb5
          have hfin := Lib.hid (hstep.out w5 g hb6.out hg5 hgl)
          clear hb5 hg5 hgl hR2 hQ hstep
          refine hK.out _ _ ⟨m2, m4, m5⟩ (fun hHeld => ?_)
          clear hK K
          try simp only [Act.put, List.getElem_toArray, List.getElem_cons_zero, List.getElem_cons_succ, List.setIfInBounds_toArray, List.set_cons_zero, List.set_cons_succ]
          refine wpAnyH_ready (rs := [11]) (by kernel_rfl) (by simp) ?_
          refine AllReadyH.cons (o := _) rfl (fun K hK => ?_) AllReadyH.nil
          go_simp
          refine hK.out _ _ ⟨m2, m4, m5⟩ (fun hHeld => ?_)
          clear hK K
          try simp only [Act.put, List.getElem_toArray, List.getElem_cons_zero, List.getElem_cons_succ, List.setIfInBounds_toArray, List.set_cons_zero, List.set_cons_succ]
          refine wpAnyH_ready (rs := [12]) (by kernel_rfl) (by simp) ?_
          refine AllReadyH.cons (o := _) rfl (fun K hK => ?_) AllReadyH.nil
          go_simp
          refine hK.out _ _ ⟨(set_ne (by show ¬ B + 1 + 1 = B; omega)).trans m2, (set_ne (by show ¬ wr.heap.size = B; omega)).trans m4, (set_ne (by show ¬ wr.heap.size = B; omega)).trans m5⟩ (fun hHeld => ?_)
          clear hK K
          try simp only [Act.put, List.getElem_toArray, List.getElem_cons_zero, List.getElem_cons_succ, List.setIfInBounds_toArray, List.set_cons_zero, List.set_cons_succ]
          refine wpAnyH_done (by kernel_rfl) ?_ _
          refine NoPanic.normal ?_
          clear m2 m3 m4 m5 m6 m7 hb6 hHeld hS0 m0 m1 c0 c1 c2
          replace hfin := Lib.hid (show Mk w B l locks (k + 1) _ from hfin.out)
          go_wp2_with fail
          go_roundw
          case rel => exact ⟨k + 1, by omega, by go_num, hfin⟩
          case measure => simp [intOf]; omega
        · have hkn : k = l.length := by omega
          subst hkn
          have hfin : ∀ e, e = Ending.returned (.tuple #[.pointer (some ⟨B + 1 + 1, 0, none⟩), .int .i64 0]) → PostN l locks w e wr := fun e he => by
            obtain ⟨m, q1, q2, q3, q4, q5, q6, q7⟩ := hM.out.done hlim (by omega)
            refine ⟨hM.out.bl, ?_⟩
            rw [if_neg (by rw [hbad'.out]; simp), if_neg hl'.out]
            exact ⟨m, q1, q2, q3, q4, q5, q6, by rw [q7]; exact he⟩
          replace hfin := Lib.hid hfin
          clear hM
          go_wp2_with fail
          go_ret2
          exact hfin.out _ rfl
end Go.Proofs.Ytnoilcchegmpfaa.Me
