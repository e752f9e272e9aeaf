/- Walk of bobbinref08.New where it makes a memory. Conditions: the list lies in memory. -/
import Derived.Test.YtnoilcchegmpfaaMgH
import Derived.BigQuiet
namespace Go.Proofs.Ytnoilcchegmpfaa.Me
open Go Go.RowKit

def PostNd (l : List Gm) (locks : Nat) (w : World) (e : Ending) (w' : World) : Prop :=
  Below w.heap.size w w' ∧ ∃ d : Dm, d.In w' ∧ d.C = firstC l ∧ d.locks = locks ∧ d.h = (fun _ => none) ∧ (∀ b, d.foot b → w.heap.size ≤ b ∧ b < w'.heap.size) ∧ e = .returned (.tuple #[.pointer (some ⟨d.mb, 0, none⟩), .int .i64 0])
theorem news1 {T : TypeId} (V : World) (u : Value) : ∀ (j : Nat) (x : Value), [u][j]? = some x → (V.alloc (.cells #[u] T)).cell? ((⟨V.heap.size, 0, none⟩ : Addr).add j) = some x := fun j x hj => by
  cases j with
  | zero =>
    cases hj
    exact blk_cell (MapKept.heap_alloc V (.cells #[u] T)).1 rfl
  | succ j => cases hj
theorem own_slc {w : World} {base : Nat} {e : TypeId} {v : Value} {n : Nat} {xs : List Value} (h : w.ownsRow base e 1 v n xs) : ∃ ca cc, v = .slice ca n cc ∧ (∀ b, aBlk ca b → base ≤ b ∧ b < w.heap.size) ∧ ∀ w' : World, (∀ (g : Nat) (cs : Array Value), w.heap[g]? = some (Obj.cells cs e (0, 0)) → w'.heap[g]? = w.heap[g]?) → Slc w' e ca n cc (fun j => xs[j]?) := by
  obtain ⟨h1, h2⟩ := h
  rcases h2 with ⟨rfl, rfl⟩ | ⟨g, cap, cur, rfl, q1, q2, q3, q4, q5, q6⟩
  · have hx : xs = [] := List.eq_nil_of_length_eq_zero (by simpa using h1)
    subst hx
    exact ⟨none, 0, rfl, fun b ⟨o, ho, _⟩ => (by cases ho), fun w' _ => ⟨fun j v hj => by simp at hj, Nat.le_refl _, Nat.zero_le _⟩⟩
  · refine ⟨_, cap, rfl, fun b ⟨o, ho, hb⟩ => by cases ho; exact hb ▸ ⟨q1, cells_lt q2⟩, fun w' hk => ⟨fun j v hj => ⟨g, cur, rfl, (hk _ _ q2).trans q2, fun i u hi => ?_⟩, q3, q4⟩⟩
    rw [← q6, List.getElem?_take] at hi
    split at hi
    · simpa using hi
    · cases hi
theorem Nk.done {w V : World} {l : List Gm} {v : Value} (h : Nk w l l.length v V) {n : Nat} (hlim : l.length ≤ 1000000) (hn : n ≤ 256) :
    ∀ W4, W4 = ((((V.setCell ⟨w.heap.size, 1, none⟩ (.slice (some ⟨V.heap.size, 0, none⟩) n n)).setCell ⟨w.heap.size, 2, none⟩ (.slice (some ⟨V.heap.size + 1, 0, none⟩) n n)).alloc (.cells (Array.replicate n (Value.bool false)) 4)).alloc (.cells (Array.replicate n (Value.int .i64 0)) 3)) →
    PostNd l n w (.returned (.tuple #[.pointer (some ⟨w.heap.size, 0, none⟩), .int .i64 0])) W4 := by
  rintro W4 hW4
  obtain ⟨R, hR1, hR2, hR3, hR4, hR5⟩ := h.ex
  obtain ⟨ca, cc, rfl, hca, hsl⟩ := own_slc hR3
  have hmbl := cells_lt h.mb
  have hws := h.bl.size
  have e0 : ((V.setCell ⟨w.heap.size, 1, none⟩ (.slice (some ⟨V.heap.size, 0, none⟩) n n)).setCell ⟨w.heap.size, 2, none⟩ (.slice (some ⟨V.heap.size + 1, 0, none⟩) n n)).heap.size = V.heap.size := by rw [size_set, size_set]
  have e1 : (((V.setCell ⟨w.heap.size, 1, none⟩ (.slice (some ⟨V.heap.size, 0, none⟩) n n)).setCell ⟨w.heap.size, 2, none⟩ (.slice (some ⟨V.heap.size + 1, 0, none⟩) n n)).alloc (.cells (Array.replicate n (Value.bool false)) 4)).heap.size = V.heap.size + 1 := by simp [World.setCell]
  have a1 := heap_set (heap_set h.mb 1 (.slice (some ⟨V.heap.size, 0, none⟩) n n)) 2 (.slice (some ⟨V.heap.size + 1, 0, none⟩) n n)
  have kp : ∀ b, b < V.heap.size → b ≠ w.heap.size → W4.heap[b]? = V.heap[b]? := fun b h1 h2 => by
    rw [hW4]
    exact (Below.heap_alloc _ _ _ (by rw [e1]; omega)).trans ((Below.heap_alloc _ _ _ (by rw [e0]; omega)).trans ((heap_set_ne h2 _ _).trans (heap_set_ne h2 _ _)))
  have hmb4 : W4.heap[w.heap.size]? = some (.cells #[.slice ca l.length cc, .slice (some ⟨V.heap.size, 0, none⟩) n n, .slice (some ⟨V.heap.size + 1, 0, none⟩) n n] 62 (0, 0)) := by
    rw [hW4]
    exact (Below.heap_alloc _ _ _ (by rw [e1]; omega)).trans ((Below.heap_alloc _ _ _ (by rw [e0]; omega)).trans a1)
  have hhb : W4.heap[V.heap.size]? = some (.cells (Array.replicate n (Value.bool false)) 4 (0, 0)) := by
    rw [hW4]
    refine (Below.heap_alloc _ _ _ (by rw [e1]; omega)).trans ?_
    have := (MapKept.heap_alloc ((V.setCell ⟨w.heap.size, 1, none⟩ (.slice (some ⟨V.heap.size, 0, none⟩) n n)).setCell ⟨w.heap.size, 2, none⟩ (.slice (some ⟨V.heap.size + 1, 0, none⟩) n n)) (.cells (Array.replicate n (Value.bool false)) 4)).1
    rw [e0] at this
    exact this
  have hbb : W4.heap[V.heap.size + 1]? = some (.cells (Array.replicate n (Value.int .i64 0)) 3 (0, 0)) := by
    rw [hW4]
    have := (MapKept.heap_alloc (((V.setCell ⟨w.heap.size, 1, none⟩ (.slice (some ⟨V.heap.size, 0, none⟩) n n)).setCell ⟨w.heap.size, 2, none⟩ (.slice (some ⟨V.heap.size + 1, 0, none⟩) n n)).alloc (.cells (Array.replicate n (Value.bool false)) 4)) (.cells (Array.replicate n (Value.int .i64 0)) 3)).1
    rw [e1] at this
    exact this
  have hbl4 : Below w.heap.size w W4 := by
    rw [hW4]
    exact (((h.bl.setCell (Nat.le_refl _) _).setCell (Nat.le_refl _) _).alloc (by rw [e0]; omega) _).alloc (by rw [e1]; omega) _
  clear hW4 a1
  refine ⟨hbl4, ⟨w.heap.size, ca, cc, some ⟨V.heap.size, 0, none⟩, n, some ⟨V.heap.size + 1, 0, none⟩, n, R, n, fun _ => none⟩, ⟨by show _ = some (Obj.cells #[.slice ca R.length cc, _, _] _ _); rw [hR1]; exact hmb4, ?_, ?_, ?_, fun r hr => ?_, hR5, by show R.length ≤ _; omega, hn⟩, by show R.map Row.l = _; rw [hR2, List.take_length], rfl, rfl, ?_, rfl⟩
  · have := hsl W4 (fun g cs hc => kp g (cells_lt hc) (fun e => by rw [e, h.mb] at hc; simp at hc))
    show Slc W4 _ ca R.length cc _
    rw [hR1]
    have e : (fun j => (R.map Row.val)[j]?) = Dm.rowL ⟨w.heap.size, ca, cc, some ⟨V.heap.size, 0, none⟩, n, some ⟨V.heap.size + 1, 0, none⟩, n, R, n, fun _ => none⟩ := by
      funext j
      rw [List.getElem?_map]
      rfl
    rw [← e]
    exact this
  · refine ⟨fun j u hj => ⟨_, _, rfl, hhb, fun i x hi => ?_⟩, Nat.le_refl _, by show n ≤ maxLen; unfold maxLen; omega⟩
    unfold Dm.heldL at hi
    split at hi
    · cases hi
      rw [Array.getElem?_replicate, if_pos (by assumption)]
      rfl
    · cases hi
  · refine ⟨fun j u hj => ⟨_, _, rfl, hbb, fun i x hi => ?_⟩, Nat.le_refl _, by show n ≤ maxLen; unfold maxLen; omega⟩
    unfold Dm.byL at hi
    split at hi
    · cases hi
      rw [Array.getElem?_replicate, if_pos (by assumption)]
      rfl
    · cases hi
  · obtain ⟨q1, q2⟩ := hR4 r hr
    refine q1.keep (kp _ q1.lt (fun e => ?_))
    obtain ⟨vs, e2, _⟩ := q1.ex
    rw [e, h.mb] at e2; simp at e2
  · have hsz4 : V.heap.size + 1 < W4.heap.size := cells_lt hbb
    rintro b (rfl | hb | ⟨o, ho, rfl⟩ | ⟨o, ho, rfl⟩ | ⟨r, hr, rfl⟩)
    · exact ⟨Nat.le_refl _, by show w.heap.size < _; omega⟩
    · have := hca b hb
      exact ⟨this.1, by omega⟩
    · cases ho; exact ⟨hws, by show V.heap.size < _; omega⟩
    · cases ho; exact ⟨(by show w.heap.size ≤ V.heap.size + 1; omega), hsz4⟩
    · have := (hR4 r hr).1.lt
      exact ⟨(hR4 r hr).2, by omega⟩
set_option maxHeartbeats 8000000 in
set_option maxRecDepth 100000 in
theorem dNew_c (l : List Gm) (locks : Nat) (a : Option Addr) (cap : Nat) (w : World) (hrow : RowAt w (fun _ => True) a cap l.length (gmCells l)) (hlim : l.length ≤ 1000000) (hbad : l.any badG = false) (hlk : locks ≤ 256) :
    Calls Try.prog 6 #[.slice a l.length cap, .int .i64 (locks : Int)] w (PostNd l locks w) := by
  obtain ⟨hc1, hc2⟩ := len_i hrow
  obtain ⟨i0, hI, hZ, hI1, hI2⟩ := info_parts info_row
  replace hrow := Lib.hid hrow
  have hgood : Hid (∀ (k : Nat) (x : Gm), l[k]? = some x → 1 ≤ x.size ∧ x.size ≤ 1024) := Lib.hid fun (k : Nat) (x : Gm) (hx : l[k]? = some x) => by
    rw [List.any_eq_false] at hbad
    have := hbad x (List.mem_of_getElem? hx)
    rw [badG_iff] at this
    omega
  have h0 := Lib.hid (Nk.start (w := w) l (MapKept.heap_alloc w (.cells #[.slice none 0 0, .slice none 0 0, .slice none 0 0] 62)).1 (b_alloc w _))
  have hl0 : ¬ (locks : Int) < 0 := by omega
  have hl1 : ¬ 256 < (locks : Int) := by omega
  clear hbad
  go_enter Try.func6, Try.ntmps6
  go_wp2_with fail
  go_loopw [7] (fun t7 V => ∃ k : Nat, k ≤ l.length ∧ t7 = .int .i64 k ∧ Hid (Nk w l 0 (.slice none 0 0) V)) (fun t7 _ => l.length - (intOf t7).toNat)
  case atStart => exact ⟨0, Nat.zero_le _, rfl, h0⟩
  case round =>
    clear h0
    obtain ⟨k, hk, rfl, hN⟩ := hrel
    by_cases hlt : k < l.length
    · obtain ⟨x, hx⟩ : ∃ x, l[k]? = some x := ⟨_, List.getElem?_eq_getElem hlt⟩
      obtain ⟨b, off, ha, _, c0, c1, c2⟩ := gm_row (hrow.out.below (Kps.of_below hN.out.bl)) k x hx
      subst ha
      have hi0 : (0 : Int) ≤ (k : Int) := by omega
      have hi1 : (k : Int) < (l.length : Int) := by omega
      obtain ⟨p1, p2⟩ := hgood.out k x hx
      have p1' : ¬ x.size < 1 := by omega
      have p2' : ¬ 1024 < x.size := by omega
      clear hx hrow hgood p1 p2
      go_wp2_with fail
      go_roundw
      case rel => exact ⟨k + 1, by omega, rfl, hN⟩
      case measure => simp [intOf]; omega
    · go_wp2_with fail
      go_loopw [8, 9, 10] (fun t8 _ _ V => ∃ (k : Nat) (v : Value), k ≤ l.length ∧ t8 = .int .i64 k ∧ Hid (Nk w l k v V)) (fun t8 _ _ _ => l.length - (intOf t8).toNat)
      case atStart => exact ⟨0, _, Nat.zero_le _, rfl, hN⟩
      case round =>
        clear hN
        obtain ⟨k2, v, hk2, rfl, hN⟩ := hrel
        by_cases hlt2 : k2 < l.length
        · obtain ⟨x, hx⟩ : ∃ x, l[k2]? = some x := ⟨_, List.getElem?_eq_getElem hlt2⟩
          obtain ⟨b, off, ha, _, c0, c1, c2⟩ := gm_row (hrow.out.below (Kps.of_below hN.out.bl)) k2 x hx
          subst ha
          obtain ⟨R, hR1, hR2, hR3, hR4, hR5⟩ := hN.out.ex
          have hi0 : (0 : Int) ≤ (k2 : Int) := by omega
          have hi1 : (k2 : Int) < (l.length : Int) := by omega
          obtain ⟨p1, p2⟩ := hgood.out k2 x hx
          obtain ⟨z, hz⟩ : ∃ z : Nat, x.size = z := ⟨x.size.toNat, by omega⟩
          have hstep := Lib.hid (fun V2 V3 v' (hF : Fl wr z x.first z V2) (o : Obj) => hN.out.step (V2 := V2) (V3 := V3) (v' := v') hx hz (by omega) hF o hR1 hR2 hR3 hR4 hR5)
          have m0 : wr.cell? ⟨w.heap.size, 0, none⟩ = some v := blk_cell hN.out.mb rfl
          have m1 : wr.frozen? ⟨w.heap.size, 0, none⟩ = false := blk_free hN.out.mb 0
          have hmbl := cells_lt hN.out.mb
          have hbl : b < wr.heap.size := World.block_lt_of_cell? wr ⟨b, off + k2 * 3 + 2, none⟩ c2
          obtain ⟨nm, sz, fi⟩ := x
          simp only at hz c0 c1 c2 hstep p1 p2
          subst hz
          have hmk := make_i64 z (by omega) wr
          have hF0 := Lib.hid (Fl.start wr z fi)
          replace hR3 := Lib.hid hR3
          replace hR4 := Lib.hid hR4
          clear hx hR5 hR2
          have hold : Hid (∀ (V2 : World) (o : Obj), Below wr.heap.size wr V2 → (V2.alloc o).ownsRow w.heap.size 52 1 v k2 (R.map Row.val)) := Lib.hid fun V2 o hb2 => own_keep hR3.out fun g cs hc => (Below.heap_alloc _ _ _ (by have := hb2.size; have := cells_lt hc; omega)).trans (hb2.block g (cells_lt hc))
          have hmbs : Hid (∀ (V2 w3 : World) (o : Obj), Below wr.heap.size wr V2 → (V2.alloc o).grownBy w3 v.ownBlock → w3.cell? ⟨w.heap.size, 0, none⟩ = some v ∧ w3.frozen? ⟨w.heap.size, 0, none⟩ = false) := Lib.hid fun V2 w3 o hb2 hg => by
            have e : w3.heap[w.heap.size]? = wr.heap[w.heap.size]? := (hg.block _ (by have := hb2.size; simp; omega) (fun e => by
              obtain ⟨_, cs, hc⟩ := own_blk hR3.out e.symm
              rw [hN.out.mb] at hc; simp at hc)).trans ((Below.heap_alloc _ _ _ (by have := hb2.size; omega)).trans (hb2.block _ hmbl))
            exact ⟨(World.cell?_of_block (w := wr) e).trans m0, (World.frozen?_of_block (w := wr) e).trans m1⟩
          have hws := hN.out.bl.size
          go_wp2_with fail
          go_loopw [10] (fun t10 V2 => ∃ j : Nat, j ≤ z ∧ t10 = .int .i64 j ∧ Hid (Fl wr z fi j V2)) (fun t10 _ => z - (intOf t10).toNat)
          case atStart => exact ⟨0, Nat.zero_le _, rfl, hF0⟩
          case round =>
            clear hF0 hmk
            obtain ⟨j, hj, rfl, hF⟩ := hrel
            by_cases hjz : j < z
            · have d2 := (hF.out.bl.cell (p := ⟨b, off + k2 * 3 + 2, none⟩) hbl).trans c2
              have d4 : _ = some (Value.int .i64 0) := blk_cell hF.out.hp (j := j) (u := .int .i64 0) (by rw [List.getElem?_toArray]; unfold half; rw [List.getElem?_append_right (by simp), List.length_replicate, Nat.sub_self, List.getElem?_replicate, if_pos (by omega)])
              have f4 := blk_free hF.out.hp j
              have hst := Lib.hid (hF.out.step hjz)
              have hj0 : (0 : Int) ≤ (j : Int) := by omega
              have hj1 : (j : Int) < (z : Int) := by omega
              clear c0 c1 c2 hstep hold hmbs hrow hgood hN m0 m1
              go_wp2_with fail
              go_roundw
              case rel => exact ⟨j + 1, by omega, rfl, hst⟩
              case measure => simp [intOf]; omega
            · have hjz' : j = z := by omega
              subst hjz'
              have hown := Lib.hid (fun o => hold.out _ o hF.out.bl)
              have hmb2 := Lib.hid (fun w3 o => hmbs.out _ w3 o hF.out.bl)
              have hst := Lib.hid (fun w3 v' => hstep.out _ w3 v' hF.out)
              have hn1 := Lib.hid (news1 (T := 52))
              have m0' := (hF.out.bl.cell (p := ⟨w.heap.size, 0, none⟩) hmbl).trans m0
              have m1' := (hF.out.bl.frozen (p := ⟨w.heap.size, 0, none⟩) hmbl).trans m1
              have hsz2 := hF.out.bl.size
              clear c0 c1 c2 hstep hold hmbs hrow hgood hN m0 m1
              go_wp2_with (at_builtin; go_loud (refine wpList_append_own _ rfl _ _ 44 rfl w.heap.size 52 i0 (.slice none 0 0) 1 24 Try.underlying44 hI hZ hI1 hI2 rfl (by decide) v k2 (R.map Row.val) rfl (hown.out _) _ 1 1 [_] rfl rfl (hn1.out _ _) (by simp [Value.oneCell']) (by unfold maxLen; omega) (by omega) (by simp; omega) ?_); intro v' w3 hown3 hgrow _; obtain ⟨s0, s1⟩ := hmb2.out _ _ hgrow; obtain ⟨ca, cc, rfl, _⟩ := own_slc hown3)
              go_roundw
              case rel => exact ⟨k2 + 1, _, by omega, rfl, Lib.hid (hst.out _ _ _ hown3 hgrow)⟩
              case measure => simp [intOf]; omega
        · have hkl : k2 = l.length := by omega
          subst hkl
          have hfin := Lib.hid (hN.out.done hlim hlk)
          have m1 : wr.cell? ⟨w.heap.size, 1, none⟩ = some (.slice none 0 0) := blk_cell hN.out.mb rfl
          have m2 : wr.cell? ⟨w.heap.size, 2, none⟩ = some (.slice none 0 0) := blk_cell hN.out.mb rfl
          have f1 : wr.frozen? ⟨w.heap.size, 1, none⟩ = false := blk_free hN.out.mb 1
          have f2 : wr.frozen? ⟨w.heap.size, 2, none⟩ = false := blk_free hN.out.mb 2
          have hmbl := cells_lt hN.out.mb
          have hmk1 := make_bool locks (by omega) wr
          have hmk2 := make_int locks (by omega) ((wr.setCell ⟨w.heap.size, 1, none⟩ (.slice (some ⟨wr.heap.size, 0, none⟩) locks locks)).alloc (.cells (Array.replicate locks (Value.bool false)) 4))
          rw [List.toArray_replicate] at hmk1 hmk2
          clear hrow hgood hN
          go_wp2_with fail
          go_ret2
          exact hfin.out _ rfl
end Go.Proofs.Ytnoilcchegmpfaa.Me
