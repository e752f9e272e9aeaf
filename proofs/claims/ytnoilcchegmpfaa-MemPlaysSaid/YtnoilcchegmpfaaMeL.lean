/- Walk of Cells. Conditions: the memory lies in the world. -/
import Derived.Test.YtnoilcchegmpfaaMeK
namespace Go.Proofs.Ytnoilcchegmpfaa.Me
open Go Go.RowKit

/-- cells, as they are handed out: in block g the rows R, all from block B on -/
structure Cs (w : World) (g B : Nat) (R : List Row) : Prop where
  blk : w.heap[g]? = some (.cells (R.map Row.val).toArray 52 (0, 0))
  rows : ∀ r ∈ R, r.In w ∧ B ≤ r.b
  nd : (R.map Row.b).Nodup
/-- as far as they are copied -/
structure Ck (w : World) (m : Mm) (k : Nat) (wr : World) : Prop where
  ex : ∃ R : List Row, R.length = k ∧ R.map Row.l = (m.rows.take k).map Row.l ∧ (∀ r ∈ R, r.In wr ∧ w.heap.size < r.b) ∧ (R.map Row.b).Nodup ∧
    wr.heap[w.heap.size]? = some (.cells (R.map Row.val ++ List.replicate (m.rows.length - k) (Value.slice none 0 0)).toArray 52 (0, 0))
  bl : Below w.heap.size w wr
  sz : w.heap.size < wr.heap.size
theorem Ck.start (w : World) (m : Mm) : Ck w m 0 (w.alloc (.cells (Array.replicate m.rows.length (Value.slice none 0 0)) 52)) :=
  ⟨⟨[], rfl, by simp, fun r hr => (by simp at hr), List.nodup_nil, by simpa using (MapKept.heap_alloc w (.cells (Array.replicate m.rows.length (Value.slice none 0 0)) 52)).1⟩, b_alloc _ _, by simp⟩
theorem Ck.step {w wr w5 : World} {m : Mm} {k : Nat} (h : Ck w m k wr) {x r' : Row} (hx : m.rows[k]? = some x) (hb : Below wr.heap.size wr w5) (hl : r'.l = x.l) (hr' : r'.In w5) (hgl : wr.heap.size ≤ r'.b) :
    Ck w m (k + 1) (w5.setCell ⟨w.heap.size, k, none⟩ (.slice (some ⟨r'.b, 0, none⟩) r'.l.length r'.cap)) := by
  obtain ⟨⟨R, h1, h2, h3, h4, h5⟩, hbl, hsz⟩ := h
  have hk := (List.getElem?_eq_some_iff.1 hx).1
  have hB5 : w5.heap[w.heap.size]? = wr.heap[w.heap.size]? := hb.block _ hsz
  refine ⟨⟨R ++ [r'], by simp [h1], by rw [List.map_append, h2, List.take_add_one, hx, List.map_append]; simp [hl], fun r hr => ?_, ?_, ?_⟩, (hbl.trans (hb.mono hbl.size)).setCell (Nat.le_refl _) _, by rw [size_set]; have := hb.size; omega⟩
  · rcases List.mem_append.1 hr with hr | hr
    · obtain ⟨q1, q2⟩ := h3 r hr
      exact ⟨(q1.keep (hb.block _ q1.lt)).keep (heap_set_ne (by omega) _ _), q2⟩
    · rw [List.mem_singleton.1 hr]
      exact ⟨hr'.keep (heap_set_ne (by omega) _ _), by omega⟩
  · rw [List.map_append]
    refine List.nodup_append.2 ⟨h4, by simp, fun a ha b hb' => ?_⟩
    obtain ⟨r, hr, rfl⟩ := List.mem_map.1 ha
    simp at hb'
    have := (h3 r hr).1.lt
    omega
  · rw [heap_set (hB5.trans h5)]
    congr 2
    have hl : (R.map Row.val).length = k := by simp [h1]
    apply Array.ext'
    rw [Array.toList_setIfInBounds]
    simp only [List.map_append, List.map_cons, List.map_nil, List.append_assoc, List.cons_append, List.nil_append]
    rw [List.set_append_right _ _ (by omega), hl, Nat.sub_self]
    obtain ⟨q, hm⟩ : ∃ q, m.rows.length - k = q + 1 := ⟨m.rows.length - k - 1, by omega⟩
    rw [hm, show m.rows.length - (k + 1) = q by omega, List.replicate_succ]
    simp [Row.val]
theorem Ck.done {w wr : World} {m : Mm} (h : Ck w m m.rows.length wr) : ∃ R : List Row, R.map Row.l = m.C ∧ R.length = m.rows.length ∧ Cs wr w.heap.size (w.heap.size + 1) R ∧ Below w.heap.size w wr := by
  obtain ⟨⟨R, h1, h2, h3, h4, h5⟩, hbl, hsz⟩ := h
  rw [List.take_length] at h2
  rw [Nat.sub_self, List.replicate_zero, List.append_nil] at h5
  exact ⟨R, h2, h1, ⟨h5, fun r hr => h3 r hr, h4⟩, hbl⟩
def PostC (m : Mm) (w : World) (e : Ending) (w' : World) : Prop :=
  e = .returned (.slice (some ⟨w.heap.size, 0, none⟩) m.rows.length m.rows.length) ∧ ∃ R : List Row, R.map Row.l = m.C ∧ R.length = m.rows.length ∧ Cs w' w.heap.size (w.heap.size + 1) R ∧ Below w.heap.size w w'
set_option maxHeartbeats 2000000 in
set_option maxRecDepth 100000 in
theorem Cells_c {w : World} {m : Mm} (h : m.In w) : Calls Try.prog 15 #[.pointer (some ⟨m.mb, 0, none⟩)] w (PostC m w) := by
  have hlim := h.lim
  have c0 := h.c0
  have hmk := make_rows m.rows.length hlim w
  have hmb : m.mb < w.heap.size := cells_lt h.blk
  have hcb : m.cb < w.heap.size := cells_lt h.cbl
  rw [List.toArray_replicate] at hmk
  have hS := Lib.hid (Ck.start w m)
  have hIn := Lib.hid h
  clear h
  go_enter Try.func15, Try.ntmps15
  go_wp2_with fail
  go_loopw [19] (fun i wr => ∃ k : Nat, k ≤ m.rows.length ∧ i = .int .i64 k ∧ Hid (Ck w m k wr)) (fun i _ => m.rows.length - (intOf i).toNat)
  case atStart => exact ⟨0, Nat.zero_le _, rfl, hS⟩
  case round =>
    clear hS hmk
    obtain ⟨k, hk, rfl, hM⟩ := hrel
    by_cases hlt : k < m.rows.length
    · obtain ⟨x, hx⟩ : ∃ x, m.rows[k]? = some x := ⟨_, List.getElem?_eq_getElem hlt⟩
      have hi0' : (0 : Int) ≤ (k : Int) := by omega
      have hi1 : (k : Int) < (m.rows.length : Int) := by omega
      have hbl := hM.out.bl
      obtain ⟨q1, q2⟩ := hIn.out.row hx
      have hInx : x.In wr := q1.keep (hbl.block _ q1.lt)
      have c1 : wr.cell? ⟨m.cb, k, none⟩ = some (.slice (some ⟨x.b, 0, none⟩) x.l.length x.cap) := (hbl.cell (p := ⟨m.cb, k, none⟩) hcb).trans q2
      have hcl := Lib.hid (clone_c hInx)
      have m1 : wr.frozen? ⟨w.heap.size, k, none⟩ = false := by
        obtain ⟨⟨R, _, _, _, _, h5⟩, _⟩ := hM.out
        exact blk_free h5 k
      have m6 : wr.cell? ⟨w.heap.size, k, none⟩ = some (.slice none 0 0) := by
        obtain ⟨⟨R, q1, _, _, _, h5⟩, _⟩ := hM.out
        refine blk_cell h5 ?_
        have hl : (R.map Row.val).length = k := by simp [q1]
        rw [List.getElem?_toArray, List.getElem?_append_right (by omega), hl, Nat.sub_self, List.getElem?_replicate, if_pos (by omega)]
      have hsz := hM.out.sz
      have hQ : Hid (∀ w5, Below wr.heap.size wr w5 → w5.frozen? ⟨w.heap.size, k, none⟩ = false ∧ w5.cell? ⟨w.heap.size, k, none⟩ = some (.slice none 0 0)) := Lib.hid fun w5 hb5 =>
        ⟨(hb5.frozen (p := ⟨w.heap.size, k, none⟩) hsz).trans m1, (hb5.cell (p := ⟨w.heap.size, k, none⟩) hsz).trans m6⟩
      have hst := Lib.hid (fun (w5 : World) (r' : Row) => hM.out.step hx (w5 := w5) (r' := r'))
      clear hx hM hbl q1 q2 hInx m1 m6 c0
      go_wp2_with (go_at_call 34; refine hcl.out.mono ?_; rintro e w5 ⟨r', rfl, hr1, hr2, hr3, hr4⟩; obtain ⟨m2, m3⟩ := hQ.out w5 hr4; have hfin := Lib.hid (hst.out w5 r' hr4 hr1 hr2 hr3); rw [show r'.val = Value.slice (some ⟨r'.b, 0, none⟩) r'.l.length r'.cap from rfl]; clear hr1 hr2 hr3 hr4 hQ hst hcl)
      go_roundw
      case rel => exact ⟨k + 1, by omega, by go_num, hfin⟩
      case measure => simp [intOf]; omega
    · have hkn : k = m.rows.length := by omega
      subst hkn
      go_wp2_with fail
      go_ret
      exact ⟨rfl, hM.out.done⟩
end Go.Proofs.Ytnoilcchegmpfaa.Me
