/- bobbinref08.New: what it keeps while it makes a memory. Conditions: none. -/
import Derived.Test.YtnoilcchegmpfaaMgG
namespace Go.Proofs.Ytnoilcchegmpfaa.Me
open Go Go.RowKit

theorem half_set (v : Int) {c n : Nat} (h : c < n) : (half v c n).toArray.setIfInBounds c (.int .i64 v) = (half v (c + 1) n).toArray := by
  apply Array.ext'
  rw [Array.toList_setIfInBounds]
  show (half v c n).set c _ = half v (c + 1) n
  unfold half
  rw [List.set_append_right _ _ (by simp), List.length_replicate, Nat.sub_self]
  obtain ⟨m, hm⟩ : ∃ m, n - c = m + 1 := ⟨n - c - 1, by omega⟩
  rw [hm, show n - (c + 1) = m by omega, List.replicate_succ, List.set_cons_zero, List.replicate_succ' (n := c)]
  simp
/-- a row that is filled -/
structure Fl (V : World) (z : Nat) (fi : Int) (j : Nat) (V2 : World) : Prop where
  hp : V2.heap[V.heap.size]? = some (.cells (half fi j z).toArray 2 (0, 0))
  bl : Below V.heap.size V V2
theorem Fl.start (V : World) (z : Nat) (fi : Int) : Fl V z fi 0 (V.alloc (.cells (List.replicate z (Value.int .i64 0)).toArray 2)) :=
  ⟨by unfold half; simpa using (MapKept.heap_alloc V (.cells (List.replicate z (Value.int .i64 0)).toArray 2)).1, b_alloc V _⟩
theorem Fl.step {V V2 : World} {z j : Nat} {fi : Int} (h : Fl V z fi j V2) (hj : j < z) : Fl V z fi (j + 1) (V2.setCell ⟨V.heap.size, j, none⟩ (.int .i64 fi)) :=
  ⟨by rw [heap_set h.hp, half_set fi hj], h.bl.setCell (Nat.le_refl _) _⟩
/-- the document's New, as far as it has made rows -/
structure Nk (w : World) (l : List Gm) (k : Nat) (v : Value) (V : World) : Prop where
  mb : V.heap[w.heap.size]? = some (.cells #[v, .slice none 0 0, .slice none 0 0] 62 (0, 0))
  ex : ∃ R : List Row, R.length = k ∧ R.map Row.l = firstC (l.take k) ∧ V.ownsRow w.heap.size 52 1 v k (R.map Row.val) ∧ (∀ r ∈ R, r.In V ∧ w.heap.size ≤ r.b) ∧ (R.map Row.b).Nodup
  bl : Below w.heap.size w V
theorem Nk.start {w V : World} (l : List Gm) (h : V.heap[w.heap.size]? = some (.cells #[.slice none 0 0, .slice none 0 0, .slice none 0 0] 62 (0, 0))) (hb : Below w.heap.size w V) : Nk w l 0 (.slice none 0 0) V :=
  ⟨h, ⟨[], rfl, by simp [firstC], World.ownsRow_nil _ _ _ _, fun r hr => (by simp at hr), List.nodup_nil⟩, hb⟩
theorem own_blk {w : World} {base : Nat} {e : TypeId} {v : Value} {n : Nat} {xs : List Value} (h : w.ownsRow base e 1 v n xs) {g : Nat} (hg : v.ownBlock = some g) : base ≤ g ∧ ∃ cs, w.heap[g]? = some (.cells cs e (0, 0)) := by
  rcases h.2 with ⟨rfl, _⟩ | ⟨g', cap, cur, rfl, h1, h2, _⟩
  · cases hg
  · cases hg
    exact ⟨h1, cur, h2⟩
theorem own_keep {w w' : World} {base : Nat} {e : TypeId} {v : Value} {n : Nat} {xs : List Value} (h : w.ownsRow base e 1 v n xs) (hk : ∀ (g : Nat) (cs : Array Value), w.heap[g]? = some (Obj.cells cs e (0, 0)) → w'.heap[g]? = w.heap[g]?) : w'.ownsRow base e 1 v n xs := by
  refine ⟨h.1, ?_⟩
  rcases h.2 with h1 | ⟨g', cap, cur, q1, q2, q3, q4⟩
  · exact .inl h1
  · exact .inr ⟨g', cap, cur, q1, q2, (hk _ _ q3).trans q3, q4⟩
theorem Nk.step {w V V2 V3 : World} {l : List Gm} {k : Nat} {v v' : Value} (h : Nk w l k v V) {x : Gm} {z : Nat} (hx : l[k]? = some x) (hz : x.size = z) (hs : 1 ≤ z ∧ z ≤ 1024) (hF : Fl V z x.first z V2) (o : Obj)
    {R : List Row} (hR1 : R.length = k) (hR2 : R.map Row.l = firstC (l.take k)) (hR3 : V.ownsRow w.heap.size 52 1 v k (R.map Row.val)) (hR4 : ∀ r ∈ R, r.In V ∧ w.heap.size ≤ r.b) (hR5 : (R.map Row.b).Nodup)
    (hown : V3.ownsRow w.heap.size 52 1 v' (k + 1) (R.map Row.val ++ [.slice (some ⟨V.heap.size, 0, none⟩) z z])) (hg : (V2.alloc o).grownBy V3 v.ownBlock) : Nk w l (k + 1) v' (V3.setCell ⟨w.heap.size, 0, none⟩ v') := by
  have hbl2 : Below V.heap.size V (V2.alloc o) := hF.bl.alloc hF.bl.size o
  have hVs := h.bl.size
  have hmbl := cells_lt h.mb
  -- what isn't the row's own block, and is older than the world, is as it was
  have kp : ∀ b, b < V.heap.size → v.ownBlock ≠ some b → V3.heap[b]? = V.heap[b]? := fun b h1 h2 => (hg.block b (by have := hbl2.size; omega) (fun e => h2 e.symm)).trans (hbl2.block b h1)
  have kc : V3.heap[V.heap.size]? = V2.heap[V.heap.size]? := by
    have h0 := cells_lt hF.hp
    refine (hg.block V.heap.size (by simp; omega) (fun e => ?_)).trans (Below.heap_alloc _ _ _ h0)
    obtain ⟨_, cs, hc⟩ := own_blk hR3 e.symm
    exact absurd (cells_lt hc) (Nat.lt_irrefl _)
  have nmb : v.ownBlock ≠ some w.heap.size := fun e => by
    obtain ⟨_, cs, hc⟩ := own_blk hR3 e
    rw [h.mb] at hc; simp at hc
  have hm3 : V3.heap[w.heap.size]? = some (.cells #[v, .slice none 0 0, .slice none 0 0] 62 (0, 0)) := (kp _ hmbl nmb).trans h.mb
  have hold : ∀ r ∈ R, r.In (V3.setCell ⟨w.heap.size, 0, none⟩ v') := fun r hr => by
    obtain ⟨q1, q2⟩ := hR4 r hr
    obtain ⟨vs, e1, _⟩ := q1.ex
    refine (q1.keep (kp _ q1.lt (fun e => ?_))).keep (heap_set_ne (fun e => ?_) _ _)
    · obtain ⟨_, cs, hc⟩ := own_blk hR3 e
      rw [e1] at hc; simp at hc
    · rw [e, h.mb] at e1; simp at e1
  refine ⟨by rw [heap_set hm3]; rfl, ⟨R ++ [⟨V.heap.size, z, List.replicate z x.first⟩], by simp [hR1], ?_, ?_, fun r hr => ?_, ?_⟩, ((h.bl.trans (hbl2.mono hVs)).grown hg (by have := hbl2.size; omega) (fun k e => (own_blk hR3 e).1)).setCell (Nat.le_refl _) _⟩
  · rw [List.map_append, hR2, firstC_take hx, hz]
    rfl
  · have e : (R ++ [(⟨V.heap.size, z, List.replicate z x.first⟩ : Row)]).map Row.val = R.map Row.val ++ [.slice (some ⟨V.heap.size, 0, none⟩) z z] := by simp [Row.val]
    rw [e]
    exact own_keep hown fun g cs hc => heap_set_ne (fun e => by rw [e, hm3] at hc; simp at hc) _ _
  · rcases List.mem_append.1 hr with hr | hr
    · exact ⟨hold r hr, (hR4 r hr).2⟩
    · rw [List.mem_singleton.1 hr]
      refine ⟨⟨⟨_, (heap_set_ne (show V.heap.size ≠ w.heap.size by omega) _ _).trans (kc.trans hF.hp), fun j u hj => ?_⟩, by simpa using hs, by simp, by show z ≤ maxLen; unfold maxLen; omega⟩, hVs⟩
      have hjz := (List.getElem?_eq_some_iff.1 hj).1
      simp only [List.length_replicate] at hjz
      rw [List.getElem?_replicate, if_pos hjz] at hj
      cases hj
      rw [List.getElem?_toArray]
      exact half_at _ hjz
  · rw [List.map_append]
    refine List.nodup_append.2 ⟨hR5, by simp, fun a ha b hb' => ?_⟩
    obtain ⟨r, hr, rfl⟩ := List.mem_map.1 ha
    simp at hb'
    have := (hR4 r hr).1.lt
    omega
/-- lists of truths, of numbers are made -/
theorem info_bool : (Try.prog.info? 4).map (fun i => (i.zero, i.size, i.bytes)) = some (some (.bool false), 1, 1) := by kernel_rfl
theorem info_int : (Try.prog.info? 3).map (fun i => (i.zero, i.size, i.bytes)) = some (some (.int .i64 0), 1, 8) := by kernel_rfl
theorem make_bool (n : Nat) (hn : n ≤ 1024) (V : World) : (Instr.makeSlice 59 (.int .i64 (n : Int)) (.int .i64 (n : Int))).run Try.prog V = .ok (.slice (some ⟨V.heap.size, 0, none⟩) n n) (V.alloc (.cells (List.replicate n (Value.bool false)).toArray 4)) := by
  obtain ⟨i0, hi0, hz0, hz1, hz2⟩ := info_parts info_bool
  have h := run_makeSlice (P := Try.prog) V 59 4 i0 _ Try.underlying59 hi0 hz0 .i64 .i64 (n : Int) (n : Int) (by omega) (Int.le_refl _) (by rw [hz1]; omega) (by rw [hz2]; omega) (by omega)
  rw [hz1, Int.toNat_natCast, Nat.mul_one, made_one _ rfl] at h
  exact h
theorem make_int (n : Nat) (hn : n ≤ 1024) (V : World) : (Instr.makeSlice 60 (.int .i64 (n : Int)) (.int .i64 (n : Int))).run Try.prog V = .ok (.slice (some ⟨V.heap.size, 0, none⟩) n n) (V.alloc (.cells (List.replicate n (Value.int .i64 0)).toArray 3)) := by
  obtain ⟨i0, hi0, hz0, hz1, hz2⟩ := info_parts info_int
  have h := run_makeSlice (P := Try.prog) V 60 3 i0 _ Try.underlying60 hi0 hz0 .i64 .i64 (n : Int) (n : Int) (by omega) (Int.le_refl _) (by rw [hz1]; omega) (by rw [hz2]; omega) (by omega)
  rw [hz1, Int.toNat_natCast, Nat.mul_one, made_one _ rfl] at h
  exact h
end Go.Proofs.Ytnoilcchegmpfaa.Me
