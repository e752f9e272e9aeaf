/- bobbinref08.Copy: what it keeps while it makes a memory. Conditions: none. -/
import Derived.Test.YtnoilcchegmpfaaMgJ
import Derived.Test.YtnoilcchegmpfaaMgK
namespace Go.Proofs.Ytnoilcchegmpfaa.Me
open Go Go.RowKit

/-- how the document's Copy ends -/
def PostDc (d : Dm) (w : World) (e : Ending) (w' : World) : Prop :=
  Below w.heap.size w w' ∧ ∃ d' : Dm, e = .returned (.pointer (some ⟨d'.mb, 0, none⟩)) ∧ d'.In w' ∧ d'.C = d.C ∧ d'.h = d.h ∧ d'.locks = d.locks ∧ ∀ b, d'.foot b → w.heap.size ≤ b ∧ b < w'.heap.size
/-- the copy as far as it has rows: where it lies, its lists of who holds what -/
structure Dk (w : World) (d : Dm) (g : Nat) (ha : Option Addr) (hc : Nat) (ba : Option Addr) (bc : Nat) (k : Nat) (v : Value) (V : World) : Prop where
  mb : V.heap[g]? = some (.cells #[v, .slice ha d.locks hc, .slice ba d.locks bc] 62 (0, 0))
  ex : ∃ R : List Row, R.length = k ∧ R.map Row.l = d.C.take k ∧ V.ownsRow w.heap.size 52 1 v k (R.map Row.val) ∧ (∀ r ∈ R, r.In V ∧ w.heap.size ≤ r.b) ∧ (R.map Row.b).Nodup
  hs : Slc V 4 ha d.locks hc d.heldL
  bs : Slc V 3 ba d.locks bc d.byL
  lo : w.heap.size ≤ g
  l1 : ∀ b, aBlk ha b → w.heap.size ≤ b ∧ b < V.heap.size
  l2 : ∀ b, aBlk ba b → w.heap.size ≤ b ∧ b < V.heap.size
  bl : Below w.heap.size w V
theorem Dk.step {w V V2 V3 : World} {d : Dm} {g : Nat} {ha ba : Option Addr} {hc bc k : Nat} {v v' : Value} (h : Dk w d g ha hc ba bc k v V) {l : List Int} (hx : d.C[k]? = some l) (hV2 : Below V.heap.size V V2) {r' : Row} (hr1 : r'.In V2) (hr2 : V.heap.size ≤ r'.b) (hr3 : r'.l = l) (o : Obj)
    {R : List Row} (hR1 : R.length = k) (hR2 : R.map Row.l = d.C.take k) (hR3 : V.ownsRow w.heap.size 52 1 v k (R.map Row.val)) (hR4 : ∀ r ∈ R, r.In V ∧ w.heap.size ≤ r.b) (hR5 : (R.map Row.b).Nodup)
    (hown : V3.ownsRow w.heap.size 52 1 v' (k + 1) (R.map Row.val ++ [r'.val])) (hg : (V2.alloc o).grownBy V3 v.ownBlock) : Dk w d g ha hc ba bc (k + 1) v' (V3.setCell ⟨g, 0, none⟩ v') := by
  have hbl2 : Below V.heap.size V (V2.alloc o) := hV2.alloc hV2.size o
  have hVs := h.bl.size
  have hgl := cells_lt h.mb
  have kp : ∀ b, b < V.heap.size → v.ownBlock ≠ some b → V3.heap[b]? = V.heap[b]? := fun b h1 h2 => (hg.block b (by have := hbl2.size; omega) (fun e => h2 e.symm)).trans (hbl2.block b h1)
  have kc : V3.heap[r'.b]? = V2.heap[r'.b]? := by
    have h0 := hr1.lt
    refine (hg.block r'.b (by simp; omega) (fun e => ?_)).trans (Below.heap_alloc _ _ _ h0)
    obtain ⟨_, cs, hc⟩ := own_blk hR3 e.symm
    have := cells_lt hc
    omega
  have nmb : v.ownBlock ≠ some g := fun e => by
    obtain ⟨_, cs, hc⟩ := own_blk hR3 e
    rw [h.mb] at hc; simp at hc
  have hm3 : V3.heap[g]? = some (.cells #[v, .slice ha d.locks hc, .slice ba d.locks bc] 62 (0, 0)) := (kp _ hgl nmb).trans h.mb
  have hold : ∀ r ∈ R, r.In (V3.setCell ⟨g, 0, none⟩ v') := fun r hr => by
    obtain ⟨q1, q2⟩ := hR4 r hr
    obtain ⟨vs, e1, _⟩ := q1.ex
    refine (q1.keep (kp _ q1.lt (fun e => ?_))).keep (heap_set_ne (fun e => ?_) _ _)
    · obtain ⟨_, cs, hc⟩ := own_blk hR3 e
      rw [e1] at hc; simp at hc
    · rw [e, h.mb] at e1; simp at e1
  have hother : ∀ (T : TypeId), T ≠ 52 → T ≠ 62 → ∀ (b : Nat) (vs : Array Value), V.heap[b]? = some (Obj.cells vs T (0, 0)) → (V3.setCell ⟨g, 0, none⟩ v').heap[b]? = V.heap[b]? := fun T t1 t2 b vs hb =>
    (heap_set_ne (fun e => by rw [e, h.mb] at hb; simp at hb; exact t2 hb.2.symm) _ _).trans (kp b (cells_lt hb) (fun e => by
      obtain ⟨_, cs, hc⟩ := own_blk hR3 e
      rw [hb] at hc; simp at hc; exact t1 hc.2))
  have hszz : V.heap.size ≤ V3.heap.size := Nat.le_trans hbl2.size hg.size
  refine ⟨by rw [heap_set hm3]; rfl, ⟨R ++ [r'], by simp [hR1], ?_, ?_, fun r hr => ?_, ?_⟩, h.hs.keep' (hother _ (by decide) (by decide)), h.bs.keep' (hother _ (by decide) (by decide)), h.lo, fun b hb => ⟨(h.l1 b hb).1, by have := (h.l1 b hb).2; rw [size_set]; omega⟩, fun b hb => ⟨(h.l2 b hb).1, by have := (h.l2 b hb).2; rw [size_set]; omega⟩, ((h.bl.trans (hbl2.mono hVs)).grown hg (by have := hbl2.size; omega) (fun k e => (own_blk hR3 e).1)).setCell h.lo _⟩
  · rw [List.map_append, hR2, List.take_add_one, hx]
    simp [hr3]
  · have e : (R ++ [r']).map Row.val = R.map Row.val ++ [r'.val] := by simp
    rw [e]
    exact own_keep hown fun g' cs hc => heap_set_ne (fun e => by rw [e, hm3] at hc; simp at hc) _ _
  · rcases List.mem_append.1 hr with hr | hr
    · exact ⟨hold r hr, (hR4 r hr).2⟩
    · rw [List.mem_singleton.1 hr]
      exact ⟨hr1.keep ((heap_set_ne (by omega) _ _).trans kc), by omega⟩
  · rw [List.map_append]
    refine List.nodup_append.2 ⟨hR5, by simp, fun a ha b hb' => ?_⟩
    obtain ⟨r, hr, rfl⟩ := List.mem_map.1 ha
    simp at hb'
    have := (hR4 r hr).1.lt
    omega
theorem Dk.done {w V : World} {d : Dm} {g : Nat} {ha ba : Option Addr} {hc bc : Nat} {v : Value} (h : Dk w d g ha hc ba bc d.rows.length v V) (hl : d.rows.length ≤ 1000000000) (hk : d.locks ≤ 256) : PostDc d w (.returned (.pointer (some ⟨g, 0, none⟩))) V := by
  obtain ⟨R, hR1, hR2, hR3, hR4, hR5⟩ := h.ex
  obtain ⟨ca, cc, rfl, hca, hsl⟩ := own_slc hR3
  have hgl := cells_lt h.mb
  refine ⟨h.bl, ⟨g, ca, cc, ha, hc, ba, bc, R, d.locks, d.h⟩, rfl, ⟨?_, ?_, h.hs, h.bs, fun r hr => (hR4 r hr).1, hR5, by show R.length ≤ _; omega, hk⟩, ?_, rfl, rfl, ?_⟩
  · show _ = some (Obj.cells #[.slice ca R.length cc, _, _] _ _)
    rw [hR1]
    exact h.mb
  · have := hsl V (fun _ _ _ => rfl)
    show Slc V _ ca R.length cc _
    rw [hR1]
    have e : (fun j => (R.map Row.val)[j]?) = Dm.rowL ⟨g, ca, cc, ha, hc, ba, bc, R, d.locks, d.h⟩ := by
      funext j
      rw [List.getElem?_map]
      rfl
    rw [← e]
    exact this
  · show R.map Row.l = d.C
    rw [hR2, List.take_of_length_le (by unfold Dm.C; simp)]
  · rintro b (rfl | hb | hb | hb | ⟨r, hr, rfl⟩)
    · exact ⟨h.lo, hgl⟩
    · exact hca b hb
    · exact h.l1 b hb
    · exact h.l2 b hb
    · exact ⟨(hR4 r hr).2, (hR4 r hr).1.lt⟩
end Go.Proofs.Ytnoilcchegmpfaa.Me
