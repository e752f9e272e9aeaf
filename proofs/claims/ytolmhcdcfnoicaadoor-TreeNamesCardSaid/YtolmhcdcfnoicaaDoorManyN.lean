/- A list of declarations that is filled in a loop. Conditions: none. -/
import Derived.Test.YtolmhcdcfnoicaaDoorVarN
import Derived.Laws.MakeOwn
namespace Go.Proofs.YtolmhcdcfnoicaaDoor.Tr
open Go Go.RowKit
open Go.Proofs.YtolmhcdcfnoicaaDoor.Lx
open Go.Proofs.YtolmhcdcfnoicaaDoor.Qg
open Go.Proofs.YtolmhcdcfnoicaaDoor.Qr

def zDe : De := ⟨0, ⟨#[]⟩, 0, none, 0, [], none, 0, [], 0⟩
def lkDe : De := ⟨3, ⟨#[108]⟩, 0, none, 0, [], none, 0, [], 0⟩
def VMany (B : Nat) (v : Value) (w : World) : Prop := ∃ g, v = .slice (some ⟨g, 0, none⟩) 256 256 ∧ B ≤ g ∧ ∃ cur, w.heap[g]? = some (.cells cur 40 (0, 0)) ∧ cur.size = 1536
theorem VMany.mono {B : Nat} : Mono (VMany B) := fun _ _ _ hb ⟨g, h1, h2, cur, h3, h4⟩ => ⟨g, h1, h2, cur, (hb.block g (Array.getElem?_eq_some_iff.1 h3).1).trans h3, h4⟩
def r33 (B : Nat) : List (Value → World → Prop) := [VMany B, VMany B]
theorem r33_mono (B : Nat) : MonoL (r33 B) := ⟨VMany.mono, VMany.mono, trivial⟩
theorem make_many (w : World) : ∃ cur : Array Value, (Instr.makeSlice 22 (.int .i64 256) (.int .i64 256)).run Tryd.prog w = .ok (.slice (some ⟨w.heap.size, 0, none⟩) 256 256) (w.alloc (.cells cur 40)) ∧ cur.size = 1536 := by
  obtain ⟨i, h2, h3, h4, h5⟩ := info_parts (show (Tryd.prog.info? 40).map (fun i => (i.zero, i.size, i.bytes)) = some (some (.agg #[.int .u8 0, .string ⟨#[]⟩, .int .i64 0, .slice none 0 0, .slice none 0 0, .int .i64 0]), 6, 88) by kernel_rfl)
  have hr := run_makeSlice (P := Tryd.prog) w 22 40 i _ Tryd.underlying22 h2 h3 .i64 .i64 256 256 (by omega) (by omega) (by rw [h4]; decide) (by rw [h5]; omega) (by omega)
  refine ⟨_, hr, ?_⟩
  rw [size_madeCells, h4]
  rfl
theorem many_len (d : De) (n : Nat) : (deCells (List.replicate n d)).length = n * 6 := by
  unfold deCells
  rw [flat_len De.vals 6 De.vals_len, List.length_replicate]
/-- the first k are locks -/
def Many (g k : Nat) (w : World) : Prop := ∃ cur, w.heap[g]? = some (.cells cur 40 (0, 0)) ∧ cur.size = 1536 ∧ ∀ i j, i < k → j < 6 → cur[i * 6 + j]? = lkDe.vals[j]?
theorem Many.cell {g k : Nat} {w : World} (h : Many g k w) (j : Nat) (hj : j < 1536) : ∃ u, w.cell? ⟨g, j, none⟩ = some u ∧ w.frozen? ⟨g, j, none⟩ = false := by
  obtain ⟨cur, h1, h2, _⟩ := h
  exact ⟨cur[j]'(by omega), blk_cell h1 (by simp [h2, hj]), blk_free h1 j⟩
theorem many_step {g k : Nat} {w : World} (h : Many g k w) (hk : k < 256) :
    Many g (k + 1) ((((((w.setCell ⟨g, k * 6, none⟩ (.int .u8 3)).setCell ⟨g, k * 6 + 1, none⟩ (.string ⟨#[108]⟩)).setCell ⟨g, k * 6 + 2, none⟩ (.int .i64 0)).setCell ⟨g, k * 6 + 3, none⟩ (.slice none 0 0)).setCell ⟨g, k * 6 + 4, none⟩ (.slice none 0 0)).setCell ⟨g, k * 6 + 5, none⟩ (.int .i64 0)) := by
  obtain ⟨cur, h1, h2, h3⟩ := h
  refine ⟨_, heap_set (heap_set (heap_set (heap_set (heap_set (heap_set h1 _ _) _ _) _ _) _ _) _ _) _ _, by simp [h2], fun i j hi hj => ?_⟩
  simp only [Array.getElem?_setIfInBounds, Array.size_setIfInBounds, h2]
  by_cases hik : i = k
  · subst hik
    have : j = 0 ∨ j = 1 ∨ j = 2 ∨ j = 3 ∨ j = 4 ∨ j = 5 := by omega
    rcases this with rfl | rfl | rfl | rfl | rfl | rfl
    · rw [if_neg (by omega), if_neg (by omega), if_neg (by omega), if_neg (by omega), if_neg (by omega), if_pos (by omega), if_pos (by omega)]; rfl
    · rw [if_neg (by omega), if_neg (by omega), if_neg (by omega), if_neg (by omega), if_pos (by omega), if_pos (by omega)]; rfl
    · rw [if_neg (by omega), if_neg (by omega), if_neg (by omega), if_pos (by omega), if_pos (by omega)]; rfl
    · rw [if_neg (by omega), if_neg (by omega), if_pos (by omega), if_pos (by omega)]; rfl
    · rw [if_neg (by omega), if_pos (by omega), if_pos (by omega)]; rfl
    · rw [if_pos (by omega), if_pos (by omega)]; rfl
  · rw [if_neg (by omega), if_neg (by omega), if_neg (by omega), if_neg (by omega), if_neg (by omega), if_neg (by omega)]
    exact h3 i j (by omega) hj
theorem lk_in {w : World} : De.In w (fun _ => True) lkDe :=
  ⟨by unfold U8 lkDe; simp only; omega, by unfold maxLen lkDe; simp only; decide, by unfold I64 lkDe; simp only; omega, by unfold I64 lkDe; simp only; omega, ⟨Nat.le_refl _, Nat.zero_le _, fun _ => rfl, fun j u hu => by simp [strCells, lkDe] at hu⟩, (fun p h => by cases h), ⟨Nat.le_refl _, Nat.zero_le _, fun _ => rfl, fun j u hu => by simp [stCells, lkDe] at hu⟩, isL_nil⟩
theorem many_row {g : Nat} {w : World} (h : Many g 256 w) : RowAt w (fun _ => True) (some ⟨g, 0, none⟩) 256 256 (deCells (List.replicate 256 lkDe)) ∧ De.InL w (fun _ => True) (List.replicate 256 lkDe) := by
  obtain ⟨cur, h1, h2, h3⟩ := h
  refine ⟨⟨Nat.le_refl _, by unfold maxLen; omega, fun h => (by cases h), fun j u hu => ⟨g, 0, rfl, trivial, ?_⟩⟩, fun d hd => by rw [List.eq_of_mem_replicate hd]; exact lk_in⟩
  have hj : j < 1536 := by
    have := (List.getElem?_eq_some_iff.1 hu).1
    rw [many_len] at this
    omega
  have hq : j = j / 6 * 6 + j % 6 := by omega
  have h4 := flat_at De.vals 6 De.vals_len (List.replicate 256 lkDe) (j / 6) (j % 6) lkDe (by rw [List.getElem?_replicate, if_pos (by omega)]) (by omega)
  rw [← hq] at h4
  have h5 := h3 (j / 6) (j % 6) (by omega) (by omega)
  rw [← hq] at h5
  have h6 : (deCells (List.replicate 256 lkDe))[j]? = lkDe.vals[j % 6]? := h4
  rw [h6] at hu
  rw [Nat.zero_add]
  exact blk_cell h1 (by rw [h5]; exact hu)
theorem ld_de {V : World} {b o : Nat} {k : Int} {nm : ByteArray} {n : Int} {a : Option Addr} {m c : Nat} {a' : Option Addr} {m' c' : Nat} {q : Int} (h0 : V.cell? ⟨b, o, none⟩ = some (.int .u8 k)) (h1 : V.cell? ⟨b, o + 1, none⟩ = some (.string nm)) (h2 : V.cell? ⟨b, o + 2, none⟩ = some (.int .i64 n)) (h3 : V.cell? ⟨b, o + 3, none⟩ = some (.slice a m c)) (h4 : V.cell? ⟨b, o + 4, none⟩ = some (.slice a' m' c')) (h5 : V.cell? ⟨b, o + 5, none⟩ = some (.int .i64 q)) :
    (Instr.loadAt 40 (.pointer (some ⟨b, o, none⟩))).run Tryd.prog V = .ok (.agg #[.int .u8 k, .string nm, .int .i64 n, .slice a m c, .slice a' m' c', .int .i64 q]) V := by go_simp
/-- the first one, loaded -/
theorem many_first {g : Nat} {w : World} (h : RowAt w (fun _ => True) (some ⟨g, 0, none⟩) 256 256 (deCells (List.replicate 256 lkDe))) :
    (Instr.loadAt 40 (.pointer (some ⟨g, 0, none⟩))).run Tryd.prog w = .ok (.agg ⟨lkDe.vals⟩) w := by
  have key : ∀ j u, lkDe.vals[j]? = some u → j < 6 → w.cell? ⟨g, 0 + j, none⟩ = some u := fun j u hu hj => by
    have h4 := flat_at De.vals 6 De.vals_len (List.replicate 256 lkDe) 0 j lkDe (by rw [List.getElem?_replicate, if_pos (by omega)]) hj
    rw [Nat.zero_mul, Nat.zero_add] at h4
    obtain ⟨b, o, ha, _, hc⟩ := h.at_ j u (h4.trans hu)
    cases ha
    exact hc
  exact ld_de (key 0 _ rfl (by omega)) (key 1 _ rfl (by omega)) (key 2 _ rfl (by omega)) (key 3 _ rfl (by omega)) (key 4 _ rfl (by omega)) (key 5 _ rfl (by omega))
theorem may256 : mayP (List.replicate 256 lkDe) = true := by kernel_rfl
theorem may257 : mayP (De.erL (List.replicate 256 lkDe ++ [lkDe])) = false := by kernel_rfl
end Go.Proofs.YtolmhcdcfnoicaaDoor.Tr
