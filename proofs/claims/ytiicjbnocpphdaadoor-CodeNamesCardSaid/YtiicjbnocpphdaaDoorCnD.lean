/- The long code of programs of law07: a row that is made and filled. Conditions: none. -/
import Derived.Test.YtiicjbnocpphdaaDoorCnC
import Derived.Laws.MakeOwn
set_option linter.unusedSimpArgs false
set_option linter.unusedVariables false
namespace Go.Proofs.YtiicjbnocpphdaaDoor.Cd
open Go Go.RowKit
open Go.Proofs.YtiicjbnocpphdaaDoor.Lx Go.Proofs.YtiicjbnocpphdaaDoor.Tr
open Go.Proofs.YtiicjbnocpphdaaDoor.Vq Go.Proofs.YtiicjbnocpphdaaDoor.Qr

def zi : Ins := ⟨0, 0, 0, 0, 0, none, 0, []⟩
def zv : Value := .agg #[.int .u8 0, .int .i64 0, .int .i64 0, .int .i64 0, .int .i64 0, .slice none 0 0]
theorem zv_cells : zv.cells = #[.int .u8 0, .int .i64 0, .int .i64 0, .int .i64 0, .int .i64 0, .slice none 0 0] := by kernel_rfl
theorem zv_get (r : Nat) (hr : r < 6) (u : Value) (h : zi.vals[r]? = some u) : zv.cells[r]! = u := by
  rw [zv_cells]
  match r, hr, h with
  | 0, _, h => exact Option.some.inj h
  | 1, _, h => exact Option.some.inj h
  | 2, _, h => exact Option.some.inj h
  | 3, _, h => exact Option.some.inj h
  | 4, _, h => exact Option.some.inj h
  | 5, _, h => exact Option.some.inj h
theorem make_long : ∃ cur : Array Value, (∀ V : World, (Instr.makeSlice 40 (.int .i64 16384) (.int .i64 16384)).run Tryd.prog V = .ok (.slice (some ⟨V.heap.size, 0, none⟩) 16384 16384) (V.alloc (.cells cur 31))) ∧ ∀ (j : Nat) (u : Value), (inCells (List.replicate 16384 zi))[j]? = some u → cur[j]? = some u := by
  refine ⟨madeCells zv.cells (16384 * 6), fun V => ?_, fun j u hj => ?_⟩
  · obtain ⟨i0, hi0, hz0, hz1, hz2⟩ := info_n
    have h := run_makeSlice (P := Tryd.prog) V 40 31 i0 _ Tryd.underlying40 hi0 hz0 .i64 .i64 16384 16384 (by omega) (by omega) (by rw [hz1]; decide) (by rw [hz2]; decide) (by omega)
    rw [hz1] at h
    exact h
  · have hjl := (List.getElem?_eq_some_iff.1 hj).1
    rw [in_len, List.length_replicate] at hjl
    have hf := flat_at Ins.vals 6 Ins.vals_len (List.replicate 16384 zi) (j / 6) (j % 6) zi (by rw [List.getElem?_replicate, if_pos (by omega)]) (Nat.mod_lt _ (by omega))
    have hjj : j / 6 * 6 + j % 6 = j := by omega
    rw [hjj] at hf
    have hu : zi.vals[j % 6]? = some u := by rw [← hf]; exact hj
    have hz : zv.cells.size = 6 := by rw [zv_cells]; rfl
    unfold madeCells
    rw [Array.getElem?_map, Array.getElem?_range, if_pos hjl]
    simp only [Option.map_some, hz]
    rw [zv_get _ (Nat.mod_lt _ (by omega)) u hu]
def lngL (k : Nat) : List Ins := List.replicate k bk ++ List.replicate (16384 - k) zi
theorem lng_get {k : Nat} (hk : k < 16384) : (lngL k)[k]? = some zi := by
  unfold lngL
  rw [List.getElem?_append_right (by simp), List.length_replicate, Nat.sub_self, List.getElem?_replicate, if_pos (by omega)]
theorem lng_set {k : Nat} (hk : k < 16384) : (lngL k).set k bk = lngL (k + 1) := by
  unfold lngL
  rw [List.set_append_right _ _ (by simp), List.length_replicate, Nat.sub_self]
  have h : 16384 - k = (16384 - (k + 1)) + 1 := by omega
  rw [h, List.replicate_succ, List.set_cons_zero, List.replicate_succ', List.append_assoc]
  rfl
theorem lng_end : lngL 16384 = List.replicate 16384 bk := by
  unfold lngL
  rw [Nat.sub_self]
  show List.replicate 16384 bk ++ [] = _
  rw [List.append_nil]
end Go.Proofs.YtiicjbnocpphdaaDoor.Cd
