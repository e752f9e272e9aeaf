/- Walks of slices.Clone, of a global's cells, and of Cells. Conditions: the memory lies in the world. -/
import Derived.Test.YtnoilcchegmpfaaMeI
import Derived.Laws.AppendOwn
import Derived.Laws.OwnMore
import Derived.OwnWalk
import Derived.Lib.SliceRun
namespace Go.Proofs.Ytnoilcchegmpfaa.Me
open Go Go.RowKit

set_option maxHeartbeats 1000000 in
set_option maxRecDepth 100000 in
theorem clone_c {w : World} {r : Row} (h : r.In w) : Calls Try.prog 34 #[.slice (some ⟨r.b, 0, none⟩) r.l.length r.cap] w fun e w' => ∃ r' : Row, e = .returned r'.val ∧ r'.l = r.l ∧ r'.In w' ∧ w.heap.size ≤ r'.b ∧ Below w.heap.size w w' := by
  obtain ⟨i0, hi, hz, hsz, hby⟩ := info_parts info_i64
  have hlit : Hid ((w.alloc (.cells #[] 2)).ownsRow w.heap.size 2 1 (.slice (some ⟨w.heap.size, 0, none⟩) 0 0) 0 []) := Lib.hid (World.ownsRow_lit (base := w.heap.size) (e := 2) (size := 1) w #[] 0 (Nat.le_refl _) (Nat.zero_le _) rfl)
  have hb1 := Lib.hid (b_alloc w (.cells #[] 2))
  obtain ⟨b, cap, l⟩ := r
  have hlen := h.sz
  have hnews : ∀ j u, (numCells l)[j]? = some u → (w.alloc (.cells #[] 2)).cell? ((⟨b, 0, none⟩ : Addr).add j) = some u := fun j u hj => by
    unfold numCells at hj
    rw [List.getElem?_map] at hj
    obtain ⟨x, hx, rfl⟩ := Option.map_eq_some_iff.1 hj
    have hc := (h.cell hx).1
    rw [show (⟨b, 0, none⟩ : Addr).add j = ⟨b, j, none⟩ by simp [Addr.add]; exact fun h => h.symm]
    exact (hb1.out.cell (World.block_lt_of_cell? _ _ hc)).trans hc
  replace hnews := Lib.hid hnews
  have hone : Hid (∀ u ∈ numCells l, u.oneCell' = true) := Lib.hid (by intro u hu; unfold numCells at hu; obtain ⟨x, _, rfl⟩ := List.mem_map.1 hu; rfl)
  have hnl : Hid ((numCells l).length = l.length * 1) := Lib.hid (by simp [numCells])
  have hfin : Hid (∀ (v' : Value) (w' : World), w'.ownsRow w.heap.size 2 1 v' (0 + l.length) ([] ++ numCells l) → ∃ r' : Row, v' = r'.val ∧ r'.l = l ∧ r'.In w' ∧ w.heap.size ≤ r'.b) := Lib.hid fun v' w' ho => by
    obtain ⟨h1, h2⟩ := ho
    rw [Nat.zero_add, List.nil_append] at h2
    rcases h2 with ⟨rfl, h3⟩ | ⟨g, cp, cur, rfl, hg, hh, hle, hm, hs, ht⟩
    · simp at hlen; omega
    · refine ⟨⟨g, cp, l⟩, rfl, rfl, ⟨⟨cur, hh, fun j x hx => ?_⟩, hlen, hle, hm⟩, hg⟩
      have hj : (numCells l)[j]? = some (Value.int .i64 x) := by unfold numCells; rw [List.getElem?_map, hx]; rfl
      rw [← ht, List.getElem?_take] at hj
      split at hj
      · simpa using hj
      · cases hj
  simp only at hlen
  have hl1 : l.length ≤ 1024 := hlen.2
  clear h hlen
  have hq := Lib.run_eql_slice_nil (P := Try.prog) w 52 2 (some ⟨b, 0, none⟩) l.length cap 0 0 Try.underlying52
  go_enter Try.func34, Try.ntmps34
  go_wp2_with (at_builtin; go_loud (refine wpList_append_own _ rfl _ _ 52 rfl w.heap.size 2 i0 (.int .i64 0) 1 8 Try.underlying52 hi hz hsz hby rfl (by decide) _ 0 [] rfl hlit.out ⟨b, 0, none⟩ l.length cap (numCells l) rfl hnl.out hnews.out hone.out (by unfold maxLen; omega) (by omega) (by simp) ?_); intro v' w1 hown hgrow _)
  go_ret
  obtain ⟨r', rfl, h2, h3, h4⟩ := hfin.out _ _ hown
  exact ⟨r', rfl, h2, h3, h4, hb1.out.grown hgrow (by simp) (fun k hk => by cases hk; exact Nat.le_refl _)⟩
end Go.Proofs.Ytnoilcchegmpfaa.Me
