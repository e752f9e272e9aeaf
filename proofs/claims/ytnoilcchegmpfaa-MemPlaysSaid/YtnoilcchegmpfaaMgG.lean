/- Walk of bobbinref08.New where it refuses. Conditions: the list lies in memory. -/
import Derived.Test.YtnoilcchegmpfaaMgF
import Derived.BigQuiet
namespace Go.Proofs.Ytnoilcchegmpfaa.Me
open Go Go.RowKit

theorem badG_iff (x : Gm) : badG x = true ↔ x.size < 1 ∨ 1024 < x.size := by unfold badG; simp
set_option maxHeartbeats 8000000 in
set_option maxRecDepth 100000 in
theorem dNew_no (l : List Gm) (locks : Int) (a : Option Addr) (cap : Nat) (w : World) (hrow : RowAt w (fun _ => True) a cap l.length (gmCells l)) (hno : l.any badG = true ∨ locks < 0 ∨ 256 < locks) :
    Calls Try.prog 6 #[.slice a l.length cap, .int .i64 locks] w fun e w' => e = .returned (.tuple #[.pointer none, .int .i64 (if l.any badG = true then 4 else 1)]) ∧ Below w.heap.size w w' := by
  obtain ⟨hc1, hc2⟩ := len_i hrow
  have hb := Lib.hid (b_alloc w (.cells #[.slice none 0 0, .slice none 0 0, .slice none 0 0] 62))
  replace hrow := Lib.hid hrow
  have h4 : Hid (l.any badG = true → Ending.returned (.tuple #[.pointer none, .int .i64 (if l.any badG = true then 4 else 1)]) = .returned (.tuple #[.pointer none, .int .i64 4])) := Lib.hid fun h => by rw [if_pos h]
  have h1 : Hid (l.any badG = false → Ending.returned (.tuple #[.pointer none, .int .i64 (if l.any badG = true then 4 else 1)]) = .returned (.tuple #[.pointer none, .int .i64 1])) := Lib.hid fun h => by rw [h]; rfl
  generalize Ending.returned (.tuple #[.pointer none, .int .i64 (if l.any badG = true then 4 else 1)]) = E at *
  replace hno := Lib.hid hno
  go_enter Try.func6, Try.ntmps6
  go_wp2_with fail
  go_loopw [7] (fun t7 V => ∃ k : Nat, k ≤ l.length ∧ t7 = .int .i64 k ∧ Hid (∀ j x, j < k → l[j]? = some x → badG x = false) ∧ Hid (Below w.heap.size w V)) (fun t7 _ => l.length - (intOf t7).toNat)
  case atStart => exact ⟨0, Nat.zero_le _, rfl, Lib.hid (fun j x hj => by omega), hb⟩
  case round =>
    clear hb
    obtain ⟨k, hk, rfl, hB, hb⟩ := hrel
    by_cases hlt : k < l.length
    · obtain ⟨x, hx⟩ : ∃ x, l[k]? = some x := ⟨_, List.getElem?_eq_getElem hlt⟩
      obtain ⟨b, off, ha, _, c0, c1, c2⟩ := gm_row (hrow.out.below (Kps.of_below hb.out)) k x hx
      subst ha
      have hi0 : (0 : Int) ≤ (k : Int) := by omega
      have hi1 : (k : Int) < (l.length : Int) := by omega
      have hyes : Hid (badG x = true → l.any badG = true) := Lib.hid fun h => List.any_eq_true.2 ⟨x, List.mem_of_getElem? hx, h⟩
      have hB2 : Hid (badG x = false → ∀ j y, j < k + 1 → l[j]? = some y → badG y = false) := Lib.hid fun h j y hj hy => by
        by_cases hjk : j < k
        · exact hB.out j y hjk hy
        · obtain rfl : j = k := by omega
          rw [hx] at hy
          cases hy
          exact h
      have hbi := badG_iff x
      clear hx
      by_cases p1 : x.size < 1
      · have hE := Lib.hid (h4.out (hyes.out (hbi.2 (.inl p1))))
        clear hyes hB2 hB hbi h4 h1 hno hrow
        go_wp2_with fail
        go_ret2
        exact ⟨hE.out.symm, hb.out⟩
      by_cases p2 : 1024 < x.size
      · have hE := Lib.hid (h4.out (hyes.out (hbi.2 (.inr p2))))
        clear hyes hB2 hB hbi h4 h1 hno hrow
        go_wp2_with fail
        go_ret2
        exact ⟨hE.out.symm, hb.out⟩
      have hB3 := Lib.hid (hB2.out (by rw [← Bool.not_eq_true, hbi]; omega))
      clear hyes hB2 hB hbi h4 h1 hno hrow
      go_wp2_with fail
      go_roundw
      case rel => exact ⟨k + 1, by omega, rfl, hB3, hb⟩
      case measure => simp [intOf]; omega
    · have hkl : k = l.length := by omega
      subst hkl
      have hany : l.any badG = false := by
        rw [List.any_eq_false]
        intro x hx
        obtain ⟨j, hj⟩ := List.getElem?_of_mem hx
        rw [hB.out j x (List.getElem?_eq_some_iff.1 hj).1 hj]
        decide
      have hE := Lib.hid (h1.out hany)
      have hl : locks < 0 ∨ 256 < locks := by
        rcases hno.out with h | h
        · rw [hany] at h; cases h
        · exact h
      clear h1 h4 hno hB hany hrow
      by_cases p1 : locks < 0
      · clear hl
        go_wp2_with fail
        go_ret2
        exact ⟨hE.out.symm, hb.out⟩
      · have p2 : 256 < locks := by omega
        clear hl
        go_wp2_with fail
        go_ret2
        exact ⟨hE.out.symm, hb.out⟩
end Go.Proofs.Ytnoilcchegmpfaa.Me
