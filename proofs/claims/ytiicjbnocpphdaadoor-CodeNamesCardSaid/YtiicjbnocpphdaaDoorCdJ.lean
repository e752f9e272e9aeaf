/- Walks of slices.Equal, slices.EqualFunc, code.SameIns, sameFun, Same. Conditions: what is held against one another lies in memory. -/
import Derived.Test.YtiicjbnocpphdaaDoorCdB
import Derived.Test.YtiicjbnocpphdaaDoorStrNe
import Derived.Deep.QuietTactic
namespace Go.Proofs.YtiicjbnocpphdaaDoor.Cd
open Go Go.RowKit
open Go.Proofs.YtiicjbnocpphdaaDoor.Lx Go.Proofs.YtiicjbnocpphdaaDoor.Tr

theorem ne_b {a b : Int} (h : ¬ a = b) : (a == b) = false := by simpa using h
theorem ne_n {a b : Int} (h : ¬ a = b) : (a != b) = true := by simpa using h
theorem bool_b {a b : Bool} (h : ¬ a = b) : (a == b) = false := by simpa using h
theorem len_i {w : World} {S : Nat → Prop} {a : Option Addr} {cap n : Nat} {xs : List Value} (h : RowAt w S a cap n xs) : n ≤ cap ∧ cap ≤ 9223372036854775807 := ⟨h.le, by have := h.lim; unfold maxLen at this; omega⟩
theorem numCells_map (l : List Int) : numCells l = l.map (Value.int .i64) := rfl
theorem eqL_drop {α : Type} {f : α → α → Bool} (l l' : List α) (k : Nat) (e e' : α) (h : l[k]? = some e) (h' : l'[k]? = some e') : eqL f (l.drop k) (l'.drop k) = (f e e' && eqL f (l.drop (k + 1)) (l'.drop (k + 1))) := by
  have h1 := (List.getElem?_eq_some_iff.1 h)
  have h2 := (List.getElem?_eq_some_iff.1 h')
  rw [List.drop_eq_getElem_cons h1.1, List.drop_eq_getElem_cons h2.1, h1.2, h2.2]
  rfl
theorem eqL_eq {α : Type} [DecidableEq α] {f : α → α → Bool} (hf : ∀ x y, f x y = decide (x = y)) : ∀ l m : List α, eqL f l m = decide (l = m)
  | [], [] => rfl
  | [], _ :: _ => rfl
  | _ :: _, [] => rfl
  | a :: r, b :: s => by
    unfold eqL
    rw [hf, eqL_eq hf r s, Bool.eq_iff_iff]
    simp

set_option maxHeartbeats 800000 in
set_option maxRecDepth 100000 in
theorem equalT_any (l l' : List ByteArray) (a a' : Option Addr) (cap cap' : Nat) (w : World) (hrow : RowAt w (fun _ => True) a cap l.length (strCells l)) (hrow' : RowAt w (fun _ => True) a' cap' l'.length (strCells l')) :
    Calls Tryd.prog 39 #[.slice a l.length cap, .slice a' l'.length cap'] w fun x w' => x = .returned (.bool (decide (l = l'))) ∧ Below w.heap.size w w' := by
  obtain ⟨hc11, hc12⟩ := len_i hrow
  obtain ⟨hc21, hc22⟩ := len_i hrow'
  by_cases hle : l.length = l'.length
  · have hne : ((l.length : Int) != (l'.length : Int)) = false := by rw [hle]; simp
    have hle' := Lib.hid hle
    go_enter Tryd.func39, Tryd.ntmps39
    clear hle
    go_wp2
    go_loopw [13] (fun i wr => ∃ k : Nat, k ≤ l.length ∧ i = .int .i64 k ∧ l.take k = l'.take k ∧ ∃ m, wr = w.drewN m) (fun i _ => l.length - (intOf i).toNat)
    case atStart => exact ⟨0, Nat.zero_le _, rfl, rfl, 0, rfl⟩
    case round =>
      obtain ⟨k, hk, rfl, htk, m, rfl⟩ := hrel
      replace htk := Lib.hid htk
      by_cases hlt : k < l.length
      · have hlt' : k < l'.length := by rw [← hle'.out]; exact hlt
        obtain ⟨x, hx⟩ : ∃ e, l[k]? = some e := ⟨l[k], by simp [hlt]⟩
        obtain ⟨y, hy⟩ : ∃ e, l'[k]? = some e := ⟨l'[k], by simp [hlt']⟩
        obtain ⟨b, off, rfl, _, hcell⟩ := hrow.at_ k (.string x) (by unfold strCells; rw [List.getElem?_map, hx]; rfl)
        obtain ⟨b', off', rfl, _, hcell'⟩ := hrow'.at_ k (.string y) (by unfold strCells; rw [List.getElem?_map, hy]; rfl)
        replace hx := Lib.hid hx
        replace hy := Lib.hid hy
        have hkl' : k < l'.length := hlt'
        by_cases hxy : x = y
        · have HT : Hid (l.take (k + 1) = l'.take (k + 1)) := Lib.hid (by rw [List.take_add_one, List.take_add_one, htk.out, hx.out, hy.out, hxy])
          subst hxy
          go_wp2
          go_quiet (fail)
          go_wp2
          go_roundw
          case rel => exact ⟨k + 1, by omega, by go_num, HT.out, _, rfl⟩
          case measure => simp [intOf]; omega
        · have HN : Hid (decide (l = l') = false) := Lib.hid (by
            rw [decide_eq_false_iff_not]; intro e; apply hxy
            have h3 := hx.out; rw [e, hy.out] at h3
            exact (Option.some.inj h3).symm)
          have hs1 := str_ne hxy
          have hs2 : (x.toList != y.toList) = true := by unfold bne; rw [hs1]; rfl
          clear hxy
          go_wp2
          go_quiet (fail)
          go_wp2
          go_ret
          exact ⟨ret_bool HN.out.symm, ⟨rfl, rfl, rfl, Nat.le_refl _, fun _ _ => rfl⟩⟩
      · have HE : Hid (decide (l = l') = true) := Lib.hid (by
          have h3 := htk.out
          have h4 := hle'.out
          rw [List.take_of_length_le (by omega), List.take_of_length_le (by omega)] at h3
          simpa using h3)
        clear htk
        go_wp2
        go_ret
        exact ⟨ret_bool HE.out.symm, ⟨rfl, rfl, rfl, Nat.le_refl _, fun _ _ => rfl⟩⟩
  · have hne : ((l.length : Int) != (l'.length : Int)) = true := by simp; omega
    have hF : Hid (decide (l = l') = false) := Lib.hid (by rw [decide_eq_false_iff_not]; intro h; exact hle (by rw [h]))
    go_enter Tryd.func39, Tryd.ntmps39
    go_wp2
    go_ret
    exact ⟨ret_bool hF.out.symm, Below.refl _ _⟩
set_option maxHeartbeats 800000 in
set_option maxRecDepth 100000 in
theorem equalI_any (l l' : List Int) (a a' : Option Addr) (cap cap' : Nat) (w : World) (hrow : RowAt w (fun _ => True) a cap l.length (numCells l)) (hrow' : RowAt w (fun _ => True) a' cap' l'.length (numCells l')) :
    Calls Tryd.prog 43 #[.slice a l.length cap, .slice a' l'.length cap'] w fun x w' => x = .returned (.bool (decide (l = l'))) ∧ Below w.heap.size w w' := by
  obtain ⟨hc11, hc12⟩ := len_i hrow
  obtain ⟨hc21, hc22⟩ := len_i hrow'
  by_cases hle : l.length = l'.length
  · have hne : ((l.length : Int) != (l'.length : Int)) = false := by rw [hle]; simp
    have hle' := Lib.hid hle
    go_enter Tryd.func43, Tryd.ntmps43
    clear hle
    go_wp2
    go_loopw [13] (fun i wr => ∃ k : Nat, k ≤ l.length ∧ i = .int .i64 k ∧ l.take k = l'.take k ∧ ∃ m, wr = w.drewN m) (fun i _ => l.length - (intOf i).toNat)
    case atStart => exact ⟨0, Nat.zero_le _, rfl, rfl, 0, rfl⟩
    case round =>
      obtain ⟨k, hk, rfl, htk, m, rfl⟩ := hrel
      replace htk := Lib.hid htk
      by_cases hlt : k < l.length
      · have hlt' : k < l'.length := by rw [← hle'.out]; exact hlt
        obtain ⟨x, hx⟩ : ∃ e, l[k]? = some e := ⟨l[k], by simp [hlt]⟩
        obtain ⟨y, hy⟩ : ∃ e, l'[k]? = some e := ⟨l'[k], by simp [hlt']⟩
        obtain ⟨b, off, rfl, _, hcell⟩ := hrow.at_ k (.int .i64 x) (by unfold numCells; rw [List.getElem?_map, hx]; rfl)
        obtain ⟨b', off', rfl, _, hcell'⟩ := hrow'.at_ k (.int .i64 y) (by unfold numCells; rw [List.getElem?_map, hy]; rfl)
        replace hx := Lib.hid hx
        replace hy := Lib.hid hy
        have hkl' : k < l'.length := hlt'
        by_cases hxy : x = y
        · have HT : Hid (l.take (k + 1) = l'.take (k + 1)) := Lib.hid (by rw [List.take_add_one, List.take_add_one, htk.out, hx.out, hy.out, hxy])
          subst hxy
          go_wp2
          go_quiet (fail)
          go_wp2
          go_roundw
          case rel => exact ⟨k + 1, by omega, by go_num, HT.out, _, rfl⟩
          case measure => simp [intOf]; omega
        · have HN : Hid (decide (l = l') = false) := Lib.hid (by
            rw [decide_eq_false_iff_not]; intro e; apply hxy
            have h3 := hx.out; rw [e, hy.out] at h3
            exact (Option.some.inj h3).symm)
          have hs1 := ne_n hxy
          clear hxy
          go_wp2
          go_quiet (fail)
          go_wp2
          go_ret
          exact ⟨ret_bool HN.out.symm, ⟨rfl, rfl, rfl, Nat.le_refl _, fun _ _ => rfl⟩⟩
      · have HE : Hid (decide (l = l') = true) := Lib.hid (by
          have h3 := htk.out
          have h4 := hle'.out
          rw [List.take_of_length_le (by omega), List.take_of_length_le (by omega)] at h3
          simpa using h3)
        clear htk
        go_wp2
        go_ret
        exact ⟨ret_bool HE.out.symm, ⟨rfl, rfl, rfl, Nat.le_refl _, fun _ _ => rfl⟩⟩
  · have hne : ((l.length : Int) != (l'.length : Int)) = true := by simp; omega
    have hF : Hid (decide (l = l') = false) := Lib.hid (by rw [decide_eq_false_iff_not]; intro h; exact hle (by rw [h]))
    go_enter Tryd.func43, Tryd.ntmps43
    go_wp2
    go_ret
    exact ⟨ret_bool hF.out.symm, Below.refl _ _⟩
end Go.Proofs.YtiicjbnocpphdaaDoor.Cd
