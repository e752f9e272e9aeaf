/- Walks of code.maySizes, mayHeads, mayCode, mayCodes. Conditions: the program lies in memory. -/
import Derived.Test.YtiicjbnocpphdaaDoorCdL
namespace Go.Proofs.YtiicjbnocpphdaaDoor.Cd
open Go Go.RowKit
open Go.Proofs.YtiicjbnocpphdaaDoor.Lx Go.Proofs.YtiicjbnocpphdaaDoor.Tr

theorem all_take {α : Type} {f : α → Bool} {l : List α} {k : Nat} {x : α} (h : l[k]? = some x) : (l.take (k + 1)).all f = ((l.take k).all f && f x) := by
  rw [List.take_add_one, h, List.all_append]
  simp
theorem all_no {α : Type} {f : α → Bool} {l : List α} {k : Nat} {x : α} (h : l[k]? = some x) (hf : f x = false) : l.all f = false := by
  rw [List.all_eq_false]
  exact ⟨x, List.mem_of_getElem? h, by simp [hf]⟩
theorem u8_11 {k : Int} (h : ¬ k = 11) : (k == 11) = false := by simpa using h

set_option maxHeartbeats 2000000 in
set_option maxRecDepth 100000 in
theorem maySizes_any (l : List Mm) (a : Option Addr) (cap : Nat) (w : World) (hrow : RowAt w (fun _ => True) a cap l.length (mmCells l)) :
    Calls Tryd.prog 33 #[.slice a l.length cap] w fun e w' => e = .returned (.bool (sizesP l)) ∧ Below w.heap.size w w' := by
  obtain ⟨hc1, hc2⟩ := len_i hrow
  unfold sizesP
  go_enter Tryd.func33, Tryd.ntmps33
  go_wp2_with fail
  go_loopw [7] (fun i wr => ∃ k : Nat, k ≤ l.length ∧ i = .int .i64 k ∧ Hid ((l.take k).all (fun m => decide (1 ≤ m.size) && decide (m.size ≤ 1024)) = true) ∧ Hid (Below w.heap.size w wr)) (fun i _ => l.length - (intOf i).toNat)
  case atStart => exact ⟨0, Nat.zero_le _, rfl, Lib.hid rfl, Lib.hid (Below.refl _ _)⟩
  case round =>
    obtain ⟨k, hk, rfl, hall, hb⟩ := hrel
    by_cases hlt : k < l.length
    · obtain ⟨x, hx⟩ : ∃ x, l[k]? = some x := ⟨_, List.getElem?_eq_getElem hlt⟩
      obtain ⟨b, off, ha, _, c0, c1, c2⟩ := mm_row (hrow.below (Kps.of_below hb.out)) k x hx
      subst ha
      have hi0' : (0 : Int) ≤ (k : Int) := by omega
      have hi1 : (k : Int) < (l.length : Int) := by omega
      have hbx := Lib.hid (hb.out.trans ((b_alloc wr (.cells #[.string x.name, .int .i64 x.size, .int .i64 x.first] 50)).mono hb.out.size))
      have hno := Lib.hid (fun h => all_no (f := fun m : Mm => decide (1 ≤ m.size) && decide (m.size ≤ 1024)) hx h)
      have hyes := Lib.hid (all_take (f := fun m : Mm => decide (1 ≤ m.size) && decide (m.size ≤ 1024)) hx)
      clear hx hrow
      by_cases h1 : 1 ≤ x.size
      · by_cases h2 : x.size ≤ 1024
        · have hn : Hid ((l.take (k + 1)).all (fun m => decide (1 ≤ m.size) && decide (m.size ≤ 1024)) = true) := Lib.hid (by rw [hyes.out, hall.out]; simp [h1, h2])
          clear hyes hno hall
          go_wp2_with fail
          go_roundw
          case rel => exact ⟨k + 1, by omega, by go_num, hn, hbx⟩
          case measure => simp [intOf]; omega
        · have hn := Lib.hid (hno.out (by simp; omega))
          clear hyes hno hall
          go_wp2_with fail
          go_ret
          exact ⟨ret_bool hn.out.symm, hbx.out⟩
      · have hn := Lib.hid (hno.out (by simp; omega))
        clear hyes hno hall
        go_wp2_with fail
        go_ret
        exact ⟨ret_bool hn.out.symm, hbx.out⟩
    · have hk2 : k = l.length := by omega
      subst hk2
      rw [List.take_length] at hall
      go_wp2_with fail
      go_ret
      exact ⟨ret_bool hall.out.symm, hb.out⟩
set_option maxHeartbeats 4000000 in
set_option maxRecDepth 100000 in
theorem mayHeads_any (l : List Fn) (a : Option Addr) (cap : Nat) (w : World) (hrow : RowAt w (fun _ => True) a cap l.length (fnCells l)) :
    Calls Tryd.prog 34 #[.slice a l.length cap] w fun e w' => e = .returned (.bool (l.all headP)) ∧ Below w.heap.size w w' := by
  obtain ⟨hc1, hc2⟩ := len_i hrow
  go_enter Tryd.func34, Tryd.ntmps34
  go_wp2_with fail
  go_loopw [8] (fun i wr => ∃ k : Nat, k ≤ l.length ∧ i = .int .i64 k ∧ Hid ((l.take k).all headP = true) ∧ Hid (Below w.heap.size w wr)) (fun i _ => l.length - (intOf i).toNat)
  case atStart => exact ⟨0, Nat.zero_le _, rfl, Lib.hid rfl, Lib.hid (Below.refl _ _)⟩
  case round =>
    obtain ⟨k, hk, rfl, hall, hb⟩ := hrel
    by_cases hlt : k < l.length
    · obtain ⟨x, hx⟩ : ∃ x, l[k]? = some x := ⟨_, List.getElem?_eq_getElem hlt⟩
      obtain ⟨b, off, ha, _, c0, c1, c2, c3, c4⟩ := fn_row (hrow.below (Kps.of_below hb.out)) k x hx
      subst ha
      have hi0' : (0 : Int) ≤ (k : Int) := by omega
      have hi1 : (k : Int) < (l.length : Int) := by omega
      have hbx := Lib.hid (hb.out.trans ((b_alloc wr (.cells #[.string x.name, .bool x.thread, .int .i64 x.params, .int .i64 x.regs, .slice x.ca x.code.length x.ccap] 42)).mono hb.out.size))
      have hno := Lib.hid (fun h => all_no (f := headP) hx h)
      have hyes := Lib.hid (all_take (f := headP) hx)
      have hh : Hid (headP x = (decide (0 ≤ x.params) && decide (x.params ≤ if x.thread then 0 else 8) && decide (x.params ≤ x.regs) && decide (x.regs ≤ 4096))) := Lib.hid rfl
      clear hx hrow
      obtain ⟨q, hq⟩ : ∃ q : Int, q = if x.thread then 0 else 8 := ⟨_, rfl⟩
      rw [← hq] at hh
      cases ht : x.thread
      · rw [ht] at c1 hq hbx
        have hq' : q = 8 := by simpa using hq
        subst hq'
        clear hq
        by_cases h1 : 0 ≤ x.params
        · by_cases h2 : x.params ≤ 8
          · by_cases h3 : x.params ≤ x.regs
            · by_cases h4 : x.regs ≤ 4096
              · have hn : Hid ((l.take (k + 1)).all headP = true) := Lib.hid (by rw [hyes.out, hall.out, hh.out]; simp [h1, h2, h3, h4])
                clear hyes hno hall hh
                go_wp2_with fail
                go_roundw
                case rel => exact ⟨k + 1, by omega, by go_num, hn, hbx⟩
                case measure => simp [intOf]; omega
              · have hn := Lib.hid (hno.out (by rw [hh.out]; simp; omega))
                clear hyes hno hall hh
                go_wp2_with fail
                go_ret
                exact ⟨ret_bool hn.out.symm, hbx.out⟩
            · have hn := Lib.hid (hno.out (by rw [hh.out]; simp; omega))
              clear hyes hno hall hh
              go_wp2_with fail
              go_ret
              exact ⟨ret_bool hn.out.symm, hbx.out⟩
          · have hn := Lib.hid (hno.out (by rw [hh.out]; simp; omega))
            clear hyes hno hall hh
            go_wp2_with fail
            go_ret
            exact ⟨ret_bool hn.out.symm, hbx.out⟩
        · have hn := Lib.hid (hno.out (by rw [hh.out]; simp; omega))
          clear hyes hno hall hh
          go_wp2_with fail
          go_ret
          exact ⟨ret_bool hn.out.symm, hbx.out⟩
      · rw [ht] at c1 hq hbx
        have hq' : q = 0 := by simpa using hq
        subst hq'
        clear hq
        by_cases h1 : 0 ≤ x.params
        · by_cases h2 : x.params ≤ 0
          · by_cases h3 : x.params ≤ x.regs
            · by_cases h4 : x.regs ≤ 4096
              · have hn : Hid ((l.take (k + 1)).all headP = true) := Lib.hid (by rw [hyes.out, hall.out, hh.out]; simp [h1, h2, h3, h4])
                clear hyes hno hall hh
                go_wp2_with fail
                go_roundw
                case rel => exact ⟨k + 1, by omega, by go_num, hn, hbx⟩
                case measure => simp [intOf]; omega
              · have hn := Lib.hid (hno.out (by rw [hh.out]; simp; omega))
                clear hyes hno hall hh
                go_wp2_with fail
                go_ret
                exact ⟨ret_bool hn.out.symm, hbx.out⟩
            · have hn := Lib.hid (hno.out (by rw [hh.out]; simp; omega))
              clear hyes hno hall hh
              go_wp2_with fail
              go_ret
              exact ⟨ret_bool hn.out.symm, hbx.out⟩
          · have hn := Lib.hid (hno.out (by rw [hh.out]; simp; omega))
            clear hyes hno hall hh
            go_wp2_with fail
            go_ret
            exact ⟨ret_bool hn.out.symm, hbx.out⟩
        · have hn := Lib.hid (hno.out (by rw [hh.out]; simp; omega))
          clear hyes hno hall hh
          go_wp2_with fail
          go_ret
          exact ⟨ret_bool hn.out.symm, hbx.out⟩
    · have hk2 : k = l.length := by omega
      subst hk2
      rw [List.take_length] at hall
      go_wp2_with fail
      go_ret
      exact ⟨ret_bool hall.out.symm, hb.out⟩
end Go.Proofs.YtiicjbnocpphdaaDoor.Cd
