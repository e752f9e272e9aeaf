/- The walk of the reference's Idle. Conditions: none. -/
import Derived.Test.YtpgbgjljlidifaaDoorLexCA
import Derived.Test.YtpgbgjljlidifaaDoorLexT
namespace Go.Proofs.YtpgbgjljlidifaaDoor.Lx
open Go Go.RowKit

/-- is a text passed over whole? -/
def idB (s : ByteArray) : Bool := decide (skp false s.data.toList = s.data.toList.length)
theorem skp_on (b b' : Bool) (s : ByteArray) (k : Nat) (hlt : k < s.size) (h : skp b (s[k] :: s.data.toList.drop (k + 1)) = skp b' (s.data.toList.drop (k + 1)) + 1) :
    decide (skp b (s.data.toList.drop k) = (s.data.toList.drop k).length) = decide (skp b' (s.data.toList.drop (k + 1)) = (s.data.toList.drop (k + 1)).length) := by
  rw [drop_cons s k hlt, h, List.length_cons]
  exact decide_eq_decide.2 (by omega)

set_option maxHeartbeats 800000 in
set_option maxRecDepth 100000 in
theorem ridle_any (s : ByteArray) (w : World) (hs : s.size ≤ 100000) :
    Calls Tryd.prog 19 #[.string s] w fun e w' => e = .returned (.bool (idB s)) ∧ w' = w := by
  go_enter Tryd.func19, Tryd.ntmps19
  go_wp2
  go_loop [3, 4] (fun r i => ∃ (b : Bool) (k : Nat), k ≤ s.size ∧ r = .bool b ∧ i = .int .i64 k ∧ idB s = decide (skp b (s.data.toList.drop k) = (s.data.toList.drop k).length)) (fun _ i => s.size - (intOf i).toNat)
  case atStart => exact ⟨false, 0, by omega, rfl, rfl, by rw [List.drop_zero]; rfl⟩
  case round =>
    obtain ⟨b, k, hk, rfl, rfl, hI⟩ := hrel
    by_cases hlt : k < s.size
    · cases b
      · by_cases hb : blk s[k] = true
        · have HI : Hid (idB s = _) := Lib.hid (hI.trans (skp_on false false s k hlt (by rw [skp_false_cons, if_pos hb])))
          have hc : (s[k].toNat : Int) = 32 ∨ (s[k].toNat : Int) = 9 ∨ (s[k].toNat : Int) = 10 := by unfold blk at hb; simp at hb; omega
          clear hI hb
          rcases hc with hc | hc | hc
          all_goals
            go_wp2
            go_round
            case rel => exact ⟨false, k + 1, by omega, rfl, by go_num, HI.out⟩
            case measure => simp [intOf]; omega
        · by_cases h35 : s[k].toNat = 35
          · have HI : Hid (idB s = _) := Lib.hid (hI.trans (skp_on false true s k hlt (by rw [skp_false_cons, if_neg hb, if_pos h35])))
            have hc : (s[k].toNat : Int) = 35 := by omega
            clear hI hb h35
            go_wp2
            go_round
            case rel => exact ⟨true, k + 1, by omega, rfl, by go_num, HI.out⟩
            case measure => simp [intOf]; omega
          · have HI : Hid (idB s = false) := Lib.hid (by
              rw [hI, drop_cons s k hlt, skp_false_cons, if_neg hb, if_neg h35]; simp)
            have n0 : ((s[k].toNat : Int) == 35) = false := by simp; omega
            have hb' : ¬ (s[k].toNat = 32) ∧ ¬ (s[k].toNat = 9) ∧ ¬ (s[k].toNat = 10) := by unfold blk at hb; simp at hb; omega
            have n1 : ((s[k].toNat : Int) == 32) = false := by simp; omega
            have n2 : ((s[k].toNat : Int) == 9) = false := by simp; omega
            have n3 : ((s[k].toNat : Int) == 10) = false := by simp; omega
            have m1 : ((s[k].toNat : Int) != 32) = true := by simp; omega
            have m2 : ((s[k].toNat : Int) != 9) = true := by simp; omega
            have m3 : ((s[k].toNat : Int) != 10) = true := by simp; omega
            clear hI hb h35 hb'
            go_wp2
            go_ret
            exact ⟨ret_bool HI.out.symm, rfl⟩
      · by_cases hc : s[k].toNat = 10
        · have HI : Hid (idB s = _) := Lib.hid (hI.trans (skp_on true false s k hlt (by rw [skp_true_cons, if_pos hc])))
          have hc' : (s[k].toNat : Int) = 10 := by omega
          clear hI hc
          go_wp2
          go_round
          case rel => exact ⟨false, k + 1, by omega, rfl, by go_num, HI.out⟩
          case measure => simp [intOf]; omega
        · have HI : Hid (idB s = _) := Lib.hid (hI.trans (skp_on true true s k hlt (by rw [skp_true_cons, if_neg hc])))
          have n3 : ((s[k].toNat : Int) == 10) = false := by simp; omega
          have m3 : ((s[k].toNat : Int) != 10) = true := by simp; omega
          clear hI hc
          go_wp2
          go_round
          case rel => exact ⟨true, k + 1, by omega, rfl, by go_num, HI.out⟩
          case measure => simp [intOf]; omega
    · have HI : Hid (idB s = true) := Lib.hid (by
        rw [hI, List.drop_of_length_le (by rw [← Lib.size_eq]; omega), skp_nil]; simp)
      clear hI
      go_wp2
      go_ret
      exact ⟨ret_bool HI.out.symm, rfl⟩
theorem ridle_yes (s : ByteArray) (h : idB s = true) (w : World) (hs : s.size ≤ 100000) :
    Calls Tryd.prog 19 #[.string s] w fun e w' => e = .returned (.bool true) ∧ w' = w := h ▸ ridle_any s w hs
/-- the tokens of a text that has tokens, be they none -/
theorem tokens_gen (s : ByteArray) (ts : List Tok) (w : World) (hs : s.size ≤ maxLen) (hsg : SignsIn w) (h : res s.data.toList = (ts, 0, 0)) :
    Calls Tryd.prog 14 #[.string s] w fun e w' => ∃ ao cap, e = .returned (.tuple #[.slice ao ts.length cap, .int .i64 0, .int .i64 0]) ∧ (ts ≠ [] → ∃ g, ao = some ⟨g, 0, none⟩ ∧ w.heap.size ≤ g) ∧ (ts = [] → ao = none ∧ cap = 0) ∧ ts.length ≤ cap ∧ cap ≤ 9223372036854775807 ∧
      w'.ownsRow w.heap.size 36 3 (.slice ao ts.length cap) ts.length (cellsOf ts) ∧ Below w.heap.size w w' := by
  by_cases hne : ts = []
  · subst hne
    exact (tokens_none s 0 0 w hs hsg h).mono fun e w' ⟨he, hb⟩ => ⟨none, 0, he, fun h => absurd rfl h, fun _ => ⟨rfl, rfl⟩, by simp, by omega, World.ownsRow_nil _ _ _ _, hb⟩
  · exact (tokens_some s ts w hs hsg h hne).mono fun e w' ⟨g, cap, he, h1, h2, h3, h4, h5, h6⟩ => ⟨some ⟨g, 0, none⟩, cap, he, fun _ => ⟨g, rfl, h1⟩, fun h => absurd h hne, h3, by unfold maxLen at h4; exact h4, h5, h6⟩
end Go.Proofs.YtpgbgjljlidifaaDoor.Lx
