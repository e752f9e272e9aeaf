/- Walks of the small functions of lex and of the library's functions that lex calls: each returns what its plain function says, and leaves memory as it was (Clone: makes new memory alone). Conditions: none. -/
import Derived.Test.YtiicjbnocpphdaaDoorRows
import Derived.Test.YtiicjbnocpphdaaDoorNmA
import Derived.WalkKit
import Derived.ProofKit
import Derived.WalkLawsBesides
import Derived.WalkSpells
import Derived.BigQuiet
import Derived.Outline
import Derived.Lib.Hide
import Derived.Lib.Walk
import Derived.Lib.BufferWrite
import Derived.Lib.UnsafeStr
import Derived.Laws.MakeOwn
namespace Go.Proofs.YtiicjbnocpphdaaDoor.Lx
open Go Go.RowKit

theorem ret_bool {a b : Bool} (h : a = b) : Ending.returned (.bool a) = .returned (.bool b) := by rw [h]
theorem ret_int {k : IntKind} {a b : Int} (h : a = b) : Ending.returned (.int k a) = .returned (.int k b) := by rw [h]

set_option maxHeartbeats 400000 in
theorem digit_any (c : UInt8) (w : World) :
    Calls Tryd.prog 67 #[.int .u8 (c.toNat : Int)] w fun e w' => e = .returned (.bool (dgt c)) ∧ w = w' := by
  go_enter Tryd.func67, Tryd.ntmps67
  go_wp2
  all_goals
    go_ret
    refine ⟨ret_bool ?_, rfl⟩
    rw [Bool.eq_iff_iff]
    simp [dgt] <;> omega

set_option maxHeartbeats 400000 in
theorem begins_any (c : UInt8) (w : World) :
    Calls Tryd.prog 65 #[.int .u8 (c.toNat : Int)] w fun e w' => e = .returned (.bool (bgn c)) ∧ w = w' := by
  go_enter Tryd.func65, Tryd.ntmps65
  go_wp2
  all_goals
    go_ret
    refine ⟨ret_bool ?_, rfl⟩
    rw [Bool.eq_iff_iff]
    simp [bgn] <;> omega

set_option maxHeartbeats 400000 in
theorem within_any (c : UInt8) (w : World) :
    Calls Tryd.prog 66 #[.int .u8 (c.toNat : Int)] w fun e w' => e = .returned (.bool (wth c)) ∧ w = w' := by
  go_enter Tryd.func66, Tryd.ntmps66
  go_wp2_with (first | (go_at_call 65; refine (begins_any _ _).mono ?_; rintro e w' ⟨rfl, rfl⟩) | (go_at_call 67; refine (digit_any _ _).mono ?_; rintro e w' ⟨rfl, rfl⟩))
  all_goals
    go_ret
    exact ⟨ret_bool (by simp [wth, *]), rfl⟩

/-- the place of the first line's end; -1: there is none -/
def pfxB (s p : ByteArray) : Bool := p.data.toList.isPrefixOf s.data.toList
set_option maxHeartbeats 400000 in
theorem slHasPrefix_any (s p : ByteArray) (w : World) :
    Calls Tryd.prog 70 #[.string s, .string p] w fun e w' => e = .returned (.bool (pfxB s p)) ∧ w = w' := by
  have H : Hid ((decide (p.size ≤ s.size) && ((s.extract 0 p.size).toList == p.toList)) = pfxB s p) := Lib.hid (Lib.hasPrefix_raw s p)
  go_enter Tryd.func70, Tryd.ntmps70
  go_wp2
  all_goals
    go_ret
    exact ⟨ret_bool (by rw [← H.out]; simp [*]), rfl⟩
set_option maxHeartbeats 400000 in
theorem hasPrefix_any (s p : ByteArray) (w : World) :
    Calls Tryd.prog 69 #[.string s, .string p] w fun e w' => e = .returned (.bool (pfxB s p)) ∧ w = w' := by
  go_enter Tryd.func69, Tryd.ntmps69
  go_wp2_with (go_at_call 70; refine (slHasPrefix_any _ _ _).mono ?_; rintro e w' ⟨rfl, rfl⟩)
  go_ret
  exact ⟨rfl, rfl⟩

theorem head_of (s : ByteArray) (h : 0 < s.size) : s.data.toList.head? = some s[0] := by
  obtain ⟨⟨l⟩⟩ := s
  cases l with
  | nil => simp [ByteArray.size] at h
  | cons a r => rfl
theorem is48 (c : UInt8) (e : ((c.toNat : Int) == 48) = true) : c = 48 := by
  apply UInt8.toNat_inj.1
  have h1 : (c.toNat : Int) = 48 := by simpa using e
  have h2 : UInt8.toNat 48 = 48 := rfl
  rw [h2]
  omega
/-- are a text's bytes a number? -/
def numB (s : ByteArray) : Bool := numOk s.data.toList
set_option maxHeartbeats 400000 in
theorem number_any (s : ByteArray) (h : 0 < s.size) (w : World) :
    Calls Tryd.prog 68 #[.string s] w fun e w' => e = .returned (.bool (numB s)) ∧ w = w' := by
  have H := Lib.hid (head_of s h)
  have hb : (((s[0].toNat : Int) == 48) = true → s[0] = 48) := is48 _
  have hb' : (((s[0].toNat : Int) == 48) = false → ¬ s[0] = 48) := fun e e2 => by rw [e2] at e; simp at e
  have hb := Lib.hid hb
  have hb' := Lib.hid hb'
  have hsz := Lib.hid (Lib.size_eq s)
  go_enter Tryd.func68, Tryd.ntmps68
  go_wp2
  · go_ret
    have e : ((s[0].toNat : Int) == 48) = true := by assumption
    have e := hb.out e
    exact ⟨ret_bool (by simp [numB, numOk, H.out, e, Lib.toList_data]), rfl⟩
  all_goals
    go_ret
    have e : ((s[0].toNat : Int) == 48) = false := by assumption
    have e := hb'.out e
    refine ⟨ret_bool ?_, rfl⟩
    unfold numB numOk
    rw [H.out, if_neg (by simpa using e), ← hsz.out]
    first
      | (have h19 : (s.size : Int) = 19 := by assumption
         have h19 : s.size = 19 := by omega
         simp [h19, Lib.toList_data, maxNum]
         done)
      | (have h19 : (s.size : Int) < 19 := by assumption
         have h19 : s.size < 19 := by omega
         simp [h19]
         done)
      | (have h19 : 19 ≤ (s.size : Int) := by assumption
         have h20 : ¬ (s.size : Int) = 19 := by assumption
         have h19 : ¬ s.size < 19 := by omega
         have h20 : ¬ s.size = 19 := by omega
         simp [h19, h20]
         omega)

theorem drop_cons (s : ByteArray) (k : Nat) (h : k < s.size) : s.data.toList.drop k = s[k] :: s.data.toList.drop (k + 1) := by
  have h' : k < s.data.toList.length := by rw [← Lib.size_eq]; exact h
  rw [List.drop_eq_getElem_cons h']; rfl

end Go.Proofs.YtiicjbnocpphdaaDoor.Lx
