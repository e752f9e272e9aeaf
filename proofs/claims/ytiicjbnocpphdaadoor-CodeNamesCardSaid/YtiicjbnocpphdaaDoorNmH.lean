/- Walks of lex.Reserved and lex.Name: each returns what its plain function says. Conditions: lex.signs holds its list. -/
import Derived.Test.YtiicjbnocpphdaaDoorNmE
namespace Go.Proofs.YtiicjbnocpphdaaDoor.Lx
open Go Go.RowKit

theorem SignsIn.below {w w' : World} {B : Nat} (h : SignsIn w) (hB : 1 < B) (hb : Below B w w') : SignsIn w' := by
  obtain ⟨t, fr, hg⟩ := h
  exact ⟨t, fr, (hb.block 1 hB).trans hg⟩
theorem cut_at (s : ByteArray) (a k e : Nat) (hke : cutKE s a = (k, e)) (w : World) (hs : s.size ≤ maxLen) (h1 : a < s.size) (hsg : SignsIn w) :
    Calls Tryd.prog 63 #[.string s, .int .i64 (a : Int)] w fun en w' => en = .returned (.tuple #[.int .u8 (k : Int), .int .i64 (e : Int)]) ∧ Below w.heap.size w w' := by
  have h := cut_any s (a : Int) w hs (by omega) (by omega) hsg
  rw [Int.toNat_natCast, hke] at h
  exact h

def words : List (List UInt8) := [[103, 108, 111, 98, 97, 108], [97, 114, 114, 97, 121], [108, 111, 99, 107], [102, 117, 110, 99], [116, 104, 114, 101, 97, 100], [118, 97, 114], [105, 102], [101, 108, 115, 101], [119, 104, 105, 108, 101], [119, 105, 116, 104], [112, 114, 105, 110, 116], [99, 97, 108, 108], [114, 101, 116, 117, 114, 110], [116, 114, 117, 101], [102, 97, 108, 115, 101]]
/-- is a text a reserved word? -/
def rsv (l : List UInt8) : Bool := words.contains l
/-- is a text a name? -/
def nme (l : List UInt8) : Bool := !l.isEmpty && !rsv l && ((cutL l).1 == 1) && ((cutL l).2 == l.length)

theorem of_toList {s : ByteArray} {l : List UInt8} (h : s.toList = l) : s = ⟨l.toArray⟩ := by
  rw [Lib.toList_data] at h; rw [← h, Lib.mk_data]

set_option maxHeartbeats 1600000 in
set_option maxRecDepth 100000 in
theorem reserved_no (s : ByteArray) (w : World) (h : rsv s.data.toList = false) :
    Calls Tryd.prog 62 #[.string s] w fun e w' => e = .returned (.bool false) ∧ w = w' := by
  rw [← Lib.toList_data] at h
  have h' : ∀ x ∈ words, (s.toList == x) = false := by
    intro x hx
    simp only [rsv, List.contains_eq_any_beq, List.any_eq_false] at h
    have := h x hx
    rw [Bool.eq_false_iff]
    intro e; apply this
    simpa using e
  have h0 : (s.toList == ([103, 108, 111, 98, 97, 108] : List UInt8)) = false := h' _ (by decide)
  have h1 : (s.toList == ([97, 114, 114, 97, 121] : List UInt8)) = false := h' _ (by decide)
  have h2 : (s.toList == ([108, 111, 99, 107] : List UInt8)) = false := h' _ (by decide)
  have h3 : (s.toList == ([102, 117, 110, 99] : List UInt8)) = false := h' _ (by decide)
  have h4 : (s.toList == ([116, 104, 114, 101, 97, 100] : List UInt8)) = false := h' _ (by decide)
  have h5 : (s.toList == ([118, 97, 114] : List UInt8)) = false := h' _ (by decide)
  have h6 : (s.toList == ([105, 102] : List UInt8)) = false := h' _ (by decide)
  have h7 : (s.toList == ([101, 108, 115, 101] : List UInt8)) = false := h' _ (by decide)
  have h8 : (s.toList == ([119, 104, 105, 108, 101] : List UInt8)) = false := h' _ (by decide)
  have h9 : (s.toList == ([119, 105, 116, 104] : List UInt8)) = false := h' _ (by decide)
  have h10 : (s.toList == ([112, 114, 105, 110, 116] : List UInt8)) = false := h' _ (by decide)
  have h11 : (s.toList == ([99, 97, 108, 108] : List UInt8)) = false := h' _ (by decide)
  have h12 : (s.toList == ([114, 101, 116, 117, 114, 110] : List UInt8)) = false := h' _ (by decide)
  have h13 : (s.toList == ([116, 114, 117, 101] : List UInt8)) = false := h' _ (by decide)
  have h14 : (s.toList == ([102, 97, 108, 115, 101] : List UInt8)) = false := h' _ (by decide)
  clear h h'
  go_enter Tryd.func62, Tryd.ntmps62
  go_wp2
  go_ret
  exact ⟨rfl, rfl⟩
set_option maxHeartbeats 1600000 in
set_option maxRecDepth 100000 in
theorem reserved_yes (s : ByteArray) (w : World) (h : rsv s.data.toList = true) :
    Calls Tryd.prog 62 #[.string s] w fun e w' => e = .returned (.bool true) ∧ w = w' := by
  have h' : s.toList ∈ words := by
    rw [Lib.toList_data]
    simpa [rsv] using h
  simp only [words, List.mem_cons, List.not_mem_nil, or_false] at h'
  rcases h' with h' | h' | h' | h' | h' | h' | h' | h' | h' | h' | h' | h' | h' | h' | h'
  all_goals
    have hs := of_toList h'
    subst hs
    clear h h'
    go_enter Tryd.func62, Tryd.ntmps62
    go_wp2
    go_ret
    exact ⟨rfl, rfl⟩
theorem reserved_any (s : ByteArray) (w : World) :
    Calls Tryd.prog 62 #[.string s] w fun e w' => e = .returned (.bool (rsv s.data.toList)) ∧ w = w' := by
  cases h : rsv s.data.toList
  · exact reserved_no s w h
  · exact reserved_yes s w h

theorem nme_of (s : ByteArray) (hne : 0 < s.size) (hr : rsv s.data.toList = false) (k e : Nat) (hke : cutKE s 0 = (k, e)) : nme s.data.toList = (((k : Int) == 1) && ((e : Int) == (s.size : Int))) := by
  have hn : s.data.toList ≠ [] := by intro h; rw [Lib.size_eq, h] at hne; simp at hne
  have hl := Lib.size_eq s
  unfold cutKE at hke
  rw [List.drop_zero] at hke
  have e1 : nme s.data.toList = (((cutL s.data.toList).1 == 1) && ((cutL s.data.toList).2 == s.size)) := by
    unfold nme; rw [hr, ← hl]
    cases hx : s.data.toList with
    | nil => exact absurd hx hn
    | cons a r => simp
  rw [e1]
  by_cases hc : (cutL s.data.toList).1 = 0
  · rw [if_pos hc] at hke
    obtain ⟨h1, h2⟩ := Prod.mk.inj hke
    rw [hc, ← h1]; rfl
  · rw [if_neg hc] at hke
    obtain ⟨h1, h2⟩ := Prod.mk.inj hke
    rw [h1, ← h2, Bool.eq_iff_iff]
    simp
    omega
set_option maxHeartbeats 1600000 in
set_option maxRecDepth 100000 in
theorem name_any (s : ByteArray) (w : World) (hs : s.size ≤ maxLen) (hsg : SignsIn w) :
    Calls Tryd.prog 61 #[.string s] w fun e w' => e = .returned (.bool (nme s.data.toList)) ∧ Below w.heap.size w w' := by
  by_cases h0 : s.size = 0
  · have hs : s = ⟨#[]⟩ := by
      apply ByteArray.ext
      exact Array.eq_empty_of_size_eq_zero h0
    subst hs
    go_enter Tryd.func61, Tryd.ntmps61
    go_wp2
    go_ret
    exact ⟨rfl, Below.refl _ _⟩
  · have he : (s.toList == []) = false := by
      rw [Bool.eq_false_iff]; intro e; apply h0; rw [Lib.size_eq, ← Lib.toList_data]; simpa using e
    have he1 : s.toList.isEmpty = false := by
      rw [Bool.eq_false_iff]; intro e; apply h0; rw [Lib.size_eq, ← Lib.toList_data]; simpa using e
    obtain ⟨k, e, hke⟩ : ∃ k e, cutKE s 0 = (k, e) := ⟨_, _, rfl⟩
    cases hr : rsv s.data.toList
    · have HN := Lib.hid (nme_of s (by omega) hr k e hke)
      replace hr := Lib.hid hr
      replace hke := Lib.hid hke
      have hs' := Lib.hid hs
      clear hs
      go_enter Tryd.func61, Tryd.ntmps61
      go_wp2_with (first
        | (go_at_call 62; refine (reserved_no _ _ hr.out).mono ?_; rintro e w' ⟨rfl, rfl⟩)
        | (go_at_call 63; refine (cut_at s 0 k e hke.out _ hs'.out (by omega) hsg).mono ?_; rintro e w' ⟨rfl, hb⟩))
      all_goals
        go_ret
        exact ⟨ret_bool (by rw [HN.out]; simp [*]), hb⟩
    · have HN : Hid (nme s.data.toList = false) := Lib.hid (by unfold nme; rw [hr]; simp)
      replace hr := Lib.hid hr
      go_enter Tryd.func61, Tryd.ntmps61
      go_wp2_with (first
        | (go_at_call 62; refine (reserved_yes _ _ hr.out).mono ?_; rintro e w' ⟨rfl, rfl⟩))
      go_ret
      exact ⟨ret_bool HN.out.symm, Below.refl _ _⟩
end Go.Proofs.YtiicjbnocpphdaaDoor.Lx
