/- Plain functions on bytes: what a letter, a digit, a blank is; what is passed over; where a token ends; a text's tokens. Conditions: none. -/
import Derived.Laws.Strings
import Derived.Lib.Strings
import Derived.Lib.Bytealg
import Derived.Test.YthiiahlgncngoaaDoorRRRows
import Derived.WalkKit
import Derived.ProofKit
import Derived.WalkLawsBesides
import Derived.WalkSpells
import Derived.BigQuiet
import Derived.Outline
import Derived.Lib.Hide
import Derived.Lib.Walk
import Derived.Lib.BufferWrite
import Derived.Lib.UnsafeStr
import Derived.Laws.MakeOwn
import Derived.LoopTactic
import Derived.Deep.QuietTactic
import Derived.Lib.LaidTab
import Derived.Laws.Rows
namespace Go.Proofs.YthiiahlgncngoaaDoorRR
theorem Lh {p : Prop} (h : p) : Go.RowKit.Hid p := h
end Go.Proofs.YthiiahlgncngoaaDoorRR
set_option maxHeartbeats 16000000
set_option maxRecDepth 100000
namespace Go.Proofs.YthiiahlgncngoaaDoorRR.Lx
open Go
/-- a letter or _ -/
def bgn (c : UInt8) : Bool := decide (97 ≤ c.toNat ∧ c.toNat ≤ 122) || decide (65 ≤ c.toNat ∧ c.toNat ≤ 90) || decide (c.toNat = 95)
/-- a decimal digit -/
def dgt (c : UInt8) : Bool := decide (48 ≤ c.toNat ∧ c.toNat ≤ 57)
def wth (c : UInt8) : Bool := bgn c || dgt c
def blk (c : UInt8) : Bool := decide (c.toNat = 32) || decide (c.toNat = 9) || decide (c.toNat = 10)
/-- how many bytes, from the first one on, are of a kind -/
def run (p : UInt8 → Bool) : List UInt8 → Nat
 | [] => 0
 | c :: r => if p c then run p r + 1 else 0
def maxNum : List UInt8 := [57, 50, 50, 51, 51, 55, 50, 48, 51, 54, 56, 53, 52, 55, 55, 53, 56, 48, 56]
/-- are digits a number? -/
def numOk (l : List UInt8) : Bool :=
 if l.head? = some 48 then l == [48] else decide (l.length < 19) || (decide (l.length = 19) && (Op.bytesLess l maxNum || l == maxNum))
def signs : List (List UInt8) := [[124, 124], [38, 38], [60, 61], [62, 61], [61, 61], [33, 61], [60], [62], [61], [43], [45], [42], [47], [37], [33], [40], [41], [123], [125], [91], [93], [59], [44]]
/-- how many bytes the sign has that stands at the beginning of a text; 0: none stands there -/
def sgnIn : List (List UInt8) → List UInt8 → Nat
 | [], _ => 0
 | x :: r, l => if x.isPrefixOf l then x.length else sgnIn r l
def sgn (l : List UInt8) : Nat := sgnIn signs l
/-- the kind of the token at the beginning of a text, and its length; kind 0: none -/
def cutL (l : List UInt8) : Nat × Nat :=
 match l with
 | [] => (0, 0)
 | c :: _ =>
   if bgn c then (if 32 < run wth l then (0, 0) else (1, run wth l))
   else if dgt c then (if !numOk (l.take (run dgt l)) || ((l.drop (run dgt l)).head?.elim false bgn) then (0, 0) else (2, run dgt l))
   else if sgn l = 0 then (0, 0) else (3, sgn l)
theorem cutL_cons (c : UInt8) (r : List UInt8) : cutL (c :: r) =
 if bgn c then (if 32 < run wth (c :: r) then (0, 0) else (1, run wth (c :: r)))
 else if dgt c then (if !numOk ((c :: r).take (run dgt (c :: r))) || (((c :: r).drop (run dgt (c :: r))).head?.elim false bgn) then (0, 0) else (2, run dgt (c :: r)))
 else if sgn (c :: r) = 0 then (0, 0) else (3, sgn (c :: r)) := rfl
theorem run_le (p : UInt8 → Bool) : ∀ l, run p l ≤ l.length
 | [] => by simp [run]
 | c :: r => by have := run_le p r; unfold run; split <;> simp <;> omega
end Go.Proofs.YthiiahlgncngoaaDoorRR.Lx
namespace Go.Proofs.YthiiahlgncngoaaDoorRR.Lx
open Go Go.RowKit
theorem Qi {a b : Bool} (h : a = b) : Ending.returned (.bool a) = .returned (.bool b) := by rw [h]
theorem ret_int {k : IntKind} {a b : Int} (h : a = b) : Ending.returned (.int k a) = .returned (.int k b) := by rw [h]
theorem digit_any (c : UInt8) (w : World) :
 Calls Tryd.prog 112 #[.int .u8 (c.toNat : Int)] w fun e w' => e = .returned (.bool (dgt c)) ∧ w = w' := by
 go_enter Tryd.func112, Tryd.ntmps112
 go_wp2
 all_goals
  go_ret
  refine ⟨Qi ?_, rfl⟩
  rw [Bool.eq_iff_iff]
  simp [dgt] <;> omega
theorem begins_any (c : UInt8) (w : World) :
 Calls Tryd.prog 110 #[.int .u8 (c.toNat : Int)] w fun e w' => e = .returned (.bool (bgn c)) ∧ w = w' := by
 go_enter Tryd.func110, Tryd.ntmps110
 go_wp2
 all_goals
  go_ret
  refine ⟨Qi ?_, rfl⟩
  rw [Bool.eq_iff_iff]
  simp [bgn] <;> omega
theorem within_any (c : UInt8) (w : World) :
 Calls Tryd.prog 111 #[.int .u8 (c.toNat : Int)] w fun e w' => e = .returned (.bool (wth c)) ∧ w = w' := by
 go_enter Tryd.func111, Tryd.ntmps111
 go_wp2_with (first | (go_at_call 110; refine (begins_any _ _).mono ?_; rintro e w' ⟨rfl, rfl⟩) | (go_at_call 112; refine (digit_any _ _).mono ?_; rintro e w' ⟨rfl, rfl⟩))
 all_goals
  go_ret
  exact ⟨Qi (by simp [wth, *]), rfl⟩
/-- the place of the first line's end; -1: there is none -/
def pfxB (s p : ByteArray) : Bool := p.data.toList.isPrefixOf s.data.toList
theorem slHasPrefix_any (s p : ByteArray) (w : World) :
 Calls Tryd.prog 116 #[.string s, .string p] w fun e w' => e = .returned (.bool (pfxB s p)) ∧ w = w' := by
 have H : Hid ((decide (p.size ≤ s.size) && ((s.extract 0 p.size).toList == p.toList)) = pfxB s p) := Lh (Lib.hasPrefix_raw s p)
 go_enter Tryd.func116, Tryd.ntmps116
 go_wp2
 all_goals
  go_ret
  exact ⟨Qi (by rw [← H.out]; simp [*]), rfl⟩
theorem hasPrefix_any (s p : ByteArray) (w : World) :
 Calls Tryd.prog 114 #[.string s, .string p] w fun e w' => e = .returned (.bool (pfxB s p)) ∧ w = w' := by
 go_enter Tryd.func114, Tryd.ntmps114
 go_wp2_with (go_at_call 116; refine (slHasPrefix_any _ _ _).mono ?_; rintro e w' ⟨rfl, rfl⟩)
 go_ret
 exact ⟨rfl, rfl⟩
theorem head_of (s : ByteArray) (h : 0 < s.size) : s.data.toList.head? = some s[0] := by
 obtain ⟨⟨l⟩⟩ := s
 cases l with
 | nil => simp [ByteArray.size] at h
 | cons a r => rfl
theorem is48 (c : UInt8) (e : ((c.toNat : Int) == 48) = true) : c = 48 := by
 apply UInt8.toNat_inj.1
 have h1 : (c.toNat : Int) = 48 := by simpa using e
 have h2 : UInt8.toNat 48 = 48 := rfl
 rw [h2]
 omega
/-- are a text's bytes a number? -/
def numB (s : ByteArray) : Bool := numOk s.data.toList
theorem number_any (s : ByteArray) (h : 0 < s.size) (w : World) :
 Calls Tryd.prog 113 #[.string s] w fun e w' => e = .returned (.bool (numB s)) ∧ w = w' := by
 have H := Lh (head_of s h)
 have hb : (((s[0].toNat : Int) == 48) = true → s[0] = 48) := is48 _
 have hb' : (((s[0].toNat : Int) == 48) = false → ¬ s[0] = 48) := fun e e2 => by rw [e2] at e; simp at e
 have hb := Lh hb
 have hb' := Lh hb'
 have hsz := Lh (Lib.size_eq s)
 go_enter Tryd.func113, Tryd.ntmps113
 go_wp2
 · go_ret
   have e : ((s[0].toNat : Int) == 48) = true := by assumption
   have e := hb.out e
   exact ⟨Qi (by simp [numB, numOk, H.out, e, Lib.toList_data]), rfl⟩
 all_goals
  go_ret
  have e : ((s[0].toNat : Int) == 48) = false := by assumption
  have e := hb'.out e
  refine ⟨Qi ?_, rfl⟩
  unfold numB numOk
  rw [H.out, if_neg (by simpa using e), ← hsz.out]
  first
   | (have h19 : (s.size : Int) = 19 := by assumption
      have h19 : s.size = 19 := by omega
      simp [h19, Lib.toList_data, maxNum]
      done)
   | (have h19 : (s.size : Int) < 19 := by assumption
      have h19 : s.size < 19 := by omega
      simp [h19]
      done)
   | (have h19 : 19 ≤ (s.size : Int) := by assumption
      have h20 : ¬ (s.size : Int) = 19 := by assumption
      have h19 : ¬ s.size < 19 := by omega
      have h20 : ¬ s.size = 19 := by omega
      simp [h19, h20]
      omega)
theorem drop_cons (s : ByteArray) (k : Nat) (h : k < s.size) : s.data.toList.drop k = s[k] :: s.data.toList.drop (k + 1) := by
 have h' : k < s.data.toList.length := by rw [← Lib.size_eq]; exact h
 rw [List.drop_eq_getElem_cons h']; rfl
/-- where bytes of a kind end, from a place on -/
def far (p : UInt8 → Bool) (s : ByteArray) (k : Nat) : Nat := k + run p (s.data.toList.drop k)
theorem far_le (p : UInt8 → Bool) (s : ByteArray) (k : Nat) (h : k ≤ s.size) : k ≤ far p s k ∧ far p s k ≤ s.size := by
 have := run_le p (s.data.toList.drop k)
 rw [List.length_drop, ← Lib.size_eq] at this
 unfold far; omega
theorem far_end (p : UInt8 → Bool) (s : ByteArray) (k : Nat) (h : k = s.size) : far p s k = k := by
 subst h; unfold far
 rw [List.drop_of_length_le (by rw [← Lib.size_eq]; omega)]; simp [run]
theorem far_on (p : UInt8 → Bool) (s : ByteArray) (k : Nat) (h : k < s.size) (hb : p s[k] = true) : far p s (k + 1) = far p s k := by
 unfold far; rw [drop_cons s k h, run, if_pos hb]; omega
theorem far_off (p : UInt8 → Bool) (s : ByteArray) (k : Nat) (h : k < s.size) (hb : p s[k] = false) : far p s k = k := by
 unfold far; rw [drop_cons s k h, run, if_neg (by simp [hb])]; omega
theorem farW (s : ByteArray) (k0 b1 b2 : Nat) (w : World) (hs : s.size ≤ maxLen) (hk0 : k0 ≤ s.size) (h1 : w.cell? ⟨b1, 0, none⟩ = some (.int .i64 k0)) (h2 : w.cell? ⟨b2, 0, none⟩ = some (.string s)) :
 Calls Tryd.prog 109 #[.func (.func 111) #[] #[], .pointer (some ⟨b1, 0, none⟩), .pointer (some ⟨b2, 0, none⟩)] w fun e w' => e = .returned (.int .i64 (far wth s k0 : Int)) ∧ w = w' := by
 unfold maxLen at hs
 go_enter Tryd.func109, Tryd.ntmps109
 go_wp2
 go_loop [5] (fun i => ∃ k : Nat, k ≤ s.size ∧ i = .int .i64 k ∧ far wth s k = far wth s k0) (fun i => s.size - (intOf i).toNat)
 case atStart => exact ⟨k0, hk0, rfl, rfl⟩
 case round =>
  obtain ⟨k, hk, rfl, hI⟩ := hrel
  have HI := Lh hI
  clear hI hk0
  by_cases hlt : k < s.size
  · have Hon := Lh (far_on wth s k hlt)
    have Hoff := Lh (far_off wth s k hlt)
    go_wp2_with (go_at_call 111; refine (within_any _ _).mono ?_; rintro e w' ⟨rfl, rfl⟩)
    · have hb : wth s[k] = true := by assumption
      go_round
      case rel => exact ⟨k + 1, by omega, by go_num, by rw [Hon.out hb, HI.out]⟩
      case measure => simp [intOf]; omega
    · have hb : wth s[k] = false := by assumption
      go_ret
      exact ⟨ret_int (by rw [← HI.out, Hoff.out hb]), rfl⟩
  · go_wp2
    go_ret
    refine ⟨ret_int ?_, rfl⟩
    rw [← HI.out, far_end wth s k (by omega)]
theorem farD (s : ByteArray) (k0 b1 b2 : Nat) (w : World) (hs : s.size ≤ maxLen) (hk0 : k0 ≤ s.size) (h1 : w.cell? ⟨b1, 0, none⟩ = some (.int .i64 k0)) (h2 : w.cell? ⟨b2, 0, none⟩ = some (.string s)) :
 Calls Tryd.prog 109 #[.func (.func 112) #[] #[], .pointer (some ⟨b1, 0, none⟩), .pointer (some ⟨b2, 0, none⟩)] w fun e w' => e = .returned (.int .i64 (far dgt s k0 : Int)) ∧ w = w' := by
 unfold maxLen at hs
 go_enter Tryd.func109, Tryd.ntmps109
 go_wp2
 go_loop [5] (fun i => ∃ k : Nat, k ≤ s.size ∧ i = .int .i64 k ∧ far dgt s k = far dgt s k0) (fun i => s.size - (intOf i).toNat)
 case atStart => exact ⟨k0, hk0, rfl, rfl⟩
 case round =>
  obtain ⟨k, hk, rfl, hI⟩ := hrel
  have HI := Lh hI
  clear hI hk0
  by_cases hlt : k < s.size
  · have Hon := Lh (far_on dgt s k hlt)
    have Hoff := Lh (far_off dgt s k hlt)
    go_wp2_with (go_at_call 112; refine (digit_any _ _).mono ?_; rintro e w' ⟨rfl, rfl⟩)
    · have hb : dgt s[k] = true := by assumption
      go_round
      case rel => exact ⟨k + 1, by omega, by go_num, by rw [Hon.out hb, HI.out]⟩
      case measure => simp [intOf]; omega
    · have hb : dgt s[k] = false := by assumption
      go_ret
      exact ⟨ret_int (by rw [← HI.out, Hoff.out hb]), rfl⟩
  · go_wp2
    go_ret
    refine ⟨ret_int ?_, rfl⟩
    rw [← HI.out, far_end dgt s k (by omega)]
/-- the kind and the end of the token that begins at a place; 0 and 0: none does -/
def X3 (s : ByteArray) (k : Nat) : Nat × Nat :=
 if (cutL (s.data.toList.drop k)).1 = 0 then (0, 0) else ((cutL (s.data.toList.drop k)).1, k + (cutL (s.data.toList.drop k)).2)
theorem far_run (p : UInt8 → Bool) (s : ByteArray) (k : Nat) : run p (s.data.toList.drop k) = far p s k - k := by unfold far; omega
theorem cut_cons (s : ByteArray) (k : Nat) (h : k < s.size) : cutL (s.data.toList.drop k) =
 if bgn s[k] then (if 32 < far wth s k - k then (0, 0) else (1, far wth s k - k))
 else if dgt s[k] then (if !numOk (s.extract k (far dgt s k)).data.toList || ((s.data.toList.drop (far dgt s k)).head?.elim false bgn) then (0, 0) else (2, far dgt s k - k))
 else if sgn (s.data.toList.drop k) = 0 then (0, 0) else (3, sgn (s.data.toList.drop k)) := by
 rw [← far_run, ← far_run]
 have e : far dgt s k = k + run dgt (s.data.toList.drop k) := rfl
 rw [e, Lib.extract_data, Nat.add_sub_cancel_left, ← List.drop_drop]
 rw [drop_cons s k h]
 rfl
theorem ke_zero (s : ByteArray) (k n : Nat) (h : cutL (s.data.toList.drop k) = (0, n)) : X3 s k = (0, 0) := by
 unfold X3; rw [h]; exact if_pos rfl
theorem ke_some (s : ByteArray) (k a n e : Nat) (h : cutL (s.data.toList.drop k) = (a, n)) (ha : a ≠ 0) (he : k + n = e) : X3 s k = (a, e) := by
 unfold X3; rw [h, ← he]; exact if_neg ha
theorem cut_long (s : ByteArray) (k : Nat) (h : k < s.size) (hb : bgn s[k] = true) (hl : 32 < (far wth s k : Int) - k) : X3 s k = (0, 0) :=
 ke_zero s k 0 (by rw [cut_cons s k h, if_pos hb, if_pos (by omega)])
theorem cut_name (s : ByteArray) (k : Nat) (h : k < s.size) (hb : bgn s[k] = true) (hl : (far wth s k : Int) - k ≤ 32) : X3 s k = (1, far wth s k) := by
 have := far_le wth s k (by omega)
 exact ke_some s k 1 (far wth s k - k) _ (by rw [cut_cons s k h, if_pos hb, if_neg (by omega)]) (by omega) (by omega)
theorem cut_num_bad (s : ByteArray) (k : Nat) (h : k < s.size) (hb : bgn s[k] = false) (hd : dgt s[k] = true) (hn : numOk (s.extract k (far dgt s k)).data.toList = false) : X3 s k = (0, 0) :=
 ke_zero s k 0 (by rw [cut_cons s k h, if_neg (by rw [hb]; simp), if_pos hd, hn]; rfl)
theorem cut_num_end (s : ByteArray) (k : Nat) (h : k < s.size) (hb : bgn s[k] = false) (hd : dgt s[k] = true) (hn : numOk (s.extract k (far dgt s k)).data.toList = true) (he : s.size ≤ far dgt s k) : X3 s k = (2, far dgt s k) := by
 have := far_le dgt s k (by omega)
 exact ke_some s k 2 (far dgt s k - k) _ (by rw [cut_cons s k h, if_neg (by rw [hb]; simp), if_pos hd, hn, List.drop_of_length_le (by rw [← Lib.size_eq]; omega)]; rfl) (by omega) (by omega)
theorem cut_num_on (s : ByteArray) (k : Nat) (h : k < s.size) (hb : bgn s[k] = false) (hd : dgt s[k] = true) (hn : numOk (s.extract k (far dgt s k)).data.toList = true) (he : far dgt s k < s.size) (hg : bgn s[far dgt s k] = false) :
 X3 s k = (2, far dgt s k) := by
 have := far_le dgt s k (by omega)
 exact ke_some s k 2 (far dgt s k - k) _ (by rw [cut_cons s k h, if_neg (by rw [hb]; simp), if_pos hd, hn, drop_cons s _ he, List.head?_cons, Option.elim_some, hg]; rfl) (by omega) (by omega)
theorem cut_num_stuck (s : ByteArray) (k : Nat) (h : k < s.size) (hb : bgn s[k] = false) (hd : dgt s[k] = true) (hn : numOk (s.extract k (far dgt s k)).data.toList = true) (he : far dgt s k < s.size) (hg : bgn s[far dgt s k] = true) :
 X3 s k = (0, 0) :=
 ke_zero s k 0 (by rw [cut_cons s k h, if_neg (by rw [hb]; simp), if_pos hd, hn, drop_cons s _ he, List.head?_cons, Option.elim_some, hg]; rfl)
theorem cut_sign (s : ByteArray) (k : Nat) (h : k < s.size) (hb : bgn s[k] = false) (hd : dgt s[k] = false) (n : Nat) (hn : sgn (s.data.toList.drop k) = n) (h0 : n ≠ 0) :
 X3 s k = (3, k + n) :=
 ke_some s k 3 n _ (by rw [cut_cons s k h, if_neg (by rw [hb]; simp), if_neg (by rw [hd]; simp), hn, if_neg h0]) (by omega) rfl
theorem cut_none (s : ByteArray) (k : Nat) (h : k < s.size) (hb : bgn s[k] = false) (hd : dgt s[k] = false) (hn : sgn (s.data.toList.drop k) = 0) :
 X3 s k = (0, 0) :=
 ke_zero s k 0 (by rw [cut_cons s k h, if_neg (by rw [hb]; simp), if_neg (by rw [hd]; simp), hn, if_pos rfl])
/-- the sign at a place of the list, and the list as memory holds it -/
def sgAt (i : Nat) : ByteArray := ⟨(signs.getD i []).toArray⟩
def sgVals : Array Value := (signs.map fun x => Value.string ⟨x.toArray⟩).toArray
theorem sgVals_size : sgVals.size = 23 := by decide
/-- THE CODE's LIST OF SIGNS LIES IN MEMORY. -/
def SignsIn (w : World) : Prop := ∃ t fr, w.heap[1]? = some (.cells sgVals t fr)
theorem sgAt_data (i : Nat) : (sgAt i).data.toList = signs.getD i [] := rfl
theorem sgn_hit (s : ByteArray) (k i : Nat) (hi : i < 23) (h : sgnIn (signs.drop i) (s.data.toList.drop k) = sgn (s.data.toList.drop k)) (hp : pfxB (s.extract k s.size) (sgAt i) = true) : sgn (s.data.toList.drop k) = (sgAt i).size ∧ 0 < (sgAt i).size ∧ (sgAt i).size ≤ s.size - k := by
 unfold pfxB at hp
 rw [Lib.extract_data, List.take_of_length_le (by rw [List.length_drop, ← Lib.size_eq]; omega), sgAt_data] at hp
 have hl : i < signs.length := hi
 rw [List.drop_eq_getElem_cons hl, sgnIn] at h
 have e : signs.getD i [] = signs[i] := by simp [hl]
 rw [e] at hp
 rw [if_pos hp] at h
 have e2 : (sgAt i).size = signs[i].length := by rw [Lib.size_eq, sgAt_data, e]
 refine ⟨by rw [e2, ← h], ?_, ?_⟩
 · rw [e2]
   have : ∀ x ∈ signs, 0 < x.length := by decide
   exact this _ (List.getElem_mem hl)
 · have := (List.isPrefixOf_iff_prefix.1 hp).length_le
   rw [List.length_drop, ← Lib.size_eq] at this
   omega
theorem sgn_miss (s : ByteArray) (k i : Nat) (hi : i < 23) (h : sgnIn (signs.drop i) (s.data.toList.drop k) = sgn (s.data.toList.drop k)) (hp : pfxB (s.extract k s.size) (sgAt i) = false) : sgnIn (signs.drop (i + 1)) (s.data.toList.drop k) = sgn (s.data.toList.drop k) := by
 unfold pfxB at hp
 rw [Lib.extract_data, List.take_of_length_le (by rw [List.length_drop, ← Lib.size_eq]; omega), sgAt_data] at hp
 have hl : i < signs.length := hi
 rw [List.drop_eq_getElem_cons hl, sgnIn] at h
 have e : signs.getD i [] = signs[i] := by simp [hl]
 rw [e] at hp
 rw [if_neg (by rw [hp]; simp)] at h
 exact h
theorem sgI0 (w : World) : (Instr.index 135 (.agg sgVals) (.int .i64 ((0 : Nat) : Int))).run Tryd.prog w = .ok (.string (sgAt 0)) w := by kernel_rfl
theorem sgI1 (w : World) : (Instr.index 135 (.agg sgVals) (.int .i64 ((1 : Nat) : Int))).run Tryd.prog w = .ok (.string (sgAt 1)) w := by kernel_rfl
theorem sgI2 (w : World) : (Instr.index 135 (.agg sgVals) (.int .i64 ((2 : Nat) : Int))).run Tryd.prog w = .ok (.string (sgAt 2)) w := by kernel_rfl
theorem sgI3 (w : World) : (Instr.index 135 (.agg sgVals) (.int .i64 ((3 : Nat) : Int))).run Tryd.prog w = .ok (.string (sgAt 3)) w := by kernel_rfl
theorem sgI4 (w : World) : (Instr.index 135 (.agg sgVals) (.int .i64 ((4 : Nat) : Int))).run Tryd.prog w = .ok (.string (sgAt 4)) w := by kernel_rfl
theorem sgI5 (w : World) : (Instr.index 135 (.agg sgVals) (.int .i64 ((5 : Nat) : Int))).run Tryd.prog w = .ok (.string (sgAt 5)) w := by kernel_rfl
theorem sgI6 (w : World) : (Instr.index 135 (.agg sgVals) (.int .i64 ((6 : Nat) : Int))).run Tryd.prog w = .ok (.string (sgAt 6)) w := by kernel_rfl
theorem sgI7 (w : World) : (Instr.index 135 (.agg sgVals) (.int .i64 ((7 : Nat) : Int))).run Tryd.prog w = .ok (.string (sgAt 7)) w := by kernel_rfl
theorem sgI8 (w : World) : (Instr.index 135 (.agg sgVals) (.int .i64 ((8 : Nat) : Int))).run Tryd.prog w = .ok (.string (sgAt 8)) w := by kernel_rfl
theorem sgI9 (w : World) : (Instr.index 135 (.agg sgVals) (.int .i64 ((9 : Nat) : Int))).run Tryd.prog w = .ok (.string (sgAt 9)) w := by kernel_rfl
theorem sgI10 (w : World) : (Instr.index 135 (.agg sgVals) (.int .i64 ((10 : Nat) : Int))).run Tryd.prog w = .ok (.string (sgAt 10)) w := by kernel_rfl
theorem sgI11 (w : World) : (Instr.index 135 (.agg sgVals) (.int .i64 ((11 : Nat) : Int))).run Tryd.prog w = .ok (.string (sgAt 11)) w := by kernel_rfl
theorem sgI12 (w : World) : (Instr.index 135 (.agg sgVals) (.int .i64 ((12 : Nat) : Int))).run Tryd.prog w = .ok (.string (sgAt 12)) w := by kernel_rfl
theorem sgI13 (w : World) : (Instr.index 135 (.agg sgVals) (.int .i64 ((13 : Nat) : Int))).run Tryd.prog w = .ok (.string (sgAt 13)) w := by kernel_rfl
theorem sgI14 (w : World) : (Instr.index 135 (.agg sgVals) (.int .i64 ((14 : Nat) : Int))).run Tryd.prog w = .ok (.string (sgAt 14)) w := by kernel_rfl
theorem sgI15 (w : World) : (Instr.index 135 (.agg sgVals) (.int .i64 ((15 : Nat) : Int))).run Tryd.prog w = .ok (.string (sgAt 15)) w := by kernel_rfl
theorem sgI16 (w : World) : (Instr.index 135 (.agg sgVals) (.int .i64 ((16 : Nat) : Int))).run Tryd.prog w = .ok (.string (sgAt 16)) w := by kernel_rfl
theorem sgI17 (w : World) : (Instr.index 135 (.agg sgVals) (.int .i64 ((17 : Nat) : Int))).run Tryd.prog w = .ok (.string (sgAt 17)) w := by kernel_rfl
theorem sgI18 (w : World) : (Instr.index 135 (.agg sgVals) (.int .i64 ((18 : Nat) : Int))).run Tryd.prog w = .ok (.string (sgAt 18)) w := by kernel_rfl
theorem sgI19 (w : World) : (Instr.index 135 (.agg sgVals) (.int .i64 ((19 : Nat) : Int))).run Tryd.prog w = .ok (.string (sgAt 19)) w := by kernel_rfl
theorem sgI20 (w : World) : (Instr.index 135 (.agg sgVals) (.int .i64 ((20 : Nat) : Int))).run Tryd.prog w = .ok (.string (sgAt 20)) w := by kernel_rfl
theorem sgI21 (w : World) : (Instr.index 135 (.agg sgVals) (.int .i64 ((21 : Nat) : Int))).run Tryd.prog w = .ok (.string (sgAt 21)) w := by kernel_rfl
theorem sgI22 (w : World) : (Instr.index 135 (.agg sgVals) (.int .i64 ((22 : Nat) : Int))).run Tryd.prog w = .ok (.string (sgAt 22)) w := by kernel_rfl
theorem sgIndex (i : Nat) (hi : i < 23) (w : World) : (Instr.index 135 (.agg sgVals) (.int .i64 (i : Int))).run Tryd.prog w = .ok (.string (sgAt i)) w := by
 have h : i = 0 ∨ i = 1 ∨ i = 2 ∨ i = 3 ∨ i = 4 ∨ i = 5 ∨ i = 6 ∨ i = 7 ∨ i = 8 ∨ i = 9 ∨ i = 10 ∨ i = 11 ∨ i = 12 ∨ i = 13 ∨ i = 14 ∨ i = 15 ∨ i = 16 ∨ i = 17 ∨ i = 18 ∨ i = 19 ∨ i = 20 ∨ i = 21 ∨ i = 22 := by omega
 rcases h with rfl | rfl | rfl | rfl | rfl | rfl | rfl | rfl | rfl | rfl | rfl | rfl | rfl | rfl | rfl | rfl | rfl | rfl | rfl | rfl | rfl | rfl | rfl
 · exact sgI0 w
 · exact sgI1 w
 · exact sgI2 w
 · exact sgI3 w
 · exact sgI4 w
 · exact sgI5 w
 · exact sgI6 w
 · exact sgI7 w
 · exact sgI8 w
 · exact sgI9 w
 · exact sgI10 w
 · exact sgI11 w
 · exact sgI12 w
 · exact sgI13 w
 · exact sgI14 w
 · exact sgI15 w
 · exact sgI16 w
 · exact sgI17 w
 · exact sgI18 w
 · exact sgI19 w
 · exact sgI20 w
 · exact sgI21 w
 · exact sgI22 w
theorem ret_ke {s : ByteArray} {k a b : Nat} (h : X3 s k = (a, b)) (x y : Int) (hx : x = a) (hy : y = b) : Ending.returned (.tuple #[.int .u8 x, .int .i64 y]) = .returned (.tuple #[.int .u8 ((X3 s k).1 : Int), .int .i64 ((X3 s k).2 : Int)]) := by
 rw [h, hx, hy]
theorem below2 (w : World) (x y : Obj) : Below w.heap.size w ((w.alloc x).alloc y) := ((Below.refl _ w).alloc (Nat.le_refl _) _).alloc (by simp) _
theorem cut_name_any (s : ByteArray) (k : Nat) (w : World) (hs : s.size ≤ maxLen) (hlt : k < s.size) (hb : bgn s[k] = true) :
 Calls Tryd.prog 105 #[.string s, .int .i64 (k : Int)] w fun e w' => e = .returned (.tuple #[.int .u8 ((X3 s k).1 : Int), .int .i64 ((X3 s k).2 : Int)]) ∧ Below w.heap.size w w' := by
 have hs' := Lh hs
 unfold maxLen at hs
 obtain ⟨hfw1, hfw2⟩ := far_le wth s k (by omega)
 have c1 : ((w.alloc (Obj.cells #[Value.string s] 9)).alloc (Obj.cells #[Value.int IntKind.i64 (k : Int)] 3)).cell? ⟨w.heap.size + 1, 0, none⟩ = some (.int .i64 (k : Int)) := by go_simp
 have c2 : ((w.alloc (Obj.cells #[Value.string s] 9)).alloc (Obj.cells #[Value.int IntKind.i64 (k : Int)] 3)).cell? ⟨w.heap.size, 0, none⟩ = some (.string s) := by go_simp
 have Hlong := Lh (cut_long s k hlt hb)
 have Hname := Lh (cut_name s k hlt hb)
 go_enter Tryd.func105, Tryd.ntmps105
 go_wp2_with (first
  | (go_at_call 110; refine (begins_any _ _).mono ?_; rintro e w' ⟨rfl, rfl⟩)
  | (go_at_call 109; refine (farW s k _ _ _ hs'.out (by omega) c1 c2).mono ?_; rintro e w' ⟨rfl, rfl⟩))
 · have h : 32 < (far wth s k : Int) - k := by assumption
   go_ret2
   exact ⟨ret_ke (Hlong.out h) _ _ rfl rfl, below2 _ _ _⟩
 · have h : (far wth s k : Int) - k ≤ 32 := by assumption
   go_ret2
   exact ⟨ret_ke (Hname.out h) _ _ rfl rfl, below2 _ _ _⟩
theorem cut_num_any (s : ByteArray) (k : Nat) (w : World) (hs : s.size ≤ maxLen) (hlt : k < s.size) (hb : bgn s[k] = false) (hd : dgt s[k] = true) :
 Calls Tryd.prog 105 #[.string s, .int .i64 (k : Int)] w fun e w' => e = .returned (.tuple #[.int .u8 ((X3 s k).1 : Int), .int .i64 ((X3 s k).2 : Int)]) ∧ Below w.heap.size w w' := by
 have hs' := Lh hs
 unfold maxLen at hs
 obtain ⟨hfd1, hfd2⟩ := far_le dgt s k (by omega)
 have hfd3 : k < far dgt s k := by
  have h1 := far_on dgt s k hlt hd
  have h2 := far_le dgt s (k + 1) (by omega)
  omega
 have c1 : ((w.alloc (Obj.cells #[Value.string s] 9)).alloc (Obj.cells #[Value.int IntKind.i64 (k : Int)] 3)).cell? ⟨w.heap.size + 1, 0, none⟩ = some (.int .i64 (k : Int)) := by go_simp
 have c2 : ((w.alloc (Obj.cells #[Value.string s] 9)).alloc (Obj.cells #[Value.int IntKind.i64 (k : Int)] 3)).cell? ⟨w.heap.size, 0, none⟩ = some (.string s) := by go_simp
 have Hbad := Lh (cut_num_bad s k hlt hb hd)
 have Hend := Lh (cut_num_end s k hlt hb hd)
 have Hon := Lh (cut_num_on s k hlt hb hd)
 have Hstuck := Lh (cut_num_stuck s k hlt hb hd)
 have hx : 0 < (s.extract k (far dgt s k)).size := by rw [Lib.size_eq, Lib.extract_data, List.length_take, List.length_drop, ← Lib.size_eq]; omega
 by_cases he : far dgt s k < s.size
 · go_enter Tryd.func105, Tryd.ntmps105
   go_wp2_with (first
    | (go_at_call 110; refine (begins_any _ _).mono ?_; rintro e w' ⟨rfl, rfl⟩)
    | (go_at_call 112; refine (digit_any _ _).mono ?_; rintro e w' ⟨rfl, rfl⟩)
    | (go_at_call 113; refine (number_any _ hx _).mono ?_; rintro e w' ⟨rfl, rfl⟩)
    | (go_at_call 109; refine (farD s k _ _ _ hs'.out (by omega) c1 c2).mono ?_; rintro e w' ⟨rfl, rfl⟩))
   · have hn : numB (s.extract k (far dgt s k)) = true := by assumption
     have hg : bgn s[far dgt s k] = true := by assumption
     go_ret2
     exact ⟨ret_ke (Hstuck.out hn he hg) _ _ rfl rfl, below2 _ _ _⟩
   · have hn : numB (s.extract k (far dgt s k)) = true := by assumption
     have hg : bgn s[far dgt s k] = false := by assumption
     go_ret2
     exact ⟨ret_ke (Hon.out hn he hg) _ _ rfl rfl, below2 _ _ _⟩
   · have hn : ¬ numB (s.extract k (far dgt s k)) = true := by assumption
     go_ret2
     exact ⟨ret_ke (Hbad.out (Bool.eq_false_iff.2 hn)) _ _ rfl rfl, below2 _ _ _⟩
 · go_enter Tryd.func105, Tryd.ntmps105
   go_wp2_with (first
    | (go_at_call 110; refine (begins_any _ _).mono ?_; rintro e w' ⟨rfl, rfl⟩)
    | (go_at_call 112; refine (digit_any _ _).mono ?_; rintro e w' ⟨rfl, rfl⟩)
    | (go_at_call 113; refine (number_any _ hx _).mono ?_; rintro e w' ⟨rfl, rfl⟩)
    | (go_at_call 109; refine (farD s k _ _ _ hs'.out (by omega) c1 c2).mono ?_; rintro e w' ⟨rfl, rfl⟩))
   · have hn : numB (s.extract k (far dgt s k)) = true := by assumption
     go_ret2
     exact ⟨ret_ke (Hend.out hn (by omega)) _ _ rfl rfl, below2 _ _ _⟩
   · have hn : ¬ numB (s.extract k (far dgt s k)) = true := by assumption
     go_ret2
     exact ⟨ret_ke (Hbad.out (Bool.eq_false_iff.2 hn)) _ _ rfl rfl, below2 _ _ _⟩
theorem sgAt_two (i : Nat) (hi : i < 23) : (sgAt i).size ≤ 2 := by
 have hl : i < signs.length := hi
 rw [Lib.size_eq, sgAt_data, show signs.getD i [] = signs[i] by simp [hl]]
 have : ∀ x ∈ signs, x.length ≤ 2 := by decide
 exact this _ (List.getElem_mem hl)
theorem sg_stop (l : List UInt8) (h : sgnIn (signs.drop 23) l = sgn l) : sgn l = 0 := h.symm
theorem cut_sign_any (s : ByteArray) (k : Nat) (w : World) (hs : s.size ≤ maxLen) (hlt : k < s.size) (hb : bgn s[k] = false) (hd : dgt s[k] = false) (hsg : SignsIn w) :
 Calls Tryd.prog 105 #[.string s, .int .i64 (k : Int)] w fun e w' => e = .returned (.tuple #[.int .u8 ((X3 s k).1 : Int), .int .i64 ((X3 s k).2 : Int)]) ∧ Below w.heap.size w w' := by
 unfold maxLen at hs
 obtain ⟨ty, fr, hg⟩ := hsg
 have hw0 : 1 < w.heap.size := (Array.getElem?_eq_some_iff.1 hg).1
 have hg1 : ((w.alloc (Obj.cells #[Value.string s] 9)).alloc (Obj.cells #[Value.int IntKind.i64 (k : Int)] 3)).heap[1]? = some (.cells sgVals ty fr) := by
  rw [heap_alloc_old _ _ (by simp <;> omega), heap_alloc_old _ _ hw0]; exact hg
 have hg1 := Lh hg1
 clear hg
 have hsz : (Tryd.prog.info? 135).map (·.size) = some sgVals.size := by rw [sgVals_size]; kernel_rfl
 have hsz := Lh hsz
 have Hsign := Lh (cut_sign s k hlt hb hd)
 have Hnone := Lh (cut_none s k hlt hb hd)
 go_enter Tryd.func105, Tryd.ntmps105
 go_wp2_with (first
  | (go_at_call 110; refine (begins_any _ _).mono ?_; rintro e w' ⟨rfl, rfl⟩)
  | (go_at_call 112; refine (digit_any _ _).mono ?_; rintro e w' ⟨rfl, rfl⟩)
  | (with_reducible refine wpList_load_row rfl 135 (.global 1) rfl 1 rfl ty sgVals fr _ hg1.out Tryd.underlying135 rfl hsz.out ?_))
 have c1 : ((w.alloc (Obj.cells #[Value.string s] 9)).alloc (Obj.cells #[Value.int IntKind.i64 (k : Int)] 3)).cell? ⟨w.heap.size + 1, 0, none⟩ = some (.int .i64 (k : Int)) := by go_simp
 have c2 : ((w.alloc (Obj.cells #[Value.string s] 9)).alloc (Obj.cells #[Value.int IntKind.i64 (k : Int)] 3)).cell? ⟨w.heap.size, 0, none⟩ = some (.string s) := by go_simp
 go_loop [51] (fun v => ∃ i : Nat, i ≤ 23 ∧ v = .int .i64 i ∧ sgnIn (signs.drop i) (s.data.toList.drop k) = sgn (s.data.toList.drop k)) (fun v => 23 - (intOf v).toNat)
 case atStart => exact ⟨0, by omega, rfl, rfl⟩
 case round =>
  obtain ⟨i, hi, rfl, hI⟩ := hrel
  by_cases hlt2 : i < 23
  · have hix := fun w => sgIndex i hlt2 w
    have hz := sgAt_two i hlt2
    have Hhit := Lh (sgn_hit s k i hlt2 hI)
    have Hmiss := Lh (sgn_miss s k i hlt2 hI)
    clear hI
    go_wp2_with (go_at_call 114; refine (hasPrefix_any _ _ _).mono ?_; rintro e w' ⟨rfl, rfl⟩)
    · have hp : pfxB (s.extract k s.size) (sgAt i) = true := by assumption
      obtain ⟨e1, e2, e3⟩ := Hhit.out hp
      have HF := Lh (Hsign.out _ e1 (by omega))
      clear e1
      go_quiet (fail)
      go_wp2
      go_ret2
      exact ⟨ret_ke HF.out _ _ rfl (by omega), (below2 w _ _).trans ⟨rfl, rfl, rfl, Nat.le_refl _, fun _ _ => rfl⟩⟩
    · have hp : pfxB (s.extract k s.size) (sgAt i) = false := by assumption
      go_round
      case rel => exact ⟨i + 1, by omega, by go_num, Hmiss.out hp⟩
      case measure => simp [intOf]; omega
  · obtain rfl : i = 23 := by omega
    have HI := Lh (Hnone.out (sg_stop _ hI))
    clear hI
    go_wp2
    go_ret2
    exact ⟨ret_ke HI.out _ _ rfl rfl, below2 _ _ _⟩
theorem cut_any (s : ByteArray) (a : Int) (w : World) (hs : s.size ≤ maxLen) (h0 : 0 ≤ a) (h1 : a < s.size) (hsg : SignsIn w) :
 Calls Tryd.prog 105 #[.string s, .int .i64 a] w fun e w' => e = .returned (.tuple #[.int .u8 ((X3 s a.toNat).1 : Int), .int .i64 ((X3 s a.toNat).2 : Int)]) ∧ Below w.heap.size w w' := by
 obtain ⟨k, rfl⟩ := Int.eq_ofNat_of_zero_le h0
 rw [Int.toNat_natCast]
 have hlt : k < s.size := by omega
 cases hb : bgn s[k]
 · cases hd : dgt s[k]
   · exact cut_sign_any s k w hs hlt hb hd hsg
   · exact cut_num_any s k w hs hlt hb hd
 · exact cut_name_any s k w hs hlt hb
theorem SignsIn.below {w w' : World} {B : Nat} (h : SignsIn w) (hB : 1 < B) (hb : Below B w w') : SignsIn w' := by
 obtain ⟨t, fr, hg⟩ := h
 exact ⟨t, fr, (hb.block 1 hB).trans hg⟩
theorem cut_at (s : ByteArray) (a k e : Nat) (hke : X3 s a = (k, e)) (w : World) (hs : s.size ≤ maxLen) (h1 : a < s.size) (hsg : SignsIn w) :
 Calls Tryd.prog 105 #[.string s, .int .i64 (a : Int)] w fun en w' => en = .returned (.tuple #[.int .u8 (k : Int), .int .i64 (e : Int)]) ∧ Below w.heap.size w w' := by
 have h := cut_any s (a : Int) w hs (by omega) (by omega) hsg
 rw [Int.toNat_natCast, hke] at h
 exact h
def words : List (List UInt8) := [[103, 108, 111, 98, 97, 108], [97, 114, 114, 97, 121], [108, 111, 99, 107], [102, 117, 110, 99], [116, 104, 114, 101, 97, 100], [118, 97, 114], [105, 102], [101, 108, 115, 101], [119, 104, 105, 108, 101], [119, 105, 116, 104], [112, 114, 105, 110, 116], [99, 97, 108, 108], [114, 101, 116, 117, 114, 110], [116, 114, 117, 101], [102, 97, 108, 115, 101]]
/-- is a text a reserved word? -/
def rsv (l : List UInt8) : Bool := words.contains l
/-- is a text a name? -/
def nme (l : List UInt8) : Bool := !l.isEmpty && !rsv l && ((cutL l).1 == 1) && ((cutL l).2 == l.length)
theorem of_toList {s : ByteArray} {l : List UInt8} (h : s.toList = l) : s = ⟨l.toArray⟩ := by
 rw [Lib.toList_data] at h; rw [← h, Lib.mk_data]
theorem reserved_no (s : ByteArray) (w : World) (h : rsv s.data.toList = false) :
 Calls Tryd.prog 104 #[.string s] w fun e w' => e = .returned (.bool false) ∧ w = w' := by
 rw [← Lib.toList_data] at h
 have h' : ∀ x ∈ words, (s.toList == x) = false := by
  intro x hx
  simp only [rsv, List.contains_eq_any_beq, List.any_eq_false] at h
  have := h x hx
  rw [Bool.eq_false_iff]
  intro e; apply this
  simpa using e
 have h0 : (s.toList == ([103, 108, 111, 98, 97, 108] : List UInt8)) = false := h' _ (by decide)
 have h1 : (s.toList == ([97, 114, 114, 97, 121] : List UInt8)) = false := h' _ (by decide)
 have h2 : (s.toList == ([108, 111, 99, 107] : List UInt8)) = false := h' _ (by decide)
 have h3 : (s.toList == ([102, 117, 110, 99] : List UInt8)) = false := h' _ (by decide)
 have h4 : (s.toList == ([116, 104, 114, 101, 97, 100] : List UInt8)) = false := h' _ (by decide)
 have h5 : (s.toList == ([118, 97, 114] : List UInt8)) = false := h' _ (by decide)
 have h6 : (s.toList == ([105, 102] : List UInt8)) = false := h' _ (by decide)
 have h7 : (s.toList == ([101, 108, 115, 101] : List UInt8)) = false := h' _ (by decide)
 have h8 : (s.toList == ([119, 104, 105, 108, 101] : List UInt8)) = false := h' _ (by decide)
 have h9 : (s.toList == ([119, 105, 116, 104] : List UInt8)) = false := h' _ (by decide)
 have h10 : (s.toList == ([112, 114, 105, 110, 116] : List UInt8)) = false := h' _ (by decide)
 have h11 : (s.toList == ([99, 97, 108, 108] : List UInt8)) = false := h' _ (by decide)
 have h12 : (s.toList == ([114, 101, 116, 117, 114, 110] : List UInt8)) = false := h' _ (by decide)
 have h13 : (s.toList == ([116, 114, 117, 101] : List UInt8)) = false := h' _ (by decide)
 have h14 : (s.toList == ([102, 97, 108, 115, 101] : List UInt8)) = false := h' _ (by decide)
 clear h h'
 go_enter Tryd.func104, Tryd.ntmps104
 go_wp2
 go_ret
 exact ⟨rfl, rfl⟩
theorem reserved_yes (s : ByteArray) (w : World) (h : rsv s.data.toList = true) :
 Calls Tryd.prog 104 #[.string s] w fun e w' => e = .returned (.bool true) ∧ w = w' := by
 have h' : s.toList ∈ words := by
  rw [Lib.toList_data]
  simpa [rsv] using h
 simp only [words, List.mem_cons, List.not_mem_nil, or_false] at h'
 rcases h' with h' | h' | h' | h' | h' | h' | h' | h' | h' | h' | h' | h' | h' | h' | h'
 all_goals
  have hs := of_toList h'
  subst hs
  clear h h'
  go_enter Tryd.func104, Tryd.ntmps104
  go_wp2
  go_ret
  exact ⟨rfl, rfl⟩
theorem nme_of (s : ByteArray) (hne : 0 < s.size) (hr : rsv s.data.toList = false) (k e : Nat) (hke : X3 s 0 = (k, e)) : nme s.data.toList = (((k : Int) == 1) && ((e : Int) == (s.size : Int))) := by
 have hn : s.data.toList ≠ [] := by intro h; rw [Lib.size_eq, h] at hne; simp at hne
 have hl := Lib.size_eq s
 unfold X3 at hke
 rw [List.drop_zero] at hke
 have e1 : nme s.data.toList = (((cutL s.data.toList).1 == 1) && ((cutL s.data.toList).2 == s.size)) := by
  unfold nme; rw [hr, ← hl]
  cases hx : s.data.toList with
  | nil => exact absurd hx hn
  | cons a r => simp
 rw [e1]
 by_cases hc : (cutL s.data.toList).1 = 0
 · rw [if_pos hc] at hke
   obtain ⟨h1, h2⟩ := Prod.mk.inj hke
   rw [hc, ← h1]; rfl
 · rw [if_neg hc] at hke
   obtain ⟨h1, h2⟩ := Prod.mk.inj hke
   rw [h1, ← h2, Bool.eq_iff_iff]
   simp
   omega
theorem name_any (s : ByteArray) (w : World) (hs : s.size ≤ maxLen) (hsg : SignsIn w) :
 Calls Tryd.prog 89 #[.string s] w fun e w' => e = .returned (.bool (nme s.data.toList)) ∧ Below w.heap.size w w' := by
 by_cases h0 : s.size = 0
 · have hs : s = ⟨#[]⟩ := by
    apply ByteArray.ext
    exact Array.eq_empty_of_size_eq_zero h0
   subst hs
   go_enter Tryd.func89, Tryd.ntmps89
   go_wp2
   go_ret
   exact ⟨rfl, Below.refl _ _⟩
 · have he : (s.toList == []) = false := by
    rw [Bool.eq_false_iff]; intro e; apply h0; rw [Lib.size_eq, ← Lib.toList_data]; simpa using e
   have he1 : s.toList.isEmpty = false := by
    rw [Bool.eq_false_iff]; intro e; apply h0; rw [Lib.size_eq, ← Lib.toList_data]; simpa using e
   obtain ⟨k, e, hke⟩ : ∃ k e, X3 s 0 = (k, e) := ⟨_, _, rfl⟩
   cases hr : rsv s.data.toList
   · have HN := Lh (nme_of s (by omega) hr k e hke)
     replace hr := Lh hr
     replace hke := Lh hke
     have hs' := Lh hs
     clear hs
     go_enter Tryd.func89, Tryd.ntmps89
     go_wp2_with (first
      | (go_at_call 104; refine (reserved_no _ _ hr.out).mono ?_; rintro e w' ⟨rfl, rfl⟩)
      | (go_at_call 105; refine (cut_at s 0 k e hke.out _ hs'.out (by omega) hsg).mono ?_; rintro e w' ⟨rfl, hb⟩))
     all_goals
      go_ret
      exact ⟨Qi (by rw [HN.out]; simp [*]), hb⟩
   · have HN : Hid (nme s.data.toList = false) := Lh (by unfold nme; rw [hr]; simp)
     replace hr := Lh hr
     go_enter Tryd.func89, Tryd.ntmps89
     go_wp2_with (first
      | (go_at_call 104; refine (reserved_yes _ _ hr.out).mono ?_; rintro e w' ⟨rfl, rfl⟩))
     go_ret
     exact ⟨Qi HN.out.symm, Below.refl _ _⟩
end Go.Proofs.YthiiahlgncngoaaDoorRR.Lx
