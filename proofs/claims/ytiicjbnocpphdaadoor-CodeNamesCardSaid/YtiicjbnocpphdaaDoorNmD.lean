/- Walks of cut's closure and of lex.cut: cut returns the kind and the end of the token that begins at a place, and makes new memory alone. Conditions: the place is within the text; lex.signs holds its list. -/
import Derived.Test.YtiicjbnocpphdaaDoorNmB
import Derived.LoopTactic
import Derived.Deep.QuietTactic
import Derived.Lib.LaidTab
import Derived.Laws.Rows
namespace Go.Proofs.YtiicjbnocpphdaaDoor.Lx
open Go Go.RowKit

/-- where bytes of a kind end, from a place on -/
def far (p : UInt8 → Bool) (s : ByteArray) (k : Nat) : Nat := k + run p (s.data.toList.drop k)
theorem far_le (p : UInt8 → Bool) (s : ByteArray) (k : Nat) (h : k ≤ s.size) : k ≤ far p s k ∧ far p s k ≤ s.size := by
  have := run_le p (s.data.toList.drop k)
  rw [List.length_drop, ← Lib.size_eq] at this
  unfold far; omega
theorem far_end (p : UInt8 → Bool) (s : ByteArray) (k : Nat) (h : k = s.size) : far p s k = k := by
  subst h; unfold far
  rw [List.drop_of_length_le (by rw [← Lib.size_eq]; omega)]; simp [run]
theorem far_on (p : UInt8 → Bool) (s : ByteArray) (k : Nat) (h : k < s.size) (hb : p s[k] = true) : far p s (k + 1) = far p s k := by
  unfold far; rw [drop_cons s k h, run, if_pos hb]; omega
theorem far_off (p : UInt8 → Bool) (s : ByteArray) (k : Nat) (h : k < s.size) (hb : p s[k] = false) : far p s k = k := by
  unfold far; rw [drop_cons s k h, run, if_neg (by simp [hb])]; omega

set_option maxHeartbeats 800000 in
theorem farW (s : ByteArray) (k0 b1 b2 : Nat) (w : World) (hs : s.size ≤ maxLen) (hk0 : k0 ≤ s.size) (h1 : w.cell? ⟨b1, 0, none⟩ = some (.int .i64 k0)) (h2 : w.cell? ⟨b2, 0, none⟩ = some (.string s)) :
    Calls Tryd.prog 64 #[.func (.func 66) #[] #[], .pointer (some ⟨b1, 0, none⟩), .pointer (some ⟨b2, 0, none⟩)] w fun e w' => e = .returned (.int .i64 (far wth s k0 : Int)) ∧ w = w' := by
  unfold maxLen at hs
  go_enter Tryd.func64, Tryd.ntmps64
  go_wp2
  go_loop [5] (fun i => ∃ k : Nat, k ≤ s.size ∧ i = .int .i64 k ∧ far wth s k = far wth s k0) (fun i => s.size - (intOf i).toNat)
  case atStart => exact ⟨k0, hk0, rfl, rfl⟩
  case round =>
    obtain ⟨k, hk, rfl, hI⟩ := hrel
    have HI := Lib.hid hI
    clear hI hk0
    by_cases hlt : k < s.size
    · have Hon := Lib.hid (far_on wth s k hlt)
      have Hoff := Lib.hid (far_off wth s k hlt)
      go_wp2_with (go_at_call 66; refine (within_any _ _).mono ?_; rintro e w' ⟨rfl, rfl⟩)
      · have hb : wth s[k] = true := by assumption
        go_round
        case rel => exact ⟨k + 1, by omega, by go_num, by rw [Hon.out hb, HI.out]⟩
        case measure => simp [intOf]; omega
      · have hb : wth s[k] = false := by assumption
        go_ret
        exact ⟨ret_int (by rw [← HI.out, Hoff.out hb]), rfl⟩
    · go_wp2
      go_ret
      refine ⟨ret_int ?_, rfl⟩
      rw [← HI.out, far_end wth s k (by omega)]
set_option maxHeartbeats 800000 in
theorem farD (s : ByteArray) (k0 b1 b2 : Nat) (w : World) (hs : s.size ≤ maxLen) (hk0 : k0 ≤ s.size) (h1 : w.cell? ⟨b1, 0, none⟩ = some (.int .i64 k0)) (h2 : w.cell? ⟨b2, 0, none⟩ = some (.string s)) :
    Calls Tryd.prog 64 #[.func (.func 67) #[] #[], .pointer (some ⟨b1, 0, none⟩), .pointer (some ⟨b2, 0, none⟩)] w fun e w' => e = .returned (.int .i64 (far dgt s k0 : Int)) ∧ w = w' := by
  unfold maxLen at hs
  go_enter Tryd.func64, Tryd.ntmps64
  go_wp2
  go_loop [5] (fun i => ∃ k : Nat, k ≤ s.size ∧ i = .int .i64 k ∧ far dgt s k = far dgt s k0) (fun i => s.size - (intOf i).toNat)
  case atStart => exact ⟨k0, hk0, rfl, rfl⟩
  case round =>
    obtain ⟨k, hk, rfl, hI⟩ := hrel
    have HI := Lib.hid hI
    clear hI hk0
    by_cases hlt : k < s.size
    · have Hon := Lib.hid (far_on dgt s k hlt)
      have Hoff := Lib.hid (far_off dgt s k hlt)
      go_wp2_with (go_at_call 67; refine (digit_any _ _).mono ?_; rintro e w' ⟨rfl, rfl⟩)
      · have hb : dgt s[k] = true := by assumption
        go_round
        case rel => exact ⟨k + 1, by omega, by go_num, by rw [Hon.out hb, HI.out]⟩
        case measure => simp [intOf]; omega
      · have hb : dgt s[k] = false := by assumption
        go_ret
        exact ⟨ret_int (by rw [← HI.out, Hoff.out hb]), rfl⟩
    · go_wp2
      go_ret
      refine ⟨ret_int ?_, rfl⟩
      rw [← HI.out, far_end dgt s k (by omega)]

/-- the kind and the end of the token that begins at a place; 0 and 0: none does -/
def cutKE (s : ByteArray) (k : Nat) : Nat × Nat :=
  if (cutL (s.data.toList.drop k)).1 = 0 then (0, 0) else ((cutL (s.data.toList.drop k)).1, k + (cutL (s.data.toList.drop k)).2)
theorem far_run (p : UInt8 → Bool) (s : ByteArray) (k : Nat) : run p (s.data.toList.drop k) = far p s k - k := by unfold far; omega
theorem cut_cons (s : ByteArray) (k : Nat) (h : k < s.size) : cutL (s.data.toList.drop k) =
    if bgn s[k] then (if 32 < far wth s k - k then (0, 0) else (1, far wth s k - k))
    else if dgt s[k] then (if !numOk (s.extract k (far dgt s k)).data.toList || ((s.data.toList.drop (far dgt s k)).head?.elim false bgn) then (0, 0) else (2, far dgt s k - k))
    else if sgn (s.data.toList.drop k) = 0 then (0, 0) else (3, sgn (s.data.toList.drop k)) := by
  rw [← far_run, ← far_run]
  have e : far dgt s k = k + run dgt (s.data.toList.drop k) := rfl
  rw [e, Lib.extract_data, Nat.add_sub_cancel_left, ← List.drop_drop]
  rw [drop_cons s k h]
  rfl
theorem ke_zero (s : ByteArray) (k n : Nat) (h : cutL (s.data.toList.drop k) = (0, n)) : cutKE s k = (0, 0) := by
  unfold cutKE; rw [h]; exact if_pos rfl
theorem ke_some (s : ByteArray) (k a n e : Nat) (h : cutL (s.data.toList.drop k) = (a, n)) (ha : a ≠ 0) (he : k + n = e) : cutKE s k = (a, e) := by
  unfold cutKE; rw [h, ← he]; exact if_neg ha
theorem cut_long (s : ByteArray) (k : Nat) (h : k < s.size) (hb : bgn s[k] = true) (hl : 32 < (far wth s k : Int) - k) : cutKE s k = (0, 0) :=
  ke_zero s k 0 (by rw [cut_cons s k h, if_pos hb, if_pos (by omega)])
theorem cut_name (s : ByteArray) (k : Nat) (h : k < s.size) (hb : bgn s[k] = true) (hl : (far wth s k : Int) - k ≤ 32) : cutKE s k = (1, far wth s k) := by
  have := far_le wth s k (by omega)
  exact ke_some s k 1 (far wth s k - k) _ (by rw [cut_cons s k h, if_pos hb, if_neg (by omega)]) (by omega) (by omega)
theorem cut_num_bad (s : ByteArray) (k : Nat) (h : k < s.size) (hb : bgn s[k] = false) (hd : dgt s[k] = true) (hn : numOk (s.extract k (far dgt s k)).data.toList = false) : cutKE s k = (0, 0) :=
  ke_zero s k 0 (by rw [cut_cons s k h, if_neg (by rw [hb]; simp), if_pos hd, hn]; rfl)
theorem cut_num_end (s : ByteArray) (k : Nat) (h : k < s.size) (hb : bgn s[k] = false) (hd : dgt s[k] = true) (hn : numOk (s.extract k (far dgt s k)).data.toList = true) (he : s.size ≤ far dgt s k) : cutKE s k = (2, far dgt s k) := by
  have := far_le dgt s k (by omega)
  exact ke_some s k 2 (far dgt s k - k) _ (by rw [cut_cons s k h, if_neg (by rw [hb]; simp), if_pos hd, hn, List.drop_of_length_le (by rw [← Lib.size_eq]; omega)]; rfl) (by omega) (by omega)
theorem cut_num_on (s : ByteArray) (k : Nat) (h : k < s.size) (hb : bgn s[k] = false) (hd : dgt s[k] = true) (hn : numOk (s.extract k (far dgt s k)).data.toList = true) (he : far dgt s k < s.size) (hg : bgn s[far dgt s k] = false) :
    cutKE s k = (2, far dgt s k) := by
  have := far_le dgt s k (by omega)
  exact ke_some s k 2 (far dgt s k - k) _ (by rw [cut_cons s k h, if_neg (by rw [hb]; simp), if_pos hd, hn, drop_cons s _ he, List.head?_cons, Option.elim_some, hg]; rfl) (by omega) (by omega)
theorem cut_num_stuck (s : ByteArray) (k : Nat) (h : k < s.size) (hb : bgn s[k] = false) (hd : dgt s[k] = true) (hn : numOk (s.extract k (far dgt s k)).data.toList = true) (he : far dgt s k < s.size) (hg : bgn s[far dgt s k] = true) :
    cutKE s k = (0, 0) :=
  ke_zero s k 0 (by rw [cut_cons s k h, if_neg (by rw [hb]; simp), if_pos hd, hn, drop_cons s _ he, List.head?_cons, Option.elim_some, hg]; rfl)
theorem cut_sign (s : ByteArray) (k : Nat) (h : k < s.size) (hb : bgn s[k] = false) (hd : dgt s[k] = false) (n : Nat) (hn : sgn (s.data.toList.drop k) = n) (h0 : n ≠ 0) :
    cutKE s k = (3, k + n) :=
  ke_some s k 3 n _ (by rw [cut_cons s k h, if_neg (by rw [hb]; simp), if_neg (by rw [hd]; simp), hn, if_neg h0]) (by omega) rfl
theorem cut_none (s : ByteArray) (k : Nat) (h : k < s.size) (hb : bgn s[k] = false) (hd : dgt s[k] = false) (hn : sgn (s.data.toList.drop k) = 0) :
    cutKE s k = (0, 0) :=
  ke_zero s k 0 (by rw [cut_cons s k h, if_neg (by rw [hb]; simp), if_neg (by rw [hd]; simp), hn, if_pos rfl])

/-- the sign at a place of the list, and the list as memory holds it -/
def sgAt (i : Nat) : ByteArray := ⟨(signs.getD i []).toArray⟩
def sgVals : Array Value := (signs.map fun x => Value.string ⟨x.toArray⟩).toArray
theorem sgVals_size : sgVals.size = 23 := by decide
/-- THE CODE's LIST OF SIGNS LIES IN MEMORY. -/
def SignsIn (w : World) : Prop := ∃ t fr, w.heap[1]? = some (.cells sgVals t fr)
theorem sgAt_data (i : Nat) : (sgAt i).data.toList = signs.getD i [] := rfl
theorem sgn_from (l : List UInt8) : ∀ (L : List (List UInt8)) , (∀ x ∈ L, x.isPrefixOf l = false) → ∀ M, sgnIn (L ++ M) l = sgnIn M l
  | [], _, _ => rfl
  | x :: r, h, M => by
    have h1 := h x (by simp)
    rw [List.cons_append, sgnIn, if_neg (by rw [h1]; simp)]
    exact sgn_from l r (fun y hy => h y (by simp [hy])) M
theorem sgn_hit (s : ByteArray) (k i : Nat) (hi : i < 23) (h : sgnIn (signs.drop i) (s.data.toList.drop k) = sgn (s.data.toList.drop k)) (hp : pfxB (s.extract k s.size) (sgAt i) = true) : sgn (s.data.toList.drop k) = (sgAt i).size ∧ 0 < (sgAt i).size ∧ (sgAt i).size ≤ s.size - k := by
  unfold pfxB at hp
  rw [Lib.extract_data, List.take_of_length_le (by rw [List.length_drop, ← Lib.size_eq]; omega), sgAt_data] at hp
  have hl : i < signs.length := hi
  rw [List.drop_eq_getElem_cons hl, sgnIn] at h
  have e : signs.getD i [] = signs[i] := by simp [hl]
  rw [e] at hp
  rw [if_pos hp] at h
  have e2 : (sgAt i).size = signs[i].length := by rw [Lib.size_eq, sgAt_data, e]
  refine ⟨by rw [e2, ← h], ?_, ?_⟩
  · rw [e2]
    have : ∀ x ∈ signs, 0 < x.length := by decide
    exact this _ (List.getElem_mem hl)
  · have := (List.isPrefixOf_iff_prefix.1 hp).length_le
    rw [List.length_drop, ← Lib.size_eq] at this
    omega
theorem sgn_miss (s : ByteArray) (k i : Nat) (hi : i < 23) (h : sgnIn (signs.drop i) (s.data.toList.drop k) = sgn (s.data.toList.drop k)) (hp : pfxB (s.extract k s.size) (sgAt i) = false) : sgnIn (signs.drop (i + 1)) (s.data.toList.drop k) = sgn (s.data.toList.drop k) := by
  unfold pfxB at hp
  rw [Lib.extract_data, List.take_of_length_le (by rw [List.length_drop, ← Lib.size_eq]; omega), sgAt_data] at hp
  have hl : i < signs.length := hi
  rw [List.drop_eq_getElem_cons hl, sgnIn] at h
  have e : signs.getD i [] = signs[i] := by simp [hl]
  rw [e] at hp
  rw [if_neg (by rw [hp]; simp)] at h
  exact h

theorem sgI0 (w : World) : (Instr.index 91 (.agg sgVals) (.int .i64 ((0 : Nat) : Int))).run Tryd.prog w = .ok (.string (sgAt 0)) w := by kernel_rfl
theorem sgI1 (w : World) : (Instr.index 91 (.agg sgVals) (.int .i64 ((1 : Nat) : Int))).run Tryd.prog w = .ok (.string (sgAt 1)) w := by kernel_rfl
theorem sgI2 (w : World) : (Instr.index 91 (.agg sgVals) (.int .i64 ((2 : Nat) : Int))).run Tryd.prog w = .ok (.string (sgAt 2)) w := by kernel_rfl
theorem sgI3 (w : World) : (Instr.index 91 (.agg sgVals) (.int .i64 ((3 : Nat) : Int))).run Tryd.prog w = .ok (.string (sgAt 3)) w := by kernel_rfl
theorem sgI4 (w : World) : (Instr.index 91 (.agg sgVals) (.int .i64 ((4 : Nat) : Int))).run Tryd.prog w = .ok (.string (sgAt 4)) w := by kernel_rfl
theorem sgI5 (w : World) : (Instr.index 91 (.agg sgVals) (.int .i64 ((5 : Nat) : Int))).run Tryd.prog w = .ok (.string (sgAt 5)) w := by kernel_rfl
theorem sgI6 (w : World) : (Instr.index 91 (.agg sgVals) (.int .i64 ((6 : Nat) : Int))).run Tryd.prog w = .ok (.string (sgAt 6)) w := by kernel_rfl
theorem sgI7 (w : World) : (Instr.index 91 (.agg sgVals) (.int .i64 ((7 : Nat) : Int))).run Tryd.prog w = .ok (.string (sgAt 7)) w := by kernel_rfl
theorem sgI8 (w : World) : (Instr.index 91 (.agg sgVals) (.int .i64 ((8 : Nat) : Int))).run Tryd.prog w = .ok (.string (sgAt 8)) w := by kernel_rfl
theorem sgI9 (w : World) : (Instr.index 91 (.agg sgVals) (.int .i64 ((9 : Nat) : Int))).run Tryd.prog w = .ok (.string (sgAt 9)) w := by kernel_rfl
theorem sgI10 (w : World) : (Instr.index 91 (.agg sgVals) (.int .i64 ((10 : Nat) : Int))).run Tryd.prog w = .ok (.string (sgAt 10)) w := by kernel_rfl
theorem sgI11 (w : World) : (Instr.index 91 (.agg sgVals) (.int .i64 ((11 : Nat) : Int))).run Tryd.prog w = .ok (.string (sgAt 11)) w := by kernel_rfl
theorem sgI12 (w : World) : (Instr.index 91 (.agg sgVals) (.int .i64 ((12 : Nat) : Int))).run Tryd.prog w = .ok (.string (sgAt 12)) w := by kernel_rfl
theorem sgI13 (w : World) : (Instr.index 91 (.agg sgVals) (.int .i64 ((13 : Nat) : Int))).run Tryd.prog w = .ok (.string (sgAt 13)) w := by kernel_rfl
theorem sgI14 (w : World) : (Instr.index 91 (.agg sgVals) (.int .i64 ((14 : Nat) : Int))).run Tryd.prog w = .ok (.string (sgAt 14)) w := by kernel_rfl
theorem sgI15 (w : World) : (Instr.index 91 (.agg sgVals) (.int .i64 ((15 : Nat) : Int))).run Tryd.prog w = .ok (.string (sgAt 15)) w := by kernel_rfl
theorem sgI16 (w : World) : (Instr.index 91 (.agg sgVals) (.int .i64 ((16 : Nat) : Int))).run Tryd.prog w = .ok (.string (sgAt 16)) w := by kernel_rfl
theorem sgI17 (w : World) : (Instr.index 91 (.agg sgVals) (.int .i64 ((17 : Nat) : Int))).run Tryd.prog w = .ok (.string (sgAt 17)) w := by kernel_rfl
theorem sgI18 (w : World) : (Instr.index 91 (.agg sgVals) (.int .i64 ((18 : Nat) : Int))).run Tryd.prog w = .ok (.string (sgAt 18)) w := by kernel_rfl
theorem sgI19 (w : World) : (Instr.index 91 (.agg sgVals) (.int .i64 ((19 : Nat) : Int))).run Tryd.prog w = .ok (.string (sgAt 19)) w := by kernel_rfl
theorem sgI20 (w : World) : (Instr.index 91 (.agg sgVals) (.int .i64 ((20 : Nat) : Int))).run Tryd.prog w = .ok (.string (sgAt 20)) w := by kernel_rfl
theorem sgI21 (w : World) : (Instr.index 91 (.agg sgVals) (.int .i64 ((21 : Nat) : Int))).run Tryd.prog w = .ok (.string (sgAt 21)) w := by kernel_rfl
theorem sgI22 (w : World) : (Instr.index 91 (.agg sgVals) (.int .i64 ((22 : Nat) : Int))).run Tryd.prog w = .ok (.string (sgAt 22)) w := by kernel_rfl
theorem sgIndex (i : Nat) (hi : i < 23) (w : World) : (Instr.index 91 (.agg sgVals) (.int .i64 (i : Int))).run Tryd.prog w = .ok (.string (sgAt i)) w := by
  have h : i = 0 ∨ i = 1 ∨ i = 2 ∨ i = 3 ∨ i = 4 ∨ i = 5 ∨ i = 6 ∨ i = 7 ∨ i = 8 ∨ i = 9 ∨ i = 10 ∨ i = 11 ∨ i = 12 ∨ i = 13 ∨ i = 14 ∨ i = 15 ∨ i = 16 ∨ i = 17 ∨ i = 18 ∨ i = 19 ∨ i = 20 ∨ i = 21 ∨ i = 22 := by omega
  rcases h with rfl | rfl | rfl | rfl | rfl | rfl | rfl | rfl | rfl | rfl | rfl | rfl | rfl | rfl | rfl | rfl | rfl | rfl | rfl | rfl | rfl | rfl | rfl
  · exact sgI0 w
  · exact sgI1 w
  · exact sgI2 w
  · exact sgI3 w
  · exact sgI4 w
  · exact sgI5 w
  · exact sgI6 w
  · exact sgI7 w
  · exact sgI8 w
  · exact sgI9 w
  · exact sgI10 w
  · exact sgI11 w
  · exact sgI12 w
  · exact sgI13 w
  · exact sgI14 w
  · exact sgI15 w
  · exact sgI16 w
  · exact sgI17 w
  · exact sgI18 w
  · exact sgI19 w
  · exact sgI20 w
  · exact sgI21 w
  · exact sgI22 w

end Go.Proofs.YtiicjbnocpphdaaDoor.Lx
