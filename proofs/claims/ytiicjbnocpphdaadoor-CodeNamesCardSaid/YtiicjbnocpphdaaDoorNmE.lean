/- The walk of lex.cut: it returns the kind and the end of the token that begins at a place, and makes new memory alone. Conditions: the place is within the text; lex.signs holds its list. -/
import Derived.Test.YtiicjbnocpphdaaDoorNmD
namespace Go.Proofs.YtiicjbnocpphdaaDoor.Lx
open Go Go.RowKit

theorem ret_ke {s : ByteArray} {k a b : Nat} (h : cutKE s k = (a, b)) (x y : Int) (hx : x = a) (hy : y = b) : Ending.returned (.tuple #[.int .u8 x, .int .i64 y]) = .returned (.tuple #[.int .u8 ((cutKE s k).1 : Int), .int .i64 ((cutKE s k).2 : Int)]) := by
  rw [h, hx, hy]
theorem below2 (w : World) (x y : Obj) : Below w.heap.size w ((w.alloc x).alloc y) := ((Below.refl _ w).alloc (Nat.le_refl _) _).alloc (by simp) _

set_option maxHeartbeats 1600000 in
set_option maxRecDepth 100000 in
theorem cut_name_any (s : ByteArray) (k : Nat) (w : World) (hs : s.size ≤ maxLen) (hlt : k < s.size) (hb : bgn s[k] = true) :
    Calls Tryd.prog 63 #[.string s, .int .i64 (k : Int)] w fun e w' => e = .returned (.tuple #[.int .u8 ((cutKE s k).1 : Int), .int .i64 ((cutKE s k).2 : Int)]) ∧ Below w.heap.size w w' := by
  have hs' := Lib.hid hs
  unfold maxLen at hs
  obtain ⟨hfw1, hfw2⟩ := far_le wth s k (by omega)
  have c1 : ((w.alloc (Obj.cells #[Value.string s] 9)).alloc (Obj.cells #[Value.int IntKind.i64 (k : Int)] 3)).cell? ⟨w.heap.size + 1, 0, none⟩ = some (.int .i64 (k : Int)) := by go_simp
  have c2 : ((w.alloc (Obj.cells #[Value.string s] 9)).alloc (Obj.cells #[Value.int IntKind.i64 (k : Int)] 3)).cell? ⟨w.heap.size, 0, none⟩ = some (.string s) := by go_simp
  have Hlong := Lib.hid (cut_long s k hlt hb)
  have Hname := Lib.hid (cut_name s k hlt hb)
  go_enter Tryd.func63, Tryd.ntmps63
  go_wp2_with (first
    | (go_at_call 65; refine (begins_any _ _).mono ?_; rintro e w' ⟨rfl, rfl⟩)
    | (go_at_call 64; refine (farW s k _ _ _ hs'.out (by omega) c1 c2).mono ?_; rintro e w' ⟨rfl, rfl⟩))
  · have h : 32 < (far wth s k : Int) - k := by assumption
    go_ret2
    exact ⟨ret_ke (Hlong.out h) _ _ rfl rfl, below2 _ _ _⟩
  · have h : (far wth s k : Int) - k ≤ 32 := by assumption
    go_ret2
    exact ⟨ret_ke (Hname.out h) _ _ rfl rfl, below2 _ _ _⟩

set_option maxHeartbeats 1600000 in
set_option maxRecDepth 100000 in
theorem cut_num_any (s : ByteArray) (k : Nat) (w : World) (hs : s.size ≤ maxLen) (hlt : k < s.size) (hb : bgn s[k] = false) (hd : dgt s[k] = true) :
    Calls Tryd.prog 63 #[.string s, .int .i64 (k : Int)] w fun e w' => e = .returned (.tuple #[.int .u8 ((cutKE s k).1 : Int), .int .i64 ((cutKE s k).2 : Int)]) ∧ Below w.heap.size w w' := by
  have hs' := Lib.hid hs
  unfold maxLen at hs
  obtain ⟨hfd1, hfd2⟩ := far_le dgt s k (by omega)
  have hfd3 : k < far dgt s k := by
    have h1 := far_on dgt s k hlt hd
    have h2 := far_le dgt s (k + 1) (by omega)
    omega
  have c1 : ((w.alloc (Obj.cells #[Value.string s] 9)).alloc (Obj.cells #[Value.int IntKind.i64 (k : Int)] 3)).cell? ⟨w.heap.size + 1, 0, none⟩ = some (.int .i64 (k : Int)) := by go_simp
  have c2 : ((w.alloc (Obj.cells #[Value.string s] 9)).alloc (Obj.cells #[Value.int IntKind.i64 (k : Int)] 3)).cell? ⟨w.heap.size, 0, none⟩ = some (.string s) := by go_simp
  have Hbad := Lib.hid (cut_num_bad s k hlt hb hd)
  have Hend := Lib.hid (cut_num_end s k hlt hb hd)
  have Hon := Lib.hid (cut_num_on s k hlt hb hd)
  have Hstuck := Lib.hid (cut_num_stuck s k hlt hb hd)
  have hx : 0 < (s.extract k (far dgt s k)).size := by rw [Lib.size_eq, Lib.extract_data, List.length_take, List.length_drop, ← Lib.size_eq]; omega
  by_cases he : far dgt s k < s.size
  · go_enter Tryd.func63, Tryd.ntmps63
    go_wp2_with (first
      | (go_at_call 65; refine (begins_any _ _).mono ?_; rintro e w' ⟨rfl, rfl⟩)
      | (go_at_call 67; refine (digit_any _ _).mono ?_; rintro e w' ⟨rfl, rfl⟩)
      | (go_at_call 68; refine (number_any _ hx _).mono ?_; rintro e w' ⟨rfl, rfl⟩)
      | (go_at_call 64; refine (farD s k _ _ _ hs'.out (by omega) c1 c2).mono ?_; rintro e w' ⟨rfl, rfl⟩))
    · have hn : numB (s.extract k (far dgt s k)) = true := by assumption
      have hg : bgn s[far dgt s k] = true := by assumption
      go_ret2
      exact ⟨ret_ke (Hstuck.out hn he hg) _ _ rfl rfl, below2 _ _ _⟩
    · have hn : numB (s.extract k (far dgt s k)) = true := by assumption
      have hg : bgn s[far dgt s k] = false := by assumption
      go_ret2
      exact ⟨ret_ke (Hon.out hn he hg) _ _ rfl rfl, below2 _ _ _⟩
    · have hn : ¬ numB (s.extract k (far dgt s k)) = true := by assumption
      go_ret2
      exact ⟨ret_ke (Hbad.out (Bool.eq_false_iff.2 hn)) _ _ rfl rfl, below2 _ _ _⟩
  · go_enter Tryd.func63, Tryd.ntmps63
    go_wp2_with (first
      | (go_at_call 65; refine (begins_any _ _).mono ?_; rintro e w' ⟨rfl, rfl⟩)
      | (go_at_call 67; refine (digit_any _ _).mono ?_; rintro e w' ⟨rfl, rfl⟩)
      | (go_at_call 68; refine (number_any _ hx _).mono ?_; rintro e w' ⟨rfl, rfl⟩)
      | (go_at_call 64; refine (farD s k _ _ _ hs'.out (by omega) c1 c2).mono ?_; rintro e w' ⟨rfl, rfl⟩))
    · have hn : numB (s.extract k (far dgt s k)) = true := by assumption
      go_ret2
      exact ⟨ret_ke (Hend.out hn (by omega)) _ _ rfl rfl, below2 _ _ _⟩
    · have hn : ¬ numB (s.extract k (far dgt s k)) = true := by assumption
      go_ret2
      exact ⟨ret_ke (Hbad.out (Bool.eq_false_iff.2 hn)) _ _ rfl rfl, below2 _ _ _⟩

theorem sgAt_two (i : Nat) (hi : i < 23) : (sgAt i).size ≤ 2 := by
  have hl : i < signs.length := hi
  rw [Lib.size_eq, sgAt_data, show signs.getD i [] = signs[i] by simp [hl]]
  have : ∀ x ∈ signs, x.length ≤ 2 := by decide
  exact this _ (List.getElem_mem hl)
theorem sg_start (l : List UInt8) : sgnIn (signs.drop 0) l = sgn l := rfl
theorem sg_stop (l : List UInt8) (h : sgnIn (signs.drop 23) l = sgn l) : sgn l = 0 := h.symm
set_option maxHeartbeats 1600000 in
set_option maxRecDepth 100000 in
theorem cut_sign_any (s : ByteArray) (k : Nat) (w : World) (hs : s.size ≤ maxLen) (hlt : k < s.size) (hb : bgn s[k] = false) (hd : dgt s[k] = false) (hsg : SignsIn w) :
    Calls Tryd.prog 63 #[.string s, .int .i64 (k : Int)] w fun e w' => e = .returned (.tuple #[.int .u8 ((cutKE s k).1 : Int), .int .i64 ((cutKE s k).2 : Int)]) ∧ Below w.heap.size w w' := by
  unfold maxLen at hs
  obtain ⟨ty, fr, hg⟩ := hsg
  have hw0 : 1 < w.heap.size := (Array.getElem?_eq_some_iff.1 hg).1
  have hg1 : ((w.alloc (Obj.cells #[Value.string s] 9)).alloc (Obj.cells #[Value.int IntKind.i64 (k : Int)] 3)).heap[1]? = some (.cells sgVals ty fr) := by
    rw [heap_alloc_old _ _ (by simp <;> omega), heap_alloc_old _ _ hw0]; exact hg
  have hg1 := Lib.hid hg1
  clear hg
  have hsz : (Tryd.prog.info? 91).map (·.size) = some sgVals.size := by rw [sgVals_size]; kernel_rfl
  have hsz := Lib.hid hsz
  have Hsign := Lib.hid (cut_sign s k hlt hb hd)
  have Hnone := Lib.hid (cut_none s k hlt hb hd)
  go_enter Tryd.func63, Tryd.ntmps63
  go_wp2_with (first
    | (go_at_call 65; refine (begins_any _ _).mono ?_; rintro e w' ⟨rfl, rfl⟩)
    | (go_at_call 67; refine (digit_any _ _).mono ?_; rintro e w' ⟨rfl, rfl⟩)
    | (with_reducible refine wpList_load_row rfl 91 (.global 1) rfl 1 rfl ty sgVals fr _ hg1.out Tryd.underlying91 rfl hsz.out ?_))
  have c1 : ((w.alloc (Obj.cells #[Value.string s] 9)).alloc (Obj.cells #[Value.int IntKind.i64 (k : Int)] 3)).cell? ⟨w.heap.size + 1, 0, none⟩ = some (.int .i64 (k : Int)) := by go_simp
  have c2 : ((w.alloc (Obj.cells #[Value.string s] 9)).alloc (Obj.cells #[Value.int IntKind.i64 (k : Int)] 3)).cell? ⟨w.heap.size, 0, none⟩ = some (.string s) := by go_simp
  go_loop [51] (fun v => ∃ i : Nat, i ≤ 23 ∧ v = .int .i64 i ∧ sgnIn (signs.drop i) (s.data.toList.drop k) = sgn (s.data.toList.drop k)) (fun v => 23 - (intOf v).toNat)
  case atStart => exact ⟨0, by omega, rfl, rfl⟩
  case round =>
    obtain ⟨i, hi, rfl, hI⟩ := hrel
    by_cases hlt2 : i < 23
    · have hix := fun w => sgIndex i hlt2 w
      have hz := sgAt_two i hlt2
      have Hhit := Lib.hid (sgn_hit s k i hlt2 hI)
      have Hmiss := Lib.hid (sgn_miss s k i hlt2 hI)
      clear hI
      go_wp2_with (go_at_call 69; refine (hasPrefix_any _ _ _).mono ?_; rintro e w' ⟨rfl, rfl⟩)
      · have hp : pfxB (s.extract k s.size) (sgAt i) = true := by assumption
        obtain ⟨e1, e2, e3⟩ := Hhit.out hp
        have HF := Lib.hid (Hsign.out _ e1 (by omega))
        clear e1
        go_quiet (fail)
        go_wp2
        go_ret2
        exact ⟨ret_ke HF.out _ _ rfl (by omega), (below2 w _ _).trans ⟨rfl, rfl, rfl, Nat.le_refl _, fun _ _ => rfl⟩⟩
      · have hp : pfxB (s.extract k s.size) (sgAt i) = false := by assumption
        go_round
        case rel => exact ⟨i + 1, by omega, by go_num, Hmiss.out hp⟩
        case measure => simp [intOf]; omega
    · obtain rfl : i = 23 := by omega
      have HI := Lib.hid (Hnone.out (sg_stop _ hI))
      clear hI
      go_wp2
      go_ret2
      exact ⟨ret_ke HI.out _ _ rfl rfl, below2 _ _ _⟩

theorem cut_any (s : ByteArray) (a : Int) (w : World) (hs : s.size ≤ maxLen) (h0 : 0 ≤ a) (h1 : a < s.size) (hsg : SignsIn w) :
    Calls Tryd.prog 63 #[.string s, .int .i64 a] w fun e w' => e = .returned (.tuple #[.int .u8 ((cutKE s a.toNat).1 : Int), .int .i64 ((cutKE s a.toNat).2 : Int)]) ∧ Below w.heap.size w w' := by
  obtain ⟨k, rfl⟩ := Int.eq_ofNat_of_zero_le h0
  rw [Int.toNat_natCast]
  have hlt : k < s.size := by omega
  cases hb : bgn s[k]
  · cases hd : dgt s[k]
    · exact cut_sign_any s k w hs hlt hb hd hsg
    · exact cut_num_any s k w hs hlt hb hd
  · exact cut_name_any s k w hs hlt hb
end Go.Proofs.YtiicjbnocpphdaaDoor.Lx
