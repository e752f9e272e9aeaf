/- Walks of lex.idle, of cut's closure and of lex.cut: each returns what its plain function says; cut makes new memory alone. Conditions: the place is within the text; cut: lex.signs holds its list. -/
import Derived.Test.YtpgbgjljlidifaaDoorLexB
import Derived.LoopTactic
namespace Go.Proofs.YtpgbgjljlidifaaDoor.Lx
open Go Go.RowKit

theorem drop_cons (s : ByteArray) (k : Nat) (h : k < s.size) : s.data.toList.drop k = s[k] :: s.data.toList.drop (k + 1) := by
  have h' : k < s.data.toList.length := by rw [← Lib.size_eq]; exact h
  rw [List.drop_eq_getElem_cons h']; rfl

/-- where idle ends, from a place on -/
def idl (s : ByteArray) (k : Nat) : Nat := k + skp false (s.data.toList.drop k)
theorem idl_le (s : ByteArray) (k : Nat) (h : k ≤ s.size) : idl s k ≤ s.size := by
  have := skp_le false (s.data.toList.drop k)
  rw [List.length_drop, ← Lib.size_eq] at this
  unfold idl; omega
theorem idl_end (s : ByteArray) (k : Nat) (h : k = s.size) : idl s k = k := by
  subst h; unfold idl
  rw [List.drop_of_length_le (by rw [← Lib.size_eq]; omega), skp_nil]; omega
theorem idl_blk (s : ByteArray) (k : Nat) (h : k < s.size) (hb : blk s[k] = true) : idl s (k + 1) = idl s k := by
  unfold idl; rw [drop_cons s k h, skp_false_cons, if_pos hb]; omega
theorem idl_stop (s : ByteArray) (k : Nat) (h : k < s.size) (hb : blk s[k] = false) (hh : ¬ s[k].toNat = 35) : idl s k = k := by
  unfold idl; rw [drop_cons s k h, skp_false_cons, if_neg (by simp [hb]), if_neg hh]; omega
theorem skp_35 (s : ByteArray) (k : Nat) (h : k < s.size) (hh : s[k].toNat = 35) : skp false (s.data.toList.drop k) = skp true (s.data.toList.drop k) := by
  rw [drop_cons s k h, skp_false_cons, skp_true_cons, if_neg (by simp [blk, hh]), if_pos hh, if_neg (by omega)]
/-- the place of the next line's end, from a place on; -1: there is none -/
def nl (s : ByteArray) (k : Nat) : Int := ixB (s.extract k s.size)
theorem nl_drop (s : ByteArray) (k : Nat) : nl s k = Lib.indexByte (s.data.toList.drop k) 10 := by
  unfold nl ixB; rw [Lib.extract_data, List.take_of_length_le (by rw [List.length_drop, ← Lib.size_eq]; omega)]
theorem idl_none (s : ByteArray) (k : Nat) (h : k < s.size) (hh : s[k].toNat = 35) (hn : nl s k < 0) : idl s k = s.size := by
  rw [nl_drop] at hn
  have := Lib.indexByte_ge (s.data.toList.drop k) 10
  unfold idl; rw [skp_35 s k h hh, skp_true_none _ (by omega), List.length_drop, ← Lib.size_eq]; omega
theorem idl_some (s : ByteArray) (k n : Nat) (h : k < s.size) (hh : s[k].toNat = 35) (hn : nl s k = n) : idl s (k + n) = idl s k ∧ k + n < s.size ∧ 0 < n := by
  rw [nl_drop] at hn
  have h1 := skp_true_some _ n hn
  have h2 := indexByte_lt _ n hn
  rw [List.length_drop, ← Lib.size_eq] at h2
  rw [List.drop_drop] at h1
  refine ⟨?_, by omega, ?_⟩
  · unfold idl; rw [skp_35 s k h hh, h1]; omega
  · rw [drop_cons s k h] at hn
    unfold Lib.indexByte at hn
    split at hn
    · rename_i e; have e : s[k] = 10 := by simpa using e
      rw [e] at hh; exact absurd hh (by decide)
    · split at hn
      · omega
      · rename_i e
        have := Lib.indexByte_ge (s.data.toList.drop (k + 1)) 10
        have h3 : Lib.indexByte (s.data.toList.drop (k + 1)) 10 ≠ -1 := by intro e2; apply e; simp [e2]
        omega
theorem nl_bd (s : ByteArray) (k : Nat) (h : k ≤ s.size) : -1 ≤ nl s k ∧ (k : Int) + nl s k ≤ s.size := by
  rw [nl_drop]
  have h1 := Lib.indexByte_ge (s.data.toList.drop k) 10
  refine ⟨h1, ?_⟩
  by_cases h2 : Lib.indexByte (s.data.toList.drop k) 10 < 0
  · omega
  · obtain ⟨n, hn⟩ := Int.eq_ofNat_of_zero_le (show 0 ≤ Lib.indexByte (s.data.toList.drop k) 10 by omega)
    have h3 := indexByte_lt _ n hn
    rw [List.length_drop, ← Lib.size_eq] at h3
    omega

set_option maxHeartbeats 800000 in
theorem idle_any (s : ByteArray) (a : Int) (w : World) (hs : s.size ≤ maxLen) (h0 : 0 ≤ a) (h1 : a ≤ s.size) :
    Calls Tryd.prog 21 #[.string s, .int .i64 a] w fun e w' => e = .returned (.int .i64 (idl s a.toNat : Int)) ∧ w = w' := by
  obtain ⟨k0, rfl⟩ := Int.eq_ofNat_of_zero_le h0
  rw [Int.toNat_natCast]
  unfold maxLen at hs
  have hk0 : k0 ≤ s.size := by omega
  clear h0 h1
  go_enter Tryd.func21, Tryd.ntmps21
  go_wp2
  go_loop [1] (fun i => ∃ k : Nat, k ≤ s.size ∧ i = .int .i64 k ∧ idl s k = idl s k0) (fun i => s.size - (intOf i).toNat)
  case atStart => exact ⟨k0, hk0, rfl, rfl⟩
  case round =>
    obtain ⟨k, hk, rfl, hI⟩ := hrel
    have HI := Lib.hid hI
    clear hI hk0
    by_cases hlt : k < s.size
    · have Hblk := Lib.hid (idl_blk s k hlt)
      have Hstop := Lib.hid (idl_stop s k hlt)
      have Hnone := Lib.hid (idl_none s k hlt)
      have Hsome := Lib.hid (fun n => idl_some s k n hlt)
      have hnb : -1 ≤ ixB (s.extract k s.size) ∧ (k : Int) + ixB (s.extract k s.size) ≤ s.size := nl_bd s k hk
      obtain ⟨hnb1, hnb2⟩ := hnb
      go_wp2_with (first
        | (go_at_call 34; refine (blank_any _ _).mono ?_; rintro e w' ⟨rfl, rfl⟩)
        | (go_at_call 35; refine (indexByte_any _ _).mono ?_; rintro e w' ⟨rfl, rfl⟩))
      · have hb : blk s[k] = true := by assumption
        go_round
        case rel => exact ⟨k + 1, by omega, by go_num, by rw [Hblk.out hb, HI.out]⟩
        case measure => simp [intOf]; omega
      · have hh : ((s[k].toNat : Int) == 35) = true := by assumption
        have hh : s[k].toNat = 35 := by have : (s[k].toNat : Int) = 35 := by simpa using hh
                                        omega
        have hn : ixB (s.extract k s.size) < 0 := by assumption
        go_ret
        exact ⟨ret_int (by rw [← HI.out, Hnone.out hh hn]), rfl⟩
      · have hh : ((s[k].toNat : Int) == 35) = true := by assumption
        have hh : s[k].toNat = 35 := by have : (s[k].toNat : Int) = 35 := by simpa using hh
                                        omega
        have hn : 0 ≤ ixB (s.extract k s.size) := by assumption
        obtain ⟨n, hn⟩ := Int.eq_ofNat_of_zero_le hn
        obtain ⟨q1, q2, q3⟩ := Hsome.out n hh hn
        go_round
        case rel => exact ⟨k + n, by omega, by rw [hn]; go_num, by rw [q1, HI.out]⟩
        case measure => rw [hn]; simp [intOf]; omega
      · have hb : blk s[k] = false := by assumption
        have hh : ((s[k].toNat : Int) == 35) = false := by assumption
        have hh : ¬ s[k].toNat = 35 := by intro e; rw [e] at hh; simp at hh
        go_ret
        exact ⟨ret_int (by rw [← HI.out, Hstop.out hb hh]), rfl⟩
    · go_wp2
      go_ret
      refine ⟨ret_int ?_, rfl⟩
      rw [← HI.out, idl_end s k (by omega)]
end Go.Proofs.YtpgbgjljlidifaaDoor.Lx
