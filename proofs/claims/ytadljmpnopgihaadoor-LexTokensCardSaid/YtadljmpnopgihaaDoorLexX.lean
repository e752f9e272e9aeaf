/- Walks of the reference's number and Name. Conditions: number: digits alone, a byte at least. -/
import Derived.Test.YtadljmpnopgihaaDoorLexV
import Derived.Test.YtadljmpnopgihaaDoorLexT
namespace Go.Proofs.YtadljmpnopgihaaDoor.Lx
open Go Go.RowKit

theorem u64_eq {a b : Int} (h : a = b) : Value.int .u64 a = Value.int .u64 b := by rw [h]
theorem small_eq (n : Nat) : decide ((n : Int) ≤ 9223372036854775808) = small n := by unfold small; exact decide_eq_decide.2 (by omega)
set_option maxHeartbeats 800000 in
set_option maxRecDepth 100000 in
theorem rnumber_walk (s : ByteArray) (w : World) (h0 : 0 < s.size) (h19 : s.size ≤ 19) (hd : ∀ (i : Nat) (h : i < s.size), dgt s[i] = true) (hz : 1 < s.size → ((s[0].toNat : Int) == 48) = false) :
    Calls Tryd.prog 25 #[.string s] w fun e w' => e = .returned (.bool (small (vl 0 s.data.toList))) ∧ w = w' := by
  have hall : ∀ c ∈ s.data.toList, dgt c = true := by
    intro c hc
    obtain ⟨i, hi, rfl⟩ := List.mem_iff_getElem.1 hc
    exact hd i (by rw [Lib.size_eq]; exact hi)
  have hbd : ∀ k, k < s.size → vl 0 (s.data.toList.take k) < 1000000000000000000 := by
    intro k hk
    have h1 := vl_bd (s.data.toList.take k) 0 (fun c hc => hall c (List.mem_of_mem_take hc))
    have hl : (s.data.toList.take k).length ≤ 18 := by rw [List.length_take, ← Lib.size_eq]; omega
    have hp : 10 ^ (s.data.toList.take k).length ≤ 10 ^ 18 := Nat.pow_le_pow_right (by omega) hl
    omega
  have hst : ∀ k (h : k < s.size), vl 0 (s.data.toList.take (k + 1)) = vl 0 (s.data.toList.take k) * 10 + (s[k].toNat - 48) := by
    intro k hk
    rw [take_one s k hk, vl_snoc]
  replace hbd := Lib.hid hbd
  replace hst := Lib.hid hst
  replace hall := Lib.hid hall
  replace hd := Lib.hid hd
  by_cases h1 : 1 < s.size
  all_goals
    have hz1 := hz
    clear hz
    first
      | (replace hz1 := hz1 h1)
      | (clear hz1)
    go_enter Tryd.func25, Tryd.ntmps25
    go_wp2
    go_loop [3, 4] (fun n i => ∃ k N : Nat, k ≤ s.size ∧ i = .int .i64 k ∧ n = .int .u64 N ∧ N = vl 0 (s.data.toList.take k)) (fun _ i => s.size - (intOf i).toNat)
    case atStart => exact ⟨0, 0, by omega, rfl, rfl, rfl⟩
    case round =>
      obtain ⟨k, N, hk, rfl, rfl, hN⟩ := hrel
      replace hN := Lib.hid hN
      by_cases hlt : k < s.size
      · have b1 : N < 1000000000000000000 := by rw [hN.out]; exact hbd.out k hlt
        obtain ⟨b2, b3⟩ := dgt_bd _ (hd.out k hlt)
        have b4 : (48 : Int) ≤ (s[k].toNat : Int) := by omega
        have b5 : (s[k].toNat : Int) ≤ 57 := by omega
        have HS := Lib.hid (hst.out k hlt)
        go_wp2
        go_round
        case rel => exact ⟨k + 1, N * 10 + (s[k].toNat - 48), by omega, by go_num, u64_eq (by omega), by rw [HS.out, ← hN.out]⟩
        case measure => simp [intOf]; omega
      · have HN : Hid (small (vl 0 s.data.toList) = decide ((N : Int) ≤ 9223372036854775808)) := Lib.hid (by
          rw [small_eq, hN.out, List.take_of_length_le (by rw [← Lib.size_eq]; omega)])
        go_wp2
        go_ret
        exact ⟨ret_bool (by rw [HN.out]), rfl⟩
set_option maxHeartbeats 800000 in
set_option maxRecDepth 100000 in
theorem rnumber_long (s : ByteArray) (w : World) (h : 19 < s.size) :
    Calls Tryd.prog 25 #[.string s] w fun e w' => e = .returned (.bool false) ∧ w = w' := by
  go_enter Tryd.func25, Tryd.ntmps25
  go_wp2
  go_ret
  exact ⟨rfl, rfl⟩
set_option maxHeartbeats 800000 in
set_option maxRecDepth 100000 in
theorem rnumber_zero (s : ByteArray) (w : World) (h : s.size ≤ 19) (h1 : 1 < s.size) (hz : (s[0].toNat : Int) = 48) :
    Calls Tryd.prog 25 #[.string s] w fun e w' => e = .returned (.bool false) ∧ w = w' := by
  go_enter Tryd.func25, Tryd.ntmps25
  go_wp2
  go_ret
  exact ⟨rfl, rfl⟩
theorem rnumber_any (s : ByteArray) (w : World) (h0 : 0 < s.size) (hd : ∀ (i : Nat) (h : i < s.size), dgt s[i] = true) :
    Calls Tryd.prog 25 #[.string s] w fun e w' => e = .returned (.bool (numB s)) ∧ w = w' := by
  have hall : ∀ c ∈ s.data.toList, dgt c = true := by
    intro c hc
    obtain ⟨i, hi, rfl⟩ := List.mem_iff_getElem.1 hc
    exact hd i (by rw [Lib.size_eq]; exact hi)
  unfold numB
  by_cases h : 19 < s.size
  · rw [numOk_long _ (by rw [← Lib.size_eq]; exact h)]
    exact rnumber_long s w h
  · by_cases hz : 1 < s.size ∧ (s[0].toNat : Int) = 48
    · have e : s[0] = 48 := is48 _ (by rw [hz.2]; rfl)
      rw [numOk_zero _ (by rw [← Lib.size_eq]; exact hz.1) (by rw [head_of s h0, e])]
      exact rnumber_zero s w (by omega) hz.1 hz.2
    · rw [numOk_val _ hall (by rw [← Lib.size_eq]; exact h0) (by rw [← Lib.size_eq]; omega) (fun h1 e => by
        rw [← Lib.size_eq] at h1
        rw [head_of s h0] at e
        apply hz
        refine ⟨h1, ?_⟩
        rw [Option.some.inj e]; rfl)]
      exact rnumber_walk s w h0 (by omega) hd (fun h1 => by
        rw [beq_eq_false_iff_ne]
        intro e; exact hz ⟨h1, e⟩)

theorem nme_by (s : ByteArray) (h0 : 0 < s.size) (h32 : s.size ≤ 32) (hd : dgt s[0] = false) (hw : ∀ (i : Nat) (h : i < s.size), wth s[i] = true) : nme s.data.toList = !rsv s.data.toList := by
  have hwy : wordy s.data.toList = true := by
    unfold wordy
    rw [head_of s h0, Option.elim_some]
    have h1 := hw 0 h0
    unfold wth at h1
    rw [hd, Bool.or_false] at h1
    rw [h1, Bool.true_and, Bool.and_eq_true]
    refine ⟨?_, by rw [← Lib.size_eq]; simpa using h32⟩
    rw [List.all_eq_true]
    intro c hc
    obtain ⟨i, hi, rfl⟩ := List.mem_iff_getElem.1 hc
    exact hw i (by rw [Lib.size_eq]; exact hi)
  cases hr : rsv s.data.toList
  · exact (nme_iff _).2 ⟨hwy, hr⟩
  · rw [Bool.not_true, Bool.eq_false_iff]
    intro e
    have := ((nme_iff _).1 e).2
    rw [hr] at this; cases this
theorem nme_not (s : ByteArray) (h : ¬ wordy s.data.toList = true) : nme s.data.toList = false := by
  rw [Bool.eq_false_iff]; intro e; exact h ((nme_iff _).1 e).1
theorem wordy_parts (s : ByteArray) (h : wordy s.data.toList = true) : ∃ h0 : 0 < s.size, s.size ≤ 32 ∧ dgt s[0] = false ∧ ∀ (i : Nat) (h : i < s.size), wth s[i] = true := by
  have h0 : 0 < s.size := by
    rw [Lib.size_eq]
    cases hl : s.data.toList with
    | nil => rw [hl] at h; simp [wordy] at h
    | cons a r => simp
  unfold wordy at h
  rw [head_of s h0, Option.elim_some] at h
  simp only [Bool.and_eq_true, decide_eq_true_eq, List.all_eq_true] at h
  refine ⟨h0, by rw [Lib.size_eq]; exact h.2, ?_, fun i hi => ?_⟩
  · have := h.1.1
    rw [Bool.eq_false_iff]; intro e
    have e := dgt_bd _ e
    unfold bgn at this
    simp at this
    omega
  · have hi' : i < s.data.toList.length := by rw [← Lib.size_eq]; exact hi
    exact h.1.2 _ (List.getElem_mem hi')
set_option maxHeartbeats 800000 in
set_option maxRecDepth 100000 in
theorem rname_any (s : ByteArray) (w : World) (hs : s.size ≤ 100000) :
    Calls Tryd.prog 17 #[.string s] w fun e w' => e = .returned (.bool (nme s.data.toList)) ∧ Below w.heap.size w w' := by
  have HB : Hid (∀ (i : Nat) (h : i < s.size), wth s[i] = false → nme s.data.toList = false) := Lib.hid fun i h e => nme_not s fun hw => by
    obtain ⟨_, _, _, h4⟩ := wordy_parts s hw
    have := h4 i h
    rw [e] at this; cases this
  by_cases h0 : s.size = 0
  · have HN : Hid (nme s.data.toList = false) := Lib.hid (nme_not s fun hw => by obtain ⟨h, _⟩ := wordy_parts s hw; omega)
    go_enter Tryd.func17, Tryd.ntmps17
    go_wp2
    go_ret
    exact ⟨ret_bool HN.out.symm, Below.refl _ _⟩
  · by_cases h32 : 32 < s.size
    · have HN : Hid (nme s.data.toList = false) := Lib.hid (nme_not s fun hw => by obtain ⟨_, h, _⟩ := wordy_parts s hw; omega)
      go_enter Tryd.func17, Tryd.ntmps17
      go_wp2
      go_ret
      exact ⟨ret_bool HN.out.symm, Below.refl _ _⟩
    · have hpos : 0 < s.size := by omega
      cases hd : dgt s[0]
      · have HY : Hid ((∀ (i : Nat) (h : i < s.size), wth s[i] = true) → nme s.data.toList = !rsv s.data.toList) := Lib.hid fun hw => nme_by s hpos (by omega) hd hw
        go_enter Tryd.func17, Tryd.ntmps17
        go_wp2_with (go_at_call 24; refine (rdigit_any _ _).mono ?_; rintro e w' ⟨rfl, rfl⟩)
        go_loop [3] (fun i => ∃ k : Nat, k ≤ s.size ∧ i = .int .i64 k ∧ ∀ (i : Nat) (h : i < s.size), i < k → wth s[i] = true) (fun i => s.size - (intOf i).toNat)
        case atStart => exact ⟨0, by omega, rfl, fun i h hk => absurd hk (by omega)⟩
        case round =>
          obtain ⟨k, hk, rfl, hw⟩ := hrel
          replace hw := Lib.hid hw
          by_cases hlt : k < s.size
          · cases hwk : wth s[k]
            · have HN := Lib.hid (HB.out k hlt hwk)
              have e1 : bgn s[k] = false := by unfold wth at hwk; simp only [Bool.or_eq_false_iff] at hwk; exact hwk.1
              have e2 : dgt s[k] = false := by unfold wth at hwk; simp only [Bool.or_eq_false_iff] at hwk; exact hwk.2
              clear hwk
              go_wp2_with (first | (go_at_call 24; refine (rdigit_any _ _).mono ?_; rintro e w' ⟨rfl, rfl⟩) | (go_at_call 23; refine (rletter_any _ _).mono ?_; rintro e w' ⟨rfl, rfl⟩))
              go_ret
              exact ⟨ret_bool HN.out.symm, Below.refl _ _⟩
            · have HW : Hid (∀ (i : Nat) (h : i < s.size), i < k + 1 → wth s[i] = true) := Lib.hid fun i h hi => by
                by_cases e : i = k
                · subst e; exact hwk
                · exact hw.out i h (by omega)
              cases e1 : bgn s[k]
              · have e2 : dgt s[k] = true := by unfold wth at hwk; rw [e1, Bool.false_or] at hwk; exact hwk
                clear hwk
                go_wp2_with (first | (go_at_call 24; refine (rdigit_any _ _).mono ?_; rintro e w' ⟨rfl, rfl⟩) | (go_at_call 23; refine (rletter_any _ _).mono ?_; rintro e w' ⟨rfl, rfl⟩))
                go_round
                case rel => exact ⟨k + 1, by omega, by go_num, HW.out⟩
                case measure => simp [intOf]; omega
              · clear hwk
                go_wp2_with (first | (go_at_call 24; refine (rdigit_any _ _).mono ?_; rintro e w' ⟨rfl, rfl⟩) | (go_at_call 23; refine (rletter_any _ _).mono ?_; rintro e w' ⟨rfl, rfl⟩))
                go_round
                case rel => exact ⟨k + 1, by omega, by go_num, HW.out⟩
                case measure => simp [intOf]; omega
          · have HE := Lib.hid (HY.out fun i h => hw.out i h (by omega))
            go_wp2_with (go_at_call 18; refine (rreserved_any _ _).mono ?_; rintro e w' ⟨rfl, hb⟩)
            go_ret
            exact ⟨ret_bool HE.out.symm, hb⟩
      · have HN : Hid (nme s.data.toList = false) := Lib.hid (nme_not s fun hw => by obtain ⟨_, _, h, _⟩ := wordy_parts s hw; rw [hd] at h; cases h)
        go_enter Tryd.func17, Tryd.ntmps17
        go_wp2_with (go_at_call 24; refine (rdigit_any _ _).mono ?_; rintro e w' ⟨rfl, rfl⟩)
        go_ret
        exact ⟨ret_bool HN.out.symm, Below.refl _ _⟩
end Go.Proofs.YtadljmpnopgihaaDoor.Lx
