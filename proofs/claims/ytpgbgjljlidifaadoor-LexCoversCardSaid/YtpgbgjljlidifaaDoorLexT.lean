/- The walk of the statement LexAhead's function. Conditions: lex.signs holds its list. -/
import Derived.Test.YtpgbgjljlidifaaDoorLexR
import Derived.Test.YtpgbgjljlidifaaDoorLexS
import Derived.Test.YtpgbgjljlidifaaDoorLexJ
import Derived.Deep.DeepCutAuto
namespace Go.Proofs.YtpgbgjljlidifaaDoor.Lx
open Go Go.RowKit

theorem u64_bd (n : Int) : 0 ≤ IntKind.u64.wrap n ∧ IntKind.u64.wrap n < 18446744073709551616 := by
  unfold IntKind.wrap
  simp [IntKind.bits, IntKind.signed]
  omega
theorem rem_of (n : Int) : ∃ m : Nat, (IntKind.u64.wrap n).tmod 50 = (m : Int) ∧ m < 50 := by
  obtain ⟨h1, h2⟩ := u64_bd n
  refine ⟨((IntKind.u64.wrap n).tmod 50).toNat, ?_, ?_⟩
  · rw [Int.tmod_eq_emod_of_nonneg h1]; omega
  · rw [Int.tmod_eq_emod_of_nonneg h1]; omega

/-- a remark's bytes but for line's ends -/
def flt (l : List UInt8) : List UInt8 := l.filter fun c => decide (c.toNat ≠ 10)
theorem flt_len (l : List UInt8) : (flt l).length ≤ l.length := List.length_filter_le _ _
theorem take_one (s : ByteArray) (k : Nat) (h : k < s.size) : s.data.toList.take (k + 1) = s.data.toList.take k ++ [s[k]] := by
  have h' : k < s.data.toList.length := by rw [← Lib.size_eq]; exact h
  rw [List.take_succ_eq_append_getElem h']; rfl
theorem flt_on (s : ByteArray) (k : Nat) (h : k < s.size) (hc : ¬ s[k].toNat = 10) : flt (s.data.toList.take (k + 1)) = flt (s.data.toList.take k) ++ [s[k]] := by
  rw [take_one s k h]; unfold flt; rw [List.filter_append]; simp [hc]
theorem flt_off (s : ByteArray) (k : Nat) (h : k < s.size) (hc : s[k].toNat = 10) : flt (s.data.toList.take (k + 1)) = flt (s.data.toList.take k) := by
  rw [take_one s k h]; unfold flt; rw [List.filter_append]; simp [hc]
theorem ext_one (s : ByteArray) (k : Nat) (h : k < s.size) : (s.extract k (k + 1)).data.toList = [s[k]] := by
  rw [Lib.extract_data, drop_cons s k h]; simp
theorem app_any (a b : ByteArray) : (a ++ b).data.toList = a.data.toList ++ b.data.toList := by simp
theorem app_sz (a b : ByteArray) : (a ++ b).size = a.size + b.size := by rw [Lib.size_eq, app_any, List.length_append, Lib.size_eq, Lib.size_eq]
/-- what is put ahead, but for the remark's sign and end -/
def Pm (m : Nat) (l : List UInt8) : List UInt8 := List.replicate m 32 ++ [9, 10] ++ flt l
theorem Pm_start (m : Nat) : (rep m 32 ++ (⟨#[9, 10]⟩ : ByteArray)).data.toList = Pm m [] := by rw [app_any, rep_data]; simp [Pm, flt]
theorem Pm_on (X s : ByteArray) (m k : Nat) (h : k < s.size) (hX : X.data.toList = Pm m (s.data.toList.take k)) (hc : ¬ s[k].toNat = 10) : (X ++ s.extract k (k + 1)).data.toList = Pm m (s.data.toList.take (k + 1)) := by
  rw [app_any, hX, ext_one s k h]; unfold Pm; rw [flt_on s k h hc, List.append_assoc]
theorem Pm_off (X s : ByteArray) (m k : Nat) (h : k < s.size) (hX : X.data.toList = Pm m (s.data.toList.take k)) (hc : s[k].toNat = 10) : X.data.toList = Pm m (s.data.toList.take (k + 1)) := by
  rw [hX]; unfold Pm; rw [flt_off s k h hc]
theorem Pm_size (X s : ByteArray) (m k : Nat) (hX : X.data.toList = Pm m (s.data.toList.take k)) : X.size ≤ m + 2 + k := by
  rw [Lib.size_eq, hX]; unfold Pm
  have := flt_len (s.data.toList.take k)
  have := List.length_take_le k s.data.toList
  simp; omega
theorem cells_set : ∀ (us : List Tok) (k : Nat) (t : Tok) (p : Nat), us[k]? = some t → (cellsOf us).set (k * 3 + 2) (.int .i64 (p : Int)) = cellsOf (us.set k ⟨t.kind, t.txt, p⟩)
  | [], k, t, p, h => by simp at h
  | x :: r, 0, t, p, h => by
    simp at h; subst h
    rfl
  | x :: r, k + 1, t, p, h => by
    have ih := cells_set r k t p (by simpa using h)
    have e : (k + 1) * 3 + 2 = (k * 3 + 2) + 3 := by omega
    rw [List.set_cons_succ, e]
    show (tokCells x ++ cellsOf r).set (k * 3 + 2 + 3) _ = tokCells x ++ cellsOf (r.set k _)
    rw [List.set_append_right _ _ (by simp [tokCells]), ← ih]
    rfl
theorem Pm_base (m : Nat) : Passed (List.replicate m 32 ++ [9, 10]) :=
  (Passed.many (by decide) m).app ((Passed.one (c := 9) (by decide)).app (Passed.one (c := 10) (by decide)))
theorem Pm_short (X r : ByteArray) (m : Nat) (hX : X.data.toList = Pm m (r.data.toList.take r.size)) (h : X.size ≤ m + 2) : Passed X.data.toList := by
  have e : X.size = m + 2 + (flt (r.data.toList.take r.size)).length := by rw [Lib.size_eq, hX]; unfold Pm; simp; omega
  have e2 : flt (r.data.toList.take r.size) = [] := List.eq_nil_of_length_eq_zero (by omega)
  rw [hX]; unfold Pm; rw [e2, List.append_nil]; exact Pm_base m
theorem Pm_long (X r : ByteArray) (m : Nat) (hX : X.data.toList = Pm m (r.data.toList.take r.size)) : Passed (((X.extract 0 (m + 2) ++ (⟨#[35]⟩ : ByteArray)) ++ X.extract (m + 2) X.size) ++ (⟨#[10]⟩ : ByteArray)).data.toList := by
  have hb : (List.replicate m (32 : UInt8) ++ [9, 10]).length = m + 2 := by simp
  have e1 : (X.extract 0 (m + 2)).data.toList = List.replicate m 32 ++ [9, 10] := by
    rw [Lib.extract_data, hX, List.drop_zero]; unfold Pm; rw [Nat.sub_zero, List.take_left' hb]
  have e2 : (X.extract (m + 2) X.size).data.toList = flt (r.data.toList.take r.size) := by
    rw [Lib.extract_data, List.take_of_length_le (by rw [List.length_drop, ← Lib.size_eq]; omega), hX]; unfold Pm; rw [List.drop_left' hb]
  rw [app_any, app_any, app_any, e1, e2]
  have e3 : (List.replicate m 32 ++ [9, 10] ++ (⟨#[35]⟩ : ByteArray).data.toList ++ flt (r.data.toList.take r.size) ++ (⟨#[10]⟩ : ByteArray).data.toList) = (List.replicate m 32 ++ [9, 10]) ++ (35 :: (flt (r.data.toList.take r.size) ++ [10])) := by simp
  rw [e3]
  refine (Pm_base m).app (Passed.remark fun c hc => ?_)
  unfold flt at hc
  simpa using (List.mem_filter.1 hc).2
theorem Pm_long_size (X : ByteArray) (m : Nat) (h : m + 2 ≤ X.size) : (((X.extract 0 (m + 2) ++ (⟨#[35]⟩ : ByteArray)) ++ X.extract (m + 2) X.size) ++ (⟨#[10]⟩ : ByteArray)).size = X.size + 2 := by
  rw [app_sz, app_sz, app_sz]
  have e1 : (X.extract 0 (m + 2)).size = m + 2 := by rw [Lib.size_eq, Lib.extract_data, List.length_take, List.length_drop, ← Lib.size_eq]; omega
  have e2 : (X.extract (m + 2) X.size).size = X.size - (m + 2) := by rw [Lib.size_eq, Lib.extract_data, List.length_take, List.length_drop, ← Lib.size_eq]; omega
  rw [e1, e2]
  show m + 2 + 1 + (X.size - (m + 2)) + 1 = _
  omega

set_option maxHeartbeats 800000 in
set_option maxRecDepth 100000 in
theorem ahead_small (s r : ByteArray) (n : Int) (w : World) (hsg : SignsIn w) (hs : s.size ≤ 20000) (hr : r.size ≤ 1000) :
    Calls Tryd.prog 6 #[.string s, .int .i64 n, .string r] w fun e w' => e = .returned (.bool true) ∧ Below w.heap.size w w' := by
  have h0 := Since.start hsg
  obtain ⟨m, hm, hm50⟩ := rem_of n
  go_enter Tryd.func6, Tryd.ntmps6
  go_wp2_with fail
  refine (works_any w _ h0).mono ?_
  rintro e w1 ⟨rfl, h1⟩
  go_wp2_with fail
  refine (many_any m 32 _ _ rfl rfl _ (by omega)).mono ?_
  rintro e w2 ⟨rfl, hb2⟩
  have h2 := h1.next hb2
  have hrs := rep_size m 32
  go_wp2_with fail
  have HP := Lib.hid (Pm_start m)
  go_loop [7, 8] (fun x i => ∃ (k : Nat) (X : ByteArray), k ≤ r.size ∧ x = .string X ∧ i = .int .i64 k ∧ X.data.toList = Pm m (r.data.toList.take k)) (fun _ i => r.size - (intOf i).toNat)
  case atStart => exact ⟨0, _, by omega, rfl, rfl, by rw [HP.out]; simp⟩
  case round =>
    obtain ⟨k, X, hk, rfl, rfl, hX⟩ := hrel
    have hXs := Pm_size X r m k hX
    by_cases hlt : k < r.size
    · by_cases hc : r[k].toNat = 10
      · have HX := Lib.hid (Pm_off X r m k hlt hX hc)
        have hc1 : (r[k].toNat : Int) = 10 := by omega
        clear hX hc
        go_wp2
        go_round
        case rel => exact ⟨k + 1, X, by omega, rfl, by go_num, HX.out⟩
        case measure => simp [intOf]; omega
      · have HX := Lib.hid (Pm_on X r m k hlt hX hc)
        have hc1 : ((r[k].toNat : Int) != 10) = true := by simp; omega
        have hc2 : ((r[k].toNat : Int) == 10) = false := by simp; omega
        have hes : (r.extract k (k + 1)).size = 1 := by rw [Lib.size_eq, ext_one r k hlt]; rfl
        clear hX hc
        go_wp2
        go_round
        case rel => exact ⟨k + 1, _, by omega, rfl, by go_num, HX.out⟩
        case measure => simp [intOf]; omega
    · obtain rfl : k = r.size := by omega
      have HX := Lib.hid hX
      have hXs2 := Lib.hid (Lib.size_eq X)
      clear hX
      go_upto_if 59 with (fail)
      go_cut [7] (fun x wx => ∃ I : ByteArray, x = .string I ∧ Passed I.data.toList ∧ I.size ≤ 1100 ∧ Below w2.heap.size w2 wx)
      case first =>
        have HS := Lib.hid (Pm_short X r m HX.out)
        have HL := Lib.hid (Pm_long X r m HX.out)
        have HZ := Lib.hid (Pm_long_size X m)
        go_wp2_with fail
        · have hgt : (m : Int) + 2 < X.size := by assumption
          have u1 : IntKind.i64.wrap (m : Int) = m := IntWalk.i64_in _ (by omega)
          have u2 : IntKind.i64.wrap ((m : Int) + 2) = (m : Int) + 2 := IntWalk.i64_in _ (by omega)
          have u3 : ((m : Int) + 2).toNat = m + 2 := by omega
          have z1 : (X.extract 0 (m + 2)).size ≤ 1100 := by rw [Lib.size_eq, Lib.extract_data, List.length_take, List.length_drop, ← Lib.size_eq]; omega
          have z2 : (X.extract (m + 2) X.size).size ≤ 1100 := by rw [Lib.size_eq, Lib.extract_data, List.length_take, List.length_drop, ← Lib.size_eq]; omega
          go_quiet (fail)
          go_wp2_with fail
          go_meet
          exact ⟨_, rfl, HL.out, by rw [HZ.out (by omega)]; omega, ⟨rfl, rfl, rfl, Nat.le_refl _, fun _ _ => rfl⟩⟩
        · have hle : (X.size : Int) ≤ (m : Int) + 2 := by assumption
          go_meet
          exact ⟨X, rfl, HS.out (by omega), by omega, Below.refl _ _⟩
      case rest =>
        obtain ⟨I, rfl, hI, hIs, hbI⟩ := hcut
        replace hI := Lib.hid hI
        have h3 := h2.next hbI
        have hsm : Hid (s.size ≤ maxLen) := Lib.hid (by unfold maxLen; omega)
        have hIm : Hid ((I ++ s).size ≤ maxLen) := Lib.hid (by rw [app_sz]; unfold maxLen; omega)
        have hls := Lib.size_eq s
        have hlI := Lib.size_eq I
        replace hls := Lib.hid hls
        replace hlI := Lib.hid hlI
        have hsum : Hid (I.data.toList.length + s.data.toList.length ≤ 65536) := Lib.hid (by rw [← hls.out, ← hlI.out]; omega)
        have hsum1 : Hid (s.data.toList.length ≤ 65536) := Lib.hid (by rw [← hls.out]; omega)
        clear HX hXs2 hXs
        cases hlx : lexs s.data.toList 0 with
        | error q =>
          have hq := lx_err _ _ _ _ hlx
          rw [Nat.zero_add, ← Lib.size_eq] at hq
          have hr1 : Hid (res s.data.toList = ([], q, 63)) := Lib.hid (res_err _ q hsum1.out hlx)
          have hr2 : Hid (res (I ++ s).data.toList = ([], q + I.size, 63)) := Lib.hid (by rw [app_any, hlI.out]; exact ahead_err _ _ q hI.out hsum.out hlx)
          clear hlx
          go_wp2_with fail
          refine (tokens_none s q 63 _ hsm.out h3.1 hr1.out).mono ?_
          rintro e w4 ⟨rfl, hb4⟩
          have h4 := h3.next hb4
          go_wp2_with fail
          have hc := tokens_none (I ++ s) (q + I.size) 63 w4 hIm.out h4.1 hr2.out
          refine hc.mono ?_
          clear hc
          rintro e w5 ⟨rfl, hb5⟩
          have h5 := h4.next hb5
          go_wp2_with fail
          go_ret
          exact ⟨rfl, h5.2.2⟩
        | ok ts =>
          have hin := lexs_in _ _ hlx
          have hr1 : Hid (res s.data.toList = (ts, 0, 0)) := Lib.hid (res_ok _ ts hsum1.out hlx)
          have hr2 : Hid (res (I ++ s).data.toList = (ts.map (movT I.size), 0, 0)) := Lib.hid (by rw [app_any, hlI.out]; exact ahead_ok _ _ ts hI.out hsum.out hlx)
          clear hlx
          replace hin := Lib.hid hin
          cases ts with
          | nil =>
            go_wp2_with fail
            refine (tokens_none s 0 0 _ hsm.out h3.1 hr1.out).mono ?_
            rintro e w4 ⟨rfl, hb4⟩
            have h4 := h3.next hb4
            go_wp2_with fail
            have hc := tokens_none (I ++ s) 0 0 w4 hIm.out h4.1 hr2.out
            refine hc.mono ?_
            clear hc
            rintro e w5 ⟨rfl, hb5⟩
            have h5 := h4.next hb5
            go_wp2_with fail
            go_loop [15] (fun i => i = .int .i64 0) (fun _ => 0)
            case atStart => rfl
            case round =>
              obtain rfl := hrel
              go_wp2_with fail
              refine (same_zero _).mono ?_
              rintro e w6 ⟨rfl, rfl⟩
              go_wp2_with fail
              go_ret
              exact ⟨rfl, h5.2.2⟩
          | cons t0 tr =>
            obtain ⟨ts, hts⟩ : ∃ ts, ts = t0 :: tr := ⟨_, rfl⟩
            rw [← hts] at hr1 hr2 hin
            have hne : Hid (ts ≠ []) := Lib.hid (by rw [hts]; simp)
            have hne2 : Hid (ts.map (movT I.size) ≠ []) := Lib.hid (by rw [hts]; simp)
            clear hts
            go_wp2_with fail
            refine (tokens_some s ts _ hsm.out h3.1 hr1.out hne.out).mono ?_
            rintro e w4 ⟨g1, c1, rfl, ga1, gb1, gc1, gd1, ho1, hb4⟩
            have h4 := h3.next hb4
            go_wp2_with fail
            have hc := tokens_some (I ++ s) (ts.map (movT I.size)) w4 hIm.out h4.1 hr2.out hne2.out
            refine hc.mono ?_
            clear hc
            rintro e w5 ⟨g2, c2, rfl, ga2, gb2, gc2, gd2, ho2, hb5⟩
            have h5 := h4.next hb5
            have ho1' := own_below ho1 hb5
            rw [List.length_map] at ho2 gc2
            have hlc : (cellsOf (ts.map (movT I.size))).length = ts.length * 3 := ho2.1
            have hgg : g1 ≠ g2 := by omega
            have hwg : w.heap.size ≤ g1 := by have := h3.2.2.size; omega
            replace ho2 := Lib.hid ho2
            replace ho1' := Lib.hid ho1'
            replace hlc := Lib.hid hlc
            unfold maxLen at gd1 gd2
            clear ho1
            go_wp2_with fail
            go_loopw [15] (fun i wr => ∃ k : Nat, k ≤ ts.length ∧ i = .int .i64 k ∧ wr.ownsRow wc.heap.size 36 3 (.slice (some ⟨g1, 0, none⟩) ts.length c1) ts.length (cellsOf (movK I.size k ts)) ∧
                wr.ownsRow w4.heap.size 36 3 (.slice (some ⟨g2, 0, none⟩) ts.length c2) ts.length (cellsOf (ts.map (movT I.size))) ∧ Below w.heap.size w wr) (fun i _ => ts.length - (intOf i).toNat)
            case atStart => exact ⟨0, Nat.zero_le _, rfl, by rw [movK_zero]; exact ho1'.out, ho2.out, h5.2.2⟩
            case round =>
              obtain ⟨k, hk, rfl, hoA, hoB, hbl⟩ := hrel
              by_cases hlt : k < ts.length
              · obtain ⟨t, ht⟩ : ∃ t, ts[k]? = some t := ⟨ts[k], by simp [hlt]⟩
                have htm := movK_at I.size k ts t ht
                obtain ⟨a0, a1, a2⟩ := own_tok hoA k t htm
                have hfr := hoA.frozenAt (k * 3 + 2)
                have hpos := (hin.out t (List.mem_of_getElem? ht)).1
                rw [← hls.out] at hpos
                have hst := hoA.stored (k * 3 + 2) (.int .i64 ((t.pos : Int) + (I.size : Int)))
                have hB' := hoB.kept hst.2 (.inr (by unfold Value.ownBlock; simp; omega))
                have hA' := hst.1
                have hce := cells_set _ k t (t.pos + I.size) htm
                rw [Int.natCast_add] at hce
                rw [hce] at hA'
                have hnx : movK I.size (k + 1) ts = (movK I.size k ts).set k ⟨t.kind, t.txt, t.pos + I.size⟩ := movK_next I.size k ts t ht
                rw [← hnx] at hA'
                have hbl' : Below w.heap.size w _ := hbl.setCell (p := ⟨g1, k * 3 + 2, none⟩) hwg (.int .i64 ((t.pos : Int) + (I.size : Int)))
                replace hA' := Lib.hid hA'
                replace hB' := Lib.hid hB'
                replace hbl' := Lib.hid hbl'
                clear hst hnx hce htm ht hoA hoB hbl
                go_wp2_with fail
                go_roundw
                case rel => exact ⟨k + 1, by omega, by go_num, hA'.out, hB'.out, hbl'.out⟩
                case measure => simp [intOf]; omega
              · have hkn : ts.length ≤ k := by omega
                rw [movK_all _ _ _ hkn] at hoA
                have hlm : (ts.map (movT I.size)).length = ts.length := List.length_map _
                have hc := same_some g1 c1 g2 c2 wc.heap.size w4.heap.size (ts.map (movT I.size)) (ts.map (movT I.size)) wr rfl (by rw [hlm]; exact ⟨gc1, by unfold maxLen; exact gd1⟩) (by rw [hlm]; exact ⟨gc2, by unfold maxLen; exact gd2⟩) (by rw [hlm]; exact hoA) (by rw [hlm]; exact hoB)
                rw [hlm, decide_eq_true rfl] at hc
                replace hc := Lib.hid hc
                clear hlm hoA hoB
                go_wp2_with fail
                refine hc.out.mono ?_
                rintro e w6 ⟨rfl, q, rfl⟩
                go_wp2_with fail
                go_ret
                exact ⟨rfl, hbl.trans ⟨rfl, rfl, rfl, Nat.le_refl _, fun _ _ => rfl⟩⟩
set_option maxHeartbeats 800000 in
set_option maxRecDepth 100000 in
theorem ahead_long1 (s r : ByteArray) (n : Int) (w : World) (hsg : SignsIn w) (hs : 20000 < s.size) :
    Calls Tryd.prog 6 #[.string s, .int .i64 n, .string r] w fun e w' => e = .returned (.bool true) ∧ Below w.heap.size w w' := by
  have h0 := Since.start hsg
  go_enter Tryd.func6, Tryd.ntmps6
  go_wp2_with fail
  refine (works_any w _ h0).mono ?_
  rintro e w1 ⟨rfl, h1⟩
  go_wp2_with fail
  refine (works_any w _ h1).mono ?_
  rintro e w2 ⟨rfl, h2⟩
  go_wp2_with fail
  go_ret
  exact ⟨rfl, h2.2.2⟩
set_option maxHeartbeats 800000 in
set_option maxRecDepth 100000 in
theorem ahead_long2 (s r : ByteArray) (n : Int) (w : World) (hsg : SignsIn w) (hs : s.size ≤ 20000) (hr : 1000 < r.size) :
    Calls Tryd.prog 6 #[.string s, .int .i64 n, .string r] w fun e w' => e = .returned (.bool true) ∧ Below w.heap.size w w' := by
  have h0 := Since.start hsg
  go_enter Tryd.func6, Tryd.ntmps6
  go_wp2_with fail
  refine (works_any w _ h0).mono ?_
  rintro e w1 ⟨rfl, h1⟩
  go_wp2_with fail
  refine (works_any w _ h1).mono ?_
  rintro e w2 ⟨rfl, h2⟩
  go_wp2_with fail
  go_ret
  exact ⟨rfl, h2.2.2⟩
theorem ahead_any (s r : ByteArray) (n : Int) (w : World) (hsg : SignsIn w) :
    Calls Tryd.prog 6 #[.string s, .int .i64 n, .string r] w fun e w' => e = .returned (.bool true) ∧ Below w.heap.size w w' := by
  by_cases hs : 20000 < s.size
  · exact ahead_long1 s r n w hsg hs
  · by_cases hr : 1000 < r.size
    · exact ahead_long2 s r n w hsg (by omega) hr
    · exact ahead_small s r n w hsg (by omega) (by omega)
end Go.Proofs.YtpgbgjljlidifaaDoor.Lx
