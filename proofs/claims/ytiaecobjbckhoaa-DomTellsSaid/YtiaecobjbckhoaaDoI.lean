/- Nobody's tree; same. Conditions: what is handed in lies in memory. -/
import Derived.Test.YtiaecobjbckhoaaDoF
set_option linter.unusedVariables false
set_option linter.unusedSimpArgs false
namespace Go.Proofs.Ytiaecobjbckhoaa.Db
open Go Go.RowKit
open Go.WideShapes Go.MapKept

set_option maxRecDepth 100000 in
theorem nil_re (b : Int) (w : World) : Calls Try.prog 16 #[.pointer none, .int .i64 b] w fun e w' => e = .returned (.bool false) ∧ w' = w := by
  go_enter Try.func16, Try.ntmps16
  go_wp2_with fail
  go_ret
  exact ⟨rfl, rfl⟩
set_option maxRecDepth 100000 in
theorem nil_nx (b : Int) (w : World) : Calls Try.prog 17 #[.pointer none, .int .i64 b] w fun e w' => e = .returned (.int .i64 (-1)) ∧ w' = w := by
  have hre := Lib.hid (nil_re b w)
  go_enter Try.func17, Try.ntmps17
  go_wp2_with fail
  refine hre.out.mono ?_
  rintro _ w1 ⟨rfl, hw⟩
  subst hw
  clear hre
  go_wp2_with fail
  go_ret
  exact ⟨rfl, rfl⟩
set_option maxRecDepth 100000 in
theorem nil_ab (a b : Int) (w : World) : Calls Try.prog 21 #[.pointer none, .int .i64 a, .int .i64 b] w fun e w' => e = .returned (.bool false) ∧ ∃ k, w' = w.drewN k := by
  have hre := Lib.hid (fun k => nil_re a (w.drewN k))
  go_enter Try.func21, Try.ntmps21
  go_wp2_with fail
  go_quiet (first | with_reducible exact Calls.quiet_of_same (hre.out _))
  go_wp2_with fail
  go_ret
  exact ⟨rfl, _, rfl⟩
set_option maxRecDepth 100000 in
theorem nil_ki (b : Int) (w : World) : Calls Try.prog 19 #[.pointer none, .int .i64 b] w fun e w' => e = .returned (.slice none 0 0) ∧ w' = w := by
  have hre := Lib.hid (nil_re b w)
  go_enter Try.func19, Try.ntmps19
  go_wp2_with fail
  refine hre.out.mono ?_
  rintro _ w1 ⟨rfl, hw⟩
  subst hw
  clear hre
  go_wp2_with fail
  go_ret
  exact ⟨rfl, rfl⟩
set_option maxRecDepth 100000 in
theorem nil_od (w : World) : Calls Try.prog 14 #[.pointer none] w fun e w' => e = .returned (.slice none 0 0) ∧ w' = w := by
  go_enter Try.func14, Try.ntmps14
  go_wp2_with fail
  go_ret
  exact ⟨rfl, rfl⟩
set_option maxHeartbeats 1600000 in
set_option maxRecDepth 100000 in
theorem same_c (l l' : List Int) (v : Value) (a' : Option Addr) (cap' B : Nat) (w : World) (ho : w.ownsRow B 3 1 v l.length (numCells l)) (hB : B ≤ w.heap.size) (hrow' : RowAt w (fun _ => True) a' cap' l'.length (numCells l')) :
    Calls Try.prog 13 #[v, .slice a' l'.length cap'] w fun x w' => x = .returned (.bool (decide (l = l'))) ∧ Below B w w' := by
  obtain ⟨a, cap, rfl, hr⟩ := row_own1 ho
  obtain ⟨hc11, hc12⟩ := len_i hr
  have hints := Lib.hid (ints_any l l' a a' cap cap' w (hr.mono fun _ _ => trivial) hrow')
  generalize decide (l = l') = d at *
  rcases Nat.eq_zero_or_pos l.length with hz | hpos
  · have hl1 : ¬ ((0 : Int) < (l.length : Int)) := by omega
    have hl2 : l.length = 0 := hz
    clear ho hr hz
    rw [hl2] at hints ⊢
    clear hl1
    go_enter Try.func13, Try.ntmps13
    go_wp2_with fail
    refine hints.out.mono ?_
    rintro _ w1 ⟨rfl, hb⟩
    replace hb := Lib.hid hb
    clear hints hl2
    go_wp2_with fail
    go_loopw [6] (fun i wr => i = .int .i64 0 ∧ wr = w1) (fun _ _ => 0)
    case atStart => exact ⟨rfl, rfl⟩
    case round =>
      obtain ⟨rfl, rfl⟩ := hrel
      go_wp2_with fail
      go_ret
      exact ⟨rfl, hb.out.mono hB⟩
  · obtain ⟨g, c, hv, hR, hcl, hcm, hgB, hgs⟩ := own_some ho hpos
    cases hv
    have hgH := Lib.hid (⟨hR, hgB, hgs⟩ : InR g l.length (fn l) w ∧ B ≤ g ∧ g < w.heap.size)
    clear ho hr hR hgB hgs
    generalize hn : l.length = n at *
    go_enter Try.func13, Try.ntmps13
    go_wp2_with fail
    refine hints.out.mono ?_
    rintro _ w1 ⟨rfl, hb⟩
    have hR1 := hgH.out.1.at_ (hb.block g hgH.out.2.2)
    have hst : Hid (InR g n (fn l) w1 ∧ Below B w w1) := Lib.hid ⟨hR1, hb.mono hB⟩
    clear hints hb hR1
    replace hn := Lib.hid hn
    go_wp2_with fail
    go_loopw [6] (fun i wr => ∃ (k : Nat) (f : Nat → Int), k ≤ n ∧ i = .int .i64 k ∧ Hid (InR g n f wr ∧ Below B w wr)) (fun i _ => n - (intOf i).toNat)
    case atStart => exact ⟨0, _, Nat.zero_le _, rfl, hst⟩
    case round =>
      clear hst
      obtain ⟨k, f, hk, rfl, hX⟩ := hrel
      by_cases hkn : k < n
      · obtain ⟨c1, c2⟩ := hX.out.1.get hkn
        have hk1 : (k : Int) < (n : Int) := by omega
        have hk0 : (0 : Int) ≤ (k : Int) := by omega
        have hst2 : Hid (InR g n (fun i => if i = k then -7 else f i) (wr.setCell ⟨g, k, none⟩ (.int .i64 (-7))) ∧ Below B w (wr.setCell ⟨g, k, none⟩ (.int .i64 (-7)))) := Lib.hid ⟨hX.out.1.set hkn _ _ (fun _ _ => rfl), hX.out.2.setCell hgH.out.2.1 _⟩
        clear hX
        go_wp2_with fail
        go_roundw
        case rel => exact ⟨k + 1, _, by omega, by go_num, hst2⟩
        case measure => simp [intOf]; omega
      · have hkn2 : ¬ ((k : Int) < (n : Int)) := by omega
        have hb2 := Lib.hid hX.out.2
        clear hX
        go_wp2_with fail
        go_ret
        exact ⟨rfl, hb2.out⟩
end Go.Proofs.Ytiaecobjbckhoaa.Db
