/- MemNumbers answers true. Conditions: the numbers fit their kinds. -/
import Derived.Test.YtimbhdekbceajaaMeO
namespace Go.Proofs.Ytimbhdekbceajaa.Me
open Go Go.RowKit

theorem truth_of {k a b : Int} (h1 : 12 ≤ k) (h2 : k ≤ 17) : ∃ v, (v = 0 ∨ v = 1) ∧ binP k a b = some v := by
  have key : ∃ x, cmpP k a b = some x := by
    unfold cmpP
    repeat' split
    all_goals first | exact ⟨_, rfl⟩ | omega
  obtain ⟨x, hx⟩ := key
  refine ⟨tr x, by cases x <;> simp [tr], ?_⟩
  rw [binP_cmp (by omega) (by unfold numP; rw [if_neg (by omega), if_neg (by omega), if_neg (by omega), if_neg (by omega), if_neg (by omega)]), hx]
  rfl
theorem binP10 {a b : Int} (h : b ≠ 0) : binP 10 a b = some (wrap64 (a.tdiv b)) := by unfold binP; rw [if_neg (fun x => h x.2)]; rfl
theorem binP11 {a b : Int} (h : b ≠ 0) : binP 11 a b = some (a.tmod b) := by unfold binP; rw [if_neg (fun x => h x.2)]; rfl
theorem bin_c {w V : World} (hV : Below w.heap.size w V) {k a b : Int} (hk : U8 k) {o : Option Int} (ho : binP k a b = o) : Calls Try.prog 22 #[.int .u8 k, .int .i64 a, .int .i64 b] V fun e w' => e = ret o ∧ Below w.heap.size w w' := by
  subst ho
  exact (binary_c k a b hk V).mono fun _ _ ⟨h1, h2⟩ => ⟨h1, hV.trans (h2.mono hV.size)⟩
set_option maxHeartbeats 4000000 in
set_option maxRecDepth 100000 in
theorem memNumbers_law (a b : Int) (w : World) (ha : I64 a) (_hb : I64 b) : Calls Try.prog 7 #[.int .i64 a, .int .i64 b] w fun e w' => e = .returned (.bool true) ∧ Below w.heap.size w w' := by
  have hT := Lib.hid (fun k x y (hk : U8 k) (V : World) (hV : Hid (Below w.heap.size w V)) => nTwo_c k x y hk hV.out)
  have hU := Lib.hid (fun k x (hk : U8 k) (V : World) (hV : Hid (Below w.heap.size w V)) => nOne_c k x hk hV.out)
  have hA := Lib.hid (fun (V : World) (hV : Hid (Below w.heap.size w V)) => aw_c hV.out)
  have hb0 : Hid (Below w.heap.size w w) := Lib.hid (Below.refl _ _)
  have e1 := Lib.hid (num_sub a b)
  have e2 := Lib.hid (num_less a b)
  have e3 := Lib.hid (num_unlike a b)
  have e4 := Lib.hid (div_mod (b := b) ha)
  clear ha
  go_enter Try.func7, Try.ntmps7
  go_wp2_with (go_at_call 11; refine (hA.out _ (by assumption)).mono ?_; rintro e w1 ⟨rfl, hb1⟩; replace hb1 := Lib.hid hb1)
  clear hb0 hA
  go_loopw [7] (fun i wr => ∃ k : Nat, 12 ≤ k ∧ k ≤ 18 ∧ i = .int .u8 k ∧ Hid (Below w.heap.size w wr)) (fun i _ => 18 - (intOf i).toNat)
  case atStart => exact ⟨12, by omega, by omega, rfl, hb1⟩
  case round =>
    clear hb1
    obtain ⟨k, hk1, hk2, rfl, hbr⟩ := hrel
    by_cases hlt : k ≤ 17
    · obtain ⟨v, hv, hbin⟩ := truth_of (k := (k : Int)) (a := a) (b := b) (by omega) (by omega)
      have hB := Lib.hid (bin_c hbr.out (k := (k : Int)) (by unfold U8; omega) hbin)
      have hk17 : (k : Int) ≤ 17 := by omega
      clear hbin hT hU e1 e2 e3 e4
      rcases hv with rfl | rfl
      · go_wp2_with (go_at_call 22; refine hB.out.mono ?_; rintro e w2 ⟨rfl, hb2⟩; unfold ret; simp only [Option.getD_some, Option.isSome_some]; replace hb2 := Lib.hid hb2)
        go_roundw
        case rel => exact ⟨k + 1, by omega, by omega, by go_num, hb2⟩
        case measure => simp [intOf]; omega
      · go_wp2_with (go_at_call 22; refine hB.out.mono ?_; rintro e w2 ⟨rfl, hb2⟩; unfold ret; simp only [Option.getD_some, Option.isSome_some]; replace hb2 := Lib.hid hb2)
        go_roundw
        case rel => exact ⟨k + 1, by omega, by omega, by go_num, hb2⟩
        case measure => simp [intOf]; omega
    · have hk18 : k = 18 := by omega
      subst hk18
      replace e1 := e1.out
      replace e2 := e2.out
      replace e3 := e3.out
      go_upto_region 13 with (first
        | (go_at_call 30; refine (hT.out _ _ _ (by unfold U8; omega) _ (by assumption)).mono ?_; rintro e w1 ⟨rfl, hbx⟩; replace hbx := Lib.hid hbx)
        | (go_at_call 31; refine (hU.out _ _ (by unfold U8; omega) _ (by assumption)).mono ?_; rintro e w1 ⟨rfl, hbx⟩; replace hbx := Lib.hid hbx))
      clear e1 e2 e3 hU
      obtain ⟨V, hV⟩ : ∃ V : World, V = V := ⟨w, rfl⟩
      clear hV V
      have hB := Lib.hid (fun (k : Int) (o : Option Int) (hk : U8 k) (ho : binP k a b = o) (V : World) (hV : Hid (Below w.heap.size w V)) => bin_c hV.out hk ho)
      by_cases hb : b = 0
      · subst hb
        have hD := Lib.hid (fun (V : World) (hV : Hid (Below w.heap.size w V)) => hB.out 10 none (by unfold U8; omega) (binP_zero (.inl rfl)) V hV)
        have hM := Lib.hid (fun (V : World) (hV : Hid (Below w.heap.size w V)) => hB.out 11 none (by unfold U8; omega) (binP_zero (.inr rfl)) V hV)
        unfold ret at hD hM
        simp only [Option.getD_none, Option.isSome_none] at hD hM
        clear hB e4 hT
        go_upto_region 14 with (go_at_call 22; refine (hD.out _ (by assumption)).mono ?_; rintro e w2 ⟨rfl, hb2⟩; replace hb2 := Lib.hid hb2)
        go_wp2_with (go_at_call 22; refine (hM.out _ (by assumption)).mono ?_; rintro e w3 ⟨rfl, hb3⟩; replace hb3 := Lib.hid hb3)
        go_ret
        exact ⟨rfl, hb3.out⟩
      · have hD := Lib.hid (fun (V : World) (hV : Hid (Below w.heap.size w V)) => hB.out 10 _ (by unfold U8; omega) (binP10 hb) V hV)
        have hM := Lib.hid (fun (V : World) (hV : Hid (Below w.heap.size w V)) => hB.out 11 _ (by unfold U8; omega) (binP11 hb) V hV)
        unfold ret at hD hM
        simp only [Option.getD_some, Option.isSome_some] at hD hM
        have hb' : (b != 0) = true := by simpa using hb
        generalize wrap64 (a.tdiv b) = q at hD e4
        generalize a.tmod b = r at hM e4
        clear hB hb
        go_upto_region 14 with (go_at_call 22; refine (hD.out _ (by assumption)).mono ?_; rintro e w2 ⟨rfl, hb2⟩; replace hb2 := Lib.hid hb2)
        go_upto_region 15 with (go_at_call 22; refine (hM.out _ (by assumption)).mono ?_; rintro e w3 ⟨rfl, hb3⟩; replace hb3 := Lib.hid hb3)
        replace e4 := e4.out
        go_wp2_with (go_at_call 30; refine (hT.out _ _ _ (by unfold U8; omega) _ (by assumption)).mono ?_; rintro e w1 ⟨rfl, hbx⟩; replace hbx := Lib.hid hbx)
        go_ret
        exact ⟨rfl, Hid.out (by assumption)⟩
end Go.Proofs.Ytimbhdekbceajaa.Me
