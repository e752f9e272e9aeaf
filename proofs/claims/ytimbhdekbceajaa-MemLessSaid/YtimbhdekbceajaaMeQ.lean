/- MemLess answers true. Conditions: the numbers fit their kinds. -/
import Derived.Test.YtimbhdekbceajaaMeO
namespace Go.Proofs.Ytimbhdekbceajaa.Me
open Go Go.RowKit

set_option maxHeartbeats 4000000 in
set_option maxRecDepth 100000 in
theorem memLess_law (a b c : Int) (w : World) (_ha : I64 a) (_hb : I64 b) (_hc : I64 c) : Calls Try.prog 10 #[.int .i64 a, .int .i64 b, .int .i64 c] w fun e w' => e = .returned (.bool true) ∧ Below w.heap.size w w' := by
  have hT := Lib.hid (fun k x y (hk : U8 k) (V : World) (hV : Hid (Below w.heap.size w V)) => two_c k x y hk hV.out)
  have hU := Lib.hid (fun x (V : World) (hV : Hid (Below w.heap.size w V)) => not_c x hV.out)
  have hA := Lib.hid (fun (V : World) (hV : Hid (Below w.heap.size w V)) => aw_c hV.out)
  have hb0 : Hid (Below w.heap.size w w) := Lib.hid (Below.refl _ _)
  have f1 := less_one a b
  have e1 := Lib.hid (less_or a b)
  have e2 := Lib.hid (not_and a b)
  have e3 := Lib.hid (not_or a b)
  have e4 := Lib.hid (not_not' a)
  have hon := Lib.hid (fun h1 h2 => less_on (a := a) (b := b) (c := c) h1 h2)
  go_enter Try.func10, Try.ntmps10
  go_upto_region 4 with (first
    | (go_at_call 32; refine (hT.out _ _ _ (by unfold U8; omega) _ (by assumption)).mono ?_; rintro e w1 ⟨rfl, hbx⟩; replace hbx := Lib.hid hbx)
    | (go_at_call 11; refine (hA.out _ (by assumption)).mono ?_; rintro e w1 ⟨rfl, hbx⟩; replace hbx := Lib.hid hbx))
  clear f1
  by_cases h1 : tw 12 a b = 1
  · by_cases h2 : tw 12 b c = 1
    · have h3 := hon.out h1 h2
      go_upto_region 6 with (go_at_call 32; refine (hT.out _ _ _ (by unfold U8; omega) _ (by assumption)).mono ?_; rintro e w1 ⟨rfl, hbx⟩; replace hbx := Lib.hid hbx)
      clear h1 h2 h3 hon
      replace e1 := e1.out
      replace e2 := e2.out
      replace e3 := e3.out
      replace e4 := e4.out
      go_wp2_with (first
        | (go_at_call 32; refine (hT.out _ _ _ (by unfold U8; omega) _ (by assumption)).mono ?_; rintro e w1 ⟨rfl, hbx⟩; replace hbx := Lib.hid hbx)
        | (go_at_call 33; refine (hU.out _ _ (by assumption)).mono ?_; rintro e w1 ⟨rfl, hbx⟩; replace hbx := Lib.hid hbx))
      go_ret
      exact ⟨rfl, Hid.out (by assumption)⟩
    · have h2' : (tw 12 b c == 1) = false := by simpa using h2
      clear h2
      go_upto_region 6 with (go_at_call 32; refine (hT.out _ _ _ (by unfold U8; omega) _ (by assumption)).mono ?_; rintro e w1 ⟨rfl, hbx⟩; replace hbx := Lib.hid hbx)
      clear h1 h2' hon
      replace e1 := e1.out
      replace e2 := e2.out
      replace e3 := e3.out
      replace e4 := e4.out
      go_wp2_with (first
        | (go_at_call 32; refine (hT.out _ _ _ (by unfold U8; omega) _ (by assumption)).mono ?_; rintro e w1 ⟨rfl, hbx⟩; replace hbx := Lib.hid hbx)
        | (go_at_call 33; refine (hU.out _ _ (by assumption)).mono ?_; rintro e w1 ⟨rfl, hbx⟩; replace hbx := Lib.hid hbx))
      go_ret
      exact ⟨rfl, Hid.out (by assumption)⟩
  · have h1' : (tw 12 a b == 1) = false := by simpa using h1
    clear h1
    go_upto_region 6 with (go_at_call 32; refine (hT.out _ _ _ (by unfold U8; omega) _ (by assumption)).mono ?_; rintro e w1 ⟨rfl, hbx⟩; replace hbx := Lib.hid hbx)
    clear h1' hon
    replace e1 := e1.out
    replace e2 := e2.out
    replace e3 := e3.out
    replace e4 := e4.out
    go_wp2_with (first
      | (go_at_call 32; refine (hT.out _ _ _ (by unfold U8; omega) _ (by assumption)).mono ?_; rintro e w1 ⟨rfl, hbx⟩; replace hbx := Lib.hid hbx)
      | (go_at_call 33; refine (hU.out _ _ (by assumption)).mono ?_; rintro e w1 ⟨rfl, hbx⟩; replace hbx := Lib.hid hbx))
    go_ret
    exact ⟨rfl, Hid.out (by assumption)⟩
end Go.Proofs.Ytimbhdekbceajaa.Me
