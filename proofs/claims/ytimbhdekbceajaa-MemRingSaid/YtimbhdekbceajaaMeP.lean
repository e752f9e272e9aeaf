/- MemRing, MemLess answer true. Conditions: the numbers fit their kinds. -/
import Derived.Test.YtimbhdekbceajaaMeO
namespace Go.Proofs.Ytimbhdekbceajaa.Me
open Go Go.RowKit

set_option maxHeartbeats 4000000 in
set_option maxRecDepth 100000 in
theorem memRing_law (a b c : Int) (w : World) (ha : I64 a) (_hb : I64 b) (_hc : I64 c) : Calls Try.prog 9 #[.int .i64 a, .int .i64 b, .int .i64 c] w fun e w' => e = .returned (.bool true) ∧ Below w.heap.size w w' := by
  have hT := Lib.hid (fun k x y (hk : U8 k) (V : World) (hV : Hid (Below w.heap.size w V)) => two_c k x y hk hV.out)
  have hU := Lib.hid (fun x (V : World) (hV : Hid (Below w.heap.size w V)) => neg_c x hV.out)
  have hA := Lib.hid (fun (V : World) (hV : Hid (Below w.heap.size w V)) => aw_c hV.out)
  have hb0 : Hid (Below w.heap.size w w) := Lib.hid (Below.refl _ _)
  have f1 := ring_neg_neg ha
  have f2 := ring_neg a
  have e1 := Lib.hid (ring_add_comm a b)
  have e2 := Lib.hid (ring_mul_comm a b)
  have e3 := Lib.hid (ring_add_assoc a b c)
  have e4 := Lib.hid (ring_mul_assoc a b c)
  have e5 := Lib.hid (ring_dist a b c)
  have e6 := Lib.hid (ring_add_zero ha)
  have e7 := Lib.hid (ring_mul_one ha)
  have e8 := Lib.hid (ring_mul_zero a)
  clear ha
  go_enter Try.func9, Try.ntmps9
  go_upto_region 5 with (first
    | (go_at_call 32; refine (hT.out _ _ _ (by unfold U8; omega) _ (by assumption)).mono ?_; rintro e w1 ⟨rfl, hbx⟩; replace hbx := Lib.hid hbx)
    | (go_at_call 20; refine (hU.out _ _ (by assumption)).mono ?_; rintro e w1 ⟨rfl, hbx⟩; replace hbx := Lib.hid hbx)
    | (go_at_call 11; refine (hA.out _ (by assumption)).mono ?_; rintro e w1 ⟨rfl, hbx⟩; replace hbx := Lib.hid hbx))
  clear f1 f2
  replace e1 := e1.out
  replace e2 := e2.out
  replace e3 := e3.out
  replace e4 := e4.out
  replace e5 := e5.out
  replace e6 := e6.out
  replace e7 := e7.out
  replace e8 := e8.out
  go_wp2_with (go_at_call 32; refine (hT.out _ _ _ (by unfold U8; omega) _ (by assumption)).mono ?_; rintro e w1 ⟨rfl, hbx⟩; replace hbx := Lib.hid hbx)
  go_ret
  exact ⟨rfl, Hid.out (by assumption)⟩
end Go.Proofs.Ytimbhdekbceajaa.Me
