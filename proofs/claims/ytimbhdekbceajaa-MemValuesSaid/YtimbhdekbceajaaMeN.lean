/- MemValues answers true. Conditions: the numbers fit their kinds. -/
import Derived.Test.YtimbhdekbceajaaMeM
namespace Go.Proofs.Ytimbhdekbceajaa.Me
open Go Go.RowKit

set_option maxHeartbeats 1000000 in
theorem memValues_law (k a b : Int) (w : World) (hk : U8 k) (_ha : I64 a) (_hb : I64 b) : Calls Try.prog 4 #[.int .u8 k, .int .i64 a, .int .i64 b] w fun e w' => e = .returned (.bool true) ∧ Below w.heap.size w w' := by
  have h1 := Lib.hid (fun V => Unary_c k a hk V)
  have h2 := Lib.hid (fun V => runary_c k a V)
  have h3 := Lib.hid (fun V => binary_c k a b hk V)
  have h4 := Lib.hid (fun V => rbinary_c k a b V)
  have h5 := Lib.hid (fun V => awake_c V)
  unfold ret at h1 h2 h3 h4
  generalize (unP k a).getD 0 = x1 at h1 h2
  generalize (unP k a).isSome = x2 at h1 h2
  generalize (binP k a b).getD 0 = x3 at h3 h4
  generalize (binP k a b).isSome = x4 at h3 h4
  go_enter Try.func4, Try.ntmps4
  go_wp2_with (first
    | (go_at_call 20; refine (h1.out _).mono ?_; rintro e w1 ⟨rfl, hb1⟩)
    | (go_at_call 21; refine (h2.out _).mono ?_; rintro e w2 ⟨rfl, hw⟩; subst w2)
    | (go_at_call 22; refine (h3.out _).mono ?_; rintro e w3 ⟨rfl, hb3⟩)
    | (go_at_call 23; refine (h4.out _).mono ?_; rintro e w4 ⟨rfl, hw⟩; subst w4)
    | (go_at_call 11; refine (h5.out _).mono ?_; rintro e w5 ⟨rfl, hb5⟩))
  go_ret
  exact ⟨rfl, (hb1.trans (hb3.mono hb1.size)).trans (hb5.mono (Nat.le_trans hb1.size hb3.size))⟩
end Go.Proofs.Ytimbhdekbceajaa.Me
