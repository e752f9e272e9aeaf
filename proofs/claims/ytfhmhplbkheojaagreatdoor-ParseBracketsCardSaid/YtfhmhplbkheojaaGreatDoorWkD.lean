/- Walk of many: a text, so often. Conditions: it is not too long. -/
import Derived.Test.YtfhmhplbkheojaaGreatDoorWkA
namespace Go.Proofs.YtfhmhplbkheojaaGreatDoor.Pa
open Go Go.RowKit
open Go.Proofs.YtfhmhplbkheojaaGreatDoor.Lx Go.Proofs.YtfhmhplbkheojaaGreatDoor.Tr

def repL (n : Nat) (l : List UInt8) : List UInt8 := (List.replicate n l).flatten
theorem repL_succ (n : Nat) (l : List UInt8) : repL (n + 1) l = repL n l ++ l := by
  unfold repL
  rw [List.replicate_succ', List.flatten_append]
  simp
theorem repL_len (n : Nat) (l : List UInt8) : (repL n l).length = n * l.length := by
  unfold repL
  simp
theorem app_lit (a b : List UInt8) : (⟨⟨a⟩⟩ : ByteArray) ++ ⟨⟨b⟩⟩ = ⟨⟨a ++ b⟩⟩ := by
  rw [← Lib.mk_data (⟨⟨a⟩⟩ ++ ⟨⟨b⟩⟩ : ByteArray)]
  simp
theorem size_lit (a : List UInt8) : (⟨⟨a⟩⟩ : ByteArray).size = a.length := rfl
set_option maxHeartbeats 4000000 in
set_option maxRecDepth 100000 in
theorem many_c (n : Nat) (s : List UInt8) (w : World) (hn : n ≤ 5000) (hs : s.length ≤ 100) :
    Calls Tryz.prog 25 #[.int .i64 (n : Int), .string ⟨⟨s⟩⟩] w fun x w' => x = .returned (.string ⟨⟨repL n s⟩⟩) ∧ Below w.heap.size w w' := by
  go_enter Tryz.func25, Tryz.ntmps25
  go_wp2_with fail
  go_loopw [5, 6] (fun v a wr => ∃ i : Nat, i ≤ n ∧ a = .int .i64 i ∧ v = .string ⟨⟨repL i s⟩⟩ ∧ Below w.heap.size w wr) (fun _ a _ => n - (intOf a).toNat)
  case atStart => exact ⟨0, by omega, rfl, rfl, Below.refl _ _⟩
  case round =>
    obtain ⟨i, hi, rfl, rfl, hbr⟩ := hrel
    replace hbr := Lib.hid hbr
    have hl := repL_len i s
    have hsucc := repL_succ i s
    obtain ⟨r, hr⟩ : ∃ r, repL i s = r := ⟨_, rfl⟩
    rw [hr] at hl hsucc ⊢
    have hrl : r.length ≤ 500000 := by
      rw [hl]
      exact Nat.le_trans (Nat.mul_le_mul (Nat.le_trans hi hn) hs) (by decide)
    have ha : ∀ W : World, (Op.stringOp .add ⟨⟨r⟩⟩ ⟨⟨s⟩⟩).run Tryz.prog W = .ok (.string ⟨⟨r ++ s⟩⟩) W := fun W => by
      rw [← app_lit]
      exact run_string_add W _ _ (by rw [size_lit]; omega) (by rw [size_lit]; omega)
    by_cases hlt : i < n
    · have hi1 : (i : Int) < (n : Int) := by omega
      clear hl
      go_wp2_with fail
      go_roundw
      case rel => exact ⟨i + 1, by omega, by go_num, by rw [hsucc], hbr.out⟩
      case measure => simp [intOf]; omega
    · have hi1 : ¬ (i : Int) < (n : Int) := by omega
      have hin := Lib.hid (show i = n by omega)
      clear hl
      go_wp2_with fail
      go_ret
      exact ⟨by rw [← hin.out, hr]; rfl, hbr.out⟩
end Go.Proofs.YtfhmhplbkheojaaGreatDoor.Pa
