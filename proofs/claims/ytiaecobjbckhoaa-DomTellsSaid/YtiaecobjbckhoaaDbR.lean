/- Walk of lastFirst and of the function that it makes: all ranks but 0, the last ones first. Conditions: none. -/
import Derived.Test.YtiaecobjbckhoaaDbH
import Derived.Test.YtiaecobjbckhoaaRgB
import Derived.Laws.EntriesVeiled
set_option linter.unusedVariables false
set_option linter.unusedSimpArgs false
namespace Go.Proofs.Ytiaecobjbckhoaa.Db
open Go Go.RowKit
open Go.WideShapes Go.MapKept Dm

/-- a round -/
def Yld {α : Type} (l : Nat) (enc : α → Array Value) (J Jx : List α → World → Prop) (R : α → World → Prop) (Kp : World → World → Prop) (N : Nat) : Prop :=
  ∀ m pre (x : α) W, J pre W → R x W → pre.length < N → YieldAt Fence.wide m Try.prog l (enc x) W fun e W' =>
    (e = .returned (.bool true) ∧ J (pre ++ [x]) W' ∧ Kp W W') ∨ (e = .returned (.bool false) ∧ Jx (pre ++ [x]) W')
def downs (m : Nat) : List Int := (List.range (m - 1)).map fun i => ((m - 1 - i : Nat) : Int)
theorem downs_len (m : Nat) : (downs m).length = m - 1 := by simp [downs]
theorem downs_get {m j : Nat} (h : j < m - 1) : (downs m)[j]? = some ((m - 1 - j : Nat) : Int) := by
  unfold downs
  rw [List.getElem?_map, List.getElem?_range h]
  rfl
set_option maxHeartbeats 4000000 in
set_option maxRecDepth 100000 in
theorem lastFirst_c (wb : Nat) (W : World) :
    Calls Try.prog 42 #[.pointer (some ⟨wb, 0, none⟩)] W fun e W' => e = .returned (.func (.func 45) #[] #[.pointer (some ⟨W.heap.size, 0, none⟩)]) ∧ W' = W.alloc (.cells #[.pointer (some ⟨wb, 0, none⟩)] 48) := by
  go_enter Try.func42, Try.ntmps42
  go_wp2_with fail
  go_ret
  exact ⟨rfl, rfl⟩
set_option maxHeartbeats 4000000 in
set_option maxRecDepth 100000 in
theorem down_any (l n bx wb gm m cm : Nat) (J Jx : List Int → World → Prop) (Kp : World → World → Prop) (W : World) (h1 : W.cell? ⟨bx, 0, none⟩ = some (.pointer (some ⟨wb, 0, none⟩))) (h2 : W.cell? ⟨wb, 0, none⟩ = some (.slice (some ⟨gm, 0, none⟩) m cm))
    (hm : 0 < m ∧ m ≤ 32768 ∧ m ≤ cm ∧ cm ≤ maxLen) (hY : Yld l (fun x : Int => #[.int .i64 x]) J Jx (fun x _ => ∃ k : Nat, x = k ∧ 0 < k ∧ k < m) Kp (m - 1)) (hJ0 : J [] W) :
    CallsIn Fence.wide n Try.prog 45 #[.func (.yield l) #[] #[], .pointer (some ⟨bx, 0, none⟩)] W fun e' W' => (∃ v, e' = .returned v) ∧
      ((∃ xs, xs = downs m ∧ J xs W') ∨ (∃ pre, pre <+: downs m ∧ Jx pre W')) := by
  obtain ⟨hm0, hm1, hm2, hm3⟩ := hm
  replace hJ0 := Lib.hid hJ0
  have hsub : (((m : Nat) : Int) - 1) = ((m - 1 : Nat) : Int) := by omega
  refine callsIn_of_wp Try.func45 rfl trivial ?_ rfl
  simp only [Try.ntmps45, List.size_toArray, List.length_cons, List.length_nil, Nat.reduceAdd, Nat.reduceSub, Array.replicate_succ, Array.replicate_zero, List.push_toArray, List.append_toArray, List.nil_append, List.cons_append]
  gi_wp2_with fail
  gi_loopw [3] (fun i0 wr => ∃ j : Nat, j ≤ m - 1 ∧ i0 = .int .i64 ((m - 1 - j : Nat) : Int) ∧ Hid (J ((downs m).take j) wr)) (fun i0 _ => (intOf i0).toNat)
  case atStart => exact ⟨0, Nat.zero_le _, by simp, Lib.hid (by simpa using hJ0.out)⟩
  case round =>
    obtain ⟨j, hj, rfl, hJ⟩ := hrel
    clear h1 h2 hJ0
    by_cases hlt : j < m - 1
    · have hx := downs_get hlt
      have htk : (downs m).take (j + 1) = (downs m).take j ++ [((m - 1 - j : Nat) : Int)] := by rw [List.take_add_one, hx]; rfl
      have hlen : ((downs m).take j).length = j := by rw [List.length_take, downs_len]; omega
      obtain ⟨fn, tmps, assign, body, hy, hR⟩ := hY (n - 1) ((downs m).take j) ((m - 1 - j : Nat) : Int) wr hJ.out ⟨_, rfl, by omega, by omega⟩ (by rw [hlen]; exact hlt)
      rw [← htk] at hR
      have hpp : Hid ((downs m).take (j + 1) <+: downs m) := Lib.hid (List.take_prefix _ _)
      have hsub2 : ((m - 1 - j : Nat) : Int) - 1 = ((m - 1 - (j + 1) : Nat) : Int) := by omega
      have hpos : (0 : Int) < ((m - 1 - j : Nat) : Int) := by omega
      have hle : (((m - 1 - j : Nat) : Int)) ≤ 32768 := by omega
      have hnat : Hid (m - 1 - (j + 1) < m - 1 - j) := Lib.hid (by omega)
      clear hx htk hlen hY hJ
      generalize hd : (m - 1 - j : Nat) = d at *
      generalize hd2 : (m - 1 - (j + 1) : Nat) = d2 at *
      gi_wp2_with fail
      refine ⟨fun h => (by cases h), hR.mono ?_⟩
      clear hR hy
      rintro e W3 (⟨rfl, hJ3, hk3⟩ | ⟨rfl, hx3⟩)
      · replace hJ3 := Lib.hid hJ3
        gi_wp2_with fail
        go_roundw
        case rel => exact ⟨j + 1, by omega, by rw [hd2], hJ3⟩
        case measure => simp [intOf]; have := hnat.out; omega
      · replace hx3 := Lib.hid hx3
        gi_wp2_with fail
        exact ⟨rfl, .tuple #[], by simp [results, Try.results45, go_sem], ⟨_, rfl⟩, .inr ⟨_, hpp.out, hx3.out⟩⟩
    · have hJe : Hid (J (downs m) wr) := Lib.hid (by have h := hJ.out; rw [List.take_of_length_le (by rw [downs_len]; omega)] at h; exact h)
      have h0 : (m - 1 - j : Nat) = 0 := by omega
      rw [h0]
      clear hJ hY
      gi_wp2_with fail
      go_end0
      exact ⟨⟨_, rfl⟩, .inl ⟨_, rfl, hJe.out⟩⟩
end Go.Proofs.Ytiaecobjbckhoaa.Db
