/- Walks of mem.number, mem.compared. Conditions: the numbers fit their kinds. -/
import Derived.Test.YtnoilcchegmpfaaMeB
namespace Go.Proofs.Ytnoilcchegmpfaa.Me
open Go Go.RowKit
open Go.WideShapes Go.MapKept

def numP (k a b : Int) : Option Int := if k = 7 then some (wrap64 (a + b)) else if k = 8 then some (wrap64 (a - b)) else if k = 9 then some (wrap64 (a * b)) else if k = 10 then some (wrap64 (a.tdiv b)) else if k = 11 then some (a.tmod b) else none
def cmpP (k a b : Int) : Option Bool := if k = 12 then some (decide (a < b)) else if k = 13 then some (decide (a ≤ b)) else if k = 14 then some (a == b) else if k = 15 then some (a != b) else if k = 16 then some (a != 0 && b != 0) else if k = 17 then some (a != 0 || b != 0) else none
def unP (k a : Int) : Option Int := if k = 5 then some (wrap64 (-a)) else if k = 6 then some (tr (a == 0)) else none
def binP (k a b : Int) : Option Int := if (k = 10 ∨ k = 11) ∧ b = 0 then none else match numP k a b with
  | some v => some v
  | none => (cmpP k a b).map tr
/-- a number and whether there is one -/
def ret (r : Option Int) : Ending := .returned (.tuple #[.int .i64 (r.getD 0), .bool r.isSome])
theorem new_map (q : IntKind) (w : World) : MpI q (w.alloc (.map #[] 0)) w.heap.size [] := ⟨⟨#[], 0, (MapKept.heap_alloc w _).1, rfl⟩, fun x hx => (by cases hx), List.nodup_nil⟩
theorem zero_f2 (V : World) : (zeroValue 77).run Try.prog V = .ok .nilFunc V := by simp [zeroValue, Try.t77]
theorem zero_f3 (V : World) : (zeroValue 80).run Try.prog V = .ok .nilFunc V := by simp [zeroValue, Try.t80]

set_option maxHeartbeats 4000000 in
theorem number_c (k a b : Int) (hk : U8 k) (hb : k = 10 ∨ k = 11 → b ≠ 0) (w : World) : Calls Try.prog 35 #[.int .u8 k, .int .i64 a, .int .i64 b] w fun e w' => e = ret (numP k a b) ∧ Below w.heap.size w w' := by
  have hmk := run_makeMap (P := Try.prog) 79 w
  have hb0 : Below w.heap.size w (w.alloc (.map #[] 0)) := (Below.refl _ _).alloc (Nat.le_refl _) _
  have h0 := new_map .u8 w
  obtain ⟨W1, e1, h1, g1⟩ := put_run (q := .u8) (P := Try.prog) (t := 79) (k := 5) (e := 77) (by kernel_rfl) (by kernel_rfl) h0 7 (by decide) (.func (.func 41) #[] #[])
  replace h1 : MpI .u8 W1 w.heap.size [((7 : Int), (.func (.func 41) #[] #[] : Value))] := h1
  have hb1 : Below w.heap.size w W1 := hb0.grown g1 hb0.size (fun j hj => by cases hj; exact Nat.le_refl _)
  obtain ⟨W2, e2, h2, g2⟩ := put_run (q := .u8) (P := Try.prog) (t := 79) (k := 5) (e := 77) (by kernel_rfl) (by kernel_rfl) h1 8 (by decide) (.func (.func 42) #[] #[])
  replace h2 : MpI .u8 W2 w.heap.size [((7 : Int), (.func (.func 41) #[] #[] : Value)), ((8 : Int), (.func (.func 42) #[] #[] : Value))] := h2
  have hb2 : Below w.heap.size w W2 := hb1.grown g2 hb1.size (fun j hj => by cases hj; exact Nat.le_refl _)
  obtain ⟨W3, e3, h3, g3⟩ := put_run (q := .u8) (P := Try.prog) (t := 79) (k := 5) (e := 77) (by kernel_rfl) (by kernel_rfl) h2 9 (by decide) (.func (.func 43) #[] #[])
  replace h3 : MpI .u8 W3 w.heap.size [((7 : Int), (.func (.func 41) #[] #[] : Value)), ((8 : Int), (.func (.func 42) #[] #[] : Value)), ((9 : Int), (.func (.func 43) #[] #[] : Value))] := h3
  have hb3 : Below w.heap.size w W3 := hb2.grown g3 hb2.size (fun j hj => by cases hj; exact Nat.le_refl _)
  obtain ⟨W4, e4, h4, g4⟩ := put_run (q := .u8) (P := Try.prog) (t := 79) (k := 5) (e := 77) (by kernel_rfl) (by kernel_rfl) h3 10 (by decide) (.func (.func 44) #[] #[])
  replace h4 : MpI .u8 W4 w.heap.size [((7 : Int), (.func (.func 41) #[] #[] : Value)), ((8 : Int), (.func (.func 42) #[] #[] : Value)), ((9 : Int), (.func (.func 43) #[] #[] : Value)), ((10 : Int), (.func (.func 44) #[] #[] : Value))] := h4
  have hb4 : Below w.heap.size w W4 := hb3.grown g4 hb3.size (fun j hj => by cases hj; exact Nat.le_refl _)
  obtain ⟨W5, e5, h5, g5⟩ := put_run (q := .u8) (P := Try.prog) (t := 79) (k := 5) (e := 77) (by kernel_rfl) (by kernel_rfl) h4 11 (by decide) (.func (.func 45) #[] #[])
  replace h5 : MpI .u8 W5 w.heap.size [((7 : Int), (.func (.func 41) #[] #[] : Value)), ((8 : Int), (.func (.func 42) #[] #[] : Value)), ((9 : Int), (.func (.func 43) #[] #[] : Value)), ((10 : Int), (.func (.func 44) #[] #[] : Value)), ((11 : Int), (.func (.func 45) #[] #[] : Value))] := h5
  have hb5 : Below w.heap.size w W5 := hb4.grown g5 hb4.size (fun j hj => by cases hj; exact Nat.le_refl _)
  have hl := look_run (q := .u8) (P := Try.prog) (t := 79) (k := 5) (e := 77) (by kernel_rfl) (by kernel_rfl) (zero_f2 W5) h5 k (wf_u8 hk) true
  have hfin := Lib.hid hb5
  clear h0 h1 h2 h3 h4 h5 hb0 hb1 hb2 hb3 hb4 hb5 g1 g2 g3 g4 g5
  by_cases k0 : k = 7
  · subst k0
    simp [findV] at hl
    clear hk hb
    go_enter Try.func35, Try.ntmps35
    go_wp2_with (first | (go_at_call 41; refine (number_1 a b _).mono ?_; rintro e w' ⟨rfl, rfl⟩) | go_in)
    go_ret2
    exact ⟨by simp [ret, numP], hfin.out⟩
  by_cases k1 : k = 8
  · subst k1
    simp [findV] at hl
    clear hk hb
    go_enter Try.func35, Try.ntmps35
    go_wp2_with (first | (go_at_call 42; refine (number_2 a b _).mono ?_; rintro e w' ⟨rfl, rfl⟩) | go_in)
    go_ret2
    exact ⟨by simp [ret, numP], hfin.out⟩
  by_cases k2 : k = 9
  · subst k2
    simp [findV] at hl
    clear hk hb
    go_enter Try.func35, Try.ntmps35
    go_wp2_with (first | (go_at_call 43; refine (number_3 a b _).mono ?_; rintro e w' ⟨rfl, rfl⟩) | go_in)
    go_ret2
    exact ⟨by simp [ret, numP], hfin.out⟩
  by_cases k3 : k = 10
  · subst k3
    simp [findV] at hl
    have hb' := hb (by simp)
    clear hk hb
    go_enter Try.func35, Try.ntmps35
    go_wp2_with (first | (go_at_call 44; refine (number_4 a b hb' _).mono ?_; rintro e w' ⟨rfl, rfl⟩) | go_in)
    go_ret2
    exact ⟨by simp [ret, numP], hfin.out⟩
  by_cases k4 : k = 11
  · subst k4
    simp [findV] at hl
    have hb' := hb (by simp)
    clear hk hb
    go_enter Try.func35, Try.ntmps35
    go_wp2_with (first | (go_at_call 45; refine (number_5 a b hb' _).mono ?_; rintro e w' ⟨rfl, rfl⟩) | go_in)
    go_ret2
    exact ⟨by simp [ret, numP], hfin.out⟩
  simp [findV, Ne.symm k0, Ne.symm k1, Ne.symm k2, Ne.symm k3, Ne.symm k4] at hl
  go_enter Try.func35, Try.ntmps35
  go_wp2_with fail
  go_ret2
  exact ⟨by simp [ret, numP, k0, k1, k2, k3, k4], hfin.out⟩
set_option maxHeartbeats 4000000 in
theorem compared_c (k a b : Int) (hk : U8 k) (w : World) : Calls Try.prog 36 #[.int .u8 k, .int .i64 a, .int .i64 b] w fun e w' => e = ret ((cmpP k a b).map tr) ∧ Below w.heap.size w w' := by
  have hmk := run_makeMap (P := Try.prog) 82 w
  have hb0 : Below w.heap.size w (w.alloc (.map #[] 0)) := (Below.refl _ _).alloc (Nat.le_refl _) _
  have h0 := new_map .u8 w
  obtain ⟨W1, e1, h1, g1⟩ := put_run (q := .u8) (P := Try.prog) (t := 82) (k := 5) (e := 80) (by kernel_rfl) (by kernel_rfl) h0 12 (by decide) (.func (.func 46) #[] #[])
  replace h1 : MpI .u8 W1 w.heap.size [((12 : Int), (.func (.func 46) #[] #[] : Value))] := h1
  have hb1 : Below w.heap.size w W1 := hb0.grown g1 hb0.size (fun j hj => by cases hj; exact Nat.le_refl _)
  obtain ⟨W2, e2, h2, g2⟩ := put_run (q := .u8) (P := Try.prog) (t := 82) (k := 5) (e := 80) (by kernel_rfl) (by kernel_rfl) h1 13 (by decide) (.func (.func 47) #[] #[])
  replace h2 : MpI .u8 W2 w.heap.size [((12 : Int), (.func (.func 46) #[] #[] : Value)), ((13 : Int), (.func (.func 47) #[] #[] : Value))] := h2
  have hb2 : Below w.heap.size w W2 := hb1.grown g2 hb1.size (fun j hj => by cases hj; exact Nat.le_refl _)
  obtain ⟨W3, e3, h3, g3⟩ := put_run (q := .u8) (P := Try.prog) (t := 82) (k := 5) (e := 80) (by kernel_rfl) (by kernel_rfl) h2 14 (by decide) (.func (.func 48) #[] #[])
  replace h3 : MpI .u8 W3 w.heap.size [((12 : Int), (.func (.func 46) #[] #[] : Value)), ((13 : Int), (.func (.func 47) #[] #[] : Value)), ((14 : Int), (.func (.func 48) #[] #[] : Value))] := h3
  have hb3 : Below w.heap.size w W3 := hb2.grown g3 hb2.size (fun j hj => by cases hj; exact Nat.le_refl _)
  obtain ⟨W4, e4, h4, g4⟩ := put_run (q := .u8) (P := Try.prog) (t := 82) (k := 5) (e := 80) (by kernel_rfl) (by kernel_rfl) h3 15 (by decide) (.func (.func 49) #[] #[])
  replace h4 : MpI .u8 W4 w.heap.size [((12 : Int), (.func (.func 46) #[] #[] : Value)), ((13 : Int), (.func (.func 47) #[] #[] : Value)), ((14 : Int), (.func (.func 48) #[] #[] : Value)), ((15 : Int), (.func (.func 49) #[] #[] : Value))] := h4
  have hb4 : Below w.heap.size w W4 := hb3.grown g4 hb3.size (fun j hj => by cases hj; exact Nat.le_refl _)
  obtain ⟨W5, e5, h5, g5⟩ := put_run (q := .u8) (P := Try.prog) (t := 82) (k := 5) (e := 80) (by kernel_rfl) (by kernel_rfl) h4 16 (by decide) (.func (.func 50) #[] #[])
  replace h5 : MpI .u8 W5 w.heap.size [((12 : Int), (.func (.func 46) #[] #[] : Value)), ((13 : Int), (.func (.func 47) #[] #[] : Value)), ((14 : Int), (.func (.func 48) #[] #[] : Value)), ((15 : Int), (.func (.func 49) #[] #[] : Value)), ((16 : Int), (.func (.func 50) #[] #[] : Value))] := h5
  have hb5 : Below w.heap.size w W5 := hb4.grown g5 hb4.size (fun j hj => by cases hj; exact Nat.le_refl _)
  obtain ⟨W6, e6, h6, g6⟩ := put_run (q := .u8) (P := Try.prog) (t := 82) (k := 5) (e := 80) (by kernel_rfl) (by kernel_rfl) h5 17 (by decide) (.func (.func 51) #[] #[])
  replace h6 : MpI .u8 W6 w.heap.size [((12 : Int), (.func (.func 46) #[] #[] : Value)), ((13 : Int), (.func (.func 47) #[] #[] : Value)), ((14 : Int), (.func (.func 48) #[] #[] : Value)), ((15 : Int), (.func (.func 49) #[] #[] : Value)), ((16 : Int), (.func (.func 50) #[] #[] : Value)), ((17 : Int), (.func (.func 51) #[] #[] : Value))] := h6
  have hb6 : Below w.heap.size w W6 := hb5.grown g6 hb5.size (fun j hj => by cases hj; exact Nat.le_refl _)
  have hl := look_run (q := .u8) (P := Try.prog) (t := 82) (k := 5) (e := 80) (by kernel_rfl) (by kernel_rfl) (zero_f3 W6) h6 k (wf_u8 hk) true
  have hfin := Lib.hid hb6
  clear h0 h1 h2 h3 h4 h5 h6 hb0 hb1 hb2 hb3 hb4 hb5 hb6 g1 g2 g3 g4 g5 g6
  by_cases k0 : k = 12
  · subst k0
    simp [findV] at hl
    clear hk
    go_enter Try.func36, Try.ntmps36
    go_wp2_with (first | (go_at_call 46; refine (compared_1 a b _).mono ?_; rintro e w' ⟨rfl, rfl⟩) | (go_at_call 52; refine (truth_c _ _).mono ?_; rintro e w' ⟨rfl, rfl⟩) | go_in)
    go_ret2
    exact ⟨by simp [ret, cmpP], hfin.out⟩
  by_cases k1 : k = 13
  · subst k1
    simp [findV] at hl
    clear hk
    go_enter Try.func36, Try.ntmps36
    go_wp2_with (first | (go_at_call 47; refine (compared_2 a b _).mono ?_; rintro e w' ⟨rfl, rfl⟩) | (go_at_call 52; refine (truth_c _ _).mono ?_; rintro e w' ⟨rfl, rfl⟩) | go_in)
    go_ret2
    exact ⟨by simp [ret, cmpP], hfin.out⟩
  by_cases k2 : k = 14
  · subst k2
    simp [findV] at hl
    clear hk
    go_enter Try.func36, Try.ntmps36
    go_wp2_with (first | (go_at_call 48; refine (compared_3 a b _).mono ?_; rintro e w' ⟨rfl, rfl⟩) | (go_at_call 52; refine (truth_c _ _).mono ?_; rintro e w' ⟨rfl, rfl⟩) | go_in)
    go_ret2
    exact ⟨by simp [ret, cmpP], hfin.out⟩
  by_cases k3 : k = 15
  · subst k3
    simp [findV] at hl
    clear hk
    go_enter Try.func36, Try.ntmps36
    go_wp2_with (first | (go_at_call 49; refine (compared_4 a b _).mono ?_; rintro e w' ⟨rfl, rfl⟩) | (go_at_call 52; refine (truth_c _ _).mono ?_; rintro e w' ⟨rfl, rfl⟩) | go_in)
    go_ret2
    exact ⟨by simp [ret, cmpP], hfin.out⟩
  by_cases k4 : k = 16
  · subst k4
    simp [findV] at hl
    clear hk
    go_enter Try.func36, Try.ntmps36
    go_wp2_with (first | (go_at_call 50; refine (compared_5 a b _).mono ?_; rintro e w' ⟨rfl, rfl⟩) | (go_at_call 52; refine (truth_c _ _).mono ?_; rintro e w' ⟨rfl, rfl⟩) | go_in)
    go_ret2
    exact ⟨by simp [ret, cmpP], hfin.out⟩
  by_cases k5 : k = 17
  · subst k5
    simp [findV] at hl
    clear hk
    go_enter Try.func36, Try.ntmps36
    go_wp2_with (first | (go_at_call 51; refine (compared_6 a b _).mono ?_; rintro e w' ⟨rfl, rfl⟩) | (go_at_call 52; refine (truth_c _ _).mono ?_; rintro e w' ⟨rfl, rfl⟩) | go_in)
    go_ret2
    exact ⟨by simp [ret, cmpP], hfin.out⟩
  simp [findV, Ne.symm k0, Ne.symm k1, Ne.symm k2, Ne.symm k3, Ne.symm k4, Ne.symm k5] at hl
  go_enter Try.func36, Try.ntmps36
  go_wp2_with fail
  go_ret2
  exact ⟨by simp [ret, cmpP, k0, k1, k2, k3, k4, k5], hfin.out⟩
end Go.Proofs.Ytnoilcchegmpfaa.Me
