/- Walks of mem.number, mem.compared, mem.Unary, mem.Binary, and of the document's Unary and Binary. Conditions: the numbers fit their kinds. -/
import Derived.Test.YtimbhdekbceajaaMeB
namespace Go.Proofs.Ytimbhdekbceajaa.Me
open Go Go.RowKit
open Go.WideShapes Go.MapKept

def numP (k a b : Int) : Option Int := if k = 7 then some (wrap64 (a + b)) else if k = 8 then some (wrap64 (a - b)) else if k = 9 then some (wrap64 (a * b)) else if k = 10 then some (wrap64 (a.tdiv b)) else if k = 11 then some (a.tmod b) else none
def cmpP (k a b : Int) : Option Bool := if k = 12 then some (decide (a < b)) else if k = 13 then some (decide (a ≤ b)) else if k = 14 then some (a == b) else if k = 15 then some (a != b) else if k = 16 then some (a != 0 && b != 0) else if k = 17 then some (a != 0 || b != 0) else none
def unP (k a : Int) : Option Int := if k = 5 then some (wrap64 (-a)) else if k = 6 then some (tr (a == 0)) else none
def binP (k a b : Int) : Option Int := if (k = 10 ∨ k = 11) ∧ b = 0 then none else match numP k a b with
  | some v => some v
  | none => (cmpP k a b).map tr
/-- a number and whether there is one -/
def ret (r : Option Int) : Ending := .returned (.tuple #[.int .i64 (r.getD 0), .bool r.isSome])
theorem new_map (q : IntKind) (w : World) : MpI q (w.alloc (.map #[] 0)) w.heap.size [] := ⟨⟨#[], 0, (MapKept.heap_alloc w _).1, rfl⟩, fun x hx => (by cases hx), List.nodup_nil⟩
theorem zero_f1 (V : World) : (zeroValue 61).run Try.prog V = .ok .nilFunc V := by simp [zeroValue, Try.t61]
theorem zero_f2 (V : World) : (zeroValue 90).run Try.prog V = .ok .nilFunc V := by simp [zeroValue, Try.t90]
theorem zero_f3 (V : World) : (zeroValue 57).run Try.prog V = .ok .nilFunc V := by simp [zeroValue, Try.t57]

theorem Unary_1 (a : Int) (w : World) : Calls Try.prog 46 #[.int .i64 a] w fun e w' => e = .returned (.int .i64 (wrap64 (-a))) ∧ w' = w := by
  go_enter Try.func46, Try.ntmps46
  go_wp2_with fail
  go_ret
  exact ⟨rfl, rfl⟩
theorem Unary_2 (a : Int) (w : World) : Calls Try.prog 47 #[.int .i64 a] w fun e w' => e = .returned (.int .i64 (tr (a == 0))) ∧ w' = w := by
  go_enter Try.func47, Try.ntmps47
  go_wp2_with (go_at_call 48; refine (truth_c _ _).mono ?_; rintro e w' ⟨rfl, rfl⟩)
  go_ret
  exact ⟨by first | rfl | simp, rfl⟩
set_option maxHeartbeats 4000000 in
theorem Unary_c (k a : Int) (hk : U8 k) (w : World) : Calls Try.prog 20 #[.int .u8 k, .int .i64 a] w fun e w' => e = ret (unP k a) ∧ Below w.heap.size w w' := by
  have hmk := run_makeMap (P := Try.prog) 78 w
  have hb0 : Below w.heap.size w (w.alloc (.map #[] 0)) := (Below.refl _ _).alloc (Nat.le_refl _) _
  have h0 := new_map .u8 w
  obtain ⟨W1, e1, h1, g1⟩ := put_run (q := .u8) (P := Try.prog) (t := 78) (k := 5) (e := 61) (by kernel_rfl) (by kernel_rfl) h0 5 (by decide) (.func (.func 46) #[] #[])
  replace h1 : MpI .u8 W1 w.heap.size [((5 : Int), (.func (.func 46) #[] #[] : Value))] := h1
  have hb1 : Below w.heap.size w W1 := hb0.grown g1 hb0.size (fun j hj => by cases hj; exact Nat.le_refl _)
  obtain ⟨W2, e2, h2, g2⟩ := put_run (q := .u8) (P := Try.prog) (t := 78) (k := 5) (e := 61) (by kernel_rfl) (by kernel_rfl) h1 6 (by decide) (.func (.func 47) #[] #[])
  replace h2 : MpI .u8 W2 w.heap.size [((5 : Int), (.func (.func 46) #[] #[] : Value)), ((6 : Int), (.func (.func 47) #[] #[] : Value))] := h2
  have hb2 : Below w.heap.size w W2 := hb1.grown g2 hb1.size (fun j hj => by cases hj; exact Nat.le_refl _)
  have hl := look_run (q := .u8) (P := Try.prog) (t := 78) (k := 5) (e := 61) (by kernel_rfl) (by kernel_rfl) (zero_f1 W2) h2 k (wf_u8 hk) true
  have hfin := Lib.hid hb2
  clear h0 h1 h2 hb0 hb1 hb2 g1 g2
  by_cases k0 : k = 5
  · subst k0
    simp [findV] at hl
    clear hk
    go_enter Try.func20, Try.ntmps20
    go_wp2_with (first | (go_at_call 46; refine (Unary_1 a _).mono ?_; rintro e w' ⟨rfl, rfl⟩) | go_in)
    go_ret2
    exact ⟨by simp [ret, unP], hfin.out⟩
  by_cases k1 : k = 6
  · subst k1
    simp [findV] at hl
    clear hk
    go_enter Try.func20, Try.ntmps20
    go_wp2_with (first | (go_at_call 47; refine (Unary_2 a _).mono ?_; rintro e w' ⟨rfl, rfl⟩) | go_in)
    go_ret2
    exact ⟨by simp [ret, unP], hfin.out⟩
  simp [findV, Ne.symm k0, Ne.symm k1] at hl
  go_enter Try.func20, Try.ntmps20
  go_wp2_with fail
  go_ret2
  exact ⟨by simp [ret, unP, k0, k1], hfin.out⟩
set_option maxHeartbeats 4000000 in
theorem number_c (k a b : Int) (hk : U8 k) (hb : k = 10 ∨ k = 11 → b ≠ 0) (w : World) : Calls Try.prog 50 #[.int .u8 k, .int .i64 a, .int .i64 b] w fun e w' => e = ret (numP k a b) ∧ Below w.heap.size w w' := by
  have hmk := run_makeMap (P := Try.prog) 92 w
  have hb0 : Below w.heap.size w (w.alloc (.map #[] 0)) := (Below.refl _ _).alloc (Nat.le_refl _) _
  have h0 := new_map .u8 w
  obtain ⟨W1, e1, h1, g1⟩ := put_run (q := .u8) (P := Try.prog) (t := 92) (k := 5) (e := 90) (by kernel_rfl) (by kernel_rfl) h0 7 (by decide) (.func (.func 59) #[] #[])
  replace h1 : MpI .u8 W1 w.heap.size [((7 : Int), (.func (.func 59) #[] #[] : Value))] := h1
  have hb1 : Below w.heap.size w W1 := hb0.grown g1 hb0.size (fun j hj => by cases hj; exact Nat.le_refl _)
  obtain ⟨W2, e2, h2, g2⟩ := put_run (q := .u8) (P := Try.prog) (t := 92) (k := 5) (e := 90) (by kernel_rfl) (by kernel_rfl) h1 8 (by decide) (.func (.func 60) #[] #[])
  replace h2 : MpI .u8 W2 w.heap.size [((7 : Int), (.func (.func 59) #[] #[] : Value)), ((8 : Int), (.func (.func 60) #[] #[] : Value))] := h2
  have hb2 : Below w.heap.size w W2 := hb1.grown g2 hb1.size (fun j hj => by cases hj; exact Nat.le_refl _)
  obtain ⟨W3, e3, h3, g3⟩ := put_run (q := .u8) (P := Try.prog) (t := 92) (k := 5) (e := 90) (by kernel_rfl) (by kernel_rfl) h2 9 (by decide) (.func (.func 61) #[] #[])
  replace h3 : MpI .u8 W3 w.heap.size [((7 : Int), (.func (.func 59) #[] #[] : Value)), ((8 : Int), (.func (.func 60) #[] #[] : Value)), ((9 : Int), (.func (.func 61) #[] #[] : Value))] := h3
  have hb3 : Below w.heap.size w W3 := hb2.grown g3 hb2.size (fun j hj => by cases hj; exact Nat.le_refl _)
  obtain ⟨W4, e4, h4, g4⟩ := put_run (q := .u8) (P := Try.prog) (t := 92) (k := 5) (e := 90) (by kernel_rfl) (by kernel_rfl) h3 10 (by decide) (.func (.func 62) #[] #[])
  replace h4 : MpI .u8 W4 w.heap.size [((7 : Int), (.func (.func 59) #[] #[] : Value)), ((8 : Int), (.func (.func 60) #[] #[] : Value)), ((9 : Int), (.func (.func 61) #[] #[] : Value)), ((10 : Int), (.func (.func 62) #[] #[] : Value))] := h4
  have hb4 : Below w.heap.size w W4 := hb3.grown g4 hb3.size (fun j hj => by cases hj; exact Nat.le_refl _)
  obtain ⟨W5, e5, h5, g5⟩ := put_run (q := .u8) (P := Try.prog) (t := 92) (k := 5) (e := 90) (by kernel_rfl) (by kernel_rfl) h4 11 (by decide) (.func (.func 63) #[] #[])
  replace h5 : MpI .u8 W5 w.heap.size [((7 : Int), (.func (.func 59) #[] #[] : Value)), ((8 : Int), (.func (.func 60) #[] #[] : Value)), ((9 : Int), (.func (.func 61) #[] #[] : Value)), ((10 : Int), (.func (.func 62) #[] #[] : Value)), ((11 : Int), (.func (.func 63) #[] #[] : Value))] := h5
  have hb5 : Below w.heap.size w W5 := hb4.grown g5 hb4.size (fun j hj => by cases hj; exact Nat.le_refl _)
  have hl := look_run (q := .u8) (P := Try.prog) (t := 92) (k := 5) (e := 90) (by kernel_rfl) (by kernel_rfl) (zero_f2 W5) h5 k (wf_u8 hk) true
  have hfin := Lib.hid hb5
  clear h0 h1 h2 h3 h4 h5 hb0 hb1 hb2 hb3 hb4 hb5 g1 g2 g3 g4 g5
  by_cases k0 : k = 7
  · subst k0
    simp [findV] at hl
    clear hk hb
    go_enter Try.func50, Try.ntmps50
    go_wp2_with (first | (go_at_call 59; refine (number_1 a b _).mono ?_; rintro e w' ⟨rfl, rfl⟩) | go_in)
    go_ret2
    exact ⟨by simp [ret, numP], hfin.out⟩
  by_cases k1 : k = 8
  · subst k1
    simp [findV] at hl
    clear hk hb
    go_enter Try.func50, Try.ntmps50
    go_wp2_with (first | (go_at_call 60; refine (number_2 a b _).mono ?_; rintro e w' ⟨rfl, rfl⟩) | go_in)
    go_ret2
    exact ⟨by simp [ret, numP], hfin.out⟩
  by_cases k2 : k = 9
  · subst k2
    simp [findV] at hl
    clear hk hb
    go_enter Try.func50, Try.ntmps50
    go_wp2_with (first | (go_at_call 61; refine (number_3 a b _).mono ?_; rintro e w' ⟨rfl, rfl⟩) | go_in)
    go_ret2
    exact ⟨by simp [ret, numP], hfin.out⟩
  by_cases k3 : k = 10
  · subst k3
    simp [findV] at hl
    have hb' := hb (by simp)
    clear hk hb
    go_enter Try.func50, Try.ntmps50
    go_wp2_with (first | (go_at_call 62; refine (number_4 a b hb' _).mono ?_; rintro e w' ⟨rfl, rfl⟩) | go_in)
    go_ret2
    exact ⟨by simp [ret, numP], hfin.out⟩
  by_cases k4 : k = 11
  · subst k4
    simp [findV] at hl
    have hb' := hb (by simp)
    clear hk hb
    go_enter Try.func50, Try.ntmps50
    go_wp2_with (first | (go_at_call 63; refine (number_5 a b hb' _).mono ?_; rintro e w' ⟨rfl, rfl⟩) | go_in)
    go_ret2
    exact ⟨by simp [ret, numP], hfin.out⟩
  simp [findV, Ne.symm k0, Ne.symm k1, Ne.symm k2, Ne.symm k3, Ne.symm k4] at hl
  go_enter Try.func50, Try.ntmps50
  go_wp2_with fail
  go_ret2
  exact ⟨by simp [ret, numP, k0, k1, k2, k3, k4], hfin.out⟩
set_option maxHeartbeats 4000000 in
theorem compared_c (k a b : Int) (hk : U8 k) (w : World) : Calls Try.prog 51 #[.int .u8 k, .int .i64 a, .int .i64 b] w fun e w' => e = ret ((cmpP k a b).map tr) ∧ Below w.heap.size w w' := by
  have hmk := run_makeMap (P := Try.prog) 94 w
  have hb0 : Below w.heap.size w (w.alloc (.map #[] 0)) := (Below.refl _ _).alloc (Nat.le_refl _) _
  have h0 := new_map .u8 w
  obtain ⟨W1, e1, h1, g1⟩ := put_run (q := .u8) (P := Try.prog) (t := 94) (k := 5) (e := 57) (by kernel_rfl) (by kernel_rfl) h0 12 (by decide) (.func (.func 64) #[] #[])
  replace h1 : MpI .u8 W1 w.heap.size [((12 : Int), (.func (.func 64) #[] #[] : Value))] := h1
  have hb1 : Below w.heap.size w W1 := hb0.grown g1 hb0.size (fun j hj => by cases hj; exact Nat.le_refl _)
  obtain ⟨W2, e2, h2, g2⟩ := put_run (q := .u8) (P := Try.prog) (t := 94) (k := 5) (e := 57) (by kernel_rfl) (by kernel_rfl) h1 13 (by decide) (.func (.func 65) #[] #[])
  replace h2 : MpI .u8 W2 w.heap.size [((12 : Int), (.func (.func 64) #[] #[] : Value)), ((13 : Int), (.func (.func 65) #[] #[] : Value))] := h2
  have hb2 : Below w.heap.size w W2 := hb1.grown g2 hb1.size (fun j hj => by cases hj; exact Nat.le_refl _)
  obtain ⟨W3, e3, h3, g3⟩ := put_run (q := .u8) (P := Try.prog) (t := 94) (k := 5) (e := 57) (by kernel_rfl) (by kernel_rfl) h2 14 (by decide) (.func (.func 66) #[] #[])
  replace h3 : MpI .u8 W3 w.heap.size [((12 : Int), (.func (.func 64) #[] #[] : Value)), ((13 : Int), (.func (.func 65) #[] #[] : Value)), ((14 : Int), (.func (.func 66) #[] #[] : Value))] := h3
  have hb3 : Below w.heap.size w W3 := hb2.grown g3 hb2.size (fun j hj => by cases hj; exact Nat.le_refl _)
  obtain ⟨W4, e4, h4, g4⟩ := put_run (q := .u8) (P := Try.prog) (t := 94) (k := 5) (e := 57) (by kernel_rfl) (by kernel_rfl) h3 15 (by decide) (.func (.func 67) #[] #[])
  replace h4 : MpI .u8 W4 w.heap.size [((12 : Int), (.func (.func 64) #[] #[] : Value)), ((13 : Int), (.func (.func 65) #[] #[] : Value)), ((14 : Int), (.func (.func 66) #[] #[] : Value)), ((15 : Int), (.func (.func 67) #[] #[] : Value))] := h4
  have hb4 : Below w.heap.size w W4 := hb3.grown g4 hb3.size (fun j hj => by cases hj; exact Nat.le_refl _)
  obtain ⟨W5, e5, h5, g5⟩ := put_run (q := .u8) (P := Try.prog) (t := 94) (k := 5) (e := 57) (by kernel_rfl) (by kernel_rfl) h4 16 (by decide) (.func (.func 68) #[] #[])
  replace h5 : MpI .u8 W5 w.heap.size [((12 : Int), (.func (.func 64) #[] #[] : Value)), ((13 : Int), (.func (.func 65) #[] #[] : Value)), ((14 : Int), (.func (.func 66) #[] #[] : Value)), ((15 : Int), (.func (.func 67) #[] #[] : Value)), ((16 : Int), (.func (.func 68) #[] #[] : Value))] := h5
  have hb5 : Below w.heap.size w W5 := hb4.grown g5 hb4.size (fun j hj => by cases hj; exact Nat.le_refl _)
  obtain ⟨W6, e6, h6, g6⟩ := put_run (q := .u8) (P := Try.prog) (t := 94) (k := 5) (e := 57) (by kernel_rfl) (by kernel_rfl) h5 17 (by decide) (.func (.func 69) #[] #[])
  replace h6 : MpI .u8 W6 w.heap.size [((12 : Int), (.func (.func 64) #[] #[] : Value)), ((13 : Int), (.func (.func 65) #[] #[] : Value)), ((14 : Int), (.func (.func 66) #[] #[] : Value)), ((15 : Int), (.func (.func 67) #[] #[] : Value)), ((16 : Int), (.func (.func 68) #[] #[] : Value)), ((17 : Int), (.func (.func 69) #[] #[] : Value))] := h6
  have hb6 : Below w.heap.size w W6 := hb5.grown g6 hb5.size (fun j hj => by cases hj; exact Nat.le_refl _)
  have hl := look_run (q := .u8) (P := Try.prog) (t := 94) (k := 5) (e := 57) (by kernel_rfl) (by kernel_rfl) (zero_f3 W6) h6 k (wf_u8 hk) true
  have hfin := Lib.hid hb6
  clear h0 h1 h2 h3 h4 h5 h6 hb0 hb1 hb2 hb3 hb4 hb5 hb6 g1 g2 g3 g4 g5 g6
  by_cases k0 : k = 12
  · subst k0
    simp [findV] at hl
    clear hk
    go_enter Try.func51, Try.ntmps51
    go_wp2_with (first | (go_at_call 64; refine (compared_1 a b _).mono ?_; rintro e w' ⟨rfl, rfl⟩) | (go_at_call 48; refine (truth_c _ _).mono ?_; rintro e w' ⟨rfl, rfl⟩) | go_in)
    go_ret2
    exact ⟨by simp [ret, cmpP], hfin.out⟩
  by_cases k1 : k = 13
  · subst k1
    simp [findV] at hl
    clear hk
    go_enter Try.func51, Try.ntmps51
    go_wp2_with (first | (go_at_call 65; refine (compared_2 a b _).mono ?_; rintro e w' ⟨rfl, rfl⟩) | (go_at_call 48; refine (truth_c _ _).mono ?_; rintro e w' ⟨rfl, rfl⟩) | go_in)
    go_ret2
    exact ⟨by simp [ret, cmpP], hfin.out⟩
  by_cases k2 : k = 14
  · subst k2
    simp [findV] at hl
    clear hk
    go_enter Try.func51, Try.ntmps51
    go_wp2_with (first | (go_at_call 66; refine (compared_3 a b _).mono ?_; rintro e w' ⟨rfl, rfl⟩) | (go_at_call 48; refine (truth_c _ _).mono ?_; rintro e w' ⟨rfl, rfl⟩) | go_in)
    go_ret2
    exact ⟨by simp [ret, cmpP], hfin.out⟩
  by_cases k3 : k = 15
  · subst k3
    simp [findV] at hl
    clear hk
    go_enter Try.func51, Try.ntmps51
    go_wp2_with (first | (go_at_call 67; refine (compared_4 a b _).mono ?_; rintro e w' ⟨rfl, rfl⟩) | (go_at_call 48; refine (truth_c _ _).mono ?_; rintro e w' ⟨rfl, rfl⟩) | go_in)
    go_ret2
    exact ⟨by simp [ret, cmpP], hfin.out⟩
  by_cases k4 : k = 16
  · subst k4
    simp [findV] at hl
    clear hk
    go_enter Try.func51, Try.ntmps51
    go_wp2_with (first | (go_at_call 68; refine (compared_5 a b _).mono ?_; rintro e w' ⟨rfl, rfl⟩) | (go_at_call 48; refine (truth_c _ _).mono ?_; rintro e w' ⟨rfl, rfl⟩) | go_in)
    go_ret2
    exact ⟨by simp [ret, cmpP], hfin.out⟩
  by_cases k5 : k = 17
  · subst k5
    simp [findV] at hl
    clear hk
    go_enter Try.func51, Try.ntmps51
    go_wp2_with (first | (go_at_call 69; refine (compared_6 a b _).mono ?_; rintro e w' ⟨rfl, rfl⟩) | (go_at_call 48; refine (truth_c _ _).mono ?_; rintro e w' ⟨rfl, rfl⟩) | go_in)
    go_ret2
    exact ⟨by simp [ret, cmpP], hfin.out⟩
  simp [findV, Ne.symm k0, Ne.symm k1, Ne.symm k2, Ne.symm k3, Ne.symm k4, Ne.symm k5] at hl
  go_enter Try.func51, Try.ntmps51
  go_wp2_with fail
  go_ret2
  exact ⟨by simp [ret, cmpP, k0, k1, k2, k3, k4, k5], hfin.out⟩
end Go.Proofs.Ytimbhdekbceajaa.Me
