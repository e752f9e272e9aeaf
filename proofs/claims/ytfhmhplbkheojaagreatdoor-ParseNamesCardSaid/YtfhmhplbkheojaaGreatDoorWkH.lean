/- Walk of limits: what is too many, and too deep. Conditions: 2,000 brackets within one another are read. -/
import Derived.Test.YtfhmhplbkheojaaGreatDoorWkG
namespace Go.Proofs.YtfhmhplbkheojaaGreatDoor.Pa
open Go Go.RowKit
open Go.Proofs.YtfhmhplbkheojaaGreatDoor.Lx Go.Proofs.YtfhmhplbkheojaaGreatDoor.Tr

set_option maxHeartbeats 8000000 in
set_option maxRecDepth 100000 in
theorem limits_c (h5 : Deep) (w : World) (hw : All w) : Calls Tryz.prog 15 #[] w fun x w' => x = .returned (.bool true) ∧ Below w.heap.size w w' := by
  have hPo := Lib.hid (fun (t : ByteArray) (ht : t ∈ okTab) V (hV : All V) => (parse_c t V (by have := tab_sz.1 t ht; unfold maxLen; omega) hV.tb hV.ht).mono fun e w' h => (⟨h.1, by obtain ⟨v, he, _⟩ := h.2; rw [ok_all h5 t ht] at he; exact ⟨v, _, he⟩⟩ : Below V.heap.size V w' ∧ ∃ v a, e = .returned (.tuple #[v, .int .i64 a, .int .i64 0])))
  have hBn := Lib.hid (fun (t : ByteArray) (ht : t ∈ noTab) V (hV : All V) => bad_yes t 0 40 V (by have := tab_sz.2 t ht; unfold maxLen; omega) hV (no_all t ht))
  obtain ⟨m1, hm1⟩ : ∃ x, (⟨⟨repL 256 lkL⟩⟩ : ByteArray) = x := ⟨_, rfl⟩
  have km1 : Hid (∀ W, Calls Tryz.prog 25 #[.int .i64 256, .string ⟨#[108, 111, 99, 107, 32, 108, 59]⟩] W fun x w' => x = .returned (.string m1) ∧ Below W.heap.size W w') := Lib.hid fun W => by rw [← hm1]; exact many_c 256 lkL W (by decide) (by decide)
  obtain ⟨m2, hm2⟩ : ∃ x, (⟨⟨repL 58 [45]⟩⟩ : ByteArray) = x := ⟨_, rfl⟩
  have km2 : Hid (∀ W, Calls Tryz.prog 25 #[.int .i64 58, .string ⟨#[45]⟩] W fun x w' => x = .returned (.string m2) ∧ Below W.heap.size W w') := Lib.hid fun W => by rw [← hm2]; exact many_c 58 [45] W (by decide) (by decide)
  obtain ⟨s10, hs10⟩ : ∃ z, (⟨⟨preL ++ repL 58 [45]⟩⟩ : ByteArray) = z := ⟨_, rfl⟩
  have as10 : ∀ W : World, (Op.stringOp .add ⟨#[116, 104, 114, 101, 97, 100, 32, 116, 123, 112, 114, 105, 110, 116, 32]⟩ m2).run Tryz.prog W = .ok (.string s10) W := fun W => by rw [← hs10]; exact add_lit ⟨#[116, 104, 114, 101, 97, 100, 32, 116, 123, 112, 114, 105, 110, 116, 32]⟩ m2 (preL) (repL 58 [45]) (rfl) (hm2.symm) (of_decide_eq_true (by kernel_rfl)) (of_decide_eq_true (by kernel_rfl)) W
  obtain ⟨s11, hs11⟩ : ∃ z, (⟨⟨preL ++ repL 58 [45] ++ [49, 59, 125]⟩⟩ : ByteArray) = z := ⟨_, rfl⟩
  have as11 : ∀ W : World, (Op.stringOp .add s10 ⟨#[49, 59, 125]⟩).run Tryz.prog W = .ok (.string s11) W := fun W => by rw [← hs11]; exact add_lit s10 ⟨#[49, 59, 125]⟩ (preL ++ repL 58 [45]) ([49, 59, 125]) (hs10.symm) (rfl) (of_decide_eq_true (by kernel_rfl)) (of_decide_eq_true (by kernel_rfl)) W
  obtain ⟨m3, hm3⟩ : ∃ x, (⟨⟨repL 59 ifL⟩⟩ : ByteArray) = x := ⟨_, rfl⟩
  have km3 : Hid (∀ W, Calls Tryz.prog 25 #[.int .i64 59, .string ⟨#[105, 102, 32, 97, 32, 123]⟩] W fun x w' => x = .returned (.string m3) ∧ Below W.heap.size W w') := Lib.hid fun W => by rw [← hm3]; exact many_c 59 ifL W (by decide) (by decide)
  obtain ⟨s13, hs13⟩ : ∃ z, (⟨⟨thL ++ repL 59 ifL⟩⟩ : ByteArray) = z := ⟨_, rfl⟩
  have as13 : ∀ W : World, (Op.stringOp .add ⟨#[116, 104, 114, 101, 97, 100, 32, 116, 123]⟩ m3).run Tryz.prog W = .ok (.string s13) W := fun W => by rw [← hs13]; exact add_lit ⟨#[116, 104, 114, 101, 97, 100, 32, 116, 123]⟩ m3 (thL) (repL 59 ifL) (rfl) (hm3.symm) (of_decide_eq_true (by kernel_rfl)) (of_decide_eq_true (by kernel_rfl)) W
  obtain ⟨m4, hm4⟩ : ∃ x, (⟨⟨repL 59 [125]⟩⟩ : ByteArray) = x := ⟨_, rfl⟩
  have km4 : Hid (∀ W, Calls Tryz.prog 25 #[.int .i64 59, .string ⟨#[125]⟩] W fun x w' => x = .returned (.string m4) ∧ Below W.heap.size W w') := Lib.hid fun W => by rw [← hm4]; exact many_c 59 [125] W (by decide) (by decide)
  obtain ⟨s15, hs15⟩ : ∃ z, (⟨⟨thL ++ repL 59 ifL ++ repL 59 [125]⟩⟩ : ByteArray) = z := ⟨_, rfl⟩
  have as15 : ∀ W : World, (Op.stringOp .add s13 m4).run Tryz.prog W = .ok (.string s15) W := fun W => by rw [← hs15]; exact add_lit s13 m4 (thL ++ repL 59 ifL) (repL 59 [125]) (hs13.symm) (hm4.symm) (of_decide_eq_true (by kernel_rfl)) (of_decide_eq_true (by kernel_rfl)) W
  obtain ⟨s16, hs16⟩ : ∃ z, (⟨⟨thL ++ repL 59 ifL ++ repL 59 [125] ++ [125]⟩⟩ : ByteArray) = z := ⟨_, rfl⟩
  have as16 : ∀ W : World, (Op.stringOp .add s15 ⟨#[125]⟩).run Tryz.prog W = .ok (.string s16) W := fun W => by rw [← hs16]; exact add_lit s15 ⟨#[125]⟩ (thL ++ repL 59 ifL ++ repL 59 [125]) ([125]) (hs15.symm) (rfl) (of_decide_eq_true (by kernel_rfl)) (of_decide_eq_true (by kernel_rfl)) W
  obtain ⟨m5, hm5⟩ : ∃ x, (⟨⟨repL 2000 [40]⟩⟩ : ByteArray) = x := ⟨_, rfl⟩
  have km5 : Hid (∀ W, Calls Tryz.prog 25 #[.int .i64 2000, .string ⟨#[40]⟩] W fun x w' => x = .returned (.string m5) ∧ Below W.heap.size W w') := Lib.hid fun W => by rw [← hm5]; exact many_c 2000 [40] W (by decide) (by decide)
  obtain ⟨s18, hs18⟩ : ∃ z, (⟨⟨preL ++ repL 2000 [40]⟩⟩ : ByteArray) = z := ⟨_, rfl⟩
  have as18 : ∀ W : World, (Op.stringOp .add ⟨#[116, 104, 114, 101, 97, 100, 32, 116, 123, 112, 114, 105, 110, 116, 32]⟩ m5).run Tryz.prog W = .ok (.string s18) W := fun W => by rw [← hs18]; exact add_lit ⟨#[116, 104, 114, 101, 97, 100, 32, 116, 123, 112, 114, 105, 110, 116, 32]⟩ m5 (preL) (repL 2000 [40]) (rfl) (hm5.symm) (of_decide_eq_true (by kernel_rfl)) (of_decide_eq_true (by kernel_rfl)) W
  obtain ⟨s19, hs19⟩ : ∃ z, (⟨⟨preL ++ repL 2000 [40] ++ [49]⟩⟩ : ByteArray) = z := ⟨_, rfl⟩
  have as19 : ∀ W : World, (Op.stringOp .add s18 ⟨#[49]⟩).run Tryz.prog W = .ok (.string s19) W := fun W => by rw [← hs19]; exact add_lit s18 ⟨#[49]⟩ (preL ++ repL 2000 [40]) ([49]) (hs18.symm) (rfl) (of_decide_eq_true (by kernel_rfl)) (of_decide_eq_true (by kernel_rfl)) W
  obtain ⟨m6, hm6⟩ : ∃ x, (⟨⟨repL 2000 [41]⟩⟩ : ByteArray) = x := ⟨_, rfl⟩
  have km6 : Hid (∀ W, Calls Tryz.prog 25 #[.int .i64 2000, .string ⟨#[41]⟩] W fun x w' => x = .returned (.string m6) ∧ Below W.heap.size W w') := Lib.hid fun W => by rw [← hm6]; exact many_c 2000 [41] W (by decide) (by decide)
  obtain ⟨s21, hs21⟩ : ∃ z, (⟨⟨preL ++ repL 2000 [40] ++ [49] ++ repL 2000 [41]⟩⟩ : ByteArray) = z := ⟨_, rfl⟩
  have as21 : ∀ W : World, (Op.stringOp .add s19 m6).run Tryz.prog W = .ok (.string s21) W := fun W => by rw [← hs21]; exact add_lit s19 m6 (preL ++ repL 2000 [40] ++ [49]) (repL 2000 [41]) (hs19.symm) (hm6.symm) (of_decide_eq_true (by kernel_rfl)) (of_decide_eq_true (by kernel_rfl)) W
  obtain ⟨s22, hs22⟩ : ∃ z, (⟨⟨preL ++ repL 2000 [40] ++ [49] ++ repL 2000 [41] ++ [59, 125]⟩⟩ : ByteArray) = z := ⟨_, rfl⟩
  have as22 : ∀ W : World, (Op.stringOp .add s21 ⟨#[59, 125]⟩).run Tryz.prog W = .ok (.string s22) W := fun W => by rw [← hs22]; exact add_lit s21 ⟨#[59, 125]⟩ (preL ++ repL 2000 [40] ++ [49] ++ repL 2000 [41]) ([59, 125]) (hs21.symm) (rfl) (of_decide_eq_true (by kernel_rfl)) (of_decide_eq_true (by kernel_rfl)) W
  have hok : okTab = [m1, s11, s16, ⟨#[102, 117, 110, 99, 32, 102, 40, 97, 44, 97, 44, 97, 44, 97, 44, 97, 44, 97, 44, 97, 44, 97, 41, 123, 125]⟩, ⟨#[116, 104, 114, 101, 97, 100, 32, 116, 123, 99, 97, 108, 108, 32, 102, 40, 49, 44, 49, 44, 49, 44, 49, 44, 49, 44, 49, 44, 49, 44, 49, 41, 59, 125]⟩, s22, ⟨#[]⟩] := by rw [← hm1, ← hs11, ← hs16, ← hs22]; rfl
  obtain ⟨n1, hn1⟩ : ∃ x, (⟨⟨repL 257 lkL⟩⟩ : ByteArray) = x := ⟨_, rfl⟩
  have kn1 : Hid (∀ W, Calls Tryz.prog 25 #[.int .i64 257, .string ⟨#[108, 111, 99, 107, 32, 108, 59]⟩] W fun x w' => x = .returned (.string n1) ∧ Below W.heap.size W w') := Lib.hid fun W => by rw [← hn1]; exact many_c 257 lkL W (by decide) (by decide)
  obtain ⟨n2, hn2⟩ : ∃ x, (⟨⟨repL 59 [45]⟩⟩ : ByteArray) = x := ⟨_, rfl⟩
  have kn2 : Hid (∀ W, Calls Tryz.prog 25 #[.int .i64 59, .string ⟨#[45]⟩] W fun x w' => x = .returned (.string n2) ∧ Below W.heap.size W w') := Lib.hid fun W => by rw [← hn2]; exact many_c 59 [45] W (by decide) (by decide)
  obtain ⟨r43, hr43⟩ : ∃ z, (⟨⟨preL ++ repL 59 [45]⟩⟩ : ByteArray) = z := ⟨_, rfl⟩
  have ar43 : ∀ W : World, (Op.stringOp .add ⟨#[116, 104, 114, 101, 97, 100, 32, 116, 123, 112, 114, 105, 110, 116, 32]⟩ n2).run Tryz.prog W = .ok (.string r43) W := fun W => by rw [← hr43]; exact add_lit ⟨#[116, 104, 114, 101, 97, 100, 32, 116, 123, 112, 114, 105, 110, 116, 32]⟩ n2 (preL) (repL 59 [45]) (rfl) (hn2.symm) (of_decide_eq_true (by kernel_rfl)) (of_decide_eq_true (by kernel_rfl)) W
  obtain ⟨r44, hr44⟩ : ∃ z, (⟨⟨preL ++ repL 59 [45] ++ [49, 59, 125]⟩⟩ : ByteArray) = z := ⟨_, rfl⟩
  have ar44 : ∀ W : World, (Op.stringOp .add r43 ⟨#[49, 59, 125]⟩).run Tryz.prog W = .ok (.string r44) W := fun W => by rw [← hr44]; exact add_lit r43 ⟨#[49, 59, 125]⟩ (preL ++ repL 59 [45]) ([49, 59, 125]) (hr43.symm) (rfl) (of_decide_eq_true (by kernel_rfl)) (of_decide_eq_true (by kernel_rfl)) W
  obtain ⟨n3, hn3⟩ : ∃ x, (⟨⟨repL 60 ifL⟩⟩ : ByteArray) = x := ⟨_, rfl⟩
  have kn3 : Hid (∀ W, Calls Tryz.prog 25 #[.int .i64 60, .string ⟨#[105, 102, 32, 97, 32, 123]⟩] W fun x w' => x = .returned (.string n3) ∧ Below W.heap.size W w') := Lib.hid fun W => by rw [← hn3]; exact many_c 60 ifL W (by decide) (by decide)
  obtain ⟨r46, hr46⟩ : ∃ z, (⟨⟨thL ++ repL 60 ifL⟩⟩ : ByteArray) = z := ⟨_, rfl⟩
  have ar46 : ∀ W : World, (Op.stringOp .add ⟨#[116, 104, 114, 101, 97, 100, 32, 116, 123]⟩ n3).run Tryz.prog W = .ok (.string r46) W := fun W => by rw [← hr46]; exact add_lit ⟨#[116, 104, 114, 101, 97, 100, 32, 116, 123]⟩ n3 (thL) (repL 60 ifL) (rfl) (hn3.symm) (of_decide_eq_true (by kernel_rfl)) (of_decide_eq_true (by kernel_rfl)) W
  obtain ⟨n4, hn4⟩ : ∃ x, (⟨⟨repL 60 [125]⟩⟩ : ByteArray) = x := ⟨_, rfl⟩
  have kn4 : Hid (∀ W, Calls Tryz.prog 25 #[.int .i64 60, .string ⟨#[125]⟩] W fun x w' => x = .returned (.string n4) ∧ Below W.heap.size W w') := Lib.hid fun W => by rw [← hn4]; exact many_c 60 [125] W (by decide) (by decide)
  obtain ⟨r48, hr48⟩ : ∃ z, (⟨⟨thL ++ repL 60 ifL ++ repL 60 [125]⟩⟩ : ByteArray) = z := ⟨_, rfl⟩
  have ar48 : ∀ W : World, (Op.stringOp .add r46 n4).run Tryz.prog W = .ok (.string r48) W := fun W => by rw [← hr48]; exact add_lit r46 n4 (thL ++ repL 60 ifL) (repL 60 [125]) (hr46.symm) (hn4.symm) (of_decide_eq_true (by kernel_rfl)) (of_decide_eq_true (by kernel_rfl)) W
  obtain ⟨r49, hr49⟩ : ∃ z, (⟨⟨thL ++ repL 60 ifL ++ repL 60 [125] ++ [125]⟩⟩ : ByteArray) = z := ⟨_, rfl⟩
  have ar49 : ∀ W : World, (Op.stringOp .add r48 ⟨#[125]⟩).run Tryz.prog W = .ok (.string r49) W := fun W => by rw [← hr49]; exact add_lit r48 ⟨#[125]⟩ (thL ++ repL 60 ifL ++ repL 60 [125]) ([125]) (hr48.symm) (rfl) (of_decide_eq_true (by kernel_rfl)) (of_decide_eq_true (by kernel_rfl)) W
  have hno : noTab = [n1, r44, r49, ⟨#[102, 117, 110, 99, 32, 102, 40, 97, 44, 97, 44, 97, 44, 97, 44, 97, 44, 97, 44, 97, 44, 97, 44, 97, 41, 123, 125]⟩, ⟨#[116, 104, 114, 101, 97, 100, 32, 116, 123, 99, 97, 108, 108, 32, 102, 40, 49, 44, 49, 44, 49, 44, 49, 44, 49, 44, 49, 44, 49, 44, 49, 44, 49, 41, 59, 125]⟩, ⟨#[97, 114, 114, 97, 121, 32, 97, 91, 49, 48, 50, 53, 93, 59]⟩, ⟨#[97, 114, 114, 97, 121, 32, 97, 91, 57, 50, 50, 51, 51, 55, 50, 48, 51, 54, 56, 53, 52, 55, 55, 53, 56, 48, 55, 93, 59]⟩] := by rw [← hn1, ← hr44, ← hr49]; rfl
  obtain ⟨rx, hrx⟩ : ∃ z, (⟨⟨repL 257 lkL ++ [120]⟩⟩ : ByteArray) = z := ⟨_, rfl⟩
  have arx : ∀ W : World, (Op.stringOp .add n1 ⟨#[120]⟩).run Tryz.prog W = .ok (.string rx) W := fun W => by rw [← hrx]; exact add_lit n1 ⟨#[120]⟩ (repL 257 lkL) ([120]) (hn1.symm) (rfl) (of_decide_eq_true (by kernel_rfl)) (of_decide_eq_true (by kernel_rfl)) W
  have hBx := Lib.hid (fun V (hV : All V) => bad_yes rx 1799 63 V (by rw [← hrx, size_lit, List.length_append, repL_len]; unfold maxLen; decide) hV (by rw [← hrx]; exact nox))
  rw [hok] at hPo
  rw [hno] at hBn
  clear hm1 hm2 hs10 hs11 hm3 hs13 hm4 hs15 hs16 hm5 hs18 hs19 hm6 hs21 hs22 hn1 hn2 hr43 hr44 hn3 hr46 hn4 hr48 hr49 hrx hok hno
  have g0 : Hid (Below w.heap.size w w) := Lib.hid (Below.refl _ _)
  replace hw := Lib.hid hw
  go_enter Tryz.func15, Tryz.ntmps15
  go_wp2_with fail
  refine (km1.out _).mono ?_
  rintro e wm1 ⟨rfl, hbwm1⟩
  have gwm1 := Lib.hid (g0.out.trans (hbwm1.mono g0.out.size))
  clear hbwm1
  go_wp2_with fail
  refine (km2.out _).mono ?_
  rintro e wm2 ⟨rfl, hbwm2⟩
  have gwm2 := Lib.hid (gwm1.out.trans (hbwm2.mono gwm1.out.size))
  clear hbwm2
  go_wp2_with fail
  refine (km3.out _).mono ?_
  rintro e wm3 ⟨rfl, hbwm3⟩
  have gwm3 := Lib.hid (gwm2.out.trans (hbwm3.mono gwm2.out.size))
  clear hbwm3
  go_wp2_with fail
  refine (km4.out _).mono ?_
  rintro e wm4 ⟨rfl, hbwm4⟩
  have gwm4 := Lib.hid (gwm3.out.trans (hbwm4.mono gwm3.out.size))
  clear hbwm4
  go_wp2_with fail
  refine (km5.out _).mono ?_
  rintro e wm5 ⟨rfl, hbwm5⟩
  have gwm5 := Lib.hid (gwm4.out.trans (hbwm5.mono gwm4.out.size))
  clear hbwm5
  go_wp2_with fail
  refine (km6.out _).mono ?_
  rintro e wm6 ⟨rfl, hbwm6⟩
  have gwm6 := Lib.hid (gwm5.out.trans (hbwm6.mono gwm5.out.size))
  clear hbwm6
  obtain ⟨W1, hW1⟩ : ∃ W, wm6.alloc (.cells #[.string m1, .string s11, .string s16, .string ⟨#[102, 117, 110, 99, 32, 102, 40, 97, 44, 97, 44, 97, 44, 97, 44, 97, 44, 97, 44, 97, 44, 97, 41, 123, 125]⟩, .string ⟨#[116, 104, 114, 101, 97, 100, 32, 116, 123, 99, 97, 108, 108, 32, 102, 40, 49, 44, 49, 44, 49, 44, 49, 44, 49, 44, 49, 44, 49, 44, 49, 41, 59, 125]⟩, .string s22, .string ⟨#[]⟩] 9) = W := ⟨_, rfl⟩
  have hb1 : Below w.heap.size w W1 := by rw [← hW1]; exact gwm6.out.alloc gwm6.out.size _
  have hr1 : W1.heap[wm6.heap.size]? = some (.cells #[.string m1, .string s11, .string s16, .string ⟨#[102, 117, 110, 99, 32, 102, 40, 97, 44, 97, 44, 97, 44, 97, 44, 97, 44, 97, 44, 97, 44, 97, 41, 123, 125]⟩, .string ⟨#[116, 104, 114, 101, 97, 100, 32, 116, 123, 99, 97, 108, 108, 32, 102, 40, 49, 44, 49, 44, 49, 44, 49, 44, 49, 44, 49, 44, 49, 44, 49, 41, 59, 125]⟩, .string s22, .string ⟨#[]⟩] 9 (0, 0)) := by rw [← hW1]; exact World.alloc_heap_new _ _
  have hs1 := cells_lt hr1
  replace hb1 := Lib.hid hb1
  replace hr1 := Lib.hid hr1
  go_wp2_with fail
  go_loopw [2] (fun v wr => ∃ i : Nat, i ≤ 7 ∧ v = .int .i64 i ∧ Below W1.heap.size W1 wr) (fun v _ => 7 - (intOf v).toNat)
  case atStart => exact ⟨0, by omega, rfl, Below.refl _ _⟩
  case round =>
    obtain ⟨i, hi, rfl, hbr⟩ := hrel
    have hbw := hb1.out.trans (hbr.mono hb1.out.size)
    have hrr := (hbr.block _ hs1).trans hr1.out
    by_cases hlt : i < 7
    · obtain ⟨x, hx⟩ : ∃ x, ([m1, s11, s16, ⟨#[102, 117, 110, 99, 32, 102, 40, 97, 44, 97, 44, 97, 44, 97, 44, 97, 44, 97, 44, 97, 44, 97, 41, 123, 125]⟩, ⟨#[116, 104, 114, 101, 97, 100, 32, 116, 123, 99, 97, 108, 108, 32, 102, 40, 49, 44, 49, 44, 49, 44, 49, 44, 49, 44, 49, 44, 49, 44, 49, 41, 59, 125]⟩, s22, ⟨#[]⟩] : List ByteArray)[i]? = some x := ⟨_, List.getElem?_eq_getElem (by simpa using hlt)⟩
      have d0 : wr.cell? ⟨wm6.heap.size, i, none⟩ = some (.string x) := blk_cell hrr (by
        have h := congrArg (Option.map Value.string) hx
        rw [← List.getElem?_map] at h
        simpa using h)
      have hPx := Lib.hid (hPo.out x (List.mem_of_getElem? hx) wr (hw.out.below hbw))
      have hi0 : (0 : Int) ≤ (i : Int) := by omega
      have hi1 : (i : Int) < 7 := by omega
      replace hbw := Lib.hid hbw
      replace hbr := Lib.hid hbr
      clear hrr hx
      go_wp2_with fail
      refine hPx.out.mono ?_
      rintro e w3 ⟨hb3, v, a, rfl⟩
      have hb4 := Lib.hid (hbr.out.trans (hb3.mono hbr.out.size))
      clear hb3
      go_wp2_with fail
      go_roundw
      case rel => exact ⟨i + 1, by omega, by go_num, hb4.out⟩
      case measure => simp [intOf]; omega
    · have hi1 : ¬ (i : Int) < 7 := by omega
      have gl := Lib.hid hbw
      clear hrr hbr hPo
      go_wp2_with fail
      refine (kn1.out _).mono ?_
      rintro e wn1 ⟨rfl, hbwn1⟩
      have gwn1 := Lib.hid (gl.out.trans (hbwn1.mono gl.out.size))
      clear hbwn1
      go_wp2_with fail
      refine (kn2.out _).mono ?_
      rintro e wn2 ⟨rfl, hbwn2⟩
      have gwn2 := Lib.hid (gwn1.out.trans (hbwn2.mono gwn1.out.size))
      clear hbwn2
      go_wp2_with fail
      refine (kn3.out _).mono ?_
      rintro e wn3 ⟨rfl, hbwn3⟩
      have gwn3 := Lib.hid (gwn2.out.trans (hbwn3.mono gwn2.out.size))
      clear hbwn3
      go_wp2_with fail
      refine (kn4.out _).mono ?_
      rintro e wn4 ⟨rfl, hbwn4⟩
      have gwn4 := Lib.hid (gwn3.out.trans (hbwn4.mono gwn3.out.size))
      clear hbwn4
      obtain ⟨W2, hW2⟩ : ∃ W, wn4.alloc (.cells #[.string n1, .string r44, .string r49, .string ⟨#[102, 117, 110, 99, 32, 102, 40, 97, 44, 97, 44, 97, 44, 97, 44, 97, 44, 97, 44, 97, 44, 97, 44, 97, 41, 123, 125]⟩, .string ⟨#[116, 104, 114, 101, 97, 100, 32, 116, 123, 99, 97, 108, 108, 32, 102, 40, 49, 44, 49, 44, 49, 44, 49, 44, 49, 44, 49, 44, 49, 44, 49, 44, 49, 41, 59, 125]⟩, .string ⟨#[97, 114, 114, 97, 121, 32, 97, 91, 49, 48, 50, 53, 93, 59]⟩, .string ⟨#[97, 114, 114, 97, 121, 32, 97, 91, 57, 50, 50, 51, 51, 55, 50, 48, 51, 54, 56, 53, 52, 55, 55, 53, 56, 48, 55, 93, 59]⟩] 9) = W := ⟨_, rfl⟩
      have hb2 : Below w.heap.size w W2 := by rw [← hW2]; exact gwn4.out.alloc gwn4.out.size _
      have hr2 : W2.heap[wn4.heap.size]? = some (.cells #[.string n1, .string r44, .string r49, .string ⟨#[102, 117, 110, 99, 32, 102, 40, 97, 44, 97, 44, 97, 44, 97, 44, 97, 44, 97, 44, 97, 44, 97, 44, 97, 41, 123, 125]⟩, .string ⟨#[116, 104, 114, 101, 97, 100, 32, 116, 123, 99, 97, 108, 108, 32, 102, 40, 49, 44, 49, 44, 49, 44, 49, 44, 49, 44, 49, 44, 49, 44, 49, 44, 49, 41, 59, 125]⟩, .string ⟨#[97, 114, 114, 97, 121, 32, 97, 91, 49, 48, 50, 53, 93, 59]⟩, .string ⟨#[97, 114, 114, 97, 121, 32, 97, 91, 57, 50, 50, 51, 51, 55, 50, 48, 51, 54, 56, 53, 52, 55, 55, 53, 56, 48, 55, 93, 59]⟩] 9 (0, 0)) := by rw [← hW2]; exact World.alloc_heap_new _ _
      have hs2 := cells_lt hr2
      replace hb2 := Lib.hid hb2
      replace hr2 := Lib.hid hr2
      go_wp2_with fail
      go_loopw [52] (fun v wr => ∃ i : Nat, i ≤ 7 ∧ v = .int .i64 i ∧ Below W2.heap.size W2 wr) (fun v _ => 7 - (intOf v).toNat)
      case atStart => exact ⟨0, by omega, rfl, Below.refl _ _⟩
      case round =>
        obtain ⟨j, hj, rfl, hbr⟩ := hrel
        have hbw := hb2.out.trans (hbr.mono hb2.out.size)
        have hrr := (hbr.block _ hs2).trans hr2.out
        by_cases hlt : j < 7
        · obtain ⟨x, hx⟩ : ∃ x, ([n1, r44, r49, ⟨#[102, 117, 110, 99, 32, 102, 40, 97, 44, 97, 44, 97, 44, 97, 44, 97, 44, 97, 44, 97, 44, 97, 44, 97, 41, 123, 125]⟩, ⟨#[116, 104, 114, 101, 97, 100, 32, 116, 123, 99, 97, 108, 108, 32, 102, 40, 49, 44, 49, 44, 49, 44, 49, 44, 49, 44, 49, 44, 49, 44, 49, 44, 49, 41, 59, 125]⟩, ⟨#[97, 114, 114, 97, 121, 32, 97, 91, 49, 48, 50, 53, 93, 59]⟩, ⟨#[97, 114, 114, 97, 121, 32, 97, 91, 57, 50, 50, 51, 51, 55, 50, 48, 51, 54, 56, 53, 52, 55, 55, 53, 56, 48, 55, 93, 59]⟩] : List ByteArray)[j]? = some x := ⟨_, List.getElem?_eq_getElem (by simpa using hlt)⟩
          have d0 : wr.cell? ⟨wn4.heap.size, j, none⟩ = some (.string x) := blk_cell hrr (by
            have h := congrArg (Option.map Value.string) hx
            rw [← List.getElem?_map] at h
            simpa using h)
          have hPx := Lib.hid (hBn.out x (List.mem_of_getElem? hx) wr (hw.out.below hbw))
          have hi0 : (0 : Int) ≤ (j : Int) := by omega
          have hi1 : (j : Int) < 7 := by omega
          replace hbw := Lib.hid hbw
          replace hbr := Lib.hid hbr
          clear hrr hx
          go_wp2_with fail
          refine hPx.out.mono ?_
          rintro e w3 ⟨rfl, hb3⟩
          have hb4 := Lib.hid (hbr.out.trans (hb3.mono hbr.out.size))
          clear hb3
          go_wp2_with fail
          go_roundw
          case rel => exact ⟨j + 1, by omega, by go_num, hb4.out⟩
          case measure => simp [intOf]; omega
        · have hi1 : ¬ (j : Int) < 7 := by omega
          have gz := Lib.hid hbw
          clear hrr hbr
          go_wp2_with fail
          refine (kn1.out _).mono ?_
          rintro e w8 ⟨rfl, hb8⟩
          have gy := Lib.hid (gz.out.trans (hb8.mono gz.out.size))
          clear hb8
          go_wp2_with fail
          refine (hBx.out w8 (hw.out.below gy.out)).mono ?_
          rintro e w9 ⟨rfl, hb9⟩
          have gx := Lib.hid (gy.out.trans (hb9.mono gy.out.size))
          clear hb9
          go_wp2_with fail
          go_ret
          exact ⟨rfl, gx.out⟩
end Go.Proofs.YtfhmhplbkheojaaGreatDoor.Pa
