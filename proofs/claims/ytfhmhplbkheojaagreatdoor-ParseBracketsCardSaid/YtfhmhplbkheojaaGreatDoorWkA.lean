/- Walk of works: the examples. Conditions: the variables that the packages read hold what they were laid with. -/
import Derived.Test.YtfhmhplbkheojaaGreatDoorPgA
namespace Go.Proofs.YtfhmhplbkheojaaGreatDoor.Pa
open Go Go.RowKit
open Go.Proofs.YtfhmhplbkheojaaGreatDoor.Lx Go.Proofs.YtfhmhplbkheojaaGreatDoor.Tr

set_option maxRecDepth 100000 in
theorem w_tree : parseP ⟨#[103, 108, 111, 98, 97, 108, 32, 120, 32, 61, 32, 45, 49, 59, 32, 108, 111, 99, 107, 32, 108, 59, 32, 116, 104, 114, 101, 97, 100, 32, 116, 32, 123, 32, 119, 105, 116, 104, 32, 108, 32, 123, 32, 120, 32, 61, 32, 120, 32, 43, 32, 49, 32, 42, 32, 50, 59, 32, 125, 32, 125]⟩ = ([⟨1, ⟨#[120]⟩, (-1), none, 0, [], none, 0, [], 0⟩, ⟨3, ⟨#[108]⟩, 0, none, 0, [], none, 0, [], 15⟩, ⟨5, ⟨#[116]⟩, 0, none, 0, [], none, 0, [.mk 6 ⟨#[108]⟩ ⟨#[]⟩ false none 0 [] none 0 [.mk 2 ⟨#[120]⟩ ⟨#[]⟩ false none 0 [.mk 7 ⟨#[]⟩ 0 none 0 [.mk 3 ⟨#[120]⟩ 0 none 0 [] 47, .mk 9 ⟨#[]⟩ 0 none 0 [.mk 1 ⟨#[]⟩ 1 none 0 [] 51, .mk 1 ⟨#[]⟩ 2 none 0 [] 55] 53] 49] none 0 [] none 0 [] 43] none 0 [] 34], 23⟩], 0, 0) := by kernel_rfl
set_option maxRecDepth 100000 in
theorem w_bads : parseP ⟨#[116, 104, 114, 101, 97, 100, 32, 116, 123, 112, 114, 105, 110, 116, 32, 49, 32, 60, 32, 50, 32, 60, 32, 51, 59, 125]⟩ = ([], 21, 63) ∧ parseP ⟨#[116, 104, 114, 101, 97, 100, 32, 116, 123, 112, 114, 105, 110, 116, 32, 57, 50, 50, 51, 51, 55, 50, 48, 51, 54, 56, 53, 52, 55, 55, 53, 56, 48, 56, 59, 125]⟩ = ([], 15, 63) ∧ parseP ⟨#[116, 104, 114, 101, 97, 100, 32, 116, 32, 123]⟩ = ([], 10, 63) ∧ parseP ⟨#[97, 114, 114, 97, 121, 32, 97, 91, 48, 93, 59]⟩ = ([], 0, 40) := ⟨by kernel_rfl, by kernel_rfl, by kernel_rfl, by kernel_rfl⟩
set_option maxHeartbeats 4000000 in
set_option maxRecDepth 100000 in
theorem works_c (w : World) (hw : All w) : Calls Tryz.prog 11 #[] w fun x w' => x = .returned (.bool true) ∧ Below w.heap.size w w' := by
  have hP := parse_c ⟨#[103, 108, 111, 98, 97, 108, 32, 120, 32, 61, 32, 45, 49, 59, 32, 108, 111, 99, 107, 32, 108, 59, 32, 116, 104, 114, 101, 97, 100, 32, 116, 32, 123, 32, 119, 105, 116, 104, 32, 108, 32, 123, 32, 120, 32, 61, 32, 120, 32, 43, 32, 49, 32, 42, 32, 50, 59, 32, 125, 32, 125]⟩ w (by unfold maxLen; decide) hw.tb hw.ht
  rw [w_tree] at hP
  replace hP := Lib.hid hP
  have hC := Lib.hid (fun V (hV : All V) => says_yes ⟨#[97, 32, 62, 32, 98]⟩ ⟨#[108, 116, 40, 118, 58, 98, 32, 118, 58, 97, 41]⟩ V (by decide) hV 5 0 0 ⟨#[116]⟩ [] ⟨#[]⟩ ⟨#[]⟩ false (.mk 12 ⟨#[]⟩ 0 none 0 [.mk 3 ⟨#[98]⟩ 0 none 0 [] 19, .mk 3 ⟨#[97]⟩ 0 none 0 [] 15] 17) [] [] 9 (by kernel_rfl) (by kernel_rfl) (by decide) (by kernel_rfl))
  have hB0 := Lib.hid (fun V (hV : All V) => bad_yes ⟨#[116, 104, 114, 101, 97, 100, 32, 116, 123, 112, 114, 105, 110, 116, 32, 49, 32, 60, 32, 50, 32, 60, 32, 51, 59, 125]⟩ 21 63 V (by unfold maxLen; decide) hV w_bads.1)
  have hB1 := Lib.hid (fun V (hV : All V) => bad_yes ⟨#[116, 104, 114, 101, 97, 100, 32, 116, 123, 112, 114, 105, 110, 116, 32, 57, 50, 50, 51, 51, 55, 50, 48, 51, 54, 56, 53, 52, 55, 55, 53, 56, 48, 56, 59, 125]⟩ 15 63 V (by unfold maxLen; decide) hV w_bads.2.1)
  have hB2 := Lib.hid (fun V (hV : All V) => bad_yes ⟨#[116, 104, 114, 101, 97, 100, 32, 116, 32, 123]⟩ 10 63 V (by unfold maxLen; decide) hV w_bads.2.2.1)
  have hB3 := Lib.hid (fun V (hV : All V) => bad_yes ⟨#[97, 114, 114, 97, 121, 32, 97, 91, 48, 93, 59]⟩ 0 40 V (by unfold maxLen; decide) hV w_bads.2.2.2)
  replace hw := Lib.hid hw
  go_enter Tryz.func11, Tryz.ntmps11
  go_wp2_with fail
  refine hP.out.mono ?_
  rintro x w2 ⟨hb, v, rfl, hV⟩
  clear hP
  obtain ⟨bda, oda, cda, vpda, vbda, rfl, hpda, hbda, da0, da1, da2, da3, da4, da5⟩ := hV.get 0 1 (-1) 0 ⟨#[120]⟩ [] [] rfl
  simp only [Nat.zero_mul, Nat.zero_add, Nat.add_zero] at da0 da1 da2 da3 da4 da5
  obtain ⟨bdb, odb, cdb, vpdb, vbdb, edb, hpdb, hbdb, db0, db1, db2, db3, db4, db5⟩ := hV.get 1 3 0 15 ⟨#[108]⟩ [] [] rfl
  cases edb
  simp only [Nat.reduceMul, Nat.reduceAdd] at db0 db1 db2 db3 db4 db5
  obtain ⟨bdc, odc, cdc, vpdc, vbdc, edc, hpdc, hbdc, dc0, dc1, dc2, dc3, dc4, dc5⟩ := hV.get 2 5 0 23 ⟨#[116]⟩ [] [.mk 6 ⟨#[108]⟩ ⟨#[]⟩ false none 0 [] none 0 [.mk 2 ⟨#[120]⟩ ⟨#[]⟩ false none 0 [.mk 7 ⟨#[]⟩ 0 none 0 [.mk 3 ⟨#[120]⟩ 0 none 0 [] 47, .mk 9 ⟨#[]⟩ 0 none 0 [.mk 1 ⟨#[]⟩ 1 none 0 [] 51, .mk 1 ⟨#[]⟩ 2 none 0 [] 55] 53] 49] none 0 [] none 0 [] 43] none 0 [] 34] rfl
  cases edc
  simp only [Nat.reduceMul, Nat.reduceAdd] at dc0 dc1 dc2 dc3 dc4 dc5
  obtain ⟨bsa, osa, csa, vesa, vbsa, vlsa, rfl, hesa, hbsa, hlsa, sa0, sa1, sa2, sa3, sa4, sa5, sa6, sa7⟩ := hbdc.get 0 6 ⟨#[108]⟩ ⟨#[]⟩ false [] [.mk 2 ⟨#[120]⟩ ⟨#[]⟩ false none 0 [.mk 7 ⟨#[]⟩ 0 none 0 [.mk 3 ⟨#[120]⟩ 0 none 0 [] 47, .mk 9 ⟨#[]⟩ 0 none 0 [.mk 1 ⟨#[]⟩ 1 none 0 [] 51, .mk 1 ⟨#[]⟩ 2 none 0 [] 55] 53] 49] none 0 [] none 0 [] 43] [] 34 rfl
  simp only [Nat.zero_mul, Nat.zero_add, Nat.add_zero] at sa0 sa1 sa2 sa3 sa4 sa5 sa6 sa7
  obtain ⟨bsb, osb, csb, vesb, vbsb, vlsb, rfl, hesb, hbsb, hlsb, sb0, sb1, sb2, sb3, sb4, sb5, sb6, sb7⟩ := hbsa.get 0 2 ⟨#[120]⟩ ⟨#[]⟩ false [.mk 7 ⟨#[]⟩ 0 none 0 [.mk 3 ⟨#[120]⟩ 0 none 0 [] 47, .mk 9 ⟨#[]⟩ 0 none 0 [.mk 1 ⟨#[]⟩ 1 none 0 [] 51, .mk 1 ⟨#[]⟩ 2 none 0 [] 55] 53] 49] [] [] 43 rfl
  simp only [Nat.zero_mul, Nat.zero_add, Nat.add_zero] at sb0 sb1 sb2 sb3 sb4 sb5 sb6 sb7
  obtain ⟨bea, oea, cea, vaea, rfl, haea, ea0, ea1, ea2, ea3, ea4, xea, xaea, xiea, xvea⟩ := hesb.get 0 7 ⟨#[]⟩ 0 [.mk 3 ⟨#[120]⟩ 0 none 0 [] 47, .mk 9 ⟨#[]⟩ 0 none 0 [.mk 1 ⟨#[]⟩ 1 none 0 [] 51, .mk 1 ⟨#[]⟩ 2 none 0 [] 55] 53] 49 rfl
  simp only [Nat.zero_mul, Nat.zero_add, Nat.add_zero] at ea0 ea1 ea2 ea3 ea4
  have hSh := Lib.hid (shape_any _ xea w2 (Nat.le_refl _) (by rw [← shOk_ea, xaea]; kernel_rfl) (by rw [← shp_ea, xaea]; exact of_decide_eq_true (by kernel_rfl)) (Ex.In.mono (fun _ _ => trivial) _ xiea))
  rw [xvea, ← shp_ea, xaea, show shp _ = ⟨#[97, 100, 100, 40, 118, 58, 120, 32, 109, 117, 108, 40, 105, 49, 32, 105, 50, 41, 41]⟩ from by kernel_rfl] at hSh
  replace hb := Lib.hid hb
  clear hV hpda hpdb hpdc hbda hbdb hbdc hesa hbsa hlsa hesb hbsb hlsb haea xaea xiea xvea
  go_wp2_with fail
  refine hSh.out.mono ?_
  rintro x w3 ⟨rfl, hb3⟩
  have hb03 := Lib.hid (hb.out.trans (hb3.mono hb.out.size))
  clear hb3 hb hSh
  go_wp2_with fail
  refine (hC.out w3 (hw.out.below hb03.out)).mono ?_
  rintro x w4 ⟨rfl, hb4⟩
  have hb04 := Lib.hid (hb03.out.trans (hb4.mono hb03.out.size))
  clear hb4 hb03
  go_wp2_with fail
  refine (hB0.out w4 (hw.out.below hb04.out)).mono ?_
  rintro x w5 ⟨rfl, hb5⟩
  have hb05 := Lib.hid (hb04.out.trans (hb5.mono hb04.out.size))
  clear hb5 hb04
  go_wp2_with fail
  refine (hB1.out w5 (hw.out.below hb05.out)).mono ?_
  rintro x w6 ⟨rfl, hb6⟩
  have hb06 := Lib.hid (hb05.out.trans (hb6.mono hb05.out.size))
  clear hb6 hb05
  go_wp2_with fail
  refine (hB2.out w6 (hw.out.below hb06.out)).mono ?_
  rintro x w7 ⟨rfl, hb7⟩
  have hb07 := Lib.hid (hb06.out.trans (hb7.mono hb06.out.size))
  clear hb7 hb06
  go_wp2_with fail
  refine (hB3.out w7 (hw.out.below hb07.out)).mono ?_
  rintro x w8 ⟨rfl, hb8⟩
  have hb08 := Lib.hid (hb07.out.trans (hb8.mono hb07.out.size))
  clear hb8 hb07
  go_wp2_with fail
  go_ret
  exact ⟨rfl, hb08.out⟩
end Go.Proofs.YtfhmhplbkheojaaGreatDoor.Pa
