/- Walk of stmts: what statements and declarations become. Conditions: the variables that the packages read hold what they were laid with. -/
import Derived.Test.YtfhmhplbkheojaaGreatDoorPgA
import Derived.Test.YtfhmhplbkheojaaGreatDoorGrAX
import Derived.Test.YtfhmhplbkheojaaGreatDoorGrAY
namespace Go.Proofs.YtfhmhplbkheojaaGreatDoor.Pa
open Go Go.RowKit
open Go.Proofs.YtfhmhplbkheojaaGreatDoor.Lx Go.Proofs.YtfhmhplbkheojaaGreatDoor.Tr

set_option maxRecDepth 100000 in
theorem st_tree : parseP ⟨#[102, 117, 110, 99, 32, 102, 40, 97, 44, 32, 98, 41, 32, 123, 32, 118, 97, 114, 32, 120, 32, 61, 32, 49, 59, 32, 120, 32, 61, 32, 50, 59, 32, 109, 91, 49, 93, 32, 61, 32, 51, 59, 32, 105, 102, 32, 97, 32, 123, 32, 125, 32, 105, 102, 32, 97, 32, 123, 32, 112, 114, 105, 110, 116, 32, 49, 59, 32, 125, 32, 101, 108, 115, 101, 32, 123, 32, 112, 114, 105, 110, 116, 32, 50, 59, 32, 112, 114, 105, 110, 116, 32, 51, 59, 32, 125, 32, 119, 104, 105, 108, 101, 32, 98, 32, 123, 32, 125, 32, 99, 97, 108, 108, 32, 102, 40, 41, 59, 32, 121, 32, 61, 32, 99, 97, 108, 108, 32, 102, 40, 49, 44, 32, 50, 41, 59, 32, 118, 97, 114, 32, 122, 32, 61, 32, 99, 97, 108, 108, 32, 102, 40, 51, 41, 59, 32, 114, 101, 116, 117, 114, 110, 32, 52, 59, 32, 125, 32, 97, 114, 114, 97, 121, 32, 109, 91, 49, 48, 50, 52, 93, 59, 32, 103, 108, 111, 98, 97, 108, 32, 121, 32, 61, 32, 57, 50, 50, 51, 51, 55, 50, 48, 51, 54, 56, 53, 52, 55, 55, 53, 56, 48, 55, 59, 32, 103, 108, 111, 98, 97, 108, 32, 119, 32, 61, 32, 45, 57, 50, 50, 51, 51, 55, 50, 48, 51, 54, 56, 53, 52, 55, 55, 53, 56, 48, 56, 59, 32, 102, 117, 110, 99, 32, 103, 40, 41, 32, 123, 32, 125]⟩ = ([⟨4, ⟨#[102]⟩, 0, none, 0, [⟨#[97]⟩, ⟨#[98]⟩], none, 0, [.mk 1 ⟨#[120]⟩ ⟨#[]⟩ false none 0 [.mk 1 ⟨#[]⟩ 1 none 0 [] 23] none 0 [] none 0 [] 15, .mk 2 ⟨#[120]⟩ ⟨#[]⟩ false none 0 [.mk 1 ⟨#[]⟩ 2 none 0 [] 30] none 0 [] none 0 [] 26, .mk 3 ⟨#[109]⟩ ⟨#[]⟩ false none 0 [.mk 1 ⟨#[]⟩ 1 none 0 [] 35, .mk 1 ⟨#[]⟩ 3 none 0 [] 40] none 0 [] none 0 [] 33, .mk 4 ⟨#[]⟩ ⟨#[]⟩ false none 0 [.mk 3 ⟨#[97]⟩ 0 none 0 [] 46] none 0 [] none 0 [] 43, .mk 4 ⟨#[]⟩ ⟨#[]⟩ false none 0 [.mk 3 ⟨#[97]⟩ 0 none 0 [] 55] none 0 [.mk 7 ⟨#[]⟩ ⟨#[]⟩ false none 0 [.mk 1 ⟨#[]⟩ 1 none 0 [] 65] none 0 [] none 0 [] 59] none 0 [.mk 7 ⟨#[]⟩ ⟨#[]⟩ false none 0 [.mk 1 ⟨#[]⟩ 2 none 0 [] 83] none 0 [] none 0 [] 77, .mk 7 ⟨#[]⟩ ⟨#[]⟩ false none 0 [.mk 1 ⟨#[]⟩ 3 none 0 [] 92] none 0 [] none 0 [] 86] 52, .mk 5 ⟨#[]⟩ ⟨#[]⟩ false none 0 [.mk 3 ⟨#[98]⟩ 0 none 0 [] 103] none 0 [] none 0 [] 97, .mk 8 ⟨#[102]⟩ ⟨#[]⟩ false none 0 [] none 0 [] none 0 [] 109, .mk 8 ⟨#[102]⟩ ⟨#[121]⟩ false none 0 [.mk 1 ⟨#[]⟩ 1 none 0 [] 130, .mk 1 ⟨#[]⟩ 2 none 0 [] 133] none 0 [] none 0 [] 119, .mk 8 ⟨#[102]⟩ ⟨#[122]⟩ true none 0 [.mk 1 ⟨#[]⟩ 3 none 0 [] 152] none 0 [] none 0 [] 137, .mk 9 ⟨#[]⟩ ⟨#[]⟩ false none 0 [.mk 1 ⟨#[]⟩ 4 none 0 [] 163] none 0 [] none 0 [] 156], 0⟩, ⟨2, ⟨#[109]⟩, 1024, none, 0, [], none, 0, [], 168⟩, ⟨1, ⟨#[121]⟩, 9223372036854775807, none, 0, [], none, 0, [], 183⟩, ⟨1, ⟨#[119]⟩, (-9223372036854775808), none, 0, [], none, 0, [], 215⟩, ⟨4, ⟨#[103]⟩, 0, none, 0, [], none, 0, [], 248⟩], 0, 0) := by kernel_rfl
set_option linter.unusedSimpArgs false in
set_option maxHeartbeats 8000000 in
set_option maxRecDepth 100000 in
theorem stmts_c (w : World) (hw : All w) : Calls Tryz.prog 13 #[] w fun x w' => x = .returned (.bool true) ∧ Below w.heap.size w w' := by
  have hP := parse_c ⟨#[102, 117, 110, 99, 32, 102, 40, 97, 44, 32, 98, 41, 32, 123, 32, 118, 97, 114, 32, 120, 32, 61, 32, 49, 59, 32, 120, 32, 61, 32, 50, 59, 32, 109, 91, 49, 93, 32, 61, 32, 51, 59, 32, 105, 102, 32, 97, 32, 123, 32, 125, 32, 105, 102, 32, 97, 32, 123, 32, 112, 114, 105, 110, 116, 32, 49, 59, 32, 125, 32, 101, 108, 115, 101, 32, 123, 32, 112, 114, 105, 110, 116, 32, 50, 59, 32, 112, 114, 105, 110, 116, 32, 51, 59, 32, 125, 32, 119, 104, 105, 108, 101, 32, 98, 32, 123, 32, 125, 32, 99, 97, 108, 108, 32, 102, 40, 41, 59, 32, 121, 32, 61, 32, 99, 97, 108, 108, 32, 102, 40, 49, 44, 32, 50, 41, 59, 32, 118, 97, 114, 32, 122, 32, 61, 32, 99, 97, 108, 108, 32, 102, 40, 51, 41, 59, 32, 114, 101, 116, 117, 114, 110, 32, 52, 59, 32, 125, 32, 97, 114, 114, 97, 121, 32, 109, 91, 49, 48, 50, 52, 93, 59, 32, 103, 108, 111, 98, 97, 108, 32, 121, 32, 61, 32, 57, 50, 50, 51, 51, 55, 50, 48, 51, 54, 56, 53, 52, 55, 55, 53, 56, 48, 55, 59, 32, 103, 108, 111, 98, 97, 108, 32, 119, 32, 61, 32, 45, 57, 50, 50, 51, 51, 55, 50, 48, 51, 54, 56, 53, 52, 55, 55, 53, 56, 48, 56, 59, 32, 102, 117, 110, 99, 32, 103, 40, 41, 32, 123, 32, 125]⟩ w (by unfold maxLen; decide) hw.tb hw.ht
  rw [st_tree] at hP
  replace hP := Lib.hid hP
  clear hw
  go_enter Tryz.func13, Tryz.ntmps13
  go_wp2_with fail
  refine hP.out.mono ?_
  rintro x w2 ⟨hb, v, rfl, hV⟩
  clear hP
  obtain ⟨bda, oda, cda, vpda, vbda, rfl, hpda, hbda, da0, da1, da2, da3, da4, da5⟩ := hV.get 0 4 0 0 ⟨#[102]⟩ [⟨#[97]⟩, ⟨#[98]⟩] [.mk 1 ⟨#[120]⟩ ⟨#[]⟩ false none 0 [.mk 1 ⟨#[]⟩ 1 none 0 [] 23] none 0 [] none 0 [] 15, .mk 2 ⟨#[120]⟩ ⟨#[]⟩ false none 0 [.mk 1 ⟨#[]⟩ 2 none 0 [] 30] none 0 [] none 0 [] 26, .mk 3 ⟨#[109]⟩ ⟨#[]⟩ false none 0 [.mk 1 ⟨#[]⟩ 1 none 0 [] 35, .mk 1 ⟨#[]⟩ 3 none 0 [] 40] none 0 [] none 0 [] 33, .mk 4 ⟨#[]⟩ ⟨#[]⟩ false none 0 [.mk 3 ⟨#[97]⟩ 0 none 0 [] 46] none 0 [] none 0 [] 43, .mk 4 ⟨#[]⟩ ⟨#[]⟩ false none 0 [.mk 3 ⟨#[97]⟩ 0 none 0 [] 55] none 0 [.mk 7 ⟨#[]⟩ ⟨#[]⟩ false none 0 [.mk 1 ⟨#[]⟩ 1 none 0 [] 65] none 0 [] none 0 [] 59] none 0 [.mk 7 ⟨#[]⟩ ⟨#[]⟩ false none 0 [.mk 1 ⟨#[]⟩ 2 none 0 [] 83] none 0 [] none 0 [] 77, .mk 7 ⟨#[]⟩ ⟨#[]⟩ false none 0 [.mk 1 ⟨#[]⟩ 3 none 0 [] 92] none 0 [] none 0 [] 86] 52, .mk 5 ⟨#[]⟩ ⟨#[]⟩ false none 0 [.mk 3 ⟨#[98]⟩ 0 none 0 [] 103] none 0 [] none 0 [] 97, .mk 8 ⟨#[102]⟩ ⟨#[]⟩ false none 0 [] none 0 [] none 0 [] 109, .mk 8 ⟨#[102]⟩ ⟨#[121]⟩ false none 0 [.mk 1 ⟨#[]⟩ 1 none 0 [] 130, .mk 1 ⟨#[]⟩ 2 none 0 [] 133] none 0 [] none 0 [] 119, .mk 8 ⟨#[102]⟩ ⟨#[122]⟩ true none 0 [.mk 1 ⟨#[]⟩ 3 none 0 [] 152] none 0 [] none 0 [] 137, .mk 9 ⟨#[]⟩ ⟨#[]⟩ false none 0 [.mk 1 ⟨#[]⟩ 4 none 0 [] 163] none 0 [] none 0 [] 156] rfl
  simp only [Nat.zero_mul, Nat.zero_add, Nat.add_zero] at da0 da1 da2 da3 da4 da5
  obtain ⟨bdb, odb, cdb, vpdb, vbdb, edb, hpdb, hbdb, db0, db1, db2, db3, db4, db5⟩ := hV.get 1 2 1024 168 ⟨#[109]⟩ [] [] rfl
  cases edb
  simp only [Nat.reduceMul, Nat.reduceAdd] at db0 db1 db2 db3 db4 db5
  obtain ⟨bdc, odc, cdc, vpdc, vbdc, edc, hpdc, hbdc, dc0, dc1, dc2, dc3, dc4, dc5⟩ := hV.get 2 1 9223372036854775807 183 ⟨#[121]⟩ [] [] rfl
  cases edc
  simp only [Nat.reduceMul, Nat.reduceAdd] at dc0 dc1 dc2 dc3 dc4 dc5
  obtain ⟨bdd, odd, cdd, vpdd, vbdd, edd, hpdd, hbdd, dd0, dd1, dd2, dd3, dd4, dd5⟩ := hV.get 3 1 (-9223372036854775808) 215 ⟨#[119]⟩ [] [] rfl
  cases edd
  simp only [Nat.reduceMul, Nat.reduceAdd] at dd0 dd1 dd2 dd3 dd4 dd5
  obtain ⟨bde, ode, cde, vpde, vbde, ede, hpde, hbde, de0, de1, de2, de3, de4, de5⟩ := hV.get 4 4 0 248 ⟨#[103]⟩ [] [] rfl
  cases ede
  simp only [Nat.reduceMul, Nat.reduceAdd] at de0 de1 de2 de3 de4 de5
  obtain ⟨bpn, opn, cpn, rfl, pn0⟩ := hpda.get 1 ⟨#[98]⟩ rfl
  obtain ⟨bsa, osa, csa, vesa, vbsa, vlsa, rfl, hesa, hbsa, hlsa, sa0, sa1, sa2, sa3, sa4, sa5, sa6, sa7⟩ := hbda.get 0 1 ⟨#[120]⟩ ⟨#[]⟩ false [.mk 1 ⟨#[]⟩ 1 none 0 [] 23] [] [] 15 rfl
  simp only [Nat.zero_mul, Nat.zero_add, Nat.add_zero] at sa0 sa1 sa2 sa3 sa4 sa5 sa6 sa7
  obtain ⟨bsb, osb, csb, vesb, vbsb, vlsb, esb, hesb, hbsb, hlsb, sb0, sb1, sb2, sb3, sb4, sb5, sb6, sb7⟩ := hbda.get 1 2 ⟨#[120]⟩ ⟨#[]⟩ false [.mk 1 ⟨#[]⟩ 2 none 0 [] 30] [] [] 26 rfl
  cases esb
  simp only [Nat.reduceMul, Nat.reduceAdd] at sb0 sb1 sb2 sb3 sb4 sb5 sb6 sb7
  obtain ⟨bsc, osc, csc, vesc, vbsc, vlsc, esc, hesc, hbsc, hlsc, sc0, sc1, sc2, sc3, sc4, sc5, sc6, sc7⟩ := hbda.get 2 3 ⟨#[109]⟩ ⟨#[]⟩ false [.mk 1 ⟨#[]⟩ 1 none 0 [] 35, .mk 1 ⟨#[]⟩ 3 none 0 [] 40] [] [] 33 rfl
  cases esc
  simp only [Nat.reduceMul, Nat.reduceAdd] at sc0 sc1 sc2 sc3 sc4 sc5 sc6 sc7
  obtain ⟨bsd, osd, csd, vesd, vbsd, vlsd, esd, hesd, hbsd, hlsd, sd0, sd1, sd2, sd3, sd4, sd5, sd6, sd7⟩ := hbda.get 3 4 ⟨#[]⟩ ⟨#[]⟩ false [.mk 3 ⟨#[97]⟩ 0 none 0 [] 46] [] [] 43 rfl
  cases esd
  simp only [Nat.reduceMul, Nat.reduceAdd] at sd0 sd1 sd2 sd3 sd4 sd5 sd6 sd7
  obtain ⟨bse, ose, cse, vese, vbse, vlse, ese, hese, hbse, hlse, se0, se1, se2, se3, se4, se5, se6, se7⟩ := hbda.get 4 4 ⟨#[]⟩ ⟨#[]⟩ false [.mk 3 ⟨#[97]⟩ 0 none 0 [] 55] [.mk 7 ⟨#[]⟩ ⟨#[]⟩ false none 0 [.mk 1 ⟨#[]⟩ 1 none 0 [] 65] none 0 [] none 0 [] 59] [.mk 7 ⟨#[]⟩ ⟨#[]⟩ false none 0 [.mk 1 ⟨#[]⟩ 2 none 0 [] 83] none 0 [] none 0 [] 77, .mk 7 ⟨#[]⟩ ⟨#[]⟩ false none 0 [.mk 1 ⟨#[]⟩ 3 none 0 [] 92] none 0 [] none 0 [] 86] 52 rfl
  cases ese
  simp only [Nat.reduceMul, Nat.reduceAdd] at se0 se1 se2 se3 se4 se5 se6 se7
  obtain ⟨bsf, osf, csf, vesf, vbsf, vlsf, esf, hesf, hbsf, hlsf, sf0, sf1, sf2, sf3, sf4, sf5, sf6, sf7⟩ := hbda.get 5 5 ⟨#[]⟩ ⟨#[]⟩ false [.mk 3 ⟨#[98]⟩ 0 none 0 [] 103] [] [] 97 rfl
  cases esf
  simp only [Nat.reduceMul, Nat.reduceAdd] at sf0 sf1 sf2 sf3 sf4 sf5 sf6 sf7
  obtain ⟨bsg, osg, csg, vesg, vbsg, vlsg, esg, hesg, hbsg, hlsg, sg0, sg1, sg2, sg3, sg4, sg5, sg6, sg7⟩ := hbda.get 6 8 ⟨#[102]⟩ ⟨#[]⟩ false [] [] [] 109 rfl
  cases esg
  simp only [Nat.reduceMul, Nat.reduceAdd] at sg0 sg1 sg2 sg3 sg4 sg5 sg6 sg7
  obtain ⟨bsh, osh, csh, vesh, vbsh, vlsh, esh, hesh, hbsh, hlsh, sh0, sh1, sh2, sh3, sh4, sh5, sh6, sh7⟩ := hbda.get 7 8 ⟨#[102]⟩ ⟨#[121]⟩ false [.mk 1 ⟨#[]⟩ 1 none 0 [] 130, .mk 1 ⟨#[]⟩ 2 none 0 [] 133] [] [] 119 rfl
  cases esh
  simp only [Nat.reduceMul, Nat.reduceAdd] at sh0 sh1 sh2 sh3 sh4 sh5 sh6 sh7
  obtain ⟨bsi, osi, csi, vesi, vbsi, vlsi, esi, hesi, hbsi, hlsi, si0, si1, si2, si3, si4, si5, si6, si7⟩ := hbda.get 8 8 ⟨#[102]⟩ ⟨#[122]⟩ true [.mk 1 ⟨#[]⟩ 3 none 0 [] 152] [] [] 137 rfl
  cases esi
  simp only [Nat.reduceMul, Nat.reduceAdd] at si0 si1 si2 si3 si4 si5 si6 si7
  obtain ⟨bsj, osj, csj, vesj, vbsj, vlsj, esj, hesj, hbsj, hlsj, sj0, sj1, sj2, sj3, sj4, sj5, sj6, sj7⟩ := hbda.get 9 9 ⟨#[]⟩ ⟨#[]⟩ false [.mk 1 ⟨#[]⟩ 4 none 0 [] 163] [] [] 156 rfl
  cases esj
  simp only [Nat.reduceMul, Nat.reduceAdd] at sj0 sj1 sj2 sj3 sj4 sj5 sj6 sj7
  obtain ⟨bxc, oxc, cxc, vaxc, rfl, haxc, xc0, xc1, xc2, xc3, xc4, xxc, xaxc, xixc, xvxc⟩ := hesc.get 0 1 ⟨#[]⟩ 1 [] 35 rfl
  simp only [Nat.zero_mul, Nat.zero_add, Nat.add_zero] at xc0 xc1 xc2 xc3 xc4
  obtain ⟨al1, cl1, rfl⟩ := hbsd.len
  obtain ⟨al2, cl2, rfl⟩ := hlsd.len
  obtain ⟨al3, cl3, rfl⟩ := hbse.len
  obtain ⟨al4, cl4, rfl⟩ := hlse.len
  obtain ⟨al5, cl5, rfl⟩ := hesg.len
  obtain ⟨al6, cl6, rfl⟩ := hesh.len
  obtain ⟨al7, cl7, rfl⟩ := hpde.len
  obtain ⟨al8, cl8, rfl⟩ := hbde.len
  obtain ⟨al9, cl9, rfl⟩ := haxc.len
  have hSh := Lib.hid (fun V (hV : Below w2.heap.size w2 V) => shape_any _ xxc V (Nat.le_refl _) (by rw [← shOk_ea, xaxc]; kernel_rfl) (by rw [← shp_ea, xaxc]; exact of_decide_eq_true (by kernel_rfl)) (Ex.In.below (Kps.of_below hV) _ (Ex.In.mono (fun _ _ => trivial) _ xixc)))
  rw [xvxc, ← shp_ea, xaxc, show shp _ = ⟨#[105, 49]⟩ from by kernel_rfl] at hSh
  replace hb := Lib.hid hb
  try clear hV
  try clear hpda
  try clear hbda
  try clear hpdb
  try clear hbdb
  try clear hpdc
  try clear hbdc
  try clear hpdd
  try clear hbdd
  try clear hpde
  try clear hbde
  try clear hesa
  try clear hbsa
  try clear hlsa
  try clear hesb
  try clear hbsb
  try clear hlsb
  try clear hesc
  try clear hbsc
  try clear hlsc
  try clear hesd
  try clear hbsd
  try clear hlsd
  try clear hese
  try clear hbse
  try clear hlse
  try clear hesf
  try clear hbsf
  try clear hlsf
  try clear hesg
  try clear hbsg
  try clear hlsg
  try clear hesh
  try clear hbsh
  try clear hlsh
  try clear hesi
  try clear hbsi
  try clear hlsi
  try clear hesj
  try clear hbsj
  try clear hlsj
  try clear haxc
  try clear xaxc
  try clear xixc
  try clear xvxc
  try clear sa2
  try clear sa3
  try clear sa4
  try clear sa5
  try clear sa6
  try clear sb1
  try clear sb2
  try clear sb3
  try clear sb4
  try clear sb5
  try clear sb6
  try clear sb7
  try clear sc1
  try clear sc2
  try clear sc3
  try clear sc5
  try clear sc6
  try clear sc7
  try clear sd1
  try clear sd2
  try clear sd3
  try clear sd4
  try clear sd7
  try clear se0
  try clear se1
  try clear se2
  try clear se3
  try clear se4
  try clear se7
  try clear sf1
  try clear sf2
  try clear sf3
  try clear sf4
  try clear sf5
  try clear sf6
  try clear sf7
  try clear sg5
  try clear sg6
  try clear sg7
  try clear sh0
  try clear sh1
  try clear sh5
  try clear sh6
  try clear sh7
  try clear si0
  try clear si4
  try clear si5
  try clear si6
  try clear si7
  try clear sj1
  try clear sj2
  try clear sj3
  try clear sj4
  try clear sj5
  try clear sj6
  try clear sj7
  try clear da0
  try clear da1
  try clear da2
  try clear da5
  try clear db0
  try clear db1
  try clear db3
  try clear db4
  try clear db5
  try clear dc0
  try clear dc1
  try clear dc3
  try clear dc4
  try clear dc5
  try clear dd0
  try clear dd1
  try clear dd3
  try clear dd4
  try clear de0
  try clear de1
  try clear de2
  simp only [List.length_cons, List.length_nil, Nat.reduceAdd] at *
  have hS5 := Lib.hid (And.intro sa0 (And.intro sa1 (And.intro sa7 (And.intro sb0 (And.intro sc0 (And.intro sc4 (And.intro sd0 (And.intro sd5 (And.intro sd6 (And.intro se5 (And.intro se6 (And.intro sf0 (And.intro sg0 (And.intro sg1 (And.intro sg2 (And.intro sg3 (And.intro sg4 (And.intro sh2 (And.intro sh3 (And.intro sh4 (And.intro si1 (And.intro si2 (And.intro si3 (And.intro sj0 (And.intro xc0 (And.intro xc1 (And.intro xc2 (And.intro xc3 xc4))))))))))))))))))))))))))))
  clear sa0 sa1 sa7 sb0 sc0 sc4 sd0 sd5 sd6 se5 se6 sf0 sg0 sg1 sg2 sg3 sg4 sh2 sh3 sh4 si1 si2 si3 sj0 xc0 xc1 xc2 xc3 xc4
  go_wp2_with fail
  refine quiet_lit (C := fun V => Below w2.heap.size w2 V) (by kernel_rfl) (Ln.lex_of (base := 10) (fin := 87) (by kernel_rfl)) (Below.refl _ _).drew ?_
  refine Qg.t_val (v := .int .i64 0) (by kernel_rfl) (fun V hV => by kernel_rfl) (by simp only [Act.put, List.setIfInBounds_toArray, List.set_cons_zero, List.set_cons_succ]; rfl) ?_
  refine Qg.t_val (v := .bool false) (by kernel_rfl) (fun V hV => by kernel_rfl) (by simp only [Act.put, List.setIfInBounds_toArray, List.set_cons_zero, List.set_cons_succ]; rfl) ?_
  refine Qg.t_val (v := .bool false) (by kernel_rfl) (fun V hV => by kernel_rfl) (by simp only [Act.put, List.setIfInBounds_toArray, List.set_cons_zero, List.set_cons_succ]; rfl) ?_
  refine Qg.t_val (v := .slice (some ⟨bda, oda, none⟩) 5 cda) (by kernel_rfl) (fun V hV => by kernel_rfl) (by simp only [Act.put, List.setIfInBounds_toArray, List.set_cons_zero, List.set_cons_succ]; rfl) ?_
  refine Qg.t_val (v := .int .i64 5) (by kernel_rfl) (fun V hV => by kernel_rfl) (by simp only [Act.put, List.setIfInBounds_toArray, List.set_cons_zero, List.set_cons_succ]; rfl) ?_
  refine Qg.t_val (v := .bool false) (by kernel_rfl) (fun V hV => by kernel_rfl) (by simp only [Act.put, List.setIfInBounds_toArray, List.set_cons_zero, List.set_cons_succ]; rfl) ?_
  refine Qg.t_val (v := .bool false) (by kernel_rfl) (fun V hV => by kernel_rfl) (by simp only [Act.put, List.setIfInBounds_toArray, List.set_cons_zero, List.set_cons_succ]; rfl) ?_
  refine Qg.t_val (v := .bool false) (by kernel_rfl) (fun V hV => by kernel_rfl) (by simp only [Act.put, List.setIfInBounds_toArray, List.set_cons_zero, List.set_cons_succ]; rfl) ?_
  refine Qg.t_val (v := .slice (some ⟨bda, oda, none⟩) 5 cda) (by kernel_rfl) (fun V hV => by kernel_rfl) (by simp only [Act.put, List.setIfInBounds_toArray, List.set_cons_zero, List.set_cons_succ]; rfl) ?_
  refine Qg.t_val (v := .pointer (some ⟨bda, oda, none⟩)) (by kernel_rfl) (fun V hV => Qg.via_s (by kernel_rfl) (Qg.ix_de (k := 0) (b := bda) (off := oda) (n := 5) (cap := cda) (by decide))) (by simp only [Act.put, List.setIfInBounds_toArray, List.set_cons_zero, List.set_cons_succ]; rfl) ?_
  refine Qg.t_val (v := .pointer (some ⟨bda, oda + 3, none⟩)) (by kernel_rfl) (fun V hV => Qg.via_s (by kernel_rfl) (Qg.fl_de3 (b := bda) (o := oda))) (by simp only [Act.put, List.setIfInBounds_toArray, List.set_cons_zero, List.set_cons_succ]; rfl) ?_
  refine Qg.t_val (v := .slice (some ⟨bpn, opn, none⟩) 2 cpn) (by kernel_rfl) (fun V hV => Qg.via_s (by kernel_rfl) (Qg.ld_strs (below_in hV da3))) (by simp only [Act.put, List.setIfInBounds_toArray, List.set_cons_zero, List.set_cons_succ]; rfl) ?_
  refine Qg.t_val (v := .int .i64 2) (by kernel_rfl) (fun V hV => by kernel_rfl) (by simp only [Act.put, List.setIfInBounds_toArray, List.set_cons_zero, List.set_cons_succ]; rfl) ?_
  refine Qg.t_val (v := .bool false) (by kernel_rfl) (fun V hV => by kernel_rfl) (by simp only [Act.put, List.setIfInBounds_toArray, List.set_cons_zero, List.set_cons_succ]; rfl) ?_
  refine Qg.t_val (v := .bool false) (by kernel_rfl) (fun V hV => by kernel_rfl) (by simp only [Act.put, List.setIfInBounds_toArray, List.set_cons_zero, List.set_cons_succ]; rfl) ?_
  refine Qg.t_val (v := .bool false) (by kernel_rfl) (fun V hV => by kernel_rfl) (by simp only [Act.put, List.setIfInBounds_toArray, List.set_cons_zero, List.set_cons_succ]; rfl) ?_
  refine Qg.t_val (v := .slice (some ⟨bda, oda, none⟩) 5 cda) (by kernel_rfl) (fun V hV => by kernel_rfl) (by simp only [Act.put, List.setIfInBounds_toArray, List.set_cons_zero, List.set_cons_succ]; rfl) ?_
  refine Qg.t_val (v := .pointer (some ⟨bda, oda, none⟩)) (by kernel_rfl) (fun V hV => Qg.via_s (by kernel_rfl) (Qg.ix_de (k := 0) (b := bda) (off := oda) (n := 5) (cap := cda) (by decide))) (by simp only [Act.put, List.setIfInBounds_toArray, List.set_cons_zero, List.set_cons_succ]; rfl) ?_
  refine Qg.t_val (v := .pointer (some ⟨bda, oda + 3, none⟩)) (by kernel_rfl) (fun V hV => Qg.via_s (by kernel_rfl) (Qg.fl_de3 (b := bda) (o := oda))) (by simp only [Act.put, List.setIfInBounds_toArray, List.set_cons_zero, List.set_cons_succ]; rfl) ?_
  refine Qg.t_val (v := .slice (some ⟨bpn, opn, none⟩) 2 cpn) (by kernel_rfl) (fun V hV => Qg.via_s (by kernel_rfl) (Qg.ld_strs (below_in hV da3))) (by simp only [Act.put, List.setIfInBounds_toArray, List.set_cons_zero, List.set_cons_succ]; rfl) ?_
  refine Qg.t_val (v := .pointer (some ⟨bpn, opn + 1, none⟩)) (by kernel_rfl) (fun V hV => Qg.via_s (by kernel_rfl) (Qg.ix_str (k := 1) (b := bpn) (off := opn) (n := 2) (cap := cpn) (by decide))) (by simp only [Act.put, List.setIfInBounds_toArray, List.set_cons_zero, List.set_cons_succ]; rfl) ?_
  refine Qg.t_val (v := .string ⟨#[98]⟩) (by kernel_rfl) (fun V hV => Qg.via_s (by kernel_rfl) (Qg.ld_str (below_in hV pn0))) (by simp only [Act.put, List.setIfInBounds_toArray, List.set_cons_zero, List.set_cons_succ]; rfl) ?_
  refine Qg.t_val (v := .bool false) (by kernel_rfl) (fun V hV => Qg.via_s (by kernel_rfl) (Qg.ne_strs (p := .tmp 31) (q := .const (.string ⟨#[98]⟩)) (x := ⟨#[98]⟩))) (by simp only [Act.put, List.setIfInBounds_toArray, List.set_cons_zero, List.set_cons_succ]; rfl) ?_
  refine Qg.t_val (v := .bool false) (by kernel_rfl) (fun V hV => by kernel_rfl) (by simp only [Act.put, List.setIfInBounds_toArray, List.set_cons_zero, List.set_cons_succ]; rfl) ?_
  refine Qg.t_val (v := .bool false) (by kernel_rfl) (fun V hV => by kernel_rfl) (by simp only [Act.put, List.setIfInBounds_toArray, List.set_cons_zero, List.set_cons_succ]; rfl) ?_
  refine Qg.t_val (v := .slice (some ⟨bda, oda, none⟩) 5 cda) (by kernel_rfl) (fun V hV => by kernel_rfl) (by simp only [Act.put, List.setIfInBounds_toArray, List.set_cons_zero, List.set_cons_succ]; rfl) ?_
  refine Qg.t_val (v := .pointer (some ⟨bda, oda, none⟩)) (by kernel_rfl) (fun V hV => Qg.via_s (by kernel_rfl) (Qg.ix_de (k := 0) (b := bda) (off := oda) (n := 5) (cap := cda) (by decide))) (by simp only [Act.put, List.setIfInBounds_toArray, List.set_cons_zero, List.set_cons_succ]; rfl) ?_
  refine Qg.t_val (v := .pointer (some ⟨bda, oda + 4, none⟩)) (by kernel_rfl) (fun V hV => Qg.via_s (by kernel_rfl) (Qg.fl_de4 (b := bda) (o := oda))) (by simp only [Act.put, List.setIfInBounds_toArray, List.set_cons_zero, List.set_cons_succ]; rfl) ?_
  refine Qg.t_val (v := .slice (some ⟨bsa, osa, none⟩) 10 csa) (by kernel_rfl) (fun V hV => Qg.via_s (by kernel_rfl) (Qg.ld_sts (below_in hV da4))) (by simp only [Act.put, List.setIfInBounds_toArray, List.set_cons_zero, List.set_cons_succ]; rfl) ?_
  refine Qg.t_val (v := .int .i64 10) (by kernel_rfl) (fun V hV => by kernel_rfl) (by simp only [Act.put, List.setIfInBounds_toArray, List.set_cons_zero, List.set_cons_succ]; rfl) ?_
  refine Qg.t_val (v := .bool false) (by kernel_rfl) (fun V hV => by kernel_rfl) (by simp only [Act.put, List.setIfInBounds_toArray, List.set_cons_zero, List.set_cons_succ]; rfl) ?_
  refine Qg.t_val (v := .bool false) (by kernel_rfl) (fun V hV => by kernel_rfl) (by simp only [Act.put, List.setIfInBounds_toArray, List.set_cons_zero, List.set_cons_succ]; rfl) ?_
  refine Qg.t_val (v := .bool false) (by kernel_rfl) (fun V hV => by kernel_rfl) (by simp only [Act.put, List.setIfInBounds_toArray, List.set_cons_zero, List.set_cons_succ]; rfl) ?_
  refine Qg.t_val (v := .slice (some ⟨bda, oda, none⟩) 5 cda) (by kernel_rfl) (fun V hV => by kernel_rfl) (by simp only [Act.put, List.setIfInBounds_toArray, List.set_cons_zero, List.set_cons_succ]; rfl) ?_
  refine Qg.t_val (v := .pointer (some ⟨bda, oda + 6, none⟩)) (by kernel_rfl) (fun V hV => Qg.via_s (by kernel_rfl) (Qg.ix_de (k := 1) (b := bda) (off := oda) (n := 5) (cap := cda) (by decide))) (by simp only [Act.put, List.setIfInBounds_toArray, List.set_cons_zero, List.set_cons_succ]; rfl) ?_
  refine Qg.t_val (v := .pointer (some ⟨bda, oda + 8, none⟩)) (by kernel_rfl) (fun V hV => Qg.via_s (by kernel_rfl) (Qg.fl_de2 (b := bda) (o := oda + 6))) (by simp only [Act.put, List.setIfInBounds_toArray, List.set_cons_zero, List.set_cons_succ]; rfl) ?_
  refine Qg.t_val (v := .int .i64 1024) (by kernel_rfl) (fun V hV => Qg.via_s (by kernel_rfl) (Qg.ld_i64 (below_in hV db2))) (by simp only [Act.put, List.setIfInBounds_toArray, List.set_cons_zero, List.set_cons_succ]; rfl) ?_
  refine Qg.t_val (v := .bool false) (by kernel_rfl) (fun V hV => by kernel_rfl) (by simp only [Act.put, List.setIfInBounds_toArray, List.set_cons_zero, List.set_cons_succ]; rfl) ?_
  refine Qg.t_val (v := .bool false) (by kernel_rfl) (fun V hV => by kernel_rfl) (by simp only [Act.put, List.setIfInBounds_toArray, List.set_cons_zero, List.set_cons_succ]; rfl) ?_
  refine Qg.t_val (v := .bool false) (by kernel_rfl) (fun V hV => by kernel_rfl) (by simp only [Act.put, List.setIfInBounds_toArray, List.set_cons_zero, List.set_cons_succ]; rfl) ?_
  refine Qg.t_val (v := .slice (some ⟨bda, oda, none⟩) 5 cda) (by kernel_rfl) (fun V hV => by kernel_rfl) (by simp only [Act.put, List.setIfInBounds_toArray, List.set_cons_zero, List.set_cons_succ]; rfl) ?_
  refine Qg.t_val (v := .pointer (some ⟨bda, oda + 12, none⟩)) (by kernel_rfl) (fun V hV => Qg.via_s (by kernel_rfl) (Qg.ix_de (k := 2) (b := bda) (off := oda) (n := 5) (cap := cda) (by decide))) (by simp only [Act.put, List.setIfInBounds_toArray, List.set_cons_zero, List.set_cons_succ]; rfl) ?_
  refine Qg.t_val (v := .pointer (some ⟨bda, oda + 14, none⟩)) (by kernel_rfl) (fun V hV => Qg.via_s (by kernel_rfl) (Qg.fl_de2 (b := bda) (o := oda + 12))) (by simp only [Act.put, List.setIfInBounds_toArray, List.set_cons_zero, List.set_cons_succ]; rfl) ?_
  refine Qg.t_val (v := .int .i64 9223372036854775807) (by kernel_rfl) (fun V hV => Qg.via_s (by kernel_rfl) (Qg.ld_i64 (below_in hV dc2))) (by simp only [Act.put, List.setIfInBounds_toArray, List.set_cons_zero, List.set_cons_succ]; rfl) ?_
  refine Qg.t_val (v := .bool false) (by kernel_rfl) (fun V hV => by kernel_rfl) (by simp only [Act.put, List.setIfInBounds_toArray, List.set_cons_zero, List.set_cons_succ]; rfl) ?_
  refine Qg.t_val (v := .bool false) (by kernel_rfl) (fun V hV => by kernel_rfl) (by simp only [Act.put, List.setIfInBounds_toArray, List.set_cons_zero, List.set_cons_succ]; rfl) ?_
  refine Qg.t_val (v := .bool false) (by kernel_rfl) (fun V hV => by kernel_rfl) (by simp only [Act.put, List.setIfInBounds_toArray, List.set_cons_zero, List.set_cons_succ]; rfl) ?_
  refine Qg.t_val (v := .slice (some ⟨bda, oda, none⟩) 5 cda) (by kernel_rfl) (fun V hV => by kernel_rfl) (by simp only [Act.put, List.setIfInBounds_toArray, List.set_cons_zero, List.set_cons_succ]; rfl) ?_
  refine Qg.t_val (v := .pointer (some ⟨bda, oda + 18, none⟩)) (by kernel_rfl) (fun V hV => Qg.via_s (by kernel_rfl) (Qg.ix_de (k := 3) (b := bda) (off := oda) (n := 5) (cap := cda) (by decide))) (by simp only [Act.put, List.setIfInBounds_toArray, List.set_cons_zero, List.set_cons_succ]; rfl) ?_
  refine Qg.t_val (v := .pointer (some ⟨bda, oda + 20, none⟩)) (by kernel_rfl) (fun V hV => Qg.via_s (by kernel_rfl) (Qg.fl_de2 (b := bda) (o := oda + 18))) (by simp only [Act.put, List.setIfInBounds_toArray, List.set_cons_zero, List.set_cons_succ]; rfl) ?_
  refine Qg.t_val (v := .int .i64 (-9223372036854775808)) (by kernel_rfl) (fun V hV => Qg.via_s (by kernel_rfl) (Qg.ld_i64 (below_in hV dd2))) (by simp only [Act.put, List.setIfInBounds_toArray, List.set_cons_zero, List.set_cons_succ]; rfl) ?_
  refine Qg.t_val (v := .bool false) (by kernel_rfl) (fun V hV => by kernel_rfl) (by simp only [Act.put, List.setIfInBounds_toArray, List.set_cons_zero, List.set_cons_succ]; rfl) ?_
  refine Qg.t_val (v := .bool false) (by kernel_rfl) (fun V hV => by kernel_rfl) (by simp only [Act.put, List.setIfInBounds_toArray, List.set_cons_zero, List.set_cons_succ]; rfl) ?_
  refine Qg.t_val (v := .bool false) (by kernel_rfl) (fun V hV => by kernel_rfl) (by simp only [Act.put, List.setIfInBounds_toArray, List.set_cons_zero, List.set_cons_succ]; rfl) ?_
  refine Qg.t_val (v := .slice (some ⟨bda, oda, none⟩) 5 cda) (by kernel_rfl) (fun V hV => by kernel_rfl) (by simp only [Act.put, List.setIfInBounds_toArray, List.set_cons_zero, List.set_cons_succ]; rfl) ?_
  refine Qg.t_val (v := .pointer (some ⟨bda, oda + 24, none⟩)) (by kernel_rfl) (fun V hV => Qg.via_s (by kernel_rfl) (Qg.ix_de (k := 4) (b := bda) (off := oda) (n := 5) (cap := cda) (by decide))) (by simp only [Act.put, List.setIfInBounds_toArray, List.set_cons_zero, List.set_cons_succ]; rfl) ?_
  refine Qg.t_val (v := .pointer (some ⟨bda, oda + 27, none⟩)) (by kernel_rfl) (fun V hV => Qg.via_s (by kernel_rfl) (Qg.fl_de3 (b := bda) (o := oda + 24))) (by simp only [Act.put, List.setIfInBounds_toArray, List.set_cons_zero, List.set_cons_succ]; rfl) ?_
  refine Qg.t_val (v := .slice al7 0 cl7) (by kernel_rfl) (fun V hV => Qg.via_s (by kernel_rfl) (Qg.ld_strs (below_in hV de3))) (by simp only [Act.put, List.setIfInBounds_toArray, List.set_cons_zero, List.set_cons_succ]; rfl) ?_
  refine Qg.t_val (v := .int .i64 0) (by kernel_rfl) (fun V hV => by kernel_rfl) (by simp only [Act.put, List.setIfInBounds_toArray, List.set_cons_zero, List.set_cons_succ]; rfl) ?_
  refine Qg.t_val (v := .slice (some ⟨bda, oda, none⟩) 5 cda) (by kernel_rfl) (fun V hV => by kernel_rfl) (by simp only [Act.put, List.setIfInBounds_toArray, List.set_cons_zero, List.set_cons_succ]; rfl) ?_
  refine Qg.t_val (v := .pointer (some ⟨bda, oda + 24, none⟩)) (by kernel_rfl) (fun V hV => Qg.via_s (by kernel_rfl) (Qg.ix_de (k := 4) (b := bda) (off := oda) (n := 5) (cap := cda) (by decide))) (by simp only [Act.put, List.setIfInBounds_toArray, List.set_cons_zero, List.set_cons_succ]; rfl) ?_
  refine Qg.t_val (v := .pointer (some ⟨bda, oda + 28, none⟩)) (by kernel_rfl) (fun V hV => Qg.via_s (by kernel_rfl) (Qg.fl_de4 (b := bda) (o := oda + 24))) (by simp only [Act.put, List.setIfInBounds_toArray, List.set_cons_zero, List.set_cons_succ]; rfl) ?_
  refine Qg.t_val (v := .slice al8 0 cl8) (by kernel_rfl) (fun V hV => Qg.via_s (by kernel_rfl) (Qg.ld_sts (below_in hV de4))) (by simp only [Act.put, List.setIfInBounds_toArray, List.set_cons_zero, List.set_cons_succ]; rfl) ?_
  refine Qg.t_val (v := .int .i64 0) (by kernel_rfl) (fun V hV => by kernel_rfl) (by simp only [Act.put, List.setIfInBounds_toArray, List.set_cons_zero, List.set_cons_succ]; rfl) ?_
  refine Qg.t_val (v := .int .i64 0) (by kernel_rfl) (fun V hV => by kernel_rfl) (by simp only [Act.put, List.setIfInBounds_toArray, List.set_cons_zero, List.set_cons_succ]; rfl) ?_
  refine Qg.t_val (v := .bool false) (by kernel_rfl) (fun V hV => by kernel_rfl) (by simp only [Act.put, List.setIfInBounds_toArray, List.set_cons_zero, List.set_cons_succ]; rfl) ?_
  refine Qg.t_val (v := .bool false) (by kernel_rfl) (fun V hV => by kernel_rfl) (by simp only [Act.put, List.setIfInBounds_toArray, List.set_cons_zero, List.set_cons_succ]; rfl) ?_
  refine Qg.t_val (v := .bool false) (by kernel_rfl) (fun V hV => by kernel_rfl) (by simp only [Act.put, List.setIfInBounds_toArray, List.set_cons_zero, List.set_cons_succ]; rfl) ?_
  refine Qg.t_val (v := .slice (some ⟨bda, oda, none⟩) 5 cda) (by kernel_rfl) (fun V hV => by kernel_rfl) (by simp only [Act.put, List.setIfInBounds_toArray, List.set_cons_zero, List.set_cons_succ]; rfl) ?_
  refine Qg.t_val (v := .pointer (some ⟨bda, oda + 24, none⟩)) (by kernel_rfl) (fun V hV => Qg.via_s (by kernel_rfl) (Qg.ix_de (k := 4) (b := bda) (off := oda) (n := 5) (cap := cda) (by decide))) (by simp only [Act.put, List.setIfInBounds_toArray, List.set_cons_zero, List.set_cons_succ]; rfl) ?_
  refine Qg.t_val (v := .pointer (some ⟨bda, oda + 29, none⟩)) (by kernel_rfl) (fun V hV => Qg.via_s (by kernel_rfl) (Qg.fl_de5 (b := bda) (o := oda + 24))) (by simp only [Act.put, List.setIfInBounds_toArray, List.set_cons_zero, List.set_cons_succ]; rfl) ?_
  refine Qg.t_val (v := .int .i64 248) (by kernel_rfl) (fun V hV => Qg.via_s (by kernel_rfl) (Qg.ld_int (below_in hV de5))) (by simp only [Act.put, List.setIfInBounds_toArray, List.set_cons_zero, List.set_cons_succ]; rfl) ?_
  refine Qg.t_val (v := .slice (some ⟨bda, oda, none⟩) 5 cda) (by kernel_rfl) (fun V hV => by kernel_rfl) (by simp only [Act.put, List.setIfInBounds_toArray, List.set_cons_zero, List.set_cons_succ]; rfl) ?_
  refine Qg.t_val (v := .pointer (some ⟨bda, oda + 18, none⟩)) (by kernel_rfl) (fun V hV => Qg.via_s (by kernel_rfl) (Qg.ix_de (k := 3) (b := bda) (off := oda) (n := 5) (cap := cda) (by decide))) (by simp only [Act.put, List.setIfInBounds_toArray, List.set_cons_zero, List.set_cons_succ]; rfl) ?_
  refine Qg.t_val (v := .pointer (some ⟨bda, oda + 23, none⟩)) (by kernel_rfl) (fun V hV => Qg.via_s (by kernel_rfl) (Qg.fl_de5 (b := bda) (o := oda + 18))) (by simp only [Act.put, List.setIfInBounds_toArray, List.set_cons_zero, List.set_cons_succ]; rfl) ?_
  refine Qg.t_val (v := .int .i64 215) (by kernel_rfl) (fun V hV => Qg.via_s (by kernel_rfl) (Qg.ld_int (below_in hV dd5))) (by simp only [Act.put, List.setIfInBounds_toArray, List.set_cons_zero, List.set_cons_succ]; rfl) ?_
  refine Qg.t_val (v := .bool false) (by kernel_rfl) (fun V hV => by kernel_rfl) (by simp only [Act.put, List.setIfInBounds_toArray, List.set_cons_zero, List.set_cons_succ]; rfl) ?_
  refine Qg.t_val (v := .bool false) (by kernel_rfl) (fun V hV => by kernel_rfl) (by simp only [Act.put, List.setIfInBounds_toArray, List.set_cons_zero, List.set_cons_succ]; rfl) ?_
  refine wpQuiet_nil (fun V2 hV2 => ?_)
  replace hV2 := Lib.hid hV2
  have da4v := below_in hV2.out da4
  clear da3 da4 db2 dc2 dd2 dd5 de3 de4 de5 pn0
  go_wp2_with fail
  obtain ⟨sa0, sa1, sa7, sb0, sc0, sc4, sd0, sd5, sd6, se5, se6, sf0, sg0, sg1, sg2, sg3, sg4, sh2, sh3, sh4, si1, si2, si3, sj0, xc0, xc1, xc2, xc3, xc4⟩ := hS5.out
  refine quiet_lit (C := fun V => Below w2.heap.size w2 V) (by kernel_rfl) (Ln.lex_of (base := 92) (fin := 0) (by kernel_rfl)) hV2.out.drew ?_
  refine Qg.t_val (v := .slice (some ⟨bsa, osa, none⟩) 10 csa) (by kernel_rfl) (fun V hV => by kernel_rfl) (by simp only [Act.put, List.setIfInBounds_toArray, List.set_cons_zero, List.set_cons_succ]; rfl) ?_
  refine Qg.t_val (v := .pointer (some ⟨bsa, osa, none⟩)) (by kernel_rfl) (fun V hV => Qg.via_s (by kernel_rfl) (Qg.ix_st (k := 0) (b := bsa) (off := osa) (n := 10) (cap := csa) (by decide))) (by simp only [Act.put, List.setIfInBounds_toArray, List.set_cons_zero, List.set_cons_succ]; rfl) ?_
  refine Qg.t_val (v := .pointer (some ⟨bsa, osa, none⟩)) (by kernel_rfl) (fun V hV => Qg.via_s (by kernel_rfl) (Qg.fl_st0 (b := bsa) (o := osa))) (by simp only [Act.put, List.setIfInBounds_toArray, List.set_cons_zero, List.set_cons_succ]; rfl) ?_
  refine Qg.t_val (v := .int .u8 1) (by kernel_rfl) (fun V hV => Qg.via_s (by kernel_rfl) (Qg.ld_u8 (below_in hV sa0))) (by simp only [Act.put, List.setIfInBounds_toArray, List.set_cons_zero, List.set_cons_succ]; rfl) ?_
  refine Qg.t_val (v := .bool true) (by kernel_rfl) (fun V hV => by kernel_rfl) (by simp only [Act.put, List.setIfInBounds_toArray, List.set_cons_zero, List.set_cons_succ]; rfl) ?_
  refine Qg.t_val (v := .bool true) (by kernel_rfl) (fun V hV => by kernel_rfl) (by simp only [Act.put, List.setIfInBounds_toArray, List.set_cons_zero, List.set_cons_succ]; rfl) ?_
  refine Qg.t_val (v := .slice (some ⟨bsa, osa, none⟩) 10 csa) (by kernel_rfl) (fun V hV => by kernel_rfl) (by simp only [Act.put, List.setIfInBounds_toArray, List.set_cons_zero, List.set_cons_succ]; rfl) ?_
  refine Qg.t_val (v := .pointer (some ⟨bsa, osa, none⟩)) (by kernel_rfl) (fun V hV => Qg.via_s (by kernel_rfl) (Qg.ix_st (k := 0) (b := bsa) (off := osa) (n := 10) (cap := csa) (by decide))) (by simp only [Act.put, List.setIfInBounds_toArray, List.set_cons_zero, List.set_cons_succ]; rfl) ?_
  refine Qg.t_val (v := .pointer (some ⟨bsa, osa + 1, none⟩)) (by kernel_rfl) (fun V hV => Qg.via_s (by kernel_rfl) (Qg.fl_st1 (b := bsa) (o := osa))) (by simp only [Act.put, List.setIfInBounds_toArray, List.set_cons_zero, List.set_cons_succ]; rfl) ?_
  refine Qg.t_val (v := .string ⟨#[120]⟩) (by kernel_rfl) (fun V hV => Qg.via_s (by kernel_rfl) (Qg.ld_str (below_in hV sa1))) (by simp only [Act.put, List.setIfInBounds_toArray, List.set_cons_zero, List.set_cons_succ]; rfl) ?_
  refine Qg.t_val (v := .bool true) (by kernel_rfl) (fun V hV => Qg.via_s (by kernel_rfl) (Qg.eq_str (p := .tmp 101) (q := .const (.string ⟨#[120]⟩)) (x := ⟨#[120]⟩))) (by simp only [Act.put, List.setIfInBounds_toArray, List.set_cons_zero, List.set_cons_succ]; rfl) ?_
  refine Qg.t_val (v := .bool true) (by kernel_rfl) (fun V hV => by kernel_rfl) (by simp only [Act.put, List.setIfInBounds_toArray, List.set_cons_zero, List.set_cons_succ]; rfl) ?_
  refine Qg.t_val (v := .bool true) (by kernel_rfl) (fun V hV => by kernel_rfl) (by simp only [Act.put, List.setIfInBounds_toArray, List.set_cons_zero, List.set_cons_succ]; rfl) ?_
  refine Qg.t_val (v := .slice (some ⟨bsa, osa, none⟩) 10 csa) (by kernel_rfl) (fun V hV => by kernel_rfl) (by simp only [Act.put, List.setIfInBounds_toArray, List.set_cons_zero, List.set_cons_succ]; rfl) ?_
  refine Qg.t_val (v := .pointer (some ⟨bsa, osa, none⟩)) (by kernel_rfl) (fun V hV => Qg.via_s (by kernel_rfl) (Qg.ix_st (k := 0) (b := bsa) (off := osa) (n := 10) (cap := csa) (by decide))) (by simp only [Act.put, List.setIfInBounds_toArray, List.set_cons_zero, List.set_cons_succ]; rfl) ?_
  refine Qg.t_val (v := .pointer (some ⟨bsa, osa + 7, none⟩)) (by kernel_rfl) (fun V hV => Qg.via_s (by kernel_rfl) (Qg.fl_st7 (b := bsa) (o := osa))) (by simp only [Act.put, List.setIfInBounds_toArray, List.set_cons_zero, List.set_cons_succ]; rfl) ?_
  refine Qg.t_val (v := .int .i64 15) (by kernel_rfl) (fun V hV => Qg.via_s (by kernel_rfl) (Qg.ld_int (below_in hV sa7))) (by simp only [Act.put, List.setIfInBounds_toArray, List.set_cons_zero, List.set_cons_succ]; rfl) ?_
  refine Qg.t_val (v := .bool true) (by kernel_rfl) (fun V hV => by kernel_rfl) (by simp only [Act.put, List.setIfInBounds_toArray, List.set_cons_zero, List.set_cons_succ]; rfl) ?_
  refine Qg.t_val (v := .bool true) (by kernel_rfl) (fun V hV => by kernel_rfl) (by simp only [Act.put, List.setIfInBounds_toArray, List.set_cons_zero, List.set_cons_succ]; rfl) ?_
  refine Qg.t_val (v := .bool true) (by kernel_rfl) (fun V hV => by kernel_rfl) (by simp only [Act.put, List.setIfInBounds_toArray, List.set_cons_zero, List.set_cons_succ]; rfl) ?_
  refine Qg.t_val (v := .slice (some ⟨bsa, osa, none⟩) 10 csa) (by kernel_rfl) (fun V hV => by kernel_rfl) (by simp only [Act.put, List.setIfInBounds_toArray, List.set_cons_zero, List.set_cons_succ]; rfl) ?_
  refine Qg.t_val (v := .pointer (some ⟨bsa, osa + 8, none⟩)) (by kernel_rfl) (fun V hV => Qg.via_s (by kernel_rfl) (Qg.ix_st (k := 1) (b := bsa) (off := osa) (n := 10) (cap := csa) (by decide))) (by simp only [Act.put, List.setIfInBounds_toArray, List.set_cons_zero, List.set_cons_succ]; rfl) ?_
  refine Qg.t_val (v := .pointer (some ⟨bsa, osa + 8, none⟩)) (by kernel_rfl) (fun V hV => Qg.via_s (by kernel_rfl) (Qg.fl_st0 (b := bsa) (o := osa + 8))) (by simp only [Act.put, List.setIfInBounds_toArray, List.set_cons_zero, List.set_cons_succ]; rfl) ?_
  refine Qg.t_val (v := .int .u8 2) (by kernel_rfl) (fun V hV => Qg.via_s (by kernel_rfl) (Qg.ld_u8 (below_in hV sb0))) (by simp only [Act.put, List.setIfInBounds_toArray, List.set_cons_zero, List.set_cons_succ]; rfl) ?_
  refine Qg.t_val (v := .bool true) (by kernel_rfl) (fun V hV => by kernel_rfl) (by simp only [Act.put, List.setIfInBounds_toArray, List.set_cons_zero, List.set_cons_succ]; rfl) ?_
  refine Qg.t_val (v := .bool true) (by kernel_rfl) (fun V hV => by kernel_rfl) (by simp only [Act.put, List.setIfInBounds_toArray, List.set_cons_zero, List.set_cons_succ]; rfl) ?_
  refine Qg.t_val (v := .bool true) (by kernel_rfl) (fun V hV => by kernel_rfl) (by simp only [Act.put, List.setIfInBounds_toArray, List.set_cons_zero, List.set_cons_succ]; rfl) ?_
  refine Qg.t_val (v := .slice (some ⟨bsa, osa, none⟩) 10 csa) (by kernel_rfl) (fun V hV => by kernel_rfl) (by simp only [Act.put, List.setIfInBounds_toArray, List.set_cons_zero, List.set_cons_succ]; rfl) ?_
  refine Qg.t_val (v := .pointer (some ⟨bsa, osa + 16, none⟩)) (by kernel_rfl) (fun V hV => Qg.via_s (by kernel_rfl) (Qg.ix_st (k := 2) (b := bsa) (off := osa) (n := 10) (cap := csa) (by decide))) (by simp only [Act.put, List.setIfInBounds_toArray, List.set_cons_zero, List.set_cons_succ]; rfl) ?_
  refine Qg.t_val (v := .pointer (some ⟨bsa, osa + 16, none⟩)) (by kernel_rfl) (fun V hV => Qg.via_s (by kernel_rfl) (Qg.fl_st0 (b := bsa) (o := osa + 16))) (by simp only [Act.put, List.setIfInBounds_toArray, List.set_cons_zero, List.set_cons_succ]; rfl) ?_
  refine Qg.t_val (v := .int .u8 3) (by kernel_rfl) (fun V hV => Qg.via_s (by kernel_rfl) (Qg.ld_u8 (below_in hV sc0))) (by simp only [Act.put, List.setIfInBounds_toArray, List.set_cons_zero, List.set_cons_succ]; rfl) ?_
  refine Qg.t_val (v := .bool true) (by kernel_rfl) (fun V hV => by kernel_rfl) (by simp only [Act.put, List.setIfInBounds_toArray, List.set_cons_zero, List.set_cons_succ]; rfl) ?_
  refine Qg.t_val (v := .bool true) (by kernel_rfl) (fun V hV => by kernel_rfl) (by simp only [Act.put, List.setIfInBounds_toArray, List.set_cons_zero, List.set_cons_succ]; rfl) ?_
  refine Qg.t_val (v := .bool true) (by kernel_rfl) (fun V hV => by kernel_rfl) (by simp only [Act.put, List.setIfInBounds_toArray, List.set_cons_zero, List.set_cons_succ]; rfl) ?_
  refine Qg.t_val (v := .slice (some ⟨bsa, osa, none⟩) 10 csa) (by kernel_rfl) (fun V hV => by kernel_rfl) (by simp only [Act.put, List.setIfInBounds_toArray, List.set_cons_zero, List.set_cons_succ]; rfl) ?_
  refine Qg.t_val (v := .pointer (some ⟨bsa, osa + 16, none⟩)) (by kernel_rfl) (fun V hV => Qg.via_s (by kernel_rfl) (Qg.ix_st (k := 2) (b := bsa) (off := osa) (n := 10) (cap := csa) (by decide))) (by simp only [Act.put, List.setIfInBounds_toArray, List.set_cons_zero, List.set_cons_succ]; rfl) ?_
  refine Qg.t_val (v := .pointer (some ⟨bsa, osa + 20, none⟩)) (by kernel_rfl) (fun V hV => Qg.via_s (by kernel_rfl) (Qg.fl_st4 (b := bsa) (o := osa + 16))) (by simp only [Act.put, List.setIfInBounds_toArray, List.set_cons_zero, List.set_cons_succ]; rfl) ?_
  refine Qg.t_val (v := .slice (some ⟨bxc, oxc, none⟩) 2 cxc) (by kernel_rfl) (fun V hV => Qg.via_s (by kernel_rfl) (Qg.ld_exs (below_in hV sc4))) (by simp only [Act.put, List.setIfInBounds_toArray, List.set_cons_zero, List.set_cons_succ]; rfl) ?_
  refine Qg.t_val (v := .int .i64 2) (by kernel_rfl) (fun V hV => by kernel_rfl) (by simp only [Act.put, List.setIfInBounds_toArray, List.set_cons_zero, List.set_cons_succ]; rfl) ?_
  refine Qg.t_val (v := .bool true) (by kernel_rfl) (fun V hV => by kernel_rfl) (by simp only [Act.put, List.setIfInBounds_toArray, List.set_cons_zero, List.set_cons_succ]; rfl) ?_
  refine Qg.t_val (v := .bool true) (by kernel_rfl) (fun V hV => by kernel_rfl) (by simp only [Act.put, List.setIfInBounds_toArray, List.set_cons_zero, List.set_cons_succ]; rfl) ?_
  refine Qg.t_val (v := .bool true) (by kernel_rfl) (fun V hV => by kernel_rfl) (by simp only [Act.put, List.setIfInBounds_toArray, List.set_cons_zero, List.set_cons_succ]; rfl) ?_
  refine Qg.t_val (v := .slice (some ⟨bsa, osa, none⟩) 10 csa) (by kernel_rfl) (fun V hV => by kernel_rfl) (by simp only [Act.put, List.setIfInBounds_toArray, List.set_cons_zero, List.set_cons_succ]; rfl) ?_
  refine Qg.t_val (v := .pointer (some ⟨bsa, osa + 16, none⟩)) (by kernel_rfl) (fun V hV => Qg.via_s (by kernel_rfl) (Qg.ix_st (k := 2) (b := bsa) (off := osa) (n := 10) (cap := csa) (by decide))) (by simp only [Act.put, List.setIfInBounds_toArray, List.set_cons_zero, List.set_cons_succ]; rfl) ?_
  refine Qg.t_val (v := .pointer (some ⟨bsa, osa + 20, none⟩)) (by kernel_rfl) (fun V hV => Qg.via_s (by kernel_rfl) (Qg.fl_st4 (b := bsa) (o := osa + 16))) (by simp only [Act.put, List.setIfInBounds_toArray, List.set_cons_zero, List.set_cons_succ]; rfl) ?_
  refine Qg.t_val (v := .slice (some ⟨bxc, oxc, none⟩) 2 cxc) (by kernel_rfl) (fun V hV => Qg.via_s (by kernel_rfl) (Qg.ld_exs (below_in hV sc4))) (by simp only [Act.put, List.setIfInBounds_toArray, List.set_cons_zero, List.set_cons_succ]; rfl) ?_
  refine Qg.t_val (v := .pointer (some ⟨bxc, oxc, none⟩)) (by kernel_rfl) (fun V hV => Qg.via_s (by kernel_rfl) (Qg.ix_ex (k := 0) (b := bxc) (off := oxc) (n := 2) (cap := cxc) (by decide))) (by simp only [Act.put, List.setIfInBounds_toArray, List.set_cons_zero, List.set_cons_succ]; rfl) ?_
  refine Qg.t_val (v := .agg #[.int .u8 1, .string ⟨#[]⟩, .int .i64 1, .slice al9 0 cl9, .int .i64 35]) (by kernel_rfl) (fun V hV => Qg.via_s (by kernel_rfl) (Qg.ld_ex (below_in hV xc0) (below_in hV xc1) (below_in hV xc2) (below_in hV xc3) (below_in hV xc4))) (by simp only [Act.put, List.setIfInBounds_toArray, List.set_cons_zero, List.set_cons_succ]; rfl) ?_
  refine Qg.t_call (v := .string ⟨#[105, 49]⟩) (f := 38) (args := #[.agg #[.int .u8 1, .string ⟨#[]⟩, .int .i64 1, .slice al9 0 cl9, .int .i64 35]]) (by kernel_rfl) (fun V hV => by kernel_rfl) (fun V hV => (hSh.out V hV).mono fun e w' h => ⟨h.1, hV.trans (h.2.mono hV.size)⟩) (by simp only [Act.put, List.setIfInBounds_toArray, List.set_cons_zero, List.set_cons_succ]; rfl) ?_
  refine Qg.t_val (v := .bool true) (by kernel_rfl) (fun V hV => Qg.via_s (by kernel_rfl) (Qg.eq_str (p := .tmp 140) (q := .const (.string ⟨#[105, 49]⟩)) (x := ⟨#[105, 49]⟩))) (by simp only [Act.put, List.setIfInBounds_toArray, List.set_cons_zero, List.set_cons_succ]; rfl) ?_
  refine Qg.t_val (v := .bool true) (by kernel_rfl) (fun V hV => by kernel_rfl) (by simp only [Act.put, List.setIfInBounds_toArray, List.set_cons_zero, List.set_cons_succ]; rfl) ?_
  refine Qg.t_val (v := .bool true) (by kernel_rfl) (fun V hV => by kernel_rfl) (by simp only [Act.put, List.setIfInBounds_toArray, List.set_cons_zero, List.set_cons_succ]; rfl) ?_
  refine Qg.t_val (v := .slice (some ⟨bsa, osa, none⟩) 10 csa) (by kernel_rfl) (fun V hV => by kernel_rfl) (by simp only [Act.put, List.setIfInBounds_toArray, List.set_cons_zero, List.set_cons_succ]; rfl) ?_
  refine Qg.t_val (v := .pointer (some ⟨bsa, osa + 24, none⟩)) (by kernel_rfl) (fun V hV => Qg.via_s (by kernel_rfl) (Qg.ix_st (k := 3) (b := bsa) (off := osa) (n := 10) (cap := csa) (by decide))) (by simp only [Act.put, List.setIfInBounds_toArray, List.set_cons_zero, List.set_cons_succ]; rfl) ?_
  refine Qg.t_val (v := .pointer (some ⟨bsa, osa + 24, none⟩)) (by kernel_rfl) (fun V hV => Qg.via_s (by kernel_rfl) (Qg.fl_st0 (b := bsa) (o := osa + 24))) (by simp only [Act.put, List.setIfInBounds_toArray, List.set_cons_zero, List.set_cons_succ]; rfl) ?_
  refine Qg.t_val (v := .int .u8 4) (by kernel_rfl) (fun V hV => Qg.via_s (by kernel_rfl) (Qg.ld_u8 (below_in hV sd0))) (by simp only [Act.put, List.setIfInBounds_toArray, List.set_cons_zero, List.set_cons_succ]; rfl) ?_
  refine Qg.t_val (v := .bool true) (by kernel_rfl) (fun V hV => by kernel_rfl) (by simp only [Act.put, List.setIfInBounds_toArray, List.set_cons_zero, List.set_cons_succ]; rfl) ?_
  refine Qg.t_val (v := .bool true) (by kernel_rfl) (fun V hV => by kernel_rfl) (by simp only [Act.put, List.setIfInBounds_toArray, List.set_cons_zero, List.set_cons_succ]; rfl) ?_
  refine Qg.t_val (v := .bool true) (by kernel_rfl) (fun V hV => by kernel_rfl) (by simp only [Act.put, List.setIfInBounds_toArray, List.set_cons_zero, List.set_cons_succ]; rfl) ?_
  refine Qg.t_val (v := .slice (some ⟨bsa, osa, none⟩) 10 csa) (by kernel_rfl) (fun V hV => by kernel_rfl) (by simp only [Act.put, List.setIfInBounds_toArray, List.set_cons_zero, List.set_cons_succ]; rfl) ?_
  refine Qg.t_val (v := .pointer (some ⟨bsa, osa + 24, none⟩)) (by kernel_rfl) (fun V hV => Qg.via_s (by kernel_rfl) (Qg.ix_st (k := 3) (b := bsa) (off := osa) (n := 10) (cap := csa) (by decide))) (by simp only [Act.put, List.setIfInBounds_toArray, List.set_cons_zero, List.set_cons_succ]; rfl) ?_
  refine Qg.t_val (v := .pointer (some ⟨bsa, osa + 29, none⟩)) (by kernel_rfl) (fun V hV => Qg.via_s (by kernel_rfl) (Qg.fl_st5 (b := bsa) (o := osa + 24))) (by simp only [Act.put, List.setIfInBounds_toArray, List.set_cons_zero, List.set_cons_succ]; rfl) ?_
  refine Qg.t_val (v := .slice al1 0 cl1) (by kernel_rfl) (fun V hV => Qg.via_s (by kernel_rfl) (Qg.ld_sts (below_in hV sd5))) (by simp only [Act.put, List.setIfInBounds_toArray, List.set_cons_zero, List.set_cons_succ]; rfl) ?_
  refine Qg.t_val (v := .int .i64 0) (by kernel_rfl) (fun V hV => by kernel_rfl) (by simp only [Act.put, List.setIfInBounds_toArray, List.set_cons_zero, List.set_cons_succ]; rfl) ?_
  refine Qg.t_val (v := .slice (some ⟨bsa, osa, none⟩) 10 csa) (by kernel_rfl) (fun V hV => by kernel_rfl) (by simp only [Act.put, List.setIfInBounds_toArray, List.set_cons_zero, List.set_cons_succ]; rfl) ?_
  refine Qg.t_val (v := .pointer (some ⟨bsa, osa + 24, none⟩)) (by kernel_rfl) (fun V hV => Qg.via_s (by kernel_rfl) (Qg.ix_st (k := 3) (b := bsa) (off := osa) (n := 10) (cap := csa) (by decide))) (by simp only [Act.put, List.setIfInBounds_toArray, List.set_cons_zero, List.set_cons_succ]; rfl) ?_
  refine Qg.t_val (v := .pointer (some ⟨bsa, osa + 30, none⟩)) (by kernel_rfl) (fun V hV => Qg.via_s (by kernel_rfl) (Qg.fl_st6 (b := bsa) (o := osa + 24))) (by simp only [Act.put, List.setIfInBounds_toArray, List.set_cons_zero, List.set_cons_succ]; rfl) ?_
  refine Qg.t_val (v := .slice al2 0 cl2) (by kernel_rfl) (fun V hV => Qg.via_s (by kernel_rfl) (Qg.ld_sts (below_in hV sd6))) (by simp only [Act.put, List.setIfInBounds_toArray, List.set_cons_zero, List.set_cons_succ]; rfl) ?_
  refine Qg.t_val (v := .int .i64 0) (by kernel_rfl) (fun V hV => by kernel_rfl) (by simp only [Act.put, List.setIfInBounds_toArray, List.set_cons_zero, List.set_cons_succ]; rfl) ?_
  refine Qg.t_val (v := .int .i64 0) (by kernel_rfl) (fun V hV => by kernel_rfl) (by simp only [Act.put, List.setIfInBounds_toArray, List.set_cons_zero, List.set_cons_succ]; rfl) ?_
  refine Qg.t_val (v := .bool true) (by kernel_rfl) (fun V hV => by kernel_rfl) (by simp only [Act.put, List.setIfInBounds_toArray, List.set_cons_zero, List.set_cons_succ]; rfl) ?_
  refine Qg.t_val (v := .bool true) (by kernel_rfl) (fun V hV => by kernel_rfl) (by simp only [Act.put, List.setIfInBounds_toArray, List.set_cons_zero, List.set_cons_succ]; rfl) ?_
  refine Qg.t_val (v := .bool true) (by kernel_rfl) (fun V hV => by kernel_rfl) (by simp only [Act.put, List.setIfInBounds_toArray, List.set_cons_zero, List.set_cons_succ]; rfl) ?_
  refine Qg.t_val (v := .slice (some ⟨bsa, osa, none⟩) 10 csa) (by kernel_rfl) (fun V hV => by kernel_rfl) (by simp only [Act.put, List.setIfInBounds_toArray, List.set_cons_zero, List.set_cons_succ]; rfl) ?_
  refine Qg.t_val (v := .pointer (some ⟨bsa, osa + 32, none⟩)) (by kernel_rfl) (fun V hV => Qg.via_s (by kernel_rfl) (Qg.ix_st (k := 4) (b := bsa) (off := osa) (n := 10) (cap := csa) (by decide))) (by simp only [Act.put, List.setIfInBounds_toArray, List.set_cons_zero, List.set_cons_succ]; rfl) ?_
  refine Qg.t_val (v := .pointer (some ⟨bsa, osa + 37, none⟩)) (by kernel_rfl) (fun V hV => Qg.via_s (by kernel_rfl) (Qg.fl_st5 (b := bsa) (o := osa + 32))) (by simp only [Act.put, List.setIfInBounds_toArray, List.set_cons_zero, List.set_cons_succ]; rfl) ?_
  refine Qg.t_val (v := .slice al3 1 cl3) (by kernel_rfl) (fun V hV => Qg.via_s (by kernel_rfl) (Qg.ld_sts (below_in hV se5))) (by simp only [Act.put, List.setIfInBounds_toArray, List.set_cons_zero, List.set_cons_succ]; rfl) ?_
  refine Qg.t_val (v := .int .i64 1) (by kernel_rfl) (fun V hV => by kernel_rfl) (by simp only [Act.put, List.setIfInBounds_toArray, List.set_cons_zero, List.set_cons_succ]; rfl) ?_
  refine Qg.t_val (v := .bool true) (by kernel_rfl) (fun V hV => by kernel_rfl) (by simp only [Act.put, List.setIfInBounds_toArray, List.set_cons_zero, List.set_cons_succ]; rfl) ?_
  refine Qg.t_val (v := .bool true) (by kernel_rfl) (fun V hV => by kernel_rfl) (by simp only [Act.put, List.setIfInBounds_toArray, List.set_cons_zero, List.set_cons_succ]; rfl) ?_
  refine Qg.t_val (v := .bool true) (by kernel_rfl) (fun V hV => by kernel_rfl) (by simp only [Act.put, List.setIfInBounds_toArray, List.set_cons_zero, List.set_cons_succ]; rfl) ?_
  refine Qg.t_val (v := .slice (some ⟨bsa, osa, none⟩) 10 csa) (by kernel_rfl) (fun V hV => by kernel_rfl) (by simp only [Act.put, List.setIfInBounds_toArray, List.set_cons_zero, List.set_cons_succ]; rfl) ?_
  refine Qg.t_val (v := .pointer (some ⟨bsa, osa + 32, none⟩)) (by kernel_rfl) (fun V hV => Qg.via_s (by kernel_rfl) (Qg.ix_st (k := 4) (b := bsa) (off := osa) (n := 10) (cap := csa) (by decide))) (by simp only [Act.put, List.setIfInBounds_toArray, List.set_cons_zero, List.set_cons_succ]; rfl) ?_
  refine Qg.t_val (v := .pointer (some ⟨bsa, osa + 38, none⟩)) (by kernel_rfl) (fun V hV => Qg.via_s (by kernel_rfl) (Qg.fl_st6 (b := bsa) (o := osa + 32))) (by simp only [Act.put, List.setIfInBounds_toArray, List.set_cons_zero, List.set_cons_succ]; rfl) ?_
  refine Qg.t_val (v := .slice al4 2 cl4) (by kernel_rfl) (fun V hV => Qg.via_s (by kernel_rfl) (Qg.ld_sts (below_in hV se6))) (by simp only [Act.put, List.setIfInBounds_toArray, List.set_cons_zero, List.set_cons_succ]; rfl) ?_
  refine Qg.t_val (v := .int .i64 2) (by kernel_rfl) (fun V hV => by kernel_rfl) (by simp only [Act.put, List.setIfInBounds_toArray, List.set_cons_zero, List.set_cons_succ]; rfl) ?_
  refine Qg.t_val (v := .bool true) (by kernel_rfl) (fun V hV => by kernel_rfl) (by simp only [Act.put, List.setIfInBounds_toArray, List.set_cons_zero, List.set_cons_succ]; rfl) ?_
  refine Qg.t_val (v := .bool true) (by kernel_rfl) (fun V hV => by kernel_rfl) (by simp only [Act.put, List.setIfInBounds_toArray, List.set_cons_zero, List.set_cons_succ]; rfl) ?_
  refine Qg.t_val (v := .bool true) (by kernel_rfl) (fun V hV => by kernel_rfl) (by simp only [Act.put, List.setIfInBounds_toArray, List.set_cons_zero, List.set_cons_succ]; rfl) ?_
  refine Qg.t_val (v := .slice (some ⟨bsa, osa, none⟩) 10 csa) (by kernel_rfl) (fun V hV => by kernel_rfl) (by simp only [Act.put, List.setIfInBounds_toArray, List.set_cons_zero, List.set_cons_succ]; rfl) ?_
  refine Qg.t_val (v := .pointer (some ⟨bsa, osa + 40, none⟩)) (by kernel_rfl) (fun V hV => Qg.via_s (by kernel_rfl) (Qg.ix_st (k := 5) (b := bsa) (off := osa) (n := 10) (cap := csa) (by decide))) (by simp only [Act.put, List.setIfInBounds_toArray, List.set_cons_zero, List.set_cons_succ]; rfl) ?_
  refine Qg.t_val (v := .pointer (some ⟨bsa, osa + 40, none⟩)) (by kernel_rfl) (fun V hV => Qg.via_s (by kernel_rfl) (Qg.fl_st0 (b := bsa) (o := osa + 40))) (by simp only [Act.put, List.setIfInBounds_toArray, List.set_cons_zero, List.set_cons_succ]; rfl) ?_
  refine Qg.t_val (v := .int .u8 5) (by kernel_rfl) (fun V hV => Qg.via_s (by kernel_rfl) (Qg.ld_u8 (below_in hV sf0))) (by simp only [Act.put, List.setIfInBounds_toArray, List.set_cons_zero, List.set_cons_succ]; rfl) ?_
  refine Qg.t_val (v := .bool true) (by kernel_rfl) (fun V hV => by kernel_rfl) (by simp only [Act.put, List.setIfInBounds_toArray, List.set_cons_zero, List.set_cons_succ]; rfl) ?_
  refine Qg.t_val (v := .bool true) (by kernel_rfl) (fun V hV => by kernel_rfl) (by simp only [Act.put, List.setIfInBounds_toArray, List.set_cons_zero, List.set_cons_succ]; rfl) ?_
  refine Qg.t_val (v := .bool true) (by kernel_rfl) (fun V hV => by kernel_rfl) (by simp only [Act.put, List.setIfInBounds_toArray, List.set_cons_zero, List.set_cons_succ]; rfl) ?_
  refine Qg.t_val (v := .slice (some ⟨bsa, osa, none⟩) 10 csa) (by kernel_rfl) (fun V hV => by kernel_rfl) (by simp only [Act.put, List.setIfInBounds_toArray, List.set_cons_zero, List.set_cons_succ]; rfl) ?_
  refine Qg.t_val (v := .pointer (some ⟨bsa, osa + 48, none⟩)) (by kernel_rfl) (fun V hV => Qg.via_s (by kernel_rfl) (Qg.ix_st (k := 6) (b := bsa) (off := osa) (n := 10) (cap := csa) (by decide))) (by simp only [Act.put, List.setIfInBounds_toArray, List.set_cons_zero, List.set_cons_succ]; rfl) ?_
  refine Qg.t_val (v := .pointer (some ⟨bsa, osa + 48, none⟩)) (by kernel_rfl) (fun V hV => Qg.via_s (by kernel_rfl) (Qg.fl_st0 (b := bsa) (o := osa + 48))) (by simp only [Act.put, List.setIfInBounds_toArray, List.set_cons_zero, List.set_cons_succ]; rfl) ?_
  refine Qg.t_val (v := .int .u8 8) (by kernel_rfl) (fun V hV => Qg.via_s (by kernel_rfl) (Qg.ld_u8 (below_in hV sg0))) (by simp only [Act.put, List.setIfInBounds_toArray, List.set_cons_zero, List.set_cons_succ]; rfl) ?_
  refine Qg.t_val (v := .bool true) (by kernel_rfl) (fun V hV => by kernel_rfl) (by simp only [Act.put, List.setIfInBounds_toArray, List.set_cons_zero, List.set_cons_succ]; rfl) ?_
  refine Qg.t_val (v := .bool true) (by kernel_rfl) (fun V hV => by kernel_rfl) (by simp only [Act.put, List.setIfInBounds_toArray, List.set_cons_zero, List.set_cons_succ]; rfl) ?_
  refine Qg.t_val (v := .bool true) (by kernel_rfl) (fun V hV => by kernel_rfl) (by simp only [Act.put, List.setIfInBounds_toArray, List.set_cons_zero, List.set_cons_succ]; rfl) ?_
  refine Qg.t_val (v := .slice (some ⟨bsa, osa, none⟩) 10 csa) (by kernel_rfl) (fun V hV => by kernel_rfl) (by simp only [Act.put, List.setIfInBounds_toArray, List.set_cons_zero, List.set_cons_succ]; rfl) ?_
  refine Qg.t_val (v := .pointer (some ⟨bsa, osa + 48, none⟩)) (by kernel_rfl) (fun V hV => Qg.via_s (by kernel_rfl) (Qg.ix_st (k := 6) (b := bsa) (off := osa) (n := 10) (cap := csa) (by decide))) (by simp only [Act.put, List.setIfInBounds_toArray, List.set_cons_zero, List.set_cons_succ]; rfl) ?_
  refine Qg.t_val (v := .pointer (some ⟨bsa, osa + 49, none⟩)) (by kernel_rfl) (fun V hV => Qg.via_s (by kernel_rfl) (Qg.fl_st1 (b := bsa) (o := osa + 48))) (by simp only [Act.put, List.setIfInBounds_toArray, List.set_cons_zero, List.set_cons_succ]; rfl) ?_
  refine Qg.t_val (v := .string ⟨#[102]⟩) (by kernel_rfl) (fun V hV => Qg.via_s (by kernel_rfl) (Qg.ld_str (below_in hV sg1))) (by simp only [Act.put, List.setIfInBounds_toArray, List.set_cons_zero, List.set_cons_succ]; rfl) ?_
  refine Qg.t_val (v := .bool true) (by kernel_rfl) (fun V hV => Qg.via_s (by kernel_rfl) (Qg.eq_str (p := .tmp 198) (q := .const (.string ⟨#[102]⟩)) (x := ⟨#[102]⟩))) (by simp only [Act.put, List.setIfInBounds_toArray, List.set_cons_zero, List.set_cons_succ]; rfl) ?_
  refine Qg.t_val (v := .bool true) (by kernel_rfl) (fun V hV => by kernel_rfl) (by simp only [Act.put, List.setIfInBounds_toArray, List.set_cons_zero, List.set_cons_succ]; rfl) ?_
  refine Qg.t_val (v := .bool true) (by kernel_rfl) (fun V hV => by kernel_rfl) (by simp only [Act.put, List.setIfInBounds_toArray, List.set_cons_zero, List.set_cons_succ]; rfl) ?_
  refine Qg.t_val (v := .slice (some ⟨bsa, osa, none⟩) 10 csa) (by kernel_rfl) (fun V hV => by kernel_rfl) (by simp only [Act.put, List.setIfInBounds_toArray, List.set_cons_zero, List.set_cons_succ]; rfl) ?_
  refine Qg.t_val (v := .pointer (some ⟨bsa, osa + 48, none⟩)) (by kernel_rfl) (fun V hV => Qg.via_s (by kernel_rfl) (Qg.ix_st (k := 6) (b := bsa) (off := osa) (n := 10) (cap := csa) (by decide))) (by simp only [Act.put, List.setIfInBounds_toArray, List.set_cons_zero, List.set_cons_succ]; rfl) ?_
  refine Qg.t_val (v := .pointer (some ⟨bsa, osa + 50, none⟩)) (by kernel_rfl) (fun V hV => Qg.via_s (by kernel_rfl) (Qg.fl_st2 (b := bsa) (o := osa + 48))) (by simp only [Act.put, List.setIfInBounds_toArray, List.set_cons_zero, List.set_cons_succ]; rfl) ?_
  refine Qg.t_val (v := .string ⟨#[]⟩) (by kernel_rfl) (fun V hV => Qg.via_s (by kernel_rfl) (Qg.ld_str (below_in hV sg2))) (by simp only [Act.put, List.setIfInBounds_toArray, List.set_cons_zero, List.set_cons_succ]; rfl) ?_
  refine Qg.t_val (v := .bool true) (by kernel_rfl) (fun V hV => Qg.via_s (by kernel_rfl) (Qg.eq_str (p := .tmp 205) (q := .const (.string ⟨#[]⟩)) (x := ⟨#[]⟩))) (by simp only [Act.put, List.setIfInBounds_toArray, List.set_cons_zero, List.set_cons_succ]; rfl) ?_
  refine Qg.t_val (v := .bool true) (by kernel_rfl) (fun V hV => by kernel_rfl) (by simp only [Act.put, List.setIfInBounds_toArray, List.set_cons_zero, List.set_cons_succ]; rfl) ?_
  refine Qg.t_val (v := .bool true) (by kernel_rfl) (fun V hV => by kernel_rfl) (by simp only [Act.put, List.setIfInBounds_toArray, List.set_cons_zero, List.set_cons_succ]; rfl) ?_
  refine Qg.t_val (v := .slice (some ⟨bsa, osa, none⟩) 10 csa) (by kernel_rfl) (fun V hV => by kernel_rfl) (by simp only [Act.put, List.setIfInBounds_toArray, List.set_cons_zero, List.set_cons_succ]; rfl) ?_
  refine Qg.t_val (v := .pointer (some ⟨bsa, osa + 48, none⟩)) (by kernel_rfl) (fun V hV => Qg.via_s (by kernel_rfl) (Qg.ix_st (k := 6) (b := bsa) (off := osa) (n := 10) (cap := csa) (by decide))) (by simp only [Act.put, List.setIfInBounds_toArray, List.set_cons_zero, List.set_cons_succ]; rfl) ?_
  refine Qg.t_val (v := .pointer (some ⟨bsa, osa + 51, none⟩)) (by kernel_rfl) (fun V hV => Qg.via_s (by kernel_rfl) (Qg.fl_st3 (b := bsa) (o := osa + 48))) (by simp only [Act.put, List.setIfInBounds_toArray, List.set_cons_zero, List.set_cons_succ]; rfl) ?_
  refine Qg.t_val (v := .bool false) (by kernel_rfl) (fun V hV => Qg.via_s (by kernel_rfl) (Qg.ld_bool (below_in hV sg3))) (by simp only [Act.put, List.setIfInBounds_toArray, List.set_cons_zero, List.set_cons_succ]; rfl) ?_
  refine Qg.t_val (v := .bool true) (by kernel_rfl) (fun V hV => by kernel_rfl) (by simp only [Act.put, List.setIfInBounds_toArray, List.set_cons_zero, List.set_cons_succ]; rfl) ?_
  refine Qg.t_val (v := .bool true) (by kernel_rfl) (fun V hV => by kernel_rfl) (by simp only [Act.put, List.setIfInBounds_toArray, List.set_cons_zero, List.set_cons_succ]; rfl) ?_
  refine Qg.t_val (v := .bool true) (by kernel_rfl) (fun V hV => by kernel_rfl) (by simp only [Act.put, List.setIfInBounds_toArray, List.set_cons_zero, List.set_cons_succ]; rfl) ?_
  refine Qg.t_val (v := .slice (some ⟨bsa, osa, none⟩) 10 csa) (by kernel_rfl) (fun V hV => by kernel_rfl) (by simp only [Act.put, List.setIfInBounds_toArray, List.set_cons_zero, List.set_cons_succ]; rfl) ?_
  refine Qg.t_val (v := .pointer (some ⟨bsa, osa + 48, none⟩)) (by kernel_rfl) (fun V hV => Qg.via_s (by kernel_rfl) (Qg.ix_st (k := 6) (b := bsa) (off := osa) (n := 10) (cap := csa) (by decide))) (by simp only [Act.put, List.setIfInBounds_toArray, List.set_cons_zero, List.set_cons_succ]; rfl) ?_
  refine Qg.t_val (v := .pointer (some ⟨bsa, osa + 52, none⟩)) (by kernel_rfl) (fun V hV => Qg.via_s (by kernel_rfl) (Qg.fl_st4 (b := bsa) (o := osa + 48))) (by simp only [Act.put, List.setIfInBounds_toArray, List.set_cons_zero, List.set_cons_succ]; rfl) ?_
  refine Qg.t_val (v := .slice al5 0 cl5) (by kernel_rfl) (fun V hV => Qg.via_s (by kernel_rfl) (Qg.ld_exs (below_in hV sg4))) (by simp only [Act.put, List.setIfInBounds_toArray, List.set_cons_zero, List.set_cons_succ]; rfl) ?_
  refine Qg.t_val (v := .int .i64 0) (by kernel_rfl) (fun V hV => by kernel_rfl) (by simp only [Act.put, List.setIfInBounds_toArray, List.set_cons_zero, List.set_cons_succ]; rfl) ?_
  refine Qg.t_val (v := .bool true) (by kernel_rfl) (fun V hV => by kernel_rfl) (by simp only [Act.put, List.setIfInBounds_toArray, List.set_cons_zero, List.set_cons_succ]; rfl) ?_
  refine Qg.t_val (v := .bool true) (by kernel_rfl) (fun V hV => by kernel_rfl) (by simp only [Act.put, List.setIfInBounds_toArray, List.set_cons_zero, List.set_cons_succ]; rfl) ?_
  refine Qg.t_val (v := .bool true) (by kernel_rfl) (fun V hV => by kernel_rfl) (by simp only [Act.put, List.setIfInBounds_toArray, List.set_cons_zero, List.set_cons_succ]; rfl) ?_
  refine Qg.t_val (v := .slice (some ⟨bsa, osa, none⟩) 10 csa) (by kernel_rfl) (fun V hV => by kernel_rfl) (by simp only [Act.put, List.setIfInBounds_toArray, List.set_cons_zero, List.set_cons_succ]; rfl) ?_
  refine Qg.t_val (v := .pointer (some ⟨bsa, osa + 56, none⟩)) (by kernel_rfl) (fun V hV => Qg.via_s (by kernel_rfl) (Qg.ix_st (k := 7) (b := bsa) (off := osa) (n := 10) (cap := csa) (by decide))) (by simp only [Act.put, List.setIfInBounds_toArray, List.set_cons_zero, List.set_cons_succ]; rfl) ?_
  refine Qg.t_val (v := .pointer (some ⟨bsa, osa + 58, none⟩)) (by kernel_rfl) (fun V hV => Qg.via_s (by kernel_rfl) (Qg.fl_st2 (b := bsa) (o := osa + 56))) (by simp only [Act.put, List.setIfInBounds_toArray, List.set_cons_zero, List.set_cons_succ]; rfl) ?_
  refine Qg.t_val (v := .string ⟨#[121]⟩) (by kernel_rfl) (fun V hV => Qg.via_s (by kernel_rfl) (Qg.ld_str (below_in hV sh2))) (by simp only [Act.put, List.setIfInBounds_toArray, List.set_cons_zero, List.set_cons_succ]; rfl) ?_
  refine Qg.t_val (v := .bool true) (by kernel_rfl) (fun V hV => Qg.via_s (by kernel_rfl) (Qg.eq_str (p := .tmp 227) (q := .const (.string ⟨#[121]⟩)) (x := ⟨#[121]⟩))) (by simp only [Act.put, List.setIfInBounds_toArray, List.set_cons_zero, List.set_cons_succ]; rfl) ?_
  refine Qg.t_val (v := .bool true) (by kernel_rfl) (fun V hV => by kernel_rfl) (by simp only [Act.put, List.setIfInBounds_toArray, List.set_cons_zero, List.set_cons_succ]; rfl) ?_
  refine Qg.t_val (v := .bool true) (by kernel_rfl) (fun V hV => by kernel_rfl) (by simp only [Act.put, List.setIfInBounds_toArray, List.set_cons_zero, List.set_cons_succ]; rfl) ?_
  refine Qg.t_val (v := .slice (some ⟨bsa, osa, none⟩) 10 csa) (by kernel_rfl) (fun V hV => by kernel_rfl) (by simp only [Act.put, List.setIfInBounds_toArray, List.set_cons_zero, List.set_cons_succ]; rfl) ?_
  refine Qg.t_val (v := .pointer (some ⟨bsa, osa + 56, none⟩)) (by kernel_rfl) (fun V hV => Qg.via_s (by kernel_rfl) (Qg.ix_st (k := 7) (b := bsa) (off := osa) (n := 10) (cap := csa) (by decide))) (by simp only [Act.put, List.setIfInBounds_toArray, List.set_cons_zero, List.set_cons_succ]; rfl) ?_
  refine Qg.t_val (v := .pointer (some ⟨bsa, osa + 59, none⟩)) (by kernel_rfl) (fun V hV => Qg.via_s (by kernel_rfl) (Qg.fl_st3 (b := bsa) (o := osa + 56))) (by simp only [Act.put, List.setIfInBounds_toArray, List.set_cons_zero, List.set_cons_succ]; rfl) ?_
  refine Qg.t_val (v := .bool false) (by kernel_rfl) (fun V hV => Qg.via_s (by kernel_rfl) (Qg.ld_bool (below_in hV sh3))) (by simp only [Act.put, List.setIfInBounds_toArray, List.set_cons_zero, List.set_cons_succ]; rfl) ?_
  refine Qg.t_val (v := .bool true) (by kernel_rfl) (fun V hV => by kernel_rfl) (by simp only [Act.put, List.setIfInBounds_toArray, List.set_cons_zero, List.set_cons_succ]; rfl) ?_
  refine Qg.t_val (v := .bool true) (by kernel_rfl) (fun V hV => by kernel_rfl) (by simp only [Act.put, List.setIfInBounds_toArray, List.set_cons_zero, List.set_cons_succ]; rfl) ?_
  refine Qg.t_val (v := .bool true) (by kernel_rfl) (fun V hV => by kernel_rfl) (by simp only [Act.put, List.setIfInBounds_toArray, List.set_cons_zero, List.set_cons_succ]; rfl) ?_
  refine Qg.t_val (v := .slice (some ⟨bsa, osa, none⟩) 10 csa) (by kernel_rfl) (fun V hV => by kernel_rfl) (by simp only [Act.put, List.setIfInBounds_toArray, List.set_cons_zero, List.set_cons_succ]; rfl) ?_
  refine Qg.t_val (v := .pointer (some ⟨bsa, osa + 56, none⟩)) (by kernel_rfl) (fun V hV => Qg.via_s (by kernel_rfl) (Qg.ix_st (k := 7) (b := bsa) (off := osa) (n := 10) (cap := csa) (by decide))) (by simp only [Act.put, List.setIfInBounds_toArray, List.set_cons_zero, List.set_cons_succ]; rfl) ?_
  refine Qg.t_val (v := .pointer (some ⟨bsa, osa + 60, none⟩)) (by kernel_rfl) (fun V hV => Qg.via_s (by kernel_rfl) (Qg.fl_st4 (b := bsa) (o := osa + 56))) (by simp only [Act.put, List.setIfInBounds_toArray, List.set_cons_zero, List.set_cons_succ]; rfl) ?_
  refine Qg.t_val (v := .slice al6 2 cl6) (by kernel_rfl) (fun V hV => Qg.via_s (by kernel_rfl) (Qg.ld_exs (below_in hV sh4))) (by simp only [Act.put, List.setIfInBounds_toArray, List.set_cons_zero, List.set_cons_succ]; rfl) ?_
  refine Qg.t_val (v := .int .i64 2) (by kernel_rfl) (fun V hV => by kernel_rfl) (by simp only [Act.put, List.setIfInBounds_toArray, List.set_cons_zero, List.set_cons_succ]; rfl) ?_
  refine Qg.t_val (v := .bool true) (by kernel_rfl) (fun V hV => by kernel_rfl) (by simp only [Act.put, List.setIfInBounds_toArray, List.set_cons_zero, List.set_cons_succ]; rfl) ?_
  refine Qg.t_val (v := .bool true) (by kernel_rfl) (fun V hV => by kernel_rfl) (by simp only [Act.put, List.setIfInBounds_toArray, List.set_cons_zero, List.set_cons_succ]; rfl) ?_
  refine Qg.t_val (v := .bool true) (by kernel_rfl) (fun V hV => by kernel_rfl) (by simp only [Act.put, List.setIfInBounds_toArray, List.set_cons_zero, List.set_cons_succ]; rfl) ?_
  refine Qg.t_val (v := .slice (some ⟨bsa, osa, none⟩) 10 csa) (by kernel_rfl) (fun V hV => by kernel_rfl) (by simp only [Act.put, List.setIfInBounds_toArray, List.set_cons_zero, List.set_cons_succ]; rfl) ?_
  refine Qg.t_val (v := .pointer (some ⟨bsa, osa + 64, none⟩)) (by kernel_rfl) (fun V hV => Qg.via_s (by kernel_rfl) (Qg.ix_st (k := 8) (b := bsa) (off := osa) (n := 10) (cap := csa) (by decide))) (by simp only [Act.put, List.setIfInBounds_toArray, List.set_cons_zero, List.set_cons_succ]; rfl) ?_
  refine Qg.t_val (v := .pointer (some ⟨bsa, osa + 66, none⟩)) (by kernel_rfl) (fun V hV => Qg.via_s (by kernel_rfl) (Qg.fl_st2 (b := bsa) (o := osa + 64))) (by simp only [Act.put, List.setIfInBounds_toArray, List.set_cons_zero, List.set_cons_succ]; rfl) ?_
  refine Qg.t_val (v := .string ⟨#[122]⟩) (by kernel_rfl) (fun V hV => Qg.via_s (by kernel_rfl) (Qg.ld_str (below_in hV si2))) (by simp only [Act.put, List.setIfInBounds_toArray, List.set_cons_zero, List.set_cons_succ]; rfl) ?_
  refine Qg.t_val (v := .bool true) (by kernel_rfl) (fun V hV => Qg.via_s (by kernel_rfl) (Qg.eq_str (p := .tmp 249) (q := .const (.string ⟨#[122]⟩)) (x := ⟨#[122]⟩))) (by simp only [Act.put, List.setIfInBounds_toArray, List.set_cons_zero, List.set_cons_succ]; rfl) ?_
  refine Qg.t_val (v := .bool true) (by kernel_rfl) (fun V hV => by kernel_rfl) (by simp only [Act.put, List.setIfInBounds_toArray, List.set_cons_zero, List.set_cons_succ]; rfl) ?_
  refine Qg.t_val (v := .bool true) (by kernel_rfl) (fun V hV => by kernel_rfl) (by simp only [Act.put, List.setIfInBounds_toArray, List.set_cons_zero, List.set_cons_succ]; rfl) ?_
  refine Qg.t_val (v := .slice (some ⟨bsa, osa, none⟩) 10 csa) (by kernel_rfl) (fun V hV => by kernel_rfl) (by simp only [Act.put, List.setIfInBounds_toArray, List.set_cons_zero, List.set_cons_succ]; rfl) ?_
  refine Qg.t_val (v := .pointer (some ⟨bsa, osa + 64, none⟩)) (by kernel_rfl) (fun V hV => Qg.via_s (by kernel_rfl) (Qg.ix_st (k := 8) (b := bsa) (off := osa) (n := 10) (cap := csa) (by decide))) (by simp only [Act.put, List.setIfInBounds_toArray, List.set_cons_zero, List.set_cons_succ]; rfl) ?_
  refine Qg.t_val (v := .pointer (some ⟨bsa, osa + 67, none⟩)) (by kernel_rfl) (fun V hV => Qg.via_s (by kernel_rfl) (Qg.fl_st3 (b := bsa) (o := osa + 64))) (by simp only [Act.put, List.setIfInBounds_toArray, List.set_cons_zero, List.set_cons_succ]; rfl) ?_
  refine Qg.t_val (v := .bool true) (by kernel_rfl) (fun V hV => Qg.via_s (by kernel_rfl) (Qg.ld_bool (below_in hV si3))) (by simp only [Act.put, List.setIfInBounds_toArray, List.set_cons_zero, List.set_cons_succ]; rfl) ?_
  refine Qg.t_val (v := .bool true) (by kernel_rfl) (fun V hV => by kernel_rfl) (by simp only [Act.put, List.setIfInBounds_toArray, List.set_cons_zero, List.set_cons_succ]; rfl) ?_
  refine Qg.t_val (v := .bool true) (by kernel_rfl) (fun V hV => by kernel_rfl) (by simp only [Act.put, List.setIfInBounds_toArray, List.set_cons_zero, List.set_cons_succ]; rfl) ?_
  refine Qg.t_val (v := .slice (some ⟨bsa, osa, none⟩) 10 csa) (by kernel_rfl) (fun V hV => by kernel_rfl) (by simp only [Act.put, List.setIfInBounds_toArray, List.set_cons_zero, List.set_cons_succ]; rfl) ?_
  refine Qg.t_val (v := .pointer (some ⟨bsa, osa + 64, none⟩)) (by kernel_rfl) (fun V hV => Qg.via_s (by kernel_rfl) (Qg.ix_st (k := 8) (b := bsa) (off := osa) (n := 10) (cap := csa) (by decide))) (by simp only [Act.put, List.setIfInBounds_toArray, List.set_cons_zero, List.set_cons_succ]; rfl) ?_
  refine Qg.t_val (v := .pointer (some ⟨bsa, osa + 65, none⟩)) (by kernel_rfl) (fun V hV => Qg.via_s (by kernel_rfl) (Qg.fl_st1 (b := bsa) (o := osa + 64))) (by simp only [Act.put, List.setIfInBounds_toArray, List.set_cons_zero, List.set_cons_succ]; rfl) ?_
  refine Qg.t_val (v := .string ⟨#[102]⟩) (by kernel_rfl) (fun V hV => Qg.via_s (by kernel_rfl) (Qg.ld_str (below_in hV si1))) (by simp only [Act.put, List.setIfInBounds_toArray, List.set_cons_zero, List.set_cons_succ]; rfl) ?_
  refine Qg.t_val (v := .bool true) (by kernel_rfl) (fun V hV => Qg.via_s (by kernel_rfl) (Qg.eq_str (p := .tmp 262) (q := .const (.string ⟨#[102]⟩)) (x := ⟨#[102]⟩))) (by simp only [Act.put, List.setIfInBounds_toArray, List.set_cons_zero, List.set_cons_succ]; rfl) ?_
  refine Qg.t_val (v := .bool true) (by kernel_rfl) (fun V hV => by kernel_rfl) (by simp only [Act.put, List.setIfInBounds_toArray, List.set_cons_zero, List.set_cons_succ]; rfl) ?_
  refine Qg.t_val (v := .bool true) (by kernel_rfl) (fun V hV => by kernel_rfl) (by simp only [Act.put, List.setIfInBounds_toArray, List.set_cons_zero, List.set_cons_succ]; rfl) ?_
  refine Qg.t_val (v := .slice (some ⟨bsa, osa, none⟩) 10 csa) (by kernel_rfl) (fun V hV => by kernel_rfl) (by simp only [Act.put, List.setIfInBounds_toArray, List.set_cons_zero, List.set_cons_succ]; rfl) ?_
  refine Qg.t_val (v := .pointer (some ⟨bsa, osa + 72, none⟩)) (by kernel_rfl) (fun V hV => Qg.via_s (by kernel_rfl) (Qg.ix_st (k := 9) (b := bsa) (off := osa) (n := 10) (cap := csa) (by decide))) (by simp only [Act.put, List.setIfInBounds_toArray, List.set_cons_zero, List.set_cons_succ]; rfl) ?_
  refine Qg.t_val (v := .pointer (some ⟨bsa, osa + 72, none⟩)) (by kernel_rfl) (fun V hV => Qg.via_s (by kernel_rfl) (Qg.fl_st0 (b := bsa) (o := osa + 72))) (by simp only [Act.put, List.setIfInBounds_toArray, List.set_cons_zero, List.set_cons_succ]; rfl) ?_
  refine Qg.t_val (v := .int .u8 9) (by kernel_rfl) (fun V hV => Qg.via_s (by kernel_rfl) (Qg.ld_u8 (below_in hV sj0))) (by simp only [Act.put, List.setIfInBounds_toArray, List.set_cons_zero, List.set_cons_succ]; rfl) ?_
  refine Qg.t_val (v := .bool true) (by kernel_rfl) (fun V hV => by kernel_rfl) (by simp only [Act.put, List.setIfInBounds_toArray, List.set_cons_zero, List.set_cons_succ]; rfl) ?_
  refine Qg.t_val (v := .bool true) (by kernel_rfl) (fun V hV => by kernel_rfl) (by simp only [Act.put, List.setIfInBounds_toArray, List.set_cons_zero, List.set_cons_succ]; rfl) ?_
  refine Qg.t_val (v := .bool true) (by kernel_rfl) (fun V hV => by kernel_rfl) (by simp only [Act.put, List.setIfInBounds_toArray, List.set_cons_zero, List.set_cons_succ]; rfl) ?_
  refine wpQuiet_nil (fun V hV => ?_)
  have hbU := Lib.hid (hb.out.trans (hV.mono hb.out.size))
  clear sa0 sa1 sa7 sb0 sc0 sc4 sd0 sd5 sd6 se5 se6 sf0 sg0 sg1 sg2 sg3 sg4 sh2 sh3 sh4 si1 si2 si3 sj0 xc0 xc1 xc2 xc3 xc4
  go_wp2_with fail
  go_ret
  exact ⟨rfl, hbU.out⟩
end Go.Proofs.YtfhmhplbkheojaaGreatDoor.Pa
