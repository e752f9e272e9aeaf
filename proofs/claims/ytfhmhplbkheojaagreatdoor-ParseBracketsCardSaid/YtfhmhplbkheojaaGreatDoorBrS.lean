/- The walk of the statement ParseBrackets' function. Conditions: the variables that the packages read hold what they were laid with. -/
import Derived.Test.YtfhmhplbkheojaaGreatDoorBrR
namespace Go.Proofs.YtfhmhplbkheojaaGreatDoor.Pa
open Go Go.RowKit
open Go.Proofs.YtfhmhplbkheojaaGreatDoor.Lx Go.Proofs.YtfhmhplbkheojaaGreatDoor.Tr

set_option linter.unusedSimpArgs false in
set_option maxHeartbeats 16000000 in
set_option maxRecDepth 100000 in
theorem brackets_law (s : ByteArray) (x y : Int) (w : World) (hsz : s.size ≤ maxLen) (hx : 0 ≤ x ∧ x ≤ 255) (hy : 0 ≤ y ∧ y ≤ 255) (hw : All w) :
    Calls Tryz.prog 6 #[.string s, .int .u8 x, .int .u8 y] w fun v w' => v = .returned (.bool true) ∧ Below w.heap.size w w' := by
  have hWk := Lib.hid (fun V (hV : All V) => works_c V hV)
  have hsl : (s.size : Int) ≤ 9223372036854775807 := by unfold maxLen at hsz; omega
  by_cases hlong : 2000 < s.size
  · have hl1 : (2000 : Int) < (s.size : Int) := by omega
    have hl2 : decide ((s.size : Int) > 2000) = true := decide_eq_true hl1
    replace hw := Lib.hid hw
    clear hsz hlong hx hy
    go_enter Tryz.func6, Tryz.ntmps6
    go_wp2_with fail
    refine (hWk.out w hw.out).mono ?_
    rintro e w1 ⟨rfl, hb1⟩
    replace hb1 := Lib.hid hb1
    go_wp2_with fail
    refine (hWk.out w1 (hw.out.below hb1.out)).mono ?_
    rintro e w2 ⟨rfl, hb2⟩
    have hb02 := Lib.hid (hb1.out.trans (hb2.mono hb1.out.size))
    clear hb1 hb2
    go_wp2_with fail
    go_ret
    exact ⟨rfl, hb02.out⟩
  · have hl1 : ¬ (2000 : Int) < (s.size : Int) := by omega
    have hl2 : decide ((s.size : Int) > 2000) = false := decide_eq_false hl1
    have hs2 : s.size ≤ 2000 := by omega
    clear hsz hlong hsl
    have hPs := Lib.hid (fun (G : ByteArray) (hG : G.size ≤ 8000) (V : World) (hV : All V) => parse_c G V (by unfold maxLen; omega) hV.tb hV.ht)
    replace hw := Lib.hid hw
    obtain ⟨A1, hA1⟩ : ∃ x : ByteArray, ⟨#[116, 104, 114, 101, 97, 100, 32, 116, 123, 112, 114, 105, 110, 116, 32]⟩ ++ s = x := ⟨_, rfl⟩
    obtain ⟨A2, hA2⟩ : ∃ x : ByteArray, A1 ++ ⟨#[59, 125]⟩ = x := ⟨_, rfl⟩
    obtain ⟨B1, hB1⟩ : ∃ x : ByteArray, ⟨#[116, 104, 114, 101, 97, 100, 32, 116, 123, 112, 114, 105, 110, 116, 32, 40]⟩ ++ s = x := ⟨_, rfl⟩
    obtain ⟨B2, hB2⟩ : ∃ x : ByteArray, B1 ++ ⟨#[10, 41, 59, 125]⟩ = x := ⟨_, rfl⟩
    have zA1 : A1.size ≤ 2015 := by rw [← hA1, app_sz]; show 15 + s.size ≤ 2015; omega
    have zB1 : B1.size ≤ 2016 := by rw [← hB1, app_sz]; show 16 + s.size ≤ 2016; omega
    have zA2 : A2.size ≤ 8000 := by rw [← hA2, app_sz]; show A1.size + 2 ≤ 8000; omega
    have zB2 : B2.size ≤ 8000 := by rw [← hB2, app_sz]; show B1.size + 4 ≤ 8000; omega
    have aA1 : ∀ W : World, (Op.stringOp .add ⟨#[116, 104, 114, 101, 97, 100, 32, 116, 123, 112, 114, 105, 110, 116, 32]⟩ s).run Tryz.prog W = .ok (.string A1) W := fun W => by rw [← hA1]; exact run_string_add W _ _ (by show ((15 : Nat) : Int) ≤ 8388608; decide) (by omega)
    have aA2 : ∀ W : World, (Op.stringOp .add A1 ⟨#[59, 125]⟩).run Tryz.prog W = .ok (.string A2) W := fun W => by rw [← hA2]; exact run_string_add W _ _ (by omega) (by show ((2 : Nat) : Int) ≤ 8388608; decide)
    have aB1 : ∀ W : World, (Op.stringOp .add ⟨#[116, 104, 114, 101, 97, 100, 32, 116, 123, 112, 114, 105, 110, 116, 32, 40]⟩ s).run Tryz.prog W = .ok (.string B1) W := fun W => by rw [← hB1]; exact run_string_add W _ _ (by show ((16 : Nat) : Int) ≤ 8388608; decide) (by omega)
    have aB2 : ∀ W : World, (Op.stringOp .add B1 ⟨#[10, 41, 59, 125]⟩).run Tryz.prog W = .ok (.string B2) W := fun W => by rw [← hB2]; exact run_string_add W _ _ (by omega) (by show ((4 : Nat) : Int) ≤ 8388608; decide)
    have dA : A2.data.toList = hdL ++ (s.data.toList ++ [59, 125]) := by rw [← hA2, app_any, ← hA1, app_any, List.append_assoc]; rfl
    have dB : B2.data.toList = hdL ++ (40 :: (s.data.toList ++ 10 :: [41, 59, 125])) := by rw [← hB2, app_any, ← hB1, app_any, List.append_assoc]; rfl
    have hBM := Lib.hid (fun (d : De) (pa : Int) (hp : parseP A2 = ([da d], pa, 0)) (hb : d.body.length = 1) => brackets_mem hs2 dA dB hp hb)
    have hQA := Lib.hid (hPs.out A2 zA2)
    have hQB := Lib.hid (hPs.out B2 zB2)
    clear hA1 hA2 hB1 hB2 zA1 zA2 zB1 zB2 dA dB
    obtain ⟨p, hpx, hp7⟩ := u8_7 hx
    obtain ⟨q, hqy, hq7⟩ := u8_7 hy
    have hxw : IntKind.i64.wrap x = x := IntWalk.i64_in _ (by omega)
    have hyw : IntKind.i64.wrap y = y := IntWalk.i64_in _ (by omega)
    have hpw : IntKind.i64.wrap (p : Int) = p := IntWalk.i64_in _ (by omega)
    have hqw : IntKind.i64.wrap (q : Int) = q := IntWalk.i64_in _ (by omega)
    obtain ⟨P, hP⟩ : ∃ z, opB p = z := ⟨_, rfl⟩
    obtain ⟨Q, hQ⟩ : ∃ z, opB q = z := ⟨_, rfl⟩
    obtain ⟨sp, hsp⟩ : ∃ z, stB p = z := ⟨_, rfl⟩
    obtain ⟨sq, hsq⟩ : ∃ z, stB q = z := ⟨_, rfl⟩
    have zP : P.size ≤ 2 := by rw [← hP]; exact opB_sz p hp7
    have zQ : Q.size ≤ 2 := by rw [← hQ]; exact opB_sz q hq7
    obtain ⟨F1, hF1⟩ : ∃ x : ByteArray, ⟨#[116, 104, 114, 101, 97, 100, 32, 116, 123, 112, 114, 105, 110, 116, 32, 97]⟩ ++ P = x := ⟨_, rfl⟩
    obtain ⟨F2, hF2⟩ : ∃ x : ByteArray, F1 ++ ⟨#[98]⟩ = x := ⟨_, rfl⟩
    obtain ⟨F3, hF3⟩ : ∃ x : ByteArray, F2 ++ Q = x := ⟨_, rfl⟩
    obtain ⟨F4, hF4⟩ : ∃ x : ByteArray, F3 ++ ⟨#[99, 59, 125]⟩ = x := ⟨_, rfl⟩
    have zF1 : F1.size ≤ 40 := by rw [← hF1, app_sz]; show 16 + P.size ≤ 40; omega
    have zF2 : F2.size ≤ 50 := by rw [← hF2, app_sz]; show F1.size + 1 ≤ 50; omega
    have zF3 : F3.size ≤ 60 := by rw [← hF3, app_sz]; omega
    have zF4 : F4.size ≤ 70 := by rw [← hF4, app_sz]; show F3.size + 3 ≤ 70; omega
    have aF1 : ∀ W : World, (Op.stringOp .add ⟨#[116, 104, 114, 101, 97, 100, 32, 116, 123, 112, 114, 105, 110, 116, 32, 97]⟩ P).run Tryz.prog W = .ok (.string F1) W := fun W => by rw [← hF1]; exact run_string_add W _ _ (by show ((16 : Nat) : Int) ≤ 8388608; decide) (by omega)
    have aF2 : ∀ W : World, (Op.stringOp .add F1 ⟨#[98]⟩).run Tryz.prog W = .ok (.string F2) W := fun W => by rw [← hF2]; exact run_string_add W _ _ (by omega) (by show ((1 : Nat) : Int) ≤ 8388608; decide)
    have aF3 : ∀ W : World, (Op.stringOp .add F2 Q).run Tryz.prog W = .ok (.string F3) W := fun W => by rw [← hF3]; exact run_string_add W _ _ (by omega) (by omega)
    have aF4 : ∀ W : World, (Op.stringOp .add F3 ⟨#[99, 59, 125]⟩).run Tryz.prog W = .ok (.string F4) W := fun W => by rw [← hF4]; exact run_string_add W _ _ (by omega) (by show ((3 : Nat) : Int) ≤ 8388608; decide)
    have hF : flatB p q = F4 := by rw [← hF4, ← hF3, ← hF2, ← hF1, ← hP, ← hQ]; rfl
    have hQF := Lib.hid (hPs.out F4 (by omega))
    obtain ⟨L1, hL1⟩ : ∃ x : ByteArray, ⟨#[116, 104, 114, 101, 97, 100, 32, 116, 123, 112, 114, 105, 110, 116, 32, 40, 97]⟩ ++ P = x := ⟨_, rfl⟩
    obtain ⟨L2, hL2⟩ : ∃ x : ByteArray, L1 ++ ⟨#[98, 41]⟩ = x := ⟨_, rfl⟩
    obtain ⟨L3, hL3⟩ : ∃ x : ByteArray, L2 ++ Q = x := ⟨_, rfl⟩
    obtain ⟨L4, hL4⟩ : ∃ x : ByteArray, L3 ++ ⟨#[99, 59, 125]⟩ = x := ⟨_, rfl⟩
    have zL1 : L1.size ≤ 40 := by rw [← hL1, app_sz]; show 17 + P.size ≤ 40; omega
    have zL2 : L2.size ≤ 50 := by rw [← hL2, app_sz]; show L1.size + 2 ≤ 50; omega
    have zL3 : L3.size ≤ 60 := by rw [← hL3, app_sz]; omega
    have zL4 : L4.size ≤ 70 := by rw [← hL4, app_sz]; show L3.size + 3 ≤ 70; omega
    have aL1 : ∀ W : World, (Op.stringOp .add ⟨#[116, 104, 114, 101, 97, 100, 32, 116, 123, 112, 114, 105, 110, 116, 32, 40, 97]⟩ P).run Tryz.prog W = .ok (.string L1) W := fun W => by rw [← hL1]; exact run_string_add W _ _ (by show ((17 : Nat) : Int) ≤ 8388608; decide) (by omega)
    have aL2 : ∀ W : World, (Op.stringOp .add L1 ⟨#[98, 41]⟩).run Tryz.prog W = .ok (.string L2) W := fun W => by rw [← hL2]; exact run_string_add W _ _ (by omega) (by show ((2 : Nat) : Int) ≤ 8388608; decide)
    have aL3 : ∀ W : World, (Op.stringOp .add L2 Q).run Tryz.prog W = .ok (.string L3) W := fun W => by rw [← hL3]; exact run_string_add W _ _ (by omega) (by omega)
    have aL4 : ∀ W : World, (Op.stringOp .add L3 ⟨#[99, 59, 125]⟩).run Tryz.prog W = .ok (.string L4) W := fun W => by rw [← hL4]; exact run_string_add W _ _ (by omega) (by show ((3 : Nat) : Int) ≤ 8388608; decide)
    have hL : leftB p q = L4 := by rw [← hL4, ← hL3, ← hL2, ← hL1, ← hP, ← hQ]; rfl
    have hQL := Lib.hid (hPs.out L4 (by omega))
    obtain ⟨R2, hR2⟩ : ∃ x : ByteArray, F1 ++ ⟨#[40, 98]⟩ = x := ⟨_, rfl⟩
    obtain ⟨R3, hR3⟩ : ∃ x : ByteArray, R2 ++ Q = x := ⟨_, rfl⟩
    obtain ⟨R4, hR4⟩ : ∃ x : ByteArray, R3 ++ ⟨#[99, 41, 59, 125]⟩ = x := ⟨_, rfl⟩
    have zR2 : R2.size ≤ 50 := by rw [← hR2, app_sz]; show F1.size + 2 ≤ 50; omega
    have zR3 : R3.size ≤ 60 := by rw [← hR3, app_sz]; omega
    have zR4 : R4.size ≤ 70 := by rw [← hR4, app_sz]; show R3.size + 4 ≤ 70; omega
    have aR2 : ∀ W : World, (Op.stringOp .add F1 ⟨#[40, 98]⟩).run Tryz.prog W = .ok (.string R2) W := fun W => by rw [← hR2]; exact run_string_add W _ _ (by omega) (by show ((2 : Nat) : Int) ≤ 8388608; decide)
    have aR3 : ∀ W : World, (Op.stringOp .add R2 Q).run Tryz.prog W = .ok (.string R3) W := fun W => by rw [← hR3]; exact run_string_add W _ _ (by omega) (by omega)
    have aR4 : ∀ W : World, (Op.stringOp .add R3 ⟨#[99, 41, 59, 125]⟩).run Tryz.prog W = .ok (.string R4) W := fun W => by rw [← hR4]; exact run_string_add W _ _ (by omega) (by show ((4 : Nat) : Int) ≤ 8388608; decide)
    have hR : rightB p q = R4 := by rw [← hR4, ← hR3, ← hR2, ← hF1, ← hP, ← hQ]; rfl
    have hQR := Lib.hid (hPs.out R4 (by omega))
    obtain ⟨dm, pm, dl, pl, dr, pr, hpm, hpl, hpr, hlo, hhi⟩ := br_at p q hp7 hq7
    rw [hF] at hpm
    rw [hL] at hpl
    rw [hR] at hpr
    rw [hsp, hsq] at hlo hhi
    rw [hpm] at hQF
    rw [hpl] at hQL
    rw [hpr] at hQR
    simp only at hQF hQL hQR
    have hOp := Lib.hid (opL_at p hp7)
    have hOq := Lib.hid (opL_at q hq7)
    have hTp := Lib.hid (stL_at p hp7)
    have hTq := Lib.hid (stL_at q hq7)
    rw [hP] at hOp
    rw [hQ] at hOq
    rw [hsp] at hTp
    rw [hsq] at hTq
    have hp0 : (0 : Int) ≤ (p : Int) := by omega
    have hq0 : (0 : Int) ≤ (q : Int) := by omega
    have hp6 : (p : Int) < 7 := by omega
    have hq6 : (q : Int) < 7 := by omega
    replace hlo := Lib.hid hlo
    replace hhi := Lib.hid hhi
    clear hP hQ hsp hsq zP zQ hpm hpl hpr hPs hF hL hR hx hy hp7 hq7 hF1 zF1 hF2 zF2 hF3 zF3 hF4 zF4 hL1 zL1 hL2 zL2 hL3 zL3 hL4 zL4 hR2 zR2 hR3 zR3 hR4 zR4
    obtain ⟨dA, pA, eA, hpA⟩ : ∃ d p e, parseP A2 = (d, p, e) := ⟨_, _, _, rfl⟩
    rw [hpA] at hQA
    simp only at hQA
    replace hBM := Lib.hid (fun (d : De) (he : eA = 0) (hd : dA = [da d]) (hb : d.body.length = 1) => hBM.out d pA (by rw [hpA, he, hd]) hb)
    clear hpA
    go_enter Tryz.func6, Tryz.ntmps6
    go_wp2_with fail
    refine (hWk.out w hw.out).mono ?_
    rintro e w1 ⟨rfl, hb1⟩
    have hw1 := Lib.hid (hw.out.below hb1)
    replace hb1 := Lib.hid hb1
    clear hWk hw
    go_wp2_with fail
    refine (hQA.out w1 hw1.out).mono ?_
    rintro e w2 ⟨hb2, v2, rfl, l, a, cap, rfl, h1, h2, hda⟩
    have hw2 := Lib.hid (hw1.out.below hb2)
    have hb02 := Lib.hid (hb1.out.trans (hb2.mono hb1.out.size))
    have hrow := Lib.hid (h1.mono (S' := fun _ => True) (fun _ _ => trivial))
    have hin := Lib.hid (h2.mono (S' := fun _ => True) (fun _ _ => trivial))
    clear hb1 hb2 hw1 h1 h2 hQA
    have hll : l.length ≤ 9223372036854775807 := by have := hrow.out.le; have := hrow.out.lim; unfold maxLen at this; omega
    by_cases heA : eA = 0
    case neg =>
      have hd1 : (eA != 0) = true := by simpa using heA
      clear hBM hrow hin hQB hQF hQL hQR hlo hhi
      go_wp2_with fail
      go_ret
      exact ⟨rfl, hb02.out⟩
    case pos =>
    subst heA
    by_cases hl : l.length = 1
    case neg =>
      have hd1 : ((l.length : Int) != 1) = true := by simp; omega
      have hd2 : ¬ (l.length : Int) = 1 := by omega
      clear hBM hrow hin hQB hQF hQL hQR hlo hhi hl
      go_wp2_with fail
      go_ret
      exact ⟨rfl, hb02.out⟩
    case pos =>
    obtain ⟨d, rfl⟩ : ∃ d, l = [d] := by
      cases l with
      | nil => simp at hl
      | cons d r => cases r with
        | nil => exact ⟨d, rfl⟩
        | cons _ _ => simp at hl
    obtain ⟨b, off, rfl, _, hcell⟩ := de_row hrow.out 0 d rfl
    have hDi := hin.out d (List.mem_singleton.2 rfl)
    replace hBM := Lib.hid (hBM.out d rfl (by rw [← hda]; rfl))
    obtain ⟨k, nm, n, pa, pc, ps, ba, bc, bd, pos⟩ := d
    obtain ⟨_, _, _, _, _, _, rb, ib⟩ := hDi
    simp only at rb ib hBM
    have hbl : bd.length ≤ 9223372036854775807 := by have := rb.le; have := rb.lim; unfold maxLen at this; omega
    have c4 := hcell 4 _ rfl
    simp only [Nat.zero_mul, Nat.zero_add] at c4
    clear hcell
    by_cases hlb : bd.length = 1
    case neg =>
      have hd1 : ((bd.length : Int) != 1) = true := by simp; omega
      have hd2 : ¬ (bd.length : Int) = 1 := by omega
      clear hBM hrow hin hQB hQF hQL hQR hlo hhi hl rb ib hlb
      go_wp2_with fail
      go_ret
      exact ⟨rfl, hb02.out⟩
    case pos =>
    obtain ⟨st, rfl⟩ : ∃ d, bd = [d] := by
      cases bd with
      | nil => simp at hlb
      | cons d r => cases r with
        | nil => exact ⟨d, rfl⟩
        | cons _ _ => simp at hlb
    obtain ⟨b2, off2, rfl, _, hcell2⟩ := st_row rb 0 st rfl
    obtain ⟨is1, _⟩ := ib
    obtain ⟨sk, snm, sto, snw, ea, ec, ex, sba, sbc, sbd, sla, slc, sls, spos⟩ := st
    obtain ⟨_, _, _, _, re, _, _⟩ := is1
    have hel : ex.length ≤ 9223372036854775807 := by have := re.le; have := re.lim; unfold maxLen at this; omega
    have d0 := hcell2 0 _ rfl
    have d4 := hcell2 4 _ rfl
    simp only [Nat.zero_mul, Nat.zero_add, Nat.add_zero] at d0 d4
    replace hBM := Lib.hid (hBM.out rfl)
    clear hcell2 re rb
    by_cases hle : ex.length = 1
    case neg =>
      have hd1 : ((ex.length : Int) != 1) = true := by simp; omega
      have hd2 : ¬ (ex.length : Int) = 1 := by omega
      clear hBM hrow hin hQB hQF hQL hQR hlo hhi hl hlb hle
      go_wp2_with fail
      go_ret
      exact ⟨rfl, hb02.out⟩
    case pos =>
    have hel2 : (ex.length : Int) = 1 := by omega
    have hd0 : ((ex.length : Int) != 1) = false := by simp; omega
    clear hl hlb hle hel hbl hll
    have hDA : [De.mk k nm n pa pc ps (some ⟨b2, off2, none⟩) bc [.mk sk snm sto snw ea ec ex sba sbc sbd sla slc sls spos] pos].map da = dA := hda
    clear hda
    rcases hBM.out with ⟨dB, pB, hpB, hSB⟩ | ⟨dB, pB, eB, hpB, hne⟩
    case inr =>
      have hd1 : (eB != 0) = true := by simpa using hne
      rw [hpB] at hQB
      simp only at hQB
      clear hBM hpB hrow hin hQF hQL hQR hlo hhi
      go_wp2_with fail
      refine (hQB.out w2 hw2.out).mono ?_
      rintro e w3 ⟨hb3, v3, rfl, l', a', cap', rfl, h1, h2, _⟩
      have e4 := below_in hb3 c4
      have f0 := below_in hb3 d0
      have hb03 := Lib.hid (hb02.out.trans (hb3.mono hb02.out.size))
      clear hb3 h1 h2 c4 d0 d4
      by_cases hk7 : sk = 7
      · subst hk7
        go_wp2_with fail
        go_ret
        exact ⟨rfl, hb03.out⟩
      · have hk8 : (sk != 7) = true := by simpa using hk7
        go_wp2_with fail
        go_ret
        exact ⟨rfl, hb03.out⟩
    case inl =>
    rw [hpB] at hQB
    simp only at hQB
    clear hBM hpB
    go_wp2_with fail
    refine (hQB.out w2 hw2.out).mono ?_
    rintro e w3 ⟨hb3, v3, rfl, l', a', cap', rfl, h1, h2, hdb⟩
    have hw3 := Lib.hid (hw2.out.below hb3)
    have hb03 := Lib.hid (hb02.out.trans (hb3.mono hb02.out.size))
    have hS : sameDL [De.mk k nm n pa pc ps (some ⟨b2, off2, none⟩) bc [.mk sk snm sto snw ea ec ex sba sbc sbd sla slc sls spos] pos] l' = true := by rw [same_mem hDA hdb, ← hDA]; exact hSB
    have hSC := refSame_any _ _ _ _ _ _ w3 (hrow.out.below (Kps.of_below hb3)) (h1.mono (S' := fun _ => True) (fun _ _ => trivial)) (hin.out.below (Kps.of_below hb3)) (h2.mono (S' := fun _ => True) (fun _ _ => trivial))
    rw [hS] at hSC
    replace hSC := Lib.hid hSC
    clear hb3 h1 h2 hS hSB hrow hin hQB c4 d0 d4 hw2 hb02 hDA hdb
    go_wp2_with fail
    refine hSC.out.mono ?_
    rintro e w4 ⟨rfl, hb4⟩
    have hw4 := Lib.hid (hw3.out.below hb4)
    have hb04 := Lib.hid (hb03.out.trans (hb4.mono hb03.out.size))
    clear hb4 hSC hw3 hb03
    obtain ⟨W1, hW1⟩ : ∃ W, w4.alloc (.cells #[.string ⟨#[124, 124]⟩, .string ⟨#[38, 38]⟩, .string ⟨#[43]⟩, .string ⟨#[45]⟩, .string ⟨#[42]⟩, .string ⟨#[47]⟩, .string ⟨#[37]⟩] 9) = W := ⟨_, rfl⟩
    have hv1 : Below w4.heap.size w4 W1 := by rw [← hW1]; exact (Below.refl _ _).alloc (Nat.le_refl _) _
    have hx1 : W1.heap[w4.heap.size]? = some (.cells #[.string ⟨#[124, 124]⟩, .string ⟨#[38, 38]⟩, .string ⟨#[43]⟩, .string ⟨#[45]⟩, .string ⟨#[42]⟩, .string ⟨#[47]⟩, .string ⟨#[37]⟩] 9 (0, 0)) := by rw [← hW1]; exact World.alloc_heap_new w4 _
    obtain ⟨W2, hW2⟩ : ∃ W, W1.alloc (.cells #[.int .i64 1, .int .i64 2, .int .i64 4, .int .i64 4, .int .i64 5, .int .i64 5, .int .i64 5] 3) = W := ⟨_, rfl⟩
    have hv2 : Below w4.heap.size w4 W2 := by rw [← hW2]; exact hv1.alloc hv1.size _
    have hs1 : W1.heap.size = w4.heap.size + 1 := by rw [← hW1]; exact sz_alloc _ _
    have hx2 : W2.heap[w4.heap.size]? = some (.cells #[.string ⟨#[124, 124]⟩, .string ⟨#[38, 38]⟩, .string ⟨#[43]⟩, .string ⟨#[45]⟩, .string ⟨#[42]⟩, .string ⟨#[47]⟩, .string ⟨#[37]⟩] 9 (0, 0)) := by rw [← hW2]; exact (heap_alloc_old W1 _ (cells_lt hx1)).trans hx1
    have hy2 : W2.heap[w4.heap.size + 1]? = some (.cells #[.int .i64 1, .int .i64 2, .int .i64 4, .int .i64 4, .int .i64 5, .int .i64 5, .int .i64 5] 3 (0, 0)) := by rw [← hW2, ← hs1]; exact World.alloc_heap_new W1 _
    have g1 : W2.cell? ⟨w4.heap.size, p, none⟩ = some (.string P) := blk_cell hx2 (by have := hOp.out; simpa [opL] using this)
    have g2 : W2.cell? ⟨w4.heap.size, q, none⟩ = some (.string Q) := blk_cell hx2 (by have := hOq.out; simpa [opL] using this)
    have g3 : W2.cell? ⟨w4.heap.size + 1, p, none⟩ = some (.int .i64 sp) := blk_cell hy2 (by have := hTp.out; simpa [stL] using this)
    have g4 : W2.cell? ⟨w4.heap.size + 1, q, none⟩ = some (.int .i64 sq) := blk_cell hy2 (by have := hTq.out; simpa [stL] using this)
    have hwW := Lib.hid (hw4.out.below hv2)
    have hbW := Lib.hid (hb04.out.trans (hv2.mono hb04.out.size))
    clear hOp hOq hTp hTq hx1 hx2 hy2 hv1 hv2 hw4 hb04
    have hbD : ∀ n, Below W2.heap.size W2 (W2.drewN n) := fun n => by have h := Below.refl W2.heap.size W2; exact ⟨h.os, h.tape, h.output, h.size, h.block⟩
    replace hbD := Lib.hid hbD
    have g3' := Lib.hid g3
    have g4' := Lib.hid g4
    clear g3 g4
    go_upto_region 15 with fail
    go_quiet (fail)
    go_upto_region 16 with fail
    go_quiet (fail)
    go_upto_region 17 with fail
    go_quiet (fail)
    clear g1 g2
    go_wp2_with fail
    refine (hQF.out _ (hwW.out.below (hbD.out _))).mono ?_
    rintro e w5 ⟨hb5, v5, rfl, lm, am, cm, rfl, h1, h2, hdm⟩
    have k5 := (hbD.out _).trans (hb5.mono (hbD.out _).size)
    have hw5 := Lib.hid (hwW.out.below k5)
    have rm := Lib.hid (h1.mono (S' := fun _ => True) (fun _ _ => trivial))
    have im := Lib.hid (h2.mono (S' := fun _ => True) (fun _ _ => trivial))
    replace k5 := Lib.hid k5
    clear hb5 h1 h2 hbD hwW hQF
    go_wp2_with fail
    refine (hQL.out _ hw5.out).mono ?_
    rintro e w6 ⟨hb6, v6, rfl, ll, al, cl, rfl, h1, h2, hdl⟩
    have hw6 := Lib.hid (hw5.out.below hb6)
    have rl := Lib.hid (h1.mono (S' := fun _ => True) (fun _ _ => trivial))
    have il := Lib.hid (h2.mono (S' := fun _ => True) (fun _ _ => trivial))
    have k6 := Lib.hid (k5.out.trans (hb6.mono k5.out.size))
    replace hb6 := Lib.hid hb6
    clear h1 h2 hQL hw5
    go_wp2_with fail
    refine (hQR.out _ hw6.out).mono ?_
    rintro e w7 ⟨hb7, v7, rfl, lr, ar, cr, rfl, h1, h2, hdr⟩
    have rr := h1.mono (S' := fun _ => True) (fun _ _ => trivial)
    have ir := h2.mono (S' := fun _ => True) (fun _ _ => trivial)
    have k7 := k6.out.trans (hb7.mono k6.out.size)
    have g3 := below_in k7 g3'.out
    have g4 := below_in k7 g4'.out
    have b57 : Below w5.heap.size w5 w7 := hb6.out.trans (hb7.mono hb6.out.size)
    have hb07 := Lib.hid (hbW.out.trans (k7.mono hbW.out.size))
    have hbE : Hid (∀ n, Below w7.heap.size w7 (w7.drewN n)) := Lib.hid fun n => by have h := Below.refl w7.heap.size w7; exact ⟨h.os, h.tape, h.output, h.size, h.block⟩
    have rm7 := rm.out.below (Kps.of_below b57)
    have im7 := im.out.below (Kps.of_below b57)
    have rl7 := rl.out.below (Kps.of_below hb7)
    have il7 := il.out.below (Kps.of_below hb7)
    have hMR := Lib.hid (fun V (h : Below w7.heap.size w7 V) => refSame_any lm lr am ar cm cr V (rm7.below (Kps.of_below h)) (rr.below (Kps.of_below h)) (im7.below (Kps.of_below h)) (ir.below (Kps.of_below h)))
    have hML := Lib.hid (fun V (h : Below w7.heap.size w7 V) => refSame_any lm ll am al cm cl V (rm7.below (Kps.of_below h)) (rl7.below (Kps.of_below h)) (im7.below (Kps.of_below h)) (il7.below (Kps.of_below h)))
    have hLR := Lib.hid (fun (g : apartE dl dr = true) V (h : Below w7.heap.size w7 V) => exactly_apart ll lr (by rw [hdl, hdr]; exact g) al ar cl cr V (rl7.below (Kps.of_below h)) (rr.below (Kps.of_below h)) (il7.below (Kps.of_below h)) (ir.below (Kps.of_below h)))
    rw [same_mem hdm hdr] at hMR
    rw [same_mem hdm hdl] at hML
    clear h1 h2 hQR hw6 rm im rl il rr ir k5 k6 k7 hb6 hb7 b57 rm7 im7 rl7 il7 g3' g4' hbW hdm hdl hdr
    by_cases hst : sp < sq
    · obtain ⟨y1, y2⟩ := hlo.out (by omega)
      rw [y1] at hMR
      rw [y2] at hML
      have hst2 : decide (sq > sp) = true := decide_eq_true hst
      clear hlo hhi y1 y2 hLR
      go_upto_region 23 with fail
      go_quiet (fail)
      go_wp2_with fail
      refine (hMR.out _ (hbE.out _)).mono ?_
      rintro e w8 ⟨rfl, hb8⟩
      have k8 := Lib.hid ((hbE.out _).trans (hb8.mono (hbE.out _).size))
      clear hb8 hMR hbE
      go_wp2_with fail
      refine (hML.out w8 k8.out).mono ?_
      rintro e w9 ⟨rfl, hb9⟩
      have k9 := Lib.hid (k8.out.trans (hb9.mono k8.out.size))
      clear hb9 hML k8
      go_wp2_with fail
      go_ret
      exact ⟨rfl, hb07.out.trans (k9.out.mono hb07.out.size)⟩
    · obtain ⟨y1, y2, y3⟩ := hhi.out (by omega)
      rw [y2] at hMR
      rw [y1] at hML
      have hLR' := Lib.hid (hLR.out y3)
      have hst2 : decide (sq > sp) = false := decide_eq_false hst
      clear hlo hhi y1 y2 y3 hLR
      go_upto_region 23 with fail
      go_quiet (fail)
      go_wp2_with fail
      refine (hML.out _ (hbE.out _)).mono ?_
      rintro e w8 ⟨rfl, hb8⟩
      have k8 := Lib.hid ((hbE.out _).trans (hb8.mono (hbE.out _).size))
      clear hb8 hML hbE
      go_wp2_with fail
      refine (hMR.out w8 k8.out).mono ?_
      rintro e w9 ⟨rfl, hb9⟩
      have k9 := Lib.hid (k8.out.trans (hb9.mono k8.out.size))
      clear hb9 hMR k8
      go_wp2_with fail
      refine (hLR'.out w9 k9.out).mono ?_
      rintro e w10 ⟨rfl, hb10⟩
      have k10 := Lib.hid (k9.out.trans (hb10.mono k9.out.size))
      clear hb10 hLR' k9
      go_wp2_with fail
      go_ret
      exact ⟨rfl, hb07.out.trans (k10.out.mono hb07.out.size)⟩
end Go.Proofs.YtfhmhplbkheojaaGreatDoor.Pa
