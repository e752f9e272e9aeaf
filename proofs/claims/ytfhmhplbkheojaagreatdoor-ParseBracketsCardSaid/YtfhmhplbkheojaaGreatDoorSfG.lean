/- The walk of farther: true of statements that are the same but for their places, each so much farther on. Conditions: what is read is such that shape answers; it is not too large. -/
import Derived.Test.YtfhmhplbkheojaaGreatDoorSfF
namespace Go.Proofs.YtfhmhplbkheojaaGreatDoor.Pa
open Go Go.RowKit
open Go.Proofs.YtfhmhplbkheojaaGreatDoor.Lx Go.Proofs.YtfhmhplbkheojaaGreatDoor.Tr

/-- the same statements, each place so much farther on -/
def FS (D : Int) (e e' : St) : Prop := sg (fun x => x) (sa e') = sg (fun x => x + D) (sa e)
def FSL (D : Int) (l l' : List St) : Prop := sgL (fun x => x) (saL l') = sgL (fun x => x + D) (saL l)
theorem FSL.len {D : Int} {l l' : List St} (h : FSL D l l') : l'.length = l.length := by
  unfold FSL at h
  rw [sgL_map, sgL_map, saL_map, saL_map] at h
  simpa using congrArg List.length h
theorem FSL.get {D : Int} {l l' : List St} (h : FSL D l l') {i : Nat} {e e' : St} (he : l[i]? = some e) (he' : l'[i]? = some e') : FS D e e' := by
  unfold FSL at h
  rw [sgL_map, sgL_map, saL_map, saL_map] at h
  have := congrArg (fun x => x[i]?) h
  simp only [List.getElem?_map, he, he', Option.map_some] at this
  exact Option.some.inj this
theorem exL_a (l : List Ex) : Ex.erL (eaL l) = Ex.erL l := by
  have key : ∀ n (l : List Ex), Ex.szL l ≤ n → Ex.erL (eaL l) = Ex.erL l := by
    intro n
    induction n with
    | zero =>
      intro l hl
      cases l with
      | nil => rw [eaL_nil]
      | cons e r => obtain ⟨k, nm, m, a, cap, args, pos⟩ := e; rw [szEL_cons, szE_mk] at hl; omega
    | succ n ih =>
      intro l
      induction l with
      | nil => intro _; rw [eaL_nil]
      | cons e r ihr =>
        intro hl
        obtain ⟨k, nm, m, a, cap, args, pos⟩ := e
        rw [szEL_cons, szE_mk] at hl
        rw [eaL_cons, Ex.erL_cons, Ex.erL_cons, ea_eq, Ex.er_eq, Ex.er_eq, ih args (by omega), ihr (by omega)]
  exact key _ l (Nat.le_refl _)
theorem stL_a (l : List St) : St.erL (saL l) = St.erL l := by
  have key : ∀ n (l : List St), St.szL l ≤ n → St.erL (saL l) = St.erL l := by
    intro n
    induction n with
    | zero =>
      intro l hl
      cases l with
      | nil => rw [saL_nil]
      | cons e r => obtain ⟨k1, n1, t1, nw1, ea1, ec1, e1, ba1, bc1, b1, la1, lc1, l1, p1⟩ := e; rw [szSL_cons, szS_mk] at hl; omega
    | succ n ih =>
      intro l
      induction l with
      | nil => intro _; rw [saL_nil]
      | cons e r ihr =>
        intro hl
        obtain ⟨k1, n1, t1, nw1, ea1, ec1, e1, ba1, bc1, b1, la1, lc1, l1, p1⟩ := e
        rw [szSL_cons, szS_mk] at hl
        rw [saL_cons, St.erL_cons, St.erL_cons, sa_eq, St.er_eq, St.er_eq, exL_a, ih b1 (by omega), ih l1 (by omega), ihr (by omega)]
  exact key _ l (Nat.le_refl _)
theorem FSL.er {D : Int} {l l' : List St} (h : FSL D l l') : St.erL l = St.erL l' := by
  unfold FSL at h
  rw [← stL_a l, ← stL_a l', ← stL_g (fun x => x + D) (saL l), ← stL_g (fun x => x) (saL l'), h]
set_option linter.unusedSimpArgs false in
set_option maxHeartbeats 8000000 in
set_option maxRecDepth 100000 in
theorem farther_any : ∀ (s : Nat) (l l' : List St) (a a' : Option Addr) (cap cap' : Nat) (D : Int) (w : World), St.szL l ≤ s → RowAt w (fun _ => True) a cap l.length (stCells l) → RowAt w (fun _ => True) a' cap' l'.length (stCells l') → St.InL w (fun _ => True) l → St.InL w (fun _ => True) l' → FSL D l l' → gSL l = true → St.szL l ≤ 22000 →
    Calls Tryz.prog 26 #[.slice a l.length cap, .slice a' l'.length cap', .int .i64 D] w fun x w' => x = .returned (.bool true) ∧ Below w.heap.size w w' := by
  intro s
  induction s using Nat.strongRecOn with
  | _ s ih =>
    intro l l' a a' cap cap' D w hs hrow hrow' hin hin' hf hg hz
    have hll : l.length ≤ 9223372036854775807 := by have := hrow.le; have := hrow.lim; unfold maxLen at this; omega
    have hlen : l'.length = l.length := hf.len
    have hAl := Lib.hid (alike_any _ l l' a a' cap cap' w (Nat.le_refl _) hrow hrow' hin hin' hf.er hg hz)
    have hcx := Lib.hid (fun (k : Nat) (x x' : St) (hx : l[k]? = some x) (hx' : l'[k]? = some x') => (⟨St.InL.get hin hx, St.InL.get hin' hx', hf.get hx hx', gSL_get hg hx, St.sz_get hx⟩ : St.In w (fun _ => True) x ∧ St.In w (fun _ => True) x' ∧ FS D x x' ∧ gS x = true ∧ x.sz ≤ St.szL l))
    replace ih := Lib.hid ih
    rw [hlen] at hrow' hAl ⊢
    clear hin hin' hf hg
    go_enter Tryz.func26, Tryz.ntmps26
    go_wp2_with fail
    refine hAl.out.mono ?_
    rintro e w0 ⟨rfl, hb0⟩
    replace hb0 := Lib.hid hb0
    clear hAl
    go_wp2_with fail
    go_loopw [7] (fun i wr => ∃ k : Nat, k ≤ l.length ∧ i = .int .i64 k ∧ Below w.heap.size w wr) (fun i _ => l.length - (intOf i).toNat)
    case atStart => exact ⟨0, Nat.zero_le _, rfl, hb0.out⟩
    case round =>
      clear hb0
      obtain ⟨k, hk, rfl, hbr⟩ := hrel
      by_cases hlt : k < l.length
      · have hlt' : k < l'.length := by rw [hlen]; exact hlt
        obtain ⟨e, he⟩ : ∃ e, l[k]? = some e := ⟨l[k], by simp [hlt]⟩
        obtain ⟨e', he'⟩ : ∃ e, l'[k]? = some e := ⟨l'[k], by simp [hlt']⟩
        obtain ⟨hi1, hi2, he3, hg3, hz3⟩ := hcx.out k e e' he he'
        obtain ⟨b, off, rfl, _, hcell⟩ := st_row hrow k e he
        obtain ⟨b', off', rfl, _, hcell'⟩ := st_row (by rw [hlen]; exact hrow' : RowAt w (fun _ => True) a' cap' l'.length (stCells l')) k e' he'
        obtain ⟨xk, xnm, xto, xnw, ea, ecap, xe, ba, bcap, xbody, la, lcap, xels, xpos⟩ := e
        obtain ⟨yk, ynm, yto, ynw, fa, fcap, ye, ca, ccap, ybody, ma, mcap, yels, ypos⟩ := e'
        unfold FS at he3
        rw [sa_eq, sa_eq, sg_eq, sg_eq] at he3
        simp only [St.mk.injEq, true_and] at he3
        obtain ⟨rfl, rfl, rfl, rfl, heE0, heB0, heL0, rfl⟩ := he3
        have heE : FEL D xe ye := heE0
        have heB : FSL D xbody ybody := heB0
        have heL : FSL D xels yels := heL0
        clear heE0 heB0 heL0
        rw [gS_eq, Bool.and_eq_true, Bool.and_eq_true] at hg3
        obtain ⟨⟨gE3, gB3⟩, gL3⟩ := hg3
        rw [szS_mk] at hz3
        unfold St.In at hi1 hi2
        obtain ⟨_, _, _, _, re1, ie1, rb1, ib1, rl1, il1⟩ := hi1
        obtain ⟨_, _, _, hI', re2, ie2, rb2, ib2, rl2, il2⟩ := hi2
        have hwr : IntKind.i64.wrap (xpos + D) = xpos + D := IntWalk.i64_in _ hI'
        have elE : ye.length = xe.length := heE.len
        have elB : ybody.length = xbody.length := heB.len
        have elL : yels.length = xels.length := heL.len
        have hbw := hbr
        have cB := Lib.hid (fun U : UpW wr => ((ih.out (St.szL xbody) (by omega) xbody ybody ba ca bcap ccap D U.val (Nat.le_refl _) (rb1.below (Kps.of_below (hbw.trans (U.ok.mono hbw.size)))) (rb2.below (Kps.of_below (hbw.trans (U.ok.mono hbw.size)))) (St.InL.below (Kps.of_below (hbw.trans (U.ok.mono hbw.size))) _ ib1) (St.InL.below (Kps.of_below (hbw.trans (U.ok.mono hbw.size))) _ ib2) heB gB3 (by omega)).mono fun e w' h => (⟨h.1, ⟨w', U.ok.trans (h.2.mono U.ok.size)⟩, rfl⟩ : e = .returned (.bool true) ∧ ∃ U' : UpW wr, w' = U'.val)))
        have cL := Lib.hid (fun U : UpW wr => ((ih.out (St.szL xels) (by omega) xels yels la ma lcap mcap D U.val (Nat.le_refl _) (rl1.below (Kps.of_below (hbw.trans (U.ok.mono hbw.size)))) (rl2.below (Kps.of_below (hbw.trans (U.ok.mono hbw.size)))) (St.InL.below (Kps.of_below (hbw.trans (U.ok.mono hbw.size))) _ il1) (St.InL.below (Kps.of_below (hbw.trans (U.ok.mono hbw.size))) _ il2) heL gL3 (by omega)).mono fun e w' h => (⟨h.1, ⟨w', U.ok.trans (h.2.mono U.ok.size)⟩, rfl⟩ : e = .returned (.bool true) ∧ ∃ U' : UpW wr, w' = U'.val)))
        have cE := Lib.hid (fun (j : Nat) (x x' : Ex) (hx : xe[j]? = some x) (hx' : ye[j]? = some x') V (h : Below w.heap.size w V) => off_any _ x x' D V (Nat.le_refl _) (Ex.In.below (Kps.of_below h) _ (Ex.InL.get ie1 hx)) (Ex.In.below (Kps.of_below h) _ (Ex.InL.get ie2 hx')) (heE.get hx hx'))
        have hxl : xe.length ≤ 9223372036854775807 := by have := re1.le; have := re1.lim; unfold maxLen at this; omega
        have rE1 := Lib.hid (fun (j : Nat) (x : Ex) (hx : xe[j]? = some x) => ex_row re1 j x hx)
        have rE2 := Lib.hid (fun (j : Nat) (x : Ex) (hx : ye[j]? = some x) => ex_row re2 j x hx)
        rw [elB] at cB
        rw [elL] at cL
        simp only [← Nat.add_assoc] at hcell hcell'
        have q4 := hcell 4 _ rfl
        have u4x := hcell' 4 _ rfl
        have c4 := below_in hbr q4
        have c5 := up_cell (below_in hbr (hcell 5 _ rfl))
        have c6 := up_cell (below_in hbr (hcell 6 _ rfl))
        have c7 := up_cell (below_in hbr (hcell 7 _ rfl))
        have d5 := up_cell (below_in hbr (hcell' 5 _ rfl))
        have d6 := up_cell (below_in hbr (hcell' 6 _ rfl))
        have d7 := up_cell (below_in hbr (hcell' 7 _ rfl))
        rw [elE] at u4x
        rw [elB] at d5
        rw [elL] at d6
        have hlt1 : (k : Int) < (l.length : Int) := by omega
        have hk0 : (0 : Int) ≤ (k : Int) := by omega
        replace hbr := Lib.hid hbr
        replace elE := Lib.hid elE
        replace q4 := Lib.hid q4
        replace u4x := Lib.hid u4x
        clear hcell hcell' hrow hrow' heE heB heL gE3 gB3 gL3 re1 re2 rb1 rb2 rl1 rl2 ie1 ie2 ib1 ib2 il1 il2 elB elL hz3 he he' hcx ih hbw hI'
        go_upto_region 6 with fail
        refine quiet_lit (C := fun V => ∃ U : UpW wr, V = U.val) (by kernel_rfl) (by kernel_rfl) ⟨⟨_, (Below.refl _ _).drew⟩, rfl⟩ ?_
        iterate 25 (quiet_step (fail))
        quiet_step (exact cB.out _)
        iterate 14 (quiet_step (fail))
        quiet_step (exact cL.out _)
        iterate 2 (quiet_step (fail))
        refine wpQuiet_nil ?_
        rintro _ ⟨U0, rfl⟩
        obtain ⟨W5, hb5⟩ := U0
        have hb05 := Lib.hid (hbr.out.trans (hb5.mono hbr.out.size))
        simp only
        clear c5 c6 c7 d5 d6 d7 cB cL hwr c4 hb5
        have c4 := below_in hb05.out q4.out
        go_wp2_with fail
        go_loopw [8] (fun i wr => ∃ j : Nat, j ≤ xe.length ∧ i = .int .i64 j ∧ Below W5.heap.size W5 wr) (fun i _ => xe.length - (intOf i).toNat)
        case atStart => exact ⟨0, Nat.zero_le _, rfl, Below.refl _ _⟩
        case round =>
          obtain ⟨j, hj, rfl, hbr2⟩ := hrel
          have hbw := hb05.out.trans (hbr2.mono hb05.out.size)
          clear c4
          have c4 := below_in hbw q4.out
          by_cases hjl : j < xe.length
          · obtain ⟨z, hzz⟩ : ∃ z, xe[j]? = some z := ⟨xe[j], by simp [hjl]⟩
            obtain ⟨z', hzz'⟩ : ∃ z, ye[j]? = some z := ⟨ye[j]'(by rw [elE.out]; exact hjl), by simp [elE.out, hjl]⟩
            obtain ⟨b2, off2, rfl, _, ecell⟩ := rE1.out j z hzz
            obtain ⟨b2', off2', rfl, _, ecell'⟩ := rE2.out j z' hzz'
            have hS := Lib.hid (fun U : UpW wr => ((cE.out j z z' hzz hzz' U.val (hbw.trans (U.ok.mono hbw.size))).mono fun e w' h => (⟨h.1, ⟨w', U.ok.trans (h.2.mono U.ok.size)⟩, rfl⟩ : e = .returned (.bool true) ∧ ∃ U' : UpW wr, w' = U'.val)))
            obtain ⟨zk, zn, zv, za, zc, zg, zp⟩ := z
            obtain ⟨tk, tn, tv, ta, tc, tg, tp⟩ := z'
            have v1 : (⟨(Ex.mk zk zn zv za zc zg zp).vals⟩ : Array Value) = #[.int .u8 zk, .string zn, .int .i64 zv, .slice za zg.length zc, .int .i64 zp] := rfl
            have v2 : (⟨(Ex.mk tk tn tv ta tc tg tp).vals⟩ : Array Value) = #[.int .u8 tk, .string tn, .int .i64 tv, .slice ta tg.length tc, .int .i64 tp] := rfl
            rw [v1, v2] at hS
            simp only [← Nat.add_assoc] at ecell ecell'
            have m0 := up_cell (below_in hbw (ecell 0 _ rfl))
            have m1 := up_cell (below_in hbw (ecell 1 _ rfl))
            have m2 := up_cell (below_in hbw (ecell 2 _ rfl))
            have m3 := up_cell (below_in hbw (ecell 3 _ rfl))
            have m4 := up_cell (below_in hbw (ecell 4 _ rfl))
            have n0 := up_cell (below_in hbw (ecell' 0 _ rfl))
            have n1 := up_cell (below_in hbw (ecell' 1 _ rfl))
            have n2 := up_cell (below_in hbw (ecell' 2 _ rfl))
            have n3 := up_cell (below_in hbw (ecell' 3 _ rfl))
            have n4 := up_cell (below_in hbw (ecell' 4 _ rfl))
            rw [Nat.add_zero] at m0 n0
            have p4u := up_cell c4
            have r4u := up_cell (below_in hbw u4x.out)
            have hj1 : (j : Int) < (xe.length : Int) := by omega
            have hj0 : (0 : Int) ≤ (j : Int) := by omega
            clear ecell ecell' hzz hzz' cE rE1 rE2 hbw v1 v2
            go_upto_region 11 with fail
            refine quiet_lit (C := fun V => ∃ U : UpW wr, V = U.val) (by kernel_rfl) (by kernel_rfl) ⟨⟨_, (Below.refl _ _).drew⟩, rfl⟩ ?_
            iterate 17 (quiet_step (fail))
            quiet_step (exact hS.out _)
            quiet_step (fail)
            refine wpQuiet_nil ?_
            rintro _ ⟨U, rfl⟩
            have hbU := Lib.hid (hbr2.trans (U.ok.mono hbr2.size))
            clear hbr2
            go_wp2_with fail
            go_roundw
            case rel => exact ⟨j + 1, by omega, by go_num, hbU.out⟩
            case measure => simp [intOf]; omega
          · have hje : j = xe.length := by omega
            subst hje
            have hj1 : ¬ (xe.length : Int) < (xe.length : Int) := by omega
            replace hbw := Lib.hid hbw
            clear cE rE1 rE2 hbr2
            go_wp2_with fail
            go_roundw
            case rel => exact ⟨k + 1, by omega, by go_num, hbw.out⟩
            case measure => simp [intOf]; omega
      · have hke : k = l.length := by omega
        subst hke
        have hlt1 : ¬ (l.length : Int) < (l.length : Int) := by omega
        replace hbr := Lib.hid hbr
        clear hcx ih hrow hrow'
        go_wp2_with fail
        go_ret
        exact ⟨rfl, hbr.out⟩
end Go.Proofs.YtfhmhplbkheojaaGreatDoor.Pa
