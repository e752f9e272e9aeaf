/- Walk of DomTells. Conditions: the graph lies in memory. -/
import Derived.Test.YtiaecobjbckhoaaDqB
import Derived.Test.YtiaecobjbckhoaaDoI
set_option linter.unusedVariables false
set_option linter.unusedSimpArgs false
namespace Go.Proofs.Ytiaecobjbckhoaa.Db
open Go Go.RowKit
open Go.WideShapes Go.MapKept

theorem Gf.kidR_out {n : Nat} {T : List Tl} (H : Gf n T) {y : Int} (hy : y < 0 ∨ (n : Int) ≤ y) : ∀ k, Db.kidR (tre n T) y k = [] := by
  intro k
  induction k with
  | zero => rfl
  | succ k ih =>
    have e1 : Db.kidR (tre n T) y (k + 1) = Db.kidR (tre n T) y k ++ (if kidB (tre n T) y k = true then [(k : Int)] else []) := rfl
    rw [e1, ih, if_neg]
    · rfl
    · unfold kidB
      simp only [Bool.and_eq_true, Bool.not_eq_true', decide_eq_false_iff_not, decide_eq_true_eq]
      rintro ⟨h1, h2, h3⟩
      obtain ⟨p, p1, p2, _⟩ := H.nxt_some ((H.reach k).1 h2) h1
      have hnp : (tre n T).nextP (k : Int) = nxt n T k := by unfold Tp.nextP; rw [h2, if_pos rfl, Int.toNat_natCast]; rfl
      rw [hnp] at h3
      omega
theorem Gf.kids_all {n : Nat} {T : List Tl} (H : Gf n T) (y : Int) : (tre n T).kids y = Db.kidR (tre n T) y n := by
  by_cases h : y < 0 ∨ (n : Int) ≤ y
  · rw [H.kidR_out h]
    unfold Tp.kids
    rw [re_out (by show ¬(0 ≤ y ∧ y < (n : Int)); omega)]
    rfl
  · obtain ⟨b, rfl⟩ : ∃ b : Nat, y = b := ⟨y.toNat, by omega⟩
    exact H.kids_eq b
theorem Gf.kids_none {n : Nat} {T : List Tl} (H : Gf n T) {y : Int} (h : y < 0 ∨ (n : Int) ≤ y) : (tre n T).kids y = [] := by rw [H.kids_all, H.kidR_out h]
set_option maxHeartbeats 16000000 in
set_option maxRecDepth 100000 in
theorem domTells_law (T : List Tl) (ta : Option Addr) (tcap : Nat) (w : World) (hg : ToM w.heap.size ta tcap T w) :
    Calls Try.prog 3 #[.slice ta T.length tcap] w fun e w' => e = .returned (.bool true) ∧ Below w.heap.size w w' := by
  have hlc := Lib.hid (long_c T.length tcap ta w rfl hg)
  have haw := Lib.hid (fun V => awake_c V)
  rcases hl : longP T with _ | _
  · rw [hl] at hlc
    have hgk := fun V (hb : Below w.heap.size w V) => (⟨(hg.keep hb).row.mono fun _ h => Nat.lt_of_lt_of_le h hb.size, fun x hx => ((hg.keep hb).rows x hx).mono fun _ h => Nat.lt_of_lt_of_le h hb.size⟩ : ToM V.heap.size ta tcap T V)
    have hof := Lib.hid (of_law (T := T) T.length tcap ta w rfl hg hl)
    have hrn := Lib.hid (fun V hb hm => rof_no (T := T) T.length tcap ta V rfl (hgk V hb) hm)
    have hry := Lib.hid (fun V hb hm => rof_yes (T := T) T.length tcap ta V rfl (hgk V hb) hm)
    obtain ⟨hc1, hc2⟩ := len_i hg.row
    have h40 := (long_no hl).1
    clear hg hl hgk
    generalize hn : T.length = n at *
    replace hn := Lib.hid hn
    go_enter Try.func3, Try.ntmps3
    go_wp2_with fail
    refine hlc.out.mono ?_
    rintro e w1 ⟨rfl, hw1⟩
    have hw2 := hw1.symm
    subst hw2
    clear hlc hw1
    go_wp2_with fail
    refine hof.out.mono ?_
    rintro e w3 ⟨hb3, ⟨hm, rfl⟩ | ⟨hm, H, tb, rfl, htb, hA⟩⟩
    · have hr := Lib.hid (hrn.out w3 hb3 hm)
      replace hm := Lib.hid hm
      replace hb3 := Lib.hid hb3
      clear hof hrn hry
      go_wp2_with fail
      refine hr.out.mono ?_
      rintro _ w4 ⟨rfl, hb4⟩
      have hb5 := Lib.hid (hb3.out.trans (hb4.mono hb3.out.size))
      clear hr hb4
      go_wp2_with fail
      refine (haw.out _).mono ?_
      rintro _ w5 ⟨rfl, hb6⟩
      have hb7 := Lib.hid (hb5.out.trans (hb6.mono hb5.out.size))
      clear hb6
      go_wp2_with fail
      go_ret
      exact ⟨rfl, hb7.out⟩
    · have hr := Lib.hid (hry.out w3 hb3 hm)
      replace hm := Lib.hid hm
      replace hA := Lib.hid hA
      replace H := Lib.hid H
      replace hb3 := Lib.hid hb3
      clear hof hrn hry htb
      go_wp2_with fail
      refine hr.out.mono ?_
      rintro _ w4 ⟨ub, rfl, hRf⟩
      have hn0 := H.out.pos
      obtain ⟨gh, hcap, gr, rw_, hRt⟩ := rtC_of hRf hn0 (by omega) rfl
      obtain ⟨_, _, _, _, _, hb4⟩ := hRf
      have hA4 := Lib.hid (hA.out.mono2 hb4)
      have hnxr := Lib.hid (fun (y : Int) V (hb : Below w4.heap.size w4 V) => rnext_c ub gh hcap gr n rw_ H.out y V (hRt.keep hb))
      have hkir := Lib.hid (fun (y : Int) V (hb : Below w4.heap.size w4 V) => rkids_c ub gh hcap gr n rw_ H.out y V (hRt.keep hb))
      have hisr := Lib.hid (fun (x y : Int) V (hb : Below w4.heap.size w4 V) => ris_c ub gh hcap gr n (tre n T) rw_ x y V (hRt.keep hb))
      have hfrr := Lib.hid (fun V (hb : Below w4.heap.size w4 V) => rfrom_c ub gh hcap gr n rw_ H.out (n + 1) 0 V (by unfold hgt; omega) hn0 (hRt.keep hb))
      have hRk := Lib.hid (fun V (hb : Below w4.heap.size w4 V) => hRt.keep hb)
      have hord : Hid ((tre n T).order = lst n (nxt n T) 0) := Lib.hid H.out.hn.order
      have hka := Lib.hid (fun y => H.out.kids_all y)
      have hkn := Lib.hid (fun (y : Int) (h : y < 0 ∨ (n : Int) ≤ y) => H.out.kids_none h)
      have hro : Hid (∀ y : Int, y < 0 ∨ (n : Int) ≤ y → (tre n T).reach y = false) := Lib.hid fun y h => re_out (by show ¬(0 ≤ y ∧ y < (n : Int)); omega)
      rw [← hord.out] at hfrr
      have hb5 : Below w.heap.size w w4 := hb3.out.trans (hb4.mono hb3.out.size)
      have hend : Hid (∀ V, Below w4.heap.size w4 V → Below w.heap.size w V) := Lib.hid fun V h => hb5.trans (h.mono hb5.size)
      generalize tre n T = t at *
      have hst : Hid (Below w4.heap.size w4 w4) := Lib.hid (Below.refl _ _)
      clear hr hRt hb3 hb4 hb5 hA H hm hord
      go_wp2_with fail
      go_loopw [7] (fun i wr => ∃ k : Nat, k ≤ 2 ∧ i = .int .i64 k ∧ Hid (Below w4.heap.size w4 wr)) (fun i _ => 2 - (intOf i).toNat)
      case atStart => exact ⟨0, by omega, rfl, hst⟩
      case round =>
        clear hst
        obtain ⟨k, hk, rfl, hb⟩ := hrel
        by_cases hk2 : k < 2
        · have hk1 : (k : Int) < 2 := by omega
          have hko : k ≤ 1 := by omega
          go_wp2_with fail
          refine (hA4.out.od _ hb).mono ?_
          rintro _ w5 ⟨v5, rfl, ho5, hb5⟩
          have hb6 : Below w4.heap.size w4 w5 := hb.out.trans (hb5.mono hb.out.size)
          have hfc := Lib.hid (hfrr.out w5 hb6)
          obtain ⟨oa, oc, rfl, _⟩ := row_own1 ho5
          replace ho5 := Lib.hid ho5
          replace hb5 := Lib.hid hb5
          replace hb6 := Lib.hid hb6
          go_wp2_with fail
          refine hfc.out.mono ?_
          rintro _ w6 ⟨v6, rfl, ho6, hb7⟩
          obtain ⟨fa, fcap, rfl, hr6⟩ := row_own1 ho6
          have hsm := Lib.hid (same_c t.order t.order (.slice oa t.order.length oc) fa fcap wr.heap.size w6 (own_below ho5.out hb7) (Nat.le_trans hb5.out.size hb7.size) (hr6.mono fun _ _ => trivial))
          have hb8 := Lib.hid (hb5.out.trans (hb7.mono hb5.out.size))
          have hdd : decide (t.order = t.order) = true := by simp
          rw [hdd] at hsm
          clear ho6 hb7 hr6 hfc ho5 hb5 hb6 hdd
          go_wp2_with fail
          refine hsm.out.mono ?_
          rintro _ w7 ⟨rfl, hb9⟩
          have hb10 := Lib.hid (hb.out.trans ((hb8.out.trans hb9).mono hb.out.size))
          clear hsm hb8 hb9 hb
          go_wp2_with fail
          go_loopw [8] (fun i wr => ∃ b : Int, -1 ≤ b ∧ b ≤ (n : Int) + 1 ∧ i = .int .i64 b ∧ Hid (Below w4.heap.size w4 wr)) (fun i _ => ((n : Int) + 1 - intOf i).toNat)
          case atStart => exact ⟨-1, by omega, by omega, rfl, hb10⟩
          case round =>
            clear hb10
            obtain ⟨b, hb0, hb1, rfl, hb⟩ := hrel
            by_cases hbn : b ≤ (n : Int)
            · by_cases hbz : b < 0
              · have hbo : Hid (b < 0 ∨ (n : Int) ≤ b) := Lib.hid (.inl hbz)
                have hre := hro.out b hbo.out
                have hbz2 : ¬ ((0 : Int) ≤ b) := by omega
                go_wp2_with fail
                refine (hA4.out.re _ _ hb).mono ?_
                rintro _ ws ⟨rfl, hws⟩
                have hws := hws.symm
                subst hws
                go_wp2_with fail
                refine (hA4.out.nx _ _ hb).mono ?_
                rintro _ ws ⟨rfl, hws⟩
                have hws := hws.symm
                subst hws
                go_wp2_with fail
                refine (hnxr.out _ _ hb.out).mono ?_
                rintro _ ws ⟨rfl, hws⟩
                have hws := hws.symm
                subst hws
                go_wp2_with fail
                refine (hA4.out.ki _ _ hb).mono ?_
                rintro _ w5 ⟨v5, rfl, ho5, hb5⟩
                rw [hka.out] at ho5
                have hb6 := Lib.hid (hb.out.trans (hb5.mono hb.out.size))
                obtain ⟨oa, oc, rfl, _⟩ := row_own1 ho5
                replace ho5 := Lib.hid ho5
                replace hb5 := Lib.hid hb5
                go_wp2_with fail
                refine (hkir.out _ _ hb6.out).mono ?_
                rintro _ w6 ⟨v6, rfl, ho6, hb7⟩
                obtain ⟨fa, fcap, rfl, hr6⟩ := row_own1 ho6
                have hsm := Lib.hid (same_c (kidR t b n) (kidR t b n) (.slice oa (kidR t b n).length oc) fa fcap wr.heap.size w6 (own_below ho5.out hb7) (Nat.le_trans hb5.out.size hb7.size) (hr6.mono fun _ _ => trivial))
                have hb8 := Lib.hid (hb5.out.trans (hb7.mono hb5.out.size))
                have hdd : decide (kidR t b n = kidR t b n) = true := by simp
                rw [hdd] at hsm
                clear ho6 hb7 hr6 ho5 hb5 hb6 hdd
                go_wp2_with fail
                refine hsm.out.mono ?_
                rintro _ w7 ⟨rfl, hb9⟩
                have hb10 := Lib.hid (hb.out.trans ((hb8.out.trans hb9).mono hb.out.size))
                clear hsm hb8 hb9 hb
                go_wp2_with fail
                refine (hA4.out.ki _ _ hb10).mono ?_
                rintro _ w11 ⟨v11, rfl, ho11, hb11⟩
                rw [hkn.out _ hbo.out] at ho11
                have hb12 := Lib.hid (hb10.out.trans (hb11.mono hb10.out.size))
                obtain ⟨oa11, oc11, rfl, _⟩ := row_own1 ho11
                clear ho11 hb11 hb10
                go_wp2_with fail
                go_loopw [10] (fun i wr => ∃ a : Int, -1 ≤ a ∧ a ≤ (n : Int) + 1 ∧ i = .int .i64 a ∧ Hid (Below w4.heap.size w4 wr)) (fun i _ => ((n : Int) + 1 - intOf i).toNat)
                case atStart => exact ⟨-1, by omega, by omega, rfl, hb12⟩
                case round =>
                  clear hb12
                  obtain ⟨a, ha0, ha1, rfl, hb⟩ := hrel
                  by_cases han : a ≤ (n : Int)
                  · go_wp2_with fail
                    refine (hA4.out.ab _ _ _ hb).mono ?_
                    rintro _ w13 ⟨rfl, _, hb13⟩
                    go_wp2_with fail
                    refine (hisr.out _ _ _ hb13.out).mono ?_
                    rintro _ w14 ⟨rfl, hw14⟩
                    have hw14 := hw14.symm
                    subst hw14
                    go_wp2_with fail
                    go_roundw
                    case rel => exact ⟨a + 1, by omega, by omega, by go_num, hb13⟩
                    case measure => simp [intOf]; omega
                  · go_wp2_with fail
                    go_roundw
                    case rel => exact ⟨b + 1, by omega, by omega, by go_num, hb⟩
                    case measure => simp [intOf]; omega
              · have hbz2 : (0 : Int) ≤ b := by omega
                by_cases hbn2 : (n : Int) ≤ b
                · have hbo : Hid (b < 0 ∨ (n : Int) ≤ b) := Lib.hid (.inr hbn2)
                  have hre := hro.out b hbo.out
                  have hbl : ¬ (b < (n : Int)) := by omega
                  clear hbz
                  go_wp2_with fail
                  refine (hA4.out.re _ _ hb).mono ?_
                  rintro _ ws ⟨rfl, hws⟩
                  have hws := hws.symm
                  subst hws
                  go_wp2_with fail
                  refine (hA4.out.nx _ _ hb).mono ?_
                  rintro _ ws ⟨rfl, hws⟩
                  have hws := hws.symm
                  subst hws
                  go_wp2_with fail
                  refine (hnxr.out _ _ hb.out).mono ?_
                  rintro _ ws ⟨rfl, hws⟩
                  have hws := hws.symm
                  subst hws
                  go_wp2_with fail
                  refine (hA4.out.ki _ _ hb).mono ?_
                  rintro _ w5 ⟨v5, rfl, ho5, hb5⟩
                  rw [hka.out] at ho5
                  have hb6 := Lib.hid (hb.out.trans (hb5.mono hb.out.size))
                  obtain ⟨oa, oc, rfl, _⟩ := row_own1 ho5
                  replace ho5 := Lib.hid ho5
                  replace hb5 := Lib.hid hb5
                  go_wp2_with fail
                  refine (hkir.out _ _ hb6.out).mono ?_
                  rintro _ w6 ⟨v6, rfl, ho6, hb7⟩
                  obtain ⟨fa, fcap, rfl, hr6⟩ := row_own1 ho6
                  have hsm := Lib.hid (same_c (kidR t b n) (kidR t b n) (.slice oa (kidR t b n).length oc) fa fcap wr.heap.size w6 (own_below ho5.out hb7) (Nat.le_trans hb5.out.size hb7.size) (hr6.mono fun _ _ => trivial))
                  have hb8 := Lib.hid (hb5.out.trans (hb7.mono hb5.out.size))
                  have hdd : decide (kidR t b n = kidR t b n) = true := by simp
                  rw [hdd] at hsm
                  clear ho6 hb7 hr6 ho5 hb5 hb6 hdd
                  go_wp2_with fail
                  refine hsm.out.mono ?_
                  rintro _ w7 ⟨rfl, hb9⟩
                  have hb10 := Lib.hid (hb.out.trans ((hb8.out.trans hb9).mono hb.out.size))
                  clear hsm hb8 hb9 hb
                  go_wp2_with fail
                  refine (hA4.out.ki _ _ hb10).mono ?_
                  rintro _ w11 ⟨v11, rfl, ho11, hb11⟩
                  rw [hkn.out _ hbo.out] at ho11
                  have hb12 := Lib.hid (hb10.out.trans (hb11.mono hb10.out.size))
                  obtain ⟨oa11, oc11, rfl, _⟩ := row_own1 ho11
                  clear ho11 hb11 hb10
                  go_wp2_with fail
                  go_loopw [10] (fun i wr => ∃ a : Int, -1 ≤ a ∧ a ≤ (n : Int) + 1 ∧ i = .int .i64 a ∧ Hid (Below w4.heap.size w4 wr)) (fun i _ => ((n : Int) + 1 - intOf i).toNat)
                  case atStart => exact ⟨-1, by omega, by omega, rfl, hb12⟩
                  case round =>
                    clear hb12
                    obtain ⟨a, ha0, ha1, rfl, hb⟩ := hrel
                    by_cases han : a ≤ (n : Int)
                    · go_wp2_with fail
                      refine (hA4.out.ab _ _ _ hb).mono ?_
                      rintro _ w13 ⟨rfl, _, hb13⟩
                      go_wp2_with fail
                      refine (hisr.out _ _ _ hb13.out).mono ?_
                      rintro _ w14 ⟨rfl, hw14⟩
                      have hw14 := hw14.symm
                      subst hw14
                      go_wp2_with fail
                      go_roundw
                      case rel => exact ⟨a + 1, by omega, by omega, by go_num, hb13⟩
                      case measure => simp [intOf]; omega
                    · go_wp2_with fail
                      go_roundw
                      case rel => exact ⟨b + 1, by omega, by omega, by go_num, hb⟩
                      case measure => simp [intOf]; omega
                · obtain ⟨j, rfl⟩ : ∃ j : Nat, b = j := ⟨b.toNat, by omega⟩
                  have hbl : (j : Int) < (n : Int) := by omega
                  have hjn : j < n := by omega
                  have hRw := hRk.out wr hb.out
                  have c1 := hRw.c1
                  have cre := hRw.re j hjn
                  clear hRw hbn2 hbz
                  go_wp2_with fail
                  refine (hA4.out.re _ _ hb).mono ?_
                  rintro _ ws ⟨rfl, hws⟩
                  have hws := hws.symm
                  subst hws
                  go_wp2_with fail
                  refine (hA4.out.nx _ _ hb).mono ?_
                  rintro _ ws ⟨rfl, hws⟩
                  have hws := hws.symm
                  subst hws
                  go_wp2_with fail
                  refine (hnxr.out _ _ hb.out).mono ?_
                  rintro _ ws ⟨rfl, hws⟩
                  have hws := hws.symm
                  subst hws
                  go_wp2_with fail
                  refine (hA4.out.ki _ _ hb).mono ?_
                  rintro _ w5 ⟨v5, rfl, ho5, hb5⟩
                  rw [hka.out] at ho5
                  have hb6 := Lib.hid (hb.out.trans (hb5.mono hb.out.size))
                  obtain ⟨oa, oc, rfl, _⟩ := row_own1 ho5
                  replace ho5 := Lib.hid ho5
                  replace hb5 := Lib.hid hb5
                  go_wp2_with fail
                  refine (hkir.out _ _ hb6.out).mono ?_
                  rintro _ w6 ⟨v6, rfl, ho6, hb7⟩
                  obtain ⟨fa, fcap, rfl, hr6⟩ := row_own1 ho6
                  have hsm := Lib.hid (same_c (kidR t (j : Int) n) (kidR t (j : Int) n) (.slice oa (kidR t (j : Int) n).length oc) fa fcap wr.heap.size w6 (own_below ho5.out hb7) (Nat.le_trans hb5.out.size hb7.size) (hr6.mono fun _ _ => trivial))
                  have hb8 := Lib.hid (hb5.out.trans (hb7.mono hb5.out.size))
                  have hdd : decide (kidR t (j : Int) n = kidR t (j : Int) n) = true := by simp
                  rw [hdd] at hsm
                  clear ho6 hb7 hr6 ho5 hb5 hb6 hdd
                  go_wp2_with fail
                  refine hsm.out.mono ?_
                  rintro _ w7 ⟨rfl, hb9⟩
                  have hb10 := Lib.hid (hb.out.trans ((hb8.out.trans hb9).mono hb.out.size))
                  clear hsm hb8 hb9 hb
                  go_wp2_with fail
                  go_loopw [10] (fun i wr => ∃ a : Int, -1 ≤ a ∧ a ≤ (n : Int) + 1 ∧ i = .int .i64 a ∧ Hid (Below w4.heap.size w4 wr)) (fun i _ => ((n : Int) + 1 - intOf i).toNat)
                  case atStart => exact ⟨-1, by omega, by omega, rfl, hb10⟩
                  case round =>
                    clear hb10
                    obtain ⟨a, ha0, ha1, rfl, hb⟩ := hrel
                    by_cases han : a ≤ (n : Int)
                    · go_wp2_with fail
                      refine (hA4.out.ab _ _ _ hb).mono ?_
                      rintro _ w13 ⟨rfl, _, hb13⟩
                      go_wp2_with fail
                      refine (hisr.out _ _ _ hb13.out).mono ?_
                      rintro _ w14 ⟨rfl, hw14⟩
                      have hw14 := hw14.symm
                      subst hw14
                      go_wp2_with fail
                      go_roundw
                      case rel => exact ⟨a + 1, by omega, by omega, by go_num, hb13⟩
                      case measure => simp [intOf]; omega
                    · go_wp2_with fail
                      go_roundw
                      case rel => exact ⟨(j : Int) + 1, by omega, by omega, by go_num, hb⟩
                      case measure => simp [intOf]; omega
            · go_wp2_with fail
              go_roundw
              case rel => exact ⟨k + 1, by omega, by go_num, hb⟩
              case measure => simp [intOf]; omega
        · have hk1 : ¬ ((k : Int) < 2) := by omega
          go_wp2_with fail
          refine (haw.out _).mono ?_
          rintro _ w5 ⟨rfl, hb6⟩
          have hb7 := Lib.hid (hend.out _ (hb.out.trans (hb6.mono hb.out.size)))
          clear hb6
          go_wp2_with fail
          go_ret
          exact ⟨rfl, hb7.out⟩
  · rw [hl] at hlc
    clear hl hg
    go_enter Try.func3, Try.ntmps3
    go_wp2_with fail
    refine hlc.out.mono ?_
    rintro e w1 ⟨rfl, rfl⟩
    clear hlc
    go_wp2_with fail
    refine (haw.out _).mono ?_
    rintro e w2 ⟨rfl, hb2⟩
    replace hb2 := Lib.hid hb2
    go_wp2_with fail
    go_ret
    exact ⟨rfl, hb2.out⟩
end Go.Proofs.Ytiaecobjbckhoaa.Db
