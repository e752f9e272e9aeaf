/- Walk of DomKids. Conditions: the graph lies in memory. -/
import Derived.Test.YtiaecobjbckhoaaDnE
set_option linter.unusedVariables false
set_option linter.unusedSimpArgs false
namespace Go.Proofs.Ytiaecobjbckhoaa.Db
open Go Go.RowKit
open Go.WideShapes Go.MapKept

theorem below_q {w1 V : World} (h : Hid (Below w1.heap.size w1 V)) (k : Nat) : Hid (Below w1.heap.size w1 (V.drewN k)) := Lib.hid (h.out.trans ((below_drawN _ _).mono h.out.size))
theorem kpt_T {W : World} {a : Option Addr} {cap n : Nat} {xs : List Value} (h : RowAt W Tt a cap n xs) (k : Nat) : RowAt (W.drewN k) Tt a cap n xs := h.below (Kps.of_below (below_drawN W k))
set_option maxHeartbeats 8000000 in
set_option maxRecDepth 100000 in
theorem domKids_law (T : List Tl) (ta : Option Addr) (tcap : Nat) (w : World) (hg : ToM w.heap.size ta tcap T w) :
    Calls Try.prog 7 #[.slice ta T.length tcap] w fun e w' => e = .returned (.bool true) ∧ Below w.heap.size w w' := by
  have hlc := Lib.hid (long_c T.length tcap ta w rfl hg)
  have haw := Lib.hid (fun V => awake_c V)
  rcases hl : longP T with _ | _
  · rw [hl] at hlc
    have hof := Lib.hid (fun V (hb : Below w.heap.size w V) => of_law (T := T) T.length tcap ta V rfl ⟨(hg.keep hb).row.mono fun _ h => Nat.lt_of_lt_of_le h hb.size, fun x hx => ((hg.keep hb).rows x hx).mono fun _ h => Nat.lt_of_lt_of_le h hb.size⟩ hl)
    obtain ⟨hc1, hc2⟩ := len_i hg.row
    have h40 := (long_no hl).1
    clear hg hl
    generalize hn : T.length = n at *
    go_enter Try.func7, Try.ntmps7
    go_wp2_with fail
    refine hlc.out.mono ?_
    rintro e w1 ⟨rfl, hw1⟩
    have hw2 := hw1.symm
    subst hw2
    clear hlc hw1
    go_wp2_with fail
    refine (haw.out _).mono ?_
    rintro e w2 ⟨rfl, hb2⟩
    have hof2 := Lib.hid (hof.out w2 hb2)
    replace hb2 := Lib.hid hb2
    clear hof
    go_wp2_with fail
    refine hof2.out.mono ?_
    rintro e w3 ⟨hb3, ⟨hm, rfl⟩ | ⟨hm, H, tb, rfl, htb, hA⟩⟩
    · replace hm := Lib.hid hm
      have hb4 := Lib.hid (hb2.out.trans (hb3.mono hb2.out.size))
      clear hb3 hb2 hof2
      go_wp2_with fail
      go_ret
      exact ⟨rfl, hb4.out⟩
    · have hb4 := Lib.hid (hb2.out.trans (hb3.mono hb2.out.size))
      replace hA := Lib.hid hA
      have hend : Hid (∀ V, Below w3.heap.size w3 V → Below w.heap.size w V) := Lib.hid fun V h => hb4.out.trans (h.mono hb4.out.size)
      have p1 := Lib.hid (fun (b : Nat) x h => H.hn.kid_mem (b := b) (x := x) h)
      have p2 := Lib.hid (fun (b : Nat) => H.hn.kid_rise b)
      have p3 := Lib.hid H.hn.count
      have p4 : (tre n T).reach 0 = true := (H.reach 0).2 (.start trivial)
      have p5 : (tre n T).nextP 0 = -1 := by
        unfold Tp.nextP
        rw [if_pos p4]
        exact H.hn.z
      have p6 := Lib.hid (fun (b : Nat) => show ((tre n T).kids (b : Int)).length ≤ n by
        unfold tre
        rw [H.hn.kids]
        split
        · exact kidsP_len _ _ _
        · exact Nat.zero_le _)
      change Hid (∀ (b : Nat) x, x ∈ (tre n T).kids (b : Int) → ∃ y : Nat, x = y ∧ y < n ∧ nxt n T y = (b : Int) ∧ (tre n T).reach (b : Int) = true ∧ (tre n T).reach x = true ∧ (tre n T).nextP x = b) at p1
      change Hid (∀ (b : Nat), ((tre n T).kids (b : Int)).Pairwise (· < ·)) at p2
      change Hid (sm (fun b => ((tre n T).kids (b : Int)).length) n + 1 = cnt (fun b => (tre n T).reach (b : Int)) n) at p3
      generalize tre n T = t at *
      replace hm := Lib.hid hm
      replace H := Lib.hid H
      clear hb3 hb2 hof2 haw htb hm hb4
      have hrel0 : Hid (Below w3.heap.size w3 w3) := Lib.hid (Below.refl _ _)
      go_wp2_with fail
      go_loopw [5, 6, 7] (fun c r i wr => ∃ k : Nat, k ≤ n ∧ i = .int .i64 k ∧ c = .int .i64 (sm (fun b => (t.kids (b : Int)).length) k : Nat) ∧ r = .int .i64 (cnt (fun b => t.reach (b : Int)) k : Nat) ∧ Hid (Below w3.heap.size w3 wr)) (fun _ _ i _ => n - (intOf i).toNat)
      case atStart => exact ⟨0, Nat.zero_le _, rfl, rfl, rfl, hrel0⟩
      case round =>
        clear hrel0
        obtain ⟨k, hk, rfl, rfl, rfl, hb⟩ := hrel
        have hcl := cnt_le (fun b => t.reach (b : Int)) k
        have hsl := sm_le (f := fun b => (t.kids (b : Int)).length) (c := n) p6.out k
        have hkn2 : k * n ≤ 1600 := Nat.le_trans (Nat.mul_le_mul hk (Nat.le_refl _)) (Nat.mul_le_mul h40 h40)
        by_cases hkn : k < n
        · have hcs : cnt (fun b => t.reach (b : Int)) (k + 1) = cnt (fun b => t.reach (b : Int)) k + (if t.reach (k : Int) = true then 1 else 0) := rfl
          have hss : sm (fun b => (t.kids (b : Int)).length) (k + 1) = sm (fun b => (t.kids (b : Int)).length) k + (t.kids (k : Int)).length := rfl
          have hk1 : (k : Int) < (n : Int) := by omega
          have hl40 := p6.out k
          generalize hcc : cnt (fun b => t.reach (b : Int)) k = c at *
          generalize hsc : sm (fun b => (t.kids (b : Int)).length) k = s at *
          have hs16 : s ≤ 1600 := by omega
          clear hsl hkn2
          replace hcs := Lib.hid hcs
          replace hss := Lib.hid hss
          replace hcc := Lib.hid hcc
          replace hsc := Lib.hid hsc
          go_wp2_with fail
          refine (hA.out.re _ _ hb).mono ?_
          rintro _ _ ⟨rfl, rfl⟩
          rcases hrk : t.reach (k : Int) with _ | _
          · rw [hrk] at hcs
            go_wp2_with fail
            refine (hA.out.ki _ _ hb).mono ?_
            rintro _ w4 ⟨v, rfl, ho, hb5⟩
            obtain ⟨a, cap, rfl, hr⟩ := row_own1 ho
            have hb6 := Lib.hid (hb.out.trans (hb5.mono hb.out.size))
            have hq1 := p1.out k
            have hq2 := Lib.hid (p2.out k)
            obtain ⟨hr1, hr2⟩ := len_i hr
            generalize hlk : t.kids (k : Int) = l at *
            replace hlk := Lib.hid hlk
            replace hq1 := Lib.hid hq1
            replace hr := Lib.hid hr
            clear ho hb5 hb p1 p2 p3 p6
            go_wp2_with fail
            go_loopw [9] (fun i wr => ∃ j : Nat, j ≤ l.length ∧ i = .int .i64 j ∧ Hid (wr.heap = w4.heap ∧ Below w4.heap.size w4 wr)) (fun i _ => l.length - (intOf i).toNat)
            case atStart => exact ⟨0, Nat.zero_le _, rfl, Lib.hid ⟨rfl, Below.refl _ _⟩⟩
            case round =>
              obtain ⟨j, hj, rfl, hw⟩ := hrel
              have hbV : Hid (Below w3.heap.size w3 wr) := Lib.hid (hb6.out.trans (hw.out.2.mono hb6.out.size))
              have hrV := hr.out.below (Kps.of_below (S := Tt) hw.out.2)
              by_cases hjl : j < l.length
              · obtain ⟨x, hx⟩ : ∃ x, l[j]? = some x := ⟨_, List.getElem?_eq_getElem hjl⟩
                obtain ⟨y, rfl, hy1, _, hy2, hy3, hy4⟩ := hq1.out x (List.mem_of_getElem? hx)
                obtain ⟨b, off, rfl, _, hcell⟩ := num_row hrV j _ hx
                rw [hrk] at hy2
                cases hy2
              · have hjl2 : j = l.length := by omega
                subst hjl2
                clear hrV hq1 hq2 hw hr
                go_wp2_with fail
                go_roundw
                case rel => exact ⟨k + 1, by omega, by go_num, by rw [hss.out]; go_num, by rw [hcs.out]; exact rfl, hbV⟩
                case measure => simp [intOf]; omega
          · rw [hrk] at hcs
            go_wp2_with fail
            refine (hA.out.ki _ _ hb).mono ?_
            rintro _ w4 ⟨v, rfl, ho, hb5⟩
            obtain ⟨a, cap, rfl, hr⟩ := row_own1 ho
            have hb6 := Lib.hid (hb.out.trans (hb5.mono hb.out.size))
            have hq1 := p1.out k
            have hq2 := Lib.hid (p2.out k)
            obtain ⟨hr1, hr2⟩ := len_i hr
            generalize hlk : t.kids (k : Int) = l at *
            replace hlk := Lib.hid hlk
            replace hq1 := Lib.hid hq1
            replace hr := Lib.hid hr
            clear ho hb5 hb p1 p2 p3 p6
            go_wp2_with fail
            go_loopw [9] (fun i wr => ∃ j : Nat, j ≤ l.length ∧ i = .int .i64 j ∧ Hid (wr.heap = w4.heap ∧ Below w4.heap.size w4 wr)) (fun i _ => l.length - (intOf i).toNat)
            case atStart => exact ⟨0, Nat.zero_le _, rfl, Lib.hid ⟨rfl, Below.refl _ _⟩⟩
            case round =>
              obtain ⟨j, hj, rfl, hw⟩ := hrel
              have hbV : Hid (Below w3.heap.size w3 wr) := Lib.hid (hb6.out.trans (hw.out.2.mono hb6.out.size))
              have hrV := hr.out.below (Kps.of_below (S := Tt) hw.out.2)
              by_cases hjl : j < l.length
              · obtain ⟨x, hx⟩ : ∃ x, l[j]? = some x := ⟨_, List.getElem?_eq_getElem hjl⟩
                obtain ⟨y, rfl, hy1, _, hy2, hy3, hy4⟩ := hq1.out x (List.mem_of_getElem? hx)
                obtain ⟨b, off, rfl, _, hcell⟩ := num_row hrV j _ hx
                have hre := Lib.hid (fun m x => hA.out.re x (wr.drewN m) (below_q hbV m))
                have hne := Lib.hid (fun m x => hA.out.nx x (wr.drewN m) (below_q hbV m))
                have hst2 : Hid (∀ m, (wr.drewN m).heap = w4.heap ∧ Below w4.heap.size w4 (wr.drewN m)) := Lib.hid (fun m => ⟨hw.out.1, hw.out.2.trans ((below_drawN _ _).mono hw.out.2.size)⟩)
                have hj1 : (j : Int) < (l.length : Int) := by omega
                have hj0 : (0 : Int) ≤ (j : Int) := by omega
                have hg1 : decide (t.nextP (y : Int) = (k : Int)) = true := by simp [hy4]
                rcases Nat.eq_zero_or_pos j with hz | hpos
                · have hjp : decide ((0 : Int) < (j : Int)) = false := by simp; omega
                  have hjp2 : decide (0 < j) = false := by simp; omega
                  have hjp3 : (0 < j) = False := by simp; omega
                  clear hrV hx hq1 hq2 hbV hw hr hz
                  go_wp2_with fail
                  go_quiet (first | with_reducible exact Calls.quiet_of_same (hre.out _ _) | with_reducible exact Calls.quiet_of_same (hne.out _ _))
                  have hst3 := Lib.hid (hst2.out nq)
                  generalize wr.drewN nq = V2 at *
                  go_wp2_with fail
                  go_roundw
                  case rel => exact ⟨j + 1, by omega, by go_num, hst3⟩
                  case measure => simp [intOf]; omega
                · obtain ⟨i, hi⟩ : ∃ i : Nat, j = i + 1 := ⟨j - 1, by omega⟩
                  have hji : (j : Int) - 1 = (i : Int) := by omega
                  obtain ⟨z, hz⟩ : ∃ z, l[i]? = some z := ⟨_, List.getElem?_eq_getElem (by omega)⟩
                  obtain ⟨b', off', hbo, _, hcell'⟩ := num_row hrV i _ hz
                  cases hbo
                  have hlt : z < (y : Int) := by
                    have h1 := (List.getElem?_eq_some_iff.1 hz)
                    have h2 := (List.getElem?_eq_some_iff.1 hx)
                    obtain ⟨h3, h4⟩ := h1
                    obtain ⟨h5, h6⟩ := h2
                    have := (List.pairwise_iff_getElem.1 hq2.out) i j h3 h5 (by omega)
                    rw [h4, h6] at this
                    exact this
                  have hnle : ¬ ((y : Int) ≤ z) := by omega
                  have hjp : (0 : Int) < (j : Int) := by omega
                  have hi0 : (0 : Int) ≤ (i : Int) := by omega
                  have hi1 : (i : Int) < (l.length : Int) := by omega
                  clear hrV hx hz hq1 hq2 hbV hw hr hi
                  go_wp2_with fail
                  go_quiet (first | with_reducible exact Calls.quiet_of_same (hre.out _ _) | with_reducible exact Calls.quiet_of_same (hne.out _ _))
                  have hst3 := Lib.hid (hst2.out nq)
                  generalize wr.drewN nq = V2 at *
                  go_wp2_with fail
                  go_roundw
                  case rel => exact ⟨j + 1, by omega, by go_num, hst3⟩
                  case measure => simp [intOf]; omega
              · have hjl2 : j = l.length := by omega
                subst hjl2
                clear hrV hq1 hq2 hw hr
                go_wp2_with fail
                go_roundw
                case rel => exact ⟨k + 1, by omega, by go_num, by rw [hss.out]; go_num, by rw [hcs.out]; go_num, hbV⟩
                case measure => simp [intOf]; omega
        · have hkn3 : k = n := by omega
          subst hkn3
          have hp := p3.out
          generalize hcc : cnt (fun b => t.reach (b : Int)) k = c at *
          generalize hsc : sm (fun b => (t.kids (b : Int)).length) k = s at *
          subst hp
          have hs16 : s ≤ 1600 := by omega
          have he : ((s + 1 : Nat) : Int) - 1 = (s : Int) := by omega
          clear hsl hkn2 p1 p2 p3 p6
          replace hcc := Lib.hid hcc
          replace hsc := Lib.hid hsc
          have hre := Lib.hid (hA.out.re 0 wr hb)
          have hne := Lib.hid (hA.out.nx 0 wr hb)
          go_wp2_with fail
          refine hne.out.mono ?_
          rintro _ _ ⟨rfl, rfl⟩
          go_wp2_with fail
          refine hre.out.mono ?_
          rintro _ _ ⟨rfl, rfl⟩
          go_wp2_with fail
          go_ret
          exact ⟨rfl, hend.out _ hb.out⟩
  · rw [hl] at hlc
    clear hl hg
    go_enter Try.func7, Try.ntmps7
    go_wp2_with fail
    refine hlc.out.mono ?_
    rintro e w1 ⟨rfl, rfl⟩
    clear hlc
    go_wp2_with fail
    refine (haw.out _).mono ?_
    rintro e w2 ⟨rfl, hb2⟩
    replace hb2 := Lib.hid hb2
    go_wp2_with fail
    go_ret
    exact ⟨rfl, hb2.out⟩
end Go.Proofs.Ytiaecobjbckhoaa.Db
