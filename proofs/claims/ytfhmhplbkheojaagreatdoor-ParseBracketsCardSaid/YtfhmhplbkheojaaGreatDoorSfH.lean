/- The walk of the statement ParseAhead's function. Conditions: the variables that the packages read hold what they were laid with. -/
import Derived.Test.YtfhmhplbkheojaaGreatDoorSfG
import Derived.Test.YtfhmhplbkheojaaGreatDoorWkD
import Derived.Laws.Concat
namespace Go.Proofs.YtfhmhplbkheojaaGreatDoor.Pa
open Go Go.RowKit
open Go.Proofs.YtfhmhplbkheojaaGreatDoor.Lx Go.Proofs.YtfhmhplbkheojaaGreatDoor.Tr

theorem u64_bd (n : Int) : 0 ≤ IntKind.u64.wrap n ∧ IntKind.u64.wrap n < 18446744073709551616 := by
  unfold IntKind.wrap
  simp [IntKind.bits, IntKind.signed]
  omega
theorem rem_40 (n : Int) : ∃ m : Nat, (IntKind.u64.wrap n).tmod 40 = (m : Int) ∧ m < 40 := by
  obtain ⟨h1, h2⟩ := u64_bd n
  refine ⟨((IntKind.u64.wrap n).tmod 40).toNat, ?_, ?_⟩
  · rw [Int.tmod_eq_emod_of_nonneg h1]; omega
  · rw [Int.tmod_eq_emod_of_nonneg h1]; omega
/-- places are the text's -/
theorem parseP_pos {s : ByteArray} {ds : List De} {p e : Int} (h : parseP s = (ds, p, e)) (hs : s.size ≤ 65000) : 0 ≤ p ∧ p ≤ 70000 := by
  unfold parseP at h
  obtain ⟨ts, q, en, hres⟩ : ∃ ts q en, res s.data.toList = (ts, q, en) := ⟨_, _, _, rfl⟩
  rw [hres] at h
  have hsz : s.size = s.data.toList.length := Lib.size_eq s
  split at h
  · rename_i h0
    have h0' : en = 0 := by simpa using h0
    subst h0'
    obtain ⟨_, _, hlen, hts⟩ := Pa.res_ok hres
    simp only at h
    have q := readR_lk (g := fun _ => 0) (g' := fun x => if 0 ≤ x ∧ x ≤ 70000 then 0 else 1) (p := s.size) (p' := s.size) (res_good hres) rfl (List.map_congr_left fun t ht => by
      have := (hts t ht).2
      show (if 0 ≤ (t.pos : Int) ∧ (t.pos : Int) ≤ 70000 then (0 : Int) else 1) = 0
      rw [if_pos (by omega)]) (by show (if 0 ≤ (s.size : Int) ∧ (s.size : Int) ≤ 70000 then (0 : Int) else 1) = 0; rw [if_pos (by omega)])
    split at h
    · rename_i p1 hp1
      cases h
      rw [hp1] at q
      have q' : (if 0 ≤ p ∧ p ≤ 70000 then (0 : Int) else 1) = 0 := q
      by_cases hb : 0 ≤ p ∧ p ≤ 70000
      · exact hb
      · rw [if_neg hb] at q'; cases q'
    · split at h <;> (cases h; omega)
  · cases h
    have hq : q ≤ s.size := by
      unfold res at hres
      split at hres
      · cases hres; omega
      · split at hres
        · cases hres; omega
        · rename_i q1 hq1
          cases hres
          have := lx_err _ _ _ _ hq1
          omega
    simp only
    omega
theorem gSL_a (l : List St) : gSL (saL l) = gSL l := by rw [← gSL_er (saL l), stL_a, gSL_er]
/-- declarations, each place so much farther on -/
def FD (D : Int) (d d' : De) : Prop := d'.kind = d.kind ∧ d'.name = d.name ∧ d'.n = d.n ∧ d'.params = d.params ∧ FSL D d.body d'.body ∧ d'.pos = d.pos + D ∧ gSL d.body = true
theorem fd_of {D : Int} {l l' : List De} (h : XDL (fun x => x + D) (fun x => x) (l.map da) (l'.map da)) : l'.length = l.length ∧ ∀ (i : Nat) (d d' : De), l[i]? = some d → l'[i]? = some d' → FD D d d' := by
  obtain ⟨h1, h2⟩ := h
  refine ⟨by simpa using congrArg List.length h1, fun i d d' hd hd' => ?_⟩
  have e := congrArg (fun x => x[i]?) h1
  simp only [List.getElem?_map, hd, hd', Option.map_some] at e
  have e2 := Option.some.inj e
  unfold dg da at e2
  simp only [De.mk.injEq, true_and] at e2
  obtain ⟨k1, k2, k3, k4, k5, k6⟩ := e2
  have g := h2 (da d) (List.mem_map.2 ⟨d, List.mem_of_getElem? hd, rfl⟩)
  have g' : gSL (saL d.body) = true := g
  rw [gSL_a] at g'
  exact ⟨k1, k2, k3, k4, k5, k6, g'⟩
def idle (m : Nat) : ByteArray := ⟨⟨repL m [32]⟩⟩ ++ ⟨#[10]⟩
theorem idle_data (m : Nat) : (idle m).data.toList = List.replicate m 32 ++ [10] := by
  unfold idle
  rw [app_any]
  show repL m [32] ++ [10] = _
  congr 1
  unfold repL
  induction m with
  | zero => rfl
  | succ m ih => rw [List.replicate_succ, List.flatten_cons, ih, List.replicate_succ]; rfl
theorem idle_passed (m : Nat) : Passed (idle m).data.toList := by
  rw [idle_data]
  exact (Passed.many (by decide) m).app (Passed.one (by decide))
theorem idle_size (m : Nat) : (idle m).size = m + 1 := by
  rw [Lib.size_eq, idle_data]; simp
theorem vds_nil {S : Nat → Prop} {v : Value} {w : World} (h : VDs S [] v w) : ∃ a cap, v = .slice a 0 cap := by
  obtain ⟨l, a, cap, rfl, _, _, h3⟩ := h
  have : l = [] := by simpa using h3
  subst this
  exact ⟨a, cap, rfl⟩

set_option linter.unusedSimpArgs false in
set_option maxHeartbeats 8000000 in
set_option maxRecDepth 100000 in
theorem ahead_any (s : ByteArray) (n : Int) (w : World) (hsz : s.size ≤ maxLen) (hw : All w) :
    Calls Tryz.prog 7 #[.string s, .int .i64 n] w fun x w' => x = .returned (.bool true) ∧ Below w.heap.size w w' := by
  have hWk := Lib.hid (fun V (hV : All V) => works_c V hV)
  have hsl : (s.size : Int) ≤ 9223372036854775807 := by unfold maxLen at hsz; omega
  by_cases hlong : 20000 < s.size
  · have hl1 : (20000 : Int) < (s.size : Int) := by omega
    have hl2 : decide ((s.size : Int) > 20000) = true := decide_eq_true hl1
    replace hw := Lib.hid hw
    clear hsz hlong
    go_enter Tryz.func7, Tryz.ntmps7
    go_wp2_with fail
    refine (hWk.out w hw.out).mono ?_
    rintro e w1 ⟨rfl, hb1⟩
    replace hb1 := Lib.hid hb1
    go_wp2_with fail
    refine (hWk.out w1 (hw.out.below hb1.out)).mono ?_
    rintro e w2 ⟨rfl, hb2⟩
    have hb02 := Lib.hid (hb1.out.trans (hb2.mono hb1.out.size))
    clear hb1 hb2
    go_wp2_with fail
    go_ret
    exact ⟨rfl, hb02.out⟩
  · have hl1 : ¬ (20000 : Int) < (s.size : Int) := by omega
    have hl2 : decide ((s.size : Int) > 20000) = false := decide_eq_false hl1
    obtain ⟨m, hm, hm40⟩ := rem_40 n
    have hmw : IntKind.i64.wrap (m : Int) = m := IntWalk.i64_in _ (by omega)
    have hIs := idle_size m
    have hk := parseP_ahead (idle_passed m) (s := s) (s' := idle m ++ s) (app_any _ _) (by rw [← Lib.size_eq, hIs]; omega)
    rw [← Lib.size_eq] at hk
    have hMa := Lib.hid (fun V => many_c m [32] V (by omega) (by decide))
    have ha1 : ∀ W : World, (Op.stringOp .add ⟨⟨repL m [32]⟩⟩ ⟨#[10]⟩).run Tryz.prog W = .ok (.string (idle m)) W := fun W => run_string_add W _ _ (by rw [size_lit, repL_len]; simp only [List.length_cons, List.length_nil]; omega) (by show ((1 : Nat) : Int) ≤ 8388608; decide)
    have ha2 : ∀ W : World, (Op.stringOp .add (idle m) s).run Tryz.prog W = .ok (.string (idle m ++ s)) W := fun W => run_string_add W _ _ (by rw [hIs]; omega) (by omega)
    have hz2 : (idle m ++ s).size ≤ 20040 := by rw [app_sz, hIs]; omega
    have hP1 := Lib.hid (fun V (hV : All V) => parse_c s V hsz hV.tb hV.ht)
    have hP2 := Lib.hid (fun V (hV : All V) => parse_c (idle m ++ s) V (by unfold maxLen; omega) hV.tb hV.ht)
    have hpos := fun ds p e (h : parseP s = (ds, p, e)) => parseP_pos h (by omega)
    have hss := fun ds p e (h : parseP s = (ds, p, e)) => parseP_sz h
    have hs2 : s.size ≤ 20000 := by omega
    replace hw := Lib.hid hw
    obtain ⟨I, hI⟩ : ∃ x, idle m = x := ⟨_, rfl⟩
    rw [hI] at hk ha1 ha2 hP2 hIs
    clear hI hz2 hsz hlong
    have hI1 : (I.size : Int) = (m : Int) + 1 := by omega
    rcases hk with ⟨ds, ds', e1, e2, hx⟩ | ⟨e1, e2⟩ | ⟨p, p', e1, e2, hp⟩
    · have hds := hss _ _ _ e1
      rw [e1] at hP1
      rw [e2] at hP2
      simp only at hP1 hP2
      clear hpos hss hI1 hIs
      go_enter Tryz.func7, Tryz.ntmps7
      go_wp2_with fail
      refine (hWk.out w hw.out).mono ?_
      rintro e w1 ⟨rfl, hb1⟩
      have hw1 := Lib.hid (hw.out.below hb1)
      replace hb1 := Lib.hid hb1
      go_wp2_with fail
      refine (hMa.out w1).mono ?_
      rintro e w2 ⟨rfl, hb2⟩
      have hw2 := Lib.hid (hw1.out.below hb2)
      have hb02 := Lib.hid (hb1.out.trans (hb2.mono hb1.out.size))
      clear hb1 hb2 hw1 hw
      go_wp2_with fail
      refine (hP1.out w2 hw2.out).mono ?_
      rintro e w3 ⟨hb3, v3, rfl, l, a, cap, rfl, h1, h2, rfl⟩
      have hw3 := Lib.hid (hw2.out.below hb3)
      have hb03 := Lib.hid (hb02.out.trans (hb3.mono hb02.out.size))
      have hrow3 := Lib.hid (h1.mono (S' := fun _ => True) (fun _ _ => trivial))
      have hin3 := Lib.hid (h2.mono (S' := fun _ => True) (fun _ _ => trivial))
      clear hb3 hw2 hb02 h1 h2
      go_wp2_with fail
      refine (hP2.out w3 hw3.out).mono ?_
      rintro e w4 ⟨hb4, v4, rfl, l', a', cap', rfl, h1, h2, rfl⟩
      have hb04 := Lib.hid (hb03.out.trans (hb4.mono hb03.out.size))
      have hrow := Lib.hid (hrow3.out.below (Kps.of_below hb4))
      have hin := Lib.hid (hin3.out.below (Kps.of_below hb4))
      have hrow' := Lib.hid (h1.mono (S' := fun _ => True) (fun _ _ => trivial))
      have hin' := Lib.hid (h2.mono (S' := fun _ => True) (fun _ _ => trivial))
      clear hb4 hb03 h1 h2 hrow3 hin3 hw3
      obtain ⟨hlen, hfd⟩ := fd_of hx
      rw [sz_da] at hds
      rw [hlen] at hrow' ⊢
      replace hfd := Lib.hid hfd
      have hll : l.length ≤ 9223372036854775807 := by have := hrow.out.le; have := hrow.out.lim; unfold maxLen at this; omega
      clear hx e1 e2 hP1 hP2 hMa hWk
      go_wp2_with fail
      go_loopw [12] (fun i wr => ∃ k : Nat, k ≤ l.length ∧ i = .int .i64 k ∧ Below w4.heap.size w4 wr) (fun i _ => l.length - (intOf i).toNat)
      case atStart => exact ⟨0, Nat.zero_le _, rfl, Below.refl _ _⟩
      case round =>
        obtain ⟨k, hk, rfl, hbr⟩ := hrel
        by_cases hlt : k < l.length
        · have hlt' : k < l'.length := by rw [hlen]; exact hlt
          obtain ⟨e, he⟩ : ∃ e, l[k]? = some e := ⟨l[k], by simp [hlt]⟩
          obtain ⟨e', he'⟩ : ∃ e, l'[k]? = some e := ⟨l'[k], by simp [hlt']⟩
          obtain ⟨b, off, rfl, _, hcell⟩ := de_row hrow.out k e he
          obtain ⟨b', off', rfl, _, hcell'⟩ := de_row (by rw [hlen]; exact hrow'.out : RowAt w4 (fun _ => True) a' cap' l'.length (deCells l')) k e' he'
          have hf := hfd.out k e e' he he'
          have hi1 := hin.out e (List.mem_of_getElem? he)
          have hi2 := hin'.out e' (List.mem_of_getElem? he')
          have hzb := De.sz_get he
          obtain ⟨xk, xnm, xn, xpa, xpc, xps, xba, xbc, xbody, xpos⟩ := e
          obtain ⟨yk, ynm, yn, ypa, ypc, yps, yba, ybc, ybody, ypos⟩ := e'
          obtain ⟨k1, k2, k3, k4, k5, k6, k7⟩ := hf
          simp only at k1 k2 k3 k4 k5 k6 k7 hzb
          subst k1 k2 k3 k4 k6
          obtain ⟨_, _, _, _, _, _, rb1, ib1⟩ := hi1
          obtain ⟨_, _, _, hI', _, _, rb2, ib2⟩ := hi2
          simp only at rb1 ib1 rb2 ib2 hI'
          have elB := k5.len
          have cB := Lib.hid (fun V (h : Below w4.heap.size w4 V) => farther_any _ xbody ybody xba yba xbc ybc (I.size : Int) V (Nat.le_refl _) (rb1.below (Kps.of_below h)) (rb2.below (Kps.of_below h)) (St.InL.below (Kps.of_below h) _ ib1) (St.InL.below (Kps.of_below h) _ ib2) k5 k7 (by omega))
          rw [elB] at cB
          have hwr : IntKind.i64.wrap (xpos + (I.size : Int)) = xpos + (I.size : Int) := IntWalk.i64_in _ hI'
          simp only [← Nat.add_assoc] at hcell hcell'
          have c0 := below_in hbr (hcell 0 _ rfl)
          have c1 := below_in hbr (hcell 1 _ rfl)
          have c2 := below_in hbr (hcell 2 _ rfl)
          have c3 := below_in hbr (hcell 3 _ rfl)
          have c4 := below_in hbr (hcell 4 _ rfl)
          have c5 := below_in hbr (hcell 5 _ rfl)
          have d0 := below_in hbr (hcell' 0 _ rfl)
          have d1 := below_in hbr (hcell' 1 _ rfl)
          have d2 := below_in hbr (hcell' 2 _ rfl)
          have d3 := below_in hbr (hcell' 3 _ rfl)
          have d4 := below_in hbr (hcell' 4 _ rfl)
          have d5 := below_in hbr (hcell' 5 _ rfl)
          rw [Nat.add_zero] at c0 d0
          simp only at c0 c1 c2 c3 c4 c5 d0 d1 d2 d3 d4 d5
          rw [elB] at d4
          have hlt1 : (k : Int) < (l.length : Int) := by omega
          have hk0 : (0 : Int) ≤ (k : Int) := by omega
          replace hbr := Lib.hid hbr
          clear hcell hcell' rb1 rb2 ib1 ib2 k5 k7 hzb he he' hrow hrow' hin hin' hfd elB hI'
          go_upto_region 14 with fail
          refine pair_cut (G := (fun k6 k7 a => ((((((((((a.put (some 89) (.slice (some ⟨b, off, none⟩) l.length cap)).put (some 90) (.int .i64 k)).put (some 91) (.pointer (some ⟨b, off + k * 6, none⟩))).put (some 92) (.agg #[.int .u8 yk, .string ynm, .int .i64 yn, .slice xpa yps.length xpc, .slice xba xbody.length xbc, .int .i64 xpos])).put (some 93) (.slice (some ⟨b', off', none⟩) l.length cap')).put (some 94) (.int .i64 k)).put (some 95) (.pointer (some ⟨b', off' + k * 6, none⟩))).put (some 96) (.agg #[.int .u8 yk, .string ynm, .int .i64 yn, .slice ypa yps.length ypc, .slice yba xbody.length ybc, .int .i64 (xpos + (I.size : Int))])).put (some 13) (.pointer (some ⟨k6, 0, none⟩))).put (some 14) (.pointer (some ⟨k7, 0, none⟩))))) (F := fun k6 k7 V => Below wr.heap.size wr V ∧ k6 ≠ k7 ∧ V.heap[k6]? = some (.cells #[.int .u8 yk, .string ynm, .int .i64 yn, .slice xpa yps.length xpc, .slice xba xbody.length xbc, .int .i64 xpos] 35 (0, 0)) ∧ V.heap[k7]? = some (.cells #[.int .u8 yk, .string ynm, .int .i64 yn, .slice ypa yps.length ypc, .slice yba xbody.length ybc, .int .i64 (xpos + (I.size : Int))] 35 (0, 0))) ?reg ?rest
          case reg =>
            have hSb : Hid (∀ V, Below wr.heap.size wr V → (fun V : World => V.cell? ⟨b, off + k * 6, none⟩ = some (.int .u8 yk) ∧ V.cell? ⟨b, off + k * 6 + 1, none⟩ = some (.string ynm) ∧ V.cell? ⟨b, off + k * 6 + 2, none⟩ = some (.int .i64 yn) ∧ V.cell? ⟨b, off + k * 6 + 3, none⟩ = some (.slice xpa yps.length xpc) ∧ V.cell? ⟨b, off + k * 6 + 4, none⟩ = some (.slice xba xbody.length xbc) ∧ V.cell? ⟨b, off + k * 6 + 5, none⟩ = some (.int .i64 xpos) ∧ V.cell? ⟨b', off' + k * 6, none⟩ = some (.int .u8 yk) ∧ V.cell? ⟨b', off' + k * 6 + 1, none⟩ = some (.string ynm) ∧ V.cell? ⟨b', off' + k * 6 + 2, none⟩ = some (.int .i64 yn) ∧ V.cell? ⟨b', off' + k * 6 + 3, none⟩ = some (.slice ypa yps.length ypc) ∧ V.cell? ⟨b', off' + k * 6 + 4, none⟩ = some (.slice yba xbody.length ybc) ∧ V.cell? ⟨b', off' + k * 6 + 5, none⟩ = some (.int .i64 (xpos + (I.size : Int)))) V) := Lib.hid fun V hV => ⟨below_in hV c0, below_in hV c1, below_in hV c2, below_in hV c3, below_in hV c4, below_in hV c5, below_in hV d0, below_in hV d1, below_in hV d2, below_in hV d3, below_in hV d4, below_in hV d5⟩
            have hSS := hSb.out wr.drew (Below.refl _ _).drew
            refine wp_region_noPanic ?_
            refine wp_region_held_drew (S := (fun V : World => V.cell? ⟨b, off + k * 6, none⟩ = some (.int .u8 yk) ∧ V.cell? ⟨b, off + k * 6 + 1, none⟩ = some (.string ynm) ∧ V.cell? ⟨b, off + k * 6 + 2, none⟩ = some (.int .i64 yn) ∧ V.cell? ⟨b, off + k * 6 + 3, none⟩ = some (.slice xpa yps.length xpc) ∧ V.cell? ⟨b, off + k * 6 + 4, none⟩ = some (.slice xba xbody.length xbc) ∧ V.cell? ⟨b, off + k * 6 + 5, none⟩ = some (.int .i64 xpos) ∧ V.cell? ⟨b', off' + k * 6, none⟩ = some (.int .u8 yk) ∧ V.cell? ⟨b', off' + k * 6 + 1, none⟩ = some (.string ynm) ∧ V.cell? ⟨b', off' + k * 6 + 2, none⟩ = some (.int .i64 yn) ∧ V.cell? ⟨b', off' + k * 6 + 3, none⟩ = some (.slice ypa yps.length ypc) ∧ V.cell? ⟨b', off' + k * 6 + 4, none⟩ = some (.slice yba xbody.length ybc) ∧ V.cell? ⟨b', off' + k * 6 + 5, none⟩ = some (.int .i64 (xpos + (I.size : Int))))) (by kernel_rfl) hSS (fun hHeld => ?_)
            refine' wpAnyH_take (i := 0) (oi := _) (v := _) rfl (by kernel_rfl) (by kernel_rfl) (by kernel_rfl) (fun _ _ _ h => h) (Or.inl ⟨by rfl, ?hyp0⟩) (by assumption) ?restp0
            case hyp0 => (intro w hSw; obtain ⟨s0, s1, s2, s3, s4, s5, t0, t1, t2, t3, t4, t5⟩ := hSw; go_simp; all_goals (with_reducible rfl))
            try simp only [Act.put, List.getElem_toArray, List.getElem_cons_zero, List.getElem_cons_succ, List.setIfInBounds_toArray, List.set_cons_zero, List.set_cons_succ]
            refine' wpAnyH_take (i := 1) (oi := _) (v := _) rfl (by kernel_rfl) (by kernel_rfl) (by kernel_rfl) (fun _ _ _ h => h) (Or.inl ⟨by rfl, ?hyp1⟩) (by assumption) ?restp1
            case hyp1 => (intro w hSw; obtain ⟨s0, s1, s2, s3, s4, s5, t0, t1, t2, t3, t4, t5⟩ := hSw; go_simp; all_goals (with_reducible rfl))
            try simp only [Act.put, List.getElem_toArray, List.getElem_cons_zero, List.getElem_cons_succ, List.setIfInBounds_toArray, List.set_cons_zero, List.set_cons_succ]
            refine' wpAnyH_take (i := 2) (oi := _) (v := _) rfl (by kernel_rfl) (by kernel_rfl) (by kernel_rfl) (fun _ _ _ h => h) (Or.inl ⟨by rfl, ?hyp2⟩) (by assumption) ?restp2
            case hyp2 => (intro w hSw; obtain ⟨s0, s1, s2, s3, s4, s5, t0, t1, t2, t3, t4, t5⟩ := hSw; go_simp; all_goals (with_reducible rfl))
            try simp only [Act.put, List.getElem_toArray, List.getElem_cons_zero, List.getElem_cons_succ, List.setIfInBounds_toArray, List.set_cons_zero, List.set_cons_succ]
            refine' wpAnyH_take (i := 3) (oi := _) (v := _) rfl (by kernel_rfl) (by kernel_rfl) (by kernel_rfl) (fun _ _ _ h => h) (Or.inl ⟨by rfl, ?hyp3⟩) (by assumption) ?restp3
            case hyp3 => (intro w hSw; obtain ⟨s0, s1, s2, s3, s4, s5, t0, t1, t2, t3, t4, t5⟩ := hSw; go_simp; all_goals (with_reducible rfl))
            try simp only [Act.put, List.getElem_toArray, List.getElem_cons_zero, List.getElem_cons_succ, List.setIfInBounds_toArray, List.set_cons_zero, List.set_cons_succ]
            refine' wpAnyH_take (i := 4) (oi := _) (v := _) rfl (by kernel_rfl) (by kernel_rfl) (by kernel_rfl) (fun _ _ _ h => h) (Or.inl ⟨by rfl, ?hyp4⟩) (by assumption) ?restp4
            case hyp4 => (intro w hSw; obtain ⟨s0, s1, s2, s3, s4, s5, t0, t1, t2, t3, t4, t5⟩ := hSw; go_simp; all_goals (with_reducible rfl))
            try simp only [Act.put, List.getElem_toArray, List.getElem_cons_zero, List.getElem_cons_succ, List.setIfInBounds_toArray, List.set_cons_zero, List.set_cons_succ]
            refine' wpAnyH_take (i := 5) (oi := _) (v := _) rfl (by kernel_rfl) (by kernel_rfl) (by kernel_rfl) (fun _ _ _ h => h) (Or.inl ⟨by rfl, ?hyp5⟩) (by assumption) ?restp5
            case hyp5 => (intro w hSw; obtain ⟨s0, s1, s2, s3, s4, s5, t0, t1, t2, t3, t4, t5⟩ := hSw; go_simp; all_goals (with_reducible rfl))
            try simp only [Act.put, List.getElem_toArray, List.getElem_cons_zero, List.getElem_cons_succ, List.setIfInBounds_toArray, List.set_cons_zero, List.set_cons_succ]
            refine' wpAnyH_take (i := 6) (oi := _) (v := _) rfl (by kernel_rfl) (by kernel_rfl) (by kernel_rfl) (fun _ _ _ h => h) (Or.inl ⟨by rfl, ?hyp6⟩) (by assumption) ?restp6
            case hyp6 => (intro w hSw; obtain ⟨s0, s1, s2, s3, s4, s5, t0, t1, t2, t3, t4, t5⟩ := hSw; go_simp; all_goals (with_reducible rfl))
            try simp only [Act.put, List.getElem_toArray, List.getElem_cons_zero, List.getElem_cons_succ, List.setIfInBounds_toArray, List.set_cons_zero, List.set_cons_succ]
            refine' wpAnyH_take (i := 7) (oi := _) (v := _) rfl (by kernel_rfl) (by kernel_rfl) (by kernel_rfl) (fun _ _ _ h => h) (Or.inl ⟨by rfl, ?hyp7⟩) (by assumption) ?restp7
            case hyp7 => (intro w hSw; obtain ⟨s0, s1, s2, s3, s4, s5, t0, t1, t2, t3, t4, t5⟩ := hSw; go_simp; all_goals (with_reducible rfl))
            try simp only [Act.put, List.getElem_toArray, List.getElem_cons_zero, List.getElem_cons_succ, List.setIfInBounds_toArray, List.set_cons_zero, List.set_cons_succ]
            clear hSS
            refine wpAnyH_ready (rs := [8, 9]) (by kernel_rfl) (by simp) ?_
            refine AllReadyH.cons (o := _) rfl (fun K hK => ?_) (AllReadyH.cons (o := _) rfl (fun K hK => ?_) AllReadyH.nil)
            · go_simp
              obtain ⟨V1, hV1⟩ : ∃ W, (wr.alloc (.cells #[.int .u8 0, .string ⟨#[]⟩, .int .i64 0, .slice none 0 0, .slice none 0 0, .int .i64 0] 35)).drew = W := ⟨_, rfl⟩
              have b1 : Below wr.heap.size wr V1 := by rw [← hV1]; exact ((Below.refl _ _).alloc (Nat.le_refl _) _).drew
              have l1 : wr.heap.size ≤ wr.heap.size := Nat.le_refl _
              have x1 : V1.heap[wr.heap.size]? = some (.cells #[.int .u8 0, .string ⟨#[]⟩, .int .i64 0, .slice none 0 0, .slice none 0 0, .int .i64 0] 35 (0, 0)) := by rw [← hV1]; exact World.alloc_heap_new wr _
              rw [hV1]
              clear hV1
              refine hK.out _ _ (hSb.out _ b1) (fun hHeld => ?_)
              clear hK K
              try simp only [Act.put, List.getElem_toArray, List.getElem_cons_zero, List.getElem_cons_succ, List.setIfInBounds_toArray, List.set_cons_zero, List.set_cons_succ]
              refine wpAnyH_ready (rs := [9]) (by kernel_rfl) (by simp) ?_
              refine AllReadyH.cons (o := _) rfl (fun K hK => ?_) AllReadyH.nil
              go_simp
              obtain ⟨V2, hV2⟩ : ∃ W, V1.alloc (.cells #[.int .u8 0, .string ⟨#[]⟩, .int .i64 0, .slice none 0 0, .slice none 0 0, .int .i64 0] 35) = W := ⟨_, rfl⟩
              have b2 : Below wr.heap.size wr V2 := by rw [← hV2]; exact b1.alloc b1.size _
              have l2 : wr.heap.size ≤ V1.heap.size := b1.size
              have x2 : V2.heap[V1.heap.size]? = some (.cells #[.int .u8 0, .string ⟨#[]⟩, .int .i64 0, .slice none 0 0, .slice none 0 0, .int .i64 0] 35 (0, 0)) := by rw [← hV2]; exact World.alloc_heap_new V1 _
              have y2 : V2.heap[wr.heap.size]? = some (.cells #[.int .u8 0, .string ⟨#[]⟩, .int .i64 0, .slice none 0 0, .slice none 0 0, .int .i64 0] 35 (0, 0)) := by rw [← hV2]; exact (heap_alloc_old V1 _ (cells_lt x1)).trans x1
              have hne : wr.heap.size ≠ V1.heap.size := Nat.ne_of_lt (cells_lt x1)
              rw [hV2]
              clear hV2
              refine hK.out _ _ (hSb.out _ b2) (fun hHeld => ?_)
              clear hK K
              try simp only [Act.put, List.getElem_toArray, List.getElem_cons_zero, List.getElem_cons_succ, List.setIfInBounds_toArray, List.set_cons_zero, List.set_cons_succ]
              refine wpAnyH_ready (rs := [10]) (by kernel_rfl) (by simp) ?_
              refine AllReadyH.cons (o := _) rfl (fun K hK => ?_) AllReadyH.nil
              have z3_0 := blk_cell y2 (j := 0) rfl
              have f3_0 := blk_free y2 0
              have z3_1 := blk_cell y2 (j := 1) rfl
              have f3_1 := blk_free y2 1
              have z3_2 := blk_cell y2 (j := 2) rfl
              have f3_2 := blk_free y2 2
              have z3_3 := blk_cell y2 (j := 3) rfl
              have f3_3 := blk_free y2 3
              have z3_4 := blk_cell y2 (j := 4) rfl
              have f3_4 := blk_free y2 4
              have z3_5 := blk_cell y2 (j := 5) rfl
              have f3_5 := blk_free y2 5
              go_simp
              obtain ⟨V3, hV3⟩ : ∃ W, ((((((V2.setCell ⟨wr.heap.size, 0, none⟩ (.int .u8 yk)).setCell ⟨wr.heap.size, 1, none⟩ (.string ynm)).setCell ⟨wr.heap.size, 2, none⟩ (.int .i64 yn)).setCell ⟨wr.heap.size, 3, none⟩ (.slice xpa yps.length xpc)).setCell ⟨wr.heap.size, 4, none⟩ (.slice xba xbody.length xbc)).setCell ⟨wr.heap.size, 5, none⟩ (.int .i64 xpos)) = W := ⟨_, rfl⟩
              have b3 : Below wr.heap.size wr V3 := by rw [← hV3]; exact ((((((b2.setCell (p := ⟨wr.heap.size, _, none⟩) l1 _).setCell (p := ⟨wr.heap.size, _, none⟩) l1 _).setCell (p := ⟨wr.heap.size, _, none⟩) l1 _).setCell (p := ⟨wr.heap.size, _, none⟩) l1 _).setCell (p := ⟨wr.heap.size, _, none⟩) l1 _).setCell (p := ⟨wr.heap.size, _, none⟩) l1 _)
              have x3 : V3.heap[wr.heap.size]? = some (.cells #[.int .u8 yk, .string ynm, .int .i64 yn, .slice xpa yps.length xpc, .slice xba xbody.length xbc, .int .i64 xpos] 35 (0, 0)) := by rw [← hV3]; simpa using (heap_set (heap_set (heap_set (heap_set (heap_set (heap_set y2 0 (.int .u8 yk)) 1 (.string ynm)) 2 (.int .i64 yn)) 3 (.slice xpa yps.length xpc)) 4 (.slice xba xbody.length xbc)) 5 (.int .i64 xpos))
              have y3 : V3.heap[V1.heap.size]? = some (.cells #[.int .u8 0, .string ⟨#[]⟩, .int .i64 0, .slice none 0 0, .slice none 0 0, .int .i64 0] 35 (0, 0)) := by rw [← hV3]; rw [Below.heap_setCell _ _ _ _ (Ne.symm hne), Below.heap_setCell _ _ _ _ (Ne.symm hne), Below.heap_setCell _ _ _ _ (Ne.symm hne), Below.heap_setCell _ _ _ _ (Ne.symm hne), Below.heap_setCell _ _ _ _ (Ne.symm hne), Below.heap_setCell _ _ _ _ (Ne.symm hne)]; exact x2
              clear z3_0 f3_0 z3_1 f3_1 z3_2 f3_2 z3_3 f3_3 z3_4 f3_4 z3_5 f3_5
              rw [hV3]
              clear hV3
              refine hK.out _ _ (hSb.out _ b3) (fun hHeld => ?_)
              clear hK K
              try simp only [Act.put, List.getElem_toArray, List.getElem_cons_zero, List.getElem_cons_succ, List.setIfInBounds_toArray, List.set_cons_zero, List.set_cons_succ]
              refine wpAnyH_ready (rs := [11]) (by kernel_rfl) (by simp) ?_
              refine AllReadyH.cons (o := _) rfl (fun K hK => ?_) AllReadyH.nil
              have z4_0 := blk_cell y3 (j := 0) rfl
              have f4_0 := blk_free y3 0
              have z4_1 := blk_cell y3 (j := 1) rfl
              have f4_1 := blk_free y3 1
              have z4_2 := blk_cell y3 (j := 2) rfl
              have f4_2 := blk_free y3 2
              have z4_3 := blk_cell y3 (j := 3) rfl
              have f4_3 := blk_free y3 3
              have z4_4 := blk_cell y3 (j := 4) rfl
              have f4_4 := blk_free y3 4
              have z4_5 := blk_cell y3 (j := 5) rfl
              have f4_5 := blk_free y3 5
              go_simp
              obtain ⟨V4, hV4⟩ : ∃ W, ((((((V3.setCell ⟨V1.heap.size, 0, none⟩ (.int .u8 yk)).setCell ⟨V1.heap.size, 1, none⟩ (.string ynm)).setCell ⟨V1.heap.size, 2, none⟩ (.int .i64 yn)).setCell ⟨V1.heap.size, 3, none⟩ (.slice ypa yps.length ypc)).setCell ⟨V1.heap.size, 4, none⟩ (.slice yba xbody.length ybc)).setCell ⟨V1.heap.size, 5, none⟩ (.int .i64 (xpos + (I.size : Int)))) = W := ⟨_, rfl⟩
              have b4 : Below wr.heap.size wr V4 := by rw [← hV4]; exact ((((((b3.setCell (p := ⟨V1.heap.size, _, none⟩) l2 _).setCell (p := ⟨V1.heap.size, _, none⟩) l2 _).setCell (p := ⟨V1.heap.size, _, none⟩) l2 _).setCell (p := ⟨V1.heap.size, _, none⟩) l2 _).setCell (p := ⟨V1.heap.size, _, none⟩) l2 _).setCell (p := ⟨V1.heap.size, _, none⟩) l2 _)
              have x4 : V4.heap[V1.heap.size]? = some (.cells #[.int .u8 yk, .string ynm, .int .i64 yn, .slice ypa yps.length ypc, .slice yba xbody.length ybc, .int .i64 (xpos + (I.size : Int))] 35 (0, 0)) := by rw [← hV4]; simpa using (heap_set (heap_set (heap_set (heap_set (heap_set (heap_set y3 0 (.int .u8 yk)) 1 (.string ynm)) 2 (.int .i64 yn)) 3 (.slice ypa yps.length ypc)) 4 (.slice yba xbody.length ybc)) 5 (.int .i64 (xpos + (I.size : Int))))
              have y4 : V4.heap[wr.heap.size]? = some (.cells #[.int .u8 yk, .string ynm, .int .i64 yn, .slice xpa yps.length xpc, .slice xba xbody.length xbc, .int .i64 xpos] 35 (0, 0)) := by rw [← hV4]; rw [Below.heap_setCell _ _ _ _ hne, Below.heap_setCell _ _ _ _ hne, Below.heap_setCell _ _ _ _ hne, Below.heap_setCell _ _ _ _ hne, Below.heap_setCell _ _ _ _ hne, Below.heap_setCell _ _ _ _ hne]; exact x3
              clear z4_0 f4_0 z4_1 f4_1 z4_2 f4_2 z4_3 f4_3 z4_4 f4_4 z4_5 f4_5
              rw [hV4]
              clear hV4
              refine hK.out _ _ (hSb.out _ b4) (fun hHeld => ?_)
              clear hK K
              try simp only [Act.put, List.getElem_toArray, List.getElem_cons_zero, List.getElem_cons_succ, List.setIfInBounds_toArray, List.set_cons_zero, List.set_cons_succ]
              refine wpAnyH_done (by kernel_rfl) ?_ _
              refine NoPanic.normal ?_
              exact ⟨rfl, wr.heap.size, V1.heap.size, ⟨b4, by exact hne, y4, x4⟩, by simp only [Act.put, List.getElem_toArray, List.getElem_cons_zero, List.getElem_cons_succ, List.setIfInBounds_toArray, List.set_cons_zero, List.set_cons_succ]⟩
            · go_simp
              obtain ⟨V5, hV5⟩ : ∃ W, (wr.alloc (.cells #[.int .u8 0, .string ⟨#[]⟩, .int .i64 0, .slice none 0 0, .slice none 0 0, .int .i64 0] 35)).drew = W := ⟨_, rfl⟩
              have b5 : Below wr.heap.size wr V5 := by rw [← hV5]; exact ((Below.refl _ _).alloc (Nat.le_refl _) _).drew
              have l5 : wr.heap.size ≤ wr.heap.size := Nat.le_refl _
              have x5 : V5.heap[wr.heap.size]? = some (.cells #[.int .u8 0, .string ⟨#[]⟩, .int .i64 0, .slice none 0 0, .slice none 0 0, .int .i64 0] 35 (0, 0)) := by rw [← hV5]; exact World.alloc_heap_new wr _
              rw [hV5]
              clear hV5
              refine hK.out _ _ (hSb.out _ b5) (fun hHeld => ?_)
              clear hK K
              try simp only [Act.put, List.getElem_toArray, List.getElem_cons_zero, List.getElem_cons_succ, List.setIfInBounds_toArray, List.set_cons_zero, List.set_cons_succ]
              refine wpAnyH_ready (rs := [8]) (by kernel_rfl) (by simp) ?_
              refine AllReadyH.cons (o := _) rfl (fun K hK => ?_) AllReadyH.nil
              go_simp
              obtain ⟨V6, hV6⟩ : ∃ W, V5.alloc (.cells #[.int .u8 0, .string ⟨#[]⟩, .int .i64 0, .slice none 0 0, .slice none 0 0, .int .i64 0] 35) = W := ⟨_, rfl⟩
              have b6 : Below wr.heap.size wr V6 := by rw [← hV6]; exact b5.alloc b5.size _
              have l6 : wr.heap.size ≤ V5.heap.size := b5.size
              have x6 : V6.heap[V5.heap.size]? = some (.cells #[.int .u8 0, .string ⟨#[]⟩, .int .i64 0, .slice none 0 0, .slice none 0 0, .int .i64 0] 35 (0, 0)) := by rw [← hV6]; exact World.alloc_heap_new V5 _
              have y6 : V6.heap[wr.heap.size]? = some (.cells #[.int .u8 0, .string ⟨#[]⟩, .int .i64 0, .slice none 0 0, .slice none 0 0, .int .i64 0] 35 (0, 0)) := by rw [← hV6]; exact (heap_alloc_old V5 _ (cells_lt x5)).trans x5
              have hne : wr.heap.size ≠ V5.heap.size := Nat.ne_of_lt (cells_lt x5)
              rw [hV6]
              clear hV6
              refine hK.out _ _ (hSb.out _ b6) (fun hHeld => ?_)
              clear hK K
              try simp only [Act.put, List.getElem_toArray, List.getElem_cons_zero, List.getElem_cons_succ, List.setIfInBounds_toArray, List.set_cons_zero, List.set_cons_succ]
              refine wpAnyH_ready (rs := [10]) (by kernel_rfl) (by simp) ?_
              refine AllReadyH.cons (o := _) rfl (fun K hK => ?_) AllReadyH.nil
              have z7_0 := blk_cell x6 (j := 0) rfl
              have f7_0 := blk_free x6 0
              have z7_1 := blk_cell x6 (j := 1) rfl
              have f7_1 := blk_free x6 1
              have z7_2 := blk_cell x6 (j := 2) rfl
              have f7_2 := blk_free x6 2
              have z7_3 := blk_cell x6 (j := 3) rfl
              have f7_3 := blk_free x6 3
              have z7_4 := blk_cell x6 (j := 4) rfl
              have f7_4 := blk_free x6 4
              have z7_5 := blk_cell x6 (j := 5) rfl
              have f7_5 := blk_free x6 5
              go_simp
              obtain ⟨V7, hV7⟩ : ∃ W, ((((((V6.setCell ⟨V5.heap.size, 0, none⟩ (.int .u8 yk)).setCell ⟨V5.heap.size, 1, none⟩ (.string ynm)).setCell ⟨V5.heap.size, 2, none⟩ (.int .i64 yn)).setCell ⟨V5.heap.size, 3, none⟩ (.slice xpa yps.length xpc)).setCell ⟨V5.heap.size, 4, none⟩ (.slice xba xbody.length xbc)).setCell ⟨V5.heap.size, 5, none⟩ (.int .i64 xpos)) = W := ⟨_, rfl⟩
              have b7 : Below wr.heap.size wr V7 := by rw [← hV7]; exact ((((((b6.setCell (p := ⟨V5.heap.size, _, none⟩) l6 _).setCell (p := ⟨V5.heap.size, _, none⟩) l6 _).setCell (p := ⟨V5.heap.size, _, none⟩) l6 _).setCell (p := ⟨V5.heap.size, _, none⟩) l6 _).setCell (p := ⟨V5.heap.size, _, none⟩) l6 _).setCell (p := ⟨V5.heap.size, _, none⟩) l6 _)
              have x7 : V7.heap[V5.heap.size]? = some (.cells #[.int .u8 yk, .string ynm, .int .i64 yn, .slice xpa yps.length xpc, .slice xba xbody.length xbc, .int .i64 xpos] 35 (0, 0)) := by rw [← hV7]; simpa using (heap_set (heap_set (heap_set (heap_set (heap_set (heap_set x6 0 (.int .u8 yk)) 1 (.string ynm)) 2 (.int .i64 yn)) 3 (.slice xpa yps.length xpc)) 4 (.slice xba xbody.length xbc)) 5 (.int .i64 xpos))
              have y7 : V7.heap[wr.heap.size]? = some (.cells #[.int .u8 0, .string ⟨#[]⟩, .int .i64 0, .slice none 0 0, .slice none 0 0, .int .i64 0] 35 (0, 0)) := by rw [← hV7]; rw [Below.heap_setCell _ _ _ _ hne, Below.heap_setCell _ _ _ _ hne, Below.heap_setCell _ _ _ _ hne, Below.heap_setCell _ _ _ _ hne, Below.heap_setCell _ _ _ _ hne, Below.heap_setCell _ _ _ _ hne]; exact y6
              clear z7_0 f7_0 z7_1 f7_1 z7_2 f7_2 z7_3 f7_3 z7_4 f7_4 z7_5 f7_5
              rw [hV7]
              clear hV7
              refine hK.out _ _ (hSb.out _ b7) (fun hHeld => ?_)
              clear hK K
              try simp only [Act.put, List.getElem_toArray, List.getElem_cons_zero, List.getElem_cons_succ, List.setIfInBounds_toArray, List.set_cons_zero, List.set_cons_succ]
              refine wpAnyH_ready (rs := [11]) (by kernel_rfl) (by simp) ?_
              refine AllReadyH.cons (o := _) rfl (fun K hK => ?_) AllReadyH.nil
              have z8_0 := blk_cell y7 (j := 0) rfl
              have f8_0 := blk_free y7 0
              have z8_1 := blk_cell y7 (j := 1) rfl
              have f8_1 := blk_free y7 1
              have z8_2 := blk_cell y7 (j := 2) rfl
              have f8_2 := blk_free y7 2
              have z8_3 := blk_cell y7 (j := 3) rfl
              have f8_3 := blk_free y7 3
              have z8_4 := blk_cell y7 (j := 4) rfl
              have f8_4 := blk_free y7 4
              have z8_5 := blk_cell y7 (j := 5) rfl
              have f8_5 := blk_free y7 5
              go_simp
              obtain ⟨V8, hV8⟩ : ∃ W, ((((((V7.setCell ⟨wr.heap.size, 0, none⟩ (.int .u8 yk)).setCell ⟨wr.heap.size, 1, none⟩ (.string ynm)).setCell ⟨wr.heap.size, 2, none⟩ (.int .i64 yn)).setCell ⟨wr.heap.size, 3, none⟩ (.slice ypa yps.length ypc)).setCell ⟨wr.heap.size, 4, none⟩ (.slice yba xbody.length ybc)).setCell ⟨wr.heap.size, 5, none⟩ (.int .i64 (xpos + (I.size : Int)))) = W := ⟨_, rfl⟩
              have b8 : Below wr.heap.size wr V8 := by rw [← hV8]; exact ((((((b7.setCell (p := ⟨wr.heap.size, _, none⟩) l5 _).setCell (p := ⟨wr.heap.size, _, none⟩) l5 _).setCell (p := ⟨wr.heap.size, _, none⟩) l5 _).setCell (p := ⟨wr.heap.size, _, none⟩) l5 _).setCell (p := ⟨wr.heap.size, _, none⟩) l5 _).setCell (p := ⟨wr.heap.size, _, none⟩) l5 _)
              have x8 : V8.heap[wr.heap.size]? = some (.cells #[.int .u8 yk, .string ynm, .int .i64 yn, .slice ypa yps.length ypc, .slice yba xbody.length ybc, .int .i64 (xpos + (I.size : Int))] 35 (0, 0)) := by rw [← hV8]; simpa using (heap_set (heap_set (heap_set (heap_set (heap_set (heap_set y7 0 (.int .u8 yk)) 1 (.string ynm)) 2 (.int .i64 yn)) 3 (.slice ypa yps.length ypc)) 4 (.slice yba xbody.length ybc)) 5 (.int .i64 (xpos + (I.size : Int))))
              have y8 : V8.heap[V5.heap.size]? = some (.cells #[.int .u8 yk, .string ynm, .int .i64 yn, .slice xpa yps.length xpc, .slice xba xbody.length xbc, .int .i64 xpos] 35 (0, 0)) := by rw [← hV8]; rw [Below.heap_setCell _ _ _ _ (Ne.symm hne), Below.heap_setCell _ _ _ _ (Ne.symm hne), Below.heap_setCell _ _ _ _ (Ne.symm hne), Below.heap_setCell _ _ _ _ (Ne.symm hne), Below.heap_setCell _ _ _ _ (Ne.symm hne), Below.heap_setCell _ _ _ _ (Ne.symm hne)]; exact x7
              clear z8_0 f8_0 z8_1 f8_1 z8_2 f8_2 z8_3 f8_3 z8_4 f8_4 z8_5 f8_5
              rw [hV8]
              clear hV8
              refine hK.out _ _ (hSb.out _ b8) (fun hHeld => ?_)
              clear hK K
              try simp only [Act.put, List.getElem_toArray, List.getElem_cons_zero, List.getElem_cons_succ, List.setIfInBounds_toArray, List.set_cons_zero, List.set_cons_succ]
              refine wpAnyH_done (by kernel_rfl) ?_ _
              refine NoPanic.normal ?_
              exact ⟨rfl, V5.heap.size, wr.heap.size, ⟨b8, by exact Ne.symm hne, y8, x8⟩, by simp only [Act.put, List.getElem_toArray, List.getElem_cons_zero, List.getElem_cons_succ, List.setIfInBounds_toArray, List.set_cons_zero, List.set_cons_succ]⟩
          rintro k6 k7 W6 ⟨b6, hne, x6, y6⟩
          simp only [Act.put, List.getElem_toArray, List.setIfInBounds_toArray, List.set_cons_zero, List.set_cons_succ]
          have hb6 := Lib.hid (hbr.out.trans (b6.mono hbr.out.size))
          clear c0 c1 c2 c3 c4 c5 d0 d1 d2 d3 d4 d5
          have p0 := blk_cell x6 (j := 0) rfl
          have r0 := blk_cell y6 (j := 0) rfl
          have p1 := blk_cell x6 (j := 1) rfl
          have r1 := blk_cell y6 (j := 1) rfl
          have p2 := blk_cell x6 (j := 2) rfl
          have r2 := blk_cell y6 (j := 2) rfl
          have p3 := blk_cell x6 (j := 3) rfl
          have r3 := blk_cell y6 (j := 3) rfl
          have p4 := blk_cell x6 (j := 4) rfl
          have r4 := blk_cell y6 (j := 4) rfl
          have p5 := blk_cell x6 (j := 5) rfl
          have r5 := blk_cell y6 (j := 5) rfl
          clear b6 hne x6 y6
          go_wp2_with fail
          refine (cB.out W6 hb6.out).mono ?_
          rintro e w7 ⟨rfl, hb7⟩
          have hb07 := Lib.hid (hb6.out.trans (hb7.mono hb6.out.size))
          clear p0 p1 p2 p3 p4 p5 r0 r1 r2 r3 r4 r5 hb7 hb6 cB
          go_wp2_with fail
          go_roundw
          case rel => exact ⟨k + 1, by omega, by go_num, hb07.out⟩
          case measure => simp [intOf]; omega
        · have hke : k = l.length := by omega
          subst hke
          have hlt1 : ¬ (l.length : Int) < (l.length : Int) := by omega
          have hbe := Lib.hid (hb04.out.trans (hbr.mono hb04.out.size))
          clear hrow hrow' hin hin' hfd hbr
          go_wp2_with fail
          go_ret
          exact ⟨rfl, hbe.out⟩
    · rw [e1] at hP1
      rw [e2] at hP2
      simp only at hP1 hP2
      clear hpos hss e1 e2
      have hw0 : IntKind.i64.wrap (I.size : Int) = I.size := IntWalk.i64_in _ (by omega)
      have hw1 : ((0 : Int) == (I.size : Int)) = false := by rw [beq_eq_false_iff_ne]; omega
      have hw2 : decide ((0 : Int) = (I.size : Int)) = false := decide_eq_false (by omega)
      go_enter Tryz.func7, Tryz.ntmps7
      go_wp2_with fail
      refine (hWk.out w hw.out).mono ?_
      rintro e w1 ⟨rfl, hb1⟩
      have hw1 := Lib.hid (hw.out.below hb1)
      replace hb1 := Lib.hid hb1
      go_wp2_with fail
      refine (hMa.out w1).mono ?_
      rintro e w2 ⟨rfl, hb2⟩
      have hw2 := Lib.hid (hw1.out.below hb2)
      have hb02 := Lib.hid (hb1.out.trans (hb2.mono hb1.out.size))
      clear hb1 hb2 hw1 hw
      go_wp2_with fail
      refine (hP1.out w2 hw2.out).mono ?_
      rintro e w3 ⟨hb3, v3, rfl, hv3⟩
      obtain ⟨a3, c3, rfl⟩ := vds_nil hv3
      have hw3 := Lib.hid (hw2.out.below hb3)
      have hb03 := Lib.hid (hb02.out.trans (hb3.mono hb02.out.size))
      clear hb3 hw2 hb02 hv3
      go_wp2_with fail
      refine (hP2.out w3 hw3.out).mono ?_
      rintro e w4 ⟨hb4, v4, rfl, hv4⟩
      obtain ⟨a4, c4, rfl⟩ := vds_nil hv4
      have hb04 := Lib.hid (hb03.out.trans (hb4.mono hb03.out.size))
      clear hb4 hb03 hv4 hw3 hP1 hP2 hMa hWk
      go_wp2_with fail
      go_ret
      exact ⟨rfl, hb04.out⟩
    · obtain ⟨hp0, hp1⟩ := hpos _ _ _ e1
      rw [e1] at hP1
      rw [e2] at hP2
      simp only at hP1 hP2 hp
      subst hp
      clear hpos hss e1 e2
      have hw0 : IntKind.i64.wrap (p + (I.size : Int)) = p + I.size := IntWalk.i64_in _ (by omega)
      go_enter Tryz.func7, Tryz.ntmps7
      go_wp2_with fail
      refine (hWk.out w hw.out).mono ?_
      rintro e w1 ⟨rfl, hb1⟩
      have hw1 := Lib.hid (hw.out.below hb1)
      replace hb1 := Lib.hid hb1
      go_wp2_with fail
      refine (hMa.out w1).mono ?_
      rintro e w2 ⟨rfl, hb2⟩
      have hw2 := Lib.hid (hw1.out.below hb2)
      have hb02 := Lib.hid (hb1.out.trans (hb2.mono hb1.out.size))
      clear hb1 hb2 hw1 hw
      go_wp2_with fail
      refine (hP1.out w2 hw2.out).mono ?_
      rintro e w3 ⟨hb3, v3, rfl, hv3⟩
      obtain ⟨a3, c3, rfl⟩ := vds_nil hv3
      have hw3 := Lib.hid (hw2.out.below hb3)
      have hb03 := Lib.hid (hb02.out.trans (hb3.mono hb02.out.size))
      clear hb3 hw2 hb02 hv3
      go_wp2_with fail
      refine (hP2.out w3 hw3.out).mono ?_
      rintro e w4 ⟨hb4, v4, rfl, hv4⟩
      obtain ⟨a4, c4, rfl⟩ := vds_nil hv4
      have hb04 := Lib.hid (hb03.out.trans (hb4.mono hb03.out.size))
      clear hb4 hb03 hv4 hw3 hP1 hP2 hMa hWk
      go_wp2_with fail
      go_ret
      exact ⟨rfl, hb04.out⟩
end Go.Proofs.YtfhmhplbkheojaaGreatDoor.Pa
