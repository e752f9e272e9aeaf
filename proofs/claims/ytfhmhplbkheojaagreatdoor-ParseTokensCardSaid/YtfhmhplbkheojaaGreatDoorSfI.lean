/- The walk of the statement ParseTokens' function. Conditions: the variables that the packages read hold what they were laid with. -/
import Derived.Test.YtfhmhplbkheojaaGreatDoorSfH
namespace Go.Proofs.YtfhmhplbkheojaaGreatDoor.Pa
open Go Go.RowKit
open Go.Proofs.YtfhmhplbkheojaaGreatDoor.Lx Go.Proofs.YtfhmhplbkheojaaGreatDoor.Tr

/-- a text's tokens as they lie in memory -/
theorem tok_at {W : World} {B : Nat} {v : Value} {ts : List Tok} (hown : W.ownsRow B 53 3 v ts.length (cellsOf ts)) :
    ∃ a cap, v = .slice a ts.length cap ∧ ∀ i t, ts[i]? = some t → ∃ g, a = some ⟨g, 0, none⟩ ∧ W.cell? ⟨g, i * 3 + 1, none⟩ = some (.string ⟨t.txt.toArray⟩) := by
  obtain ⟨hlen2, ⟨rfl, h0⟩ | ⟨g, cap, cur, rfl, hB, hg, h1, h2, h3, h4⟩⟩ := hown
  · refine ⟨none, 0, by rw [h0], fun i t ht => ?_⟩
    have : ts = [] := List.length_eq_zero_iff.1 h0
    rw [this] at ht; cases ht
  · refine ⟨_, cap, rfl, fun i t ht => ⟨g, rfl, ?_⟩⟩
    have hi : i < ts.length := (List.getElem?_eq_some_iff.1 ht).1
    have hj : (cellsOf ts)[i * 3 + 1]? = some (.string ⟨t.txt.toArray⟩) := by
      unfold cellsOf
      exact flat_at tokCells 3 (fun _ => rfl) ts i 1 t ht (by decide)
    rw [← h4, List.getElem?_take, if_pos (by omega)] at hj
    simp only [World.cell?, hg]
    simpa using hj
/-- declarations that are the same but for their places -/
def SD (d d' : De) : Prop := d'.kind = d.kind ∧ d'.name = d.name ∧ d'.n = d.n ∧ d'.params = d.params ∧ St.erL d.body = St.erL d'.body ∧ gSL d.body = true
theorem sd_of {l l' : List De} (h : XDL (fun _ => 0) (fun _ => 0) (l.map da) (l'.map da)) : l'.length = l.length ∧ ∀ (i : Nat) (d d' : De), l[i]? = some d → l'[i]? = some d' → SD d d' := by
  obtain ⟨h1, h2⟩ := h
  refine ⟨by simpa using congrArg List.length h1, fun i d d' hd hd' => ?_⟩
  have e := congrArg (fun x => x[i]?) h1
  simp only [List.getElem?_map, hd, hd', Option.map_some] at e
  have e2 := Option.some.inj e
  unfold dg da at e2
  simp only [De.mk.injEq, true_and] at e2
  obtain ⟨k1, k2, k3, k4, k5, _⟩ := e2
  have g := h2 (da d) (List.mem_map.2 ⟨d, List.mem_of_getElem? hd, rfl⟩)
  have g' : gSL (saL d.body) = true := g
  rw [gSL_a] at g'
  refine ⟨k1, k2, k3, k4, ?_, g'⟩
  rw [← stL_a d.body, ← stL_a d'.body, ← stL_g (fun _ => 0) (saL d.body), ← stL_g (fun _ => 0) (saL d'.body), k5]
theorem str_at {w : World} {S : Nat → Prop} {a : Option Addr} {cap : Nat} {l : List ByteArray} (h : RowAt w S a cap l.length (strCells l)) (i : Nat) (x : ByteArray) (hx : l[i]? = some x) : ∃ b off, a = some ⟨b, off, none⟩ ∧ w.cell? ⟨b, off + i, none⟩ = some (.string x) := by
  obtain ⟨b, off, ha, _, hc⟩ := h.at_ i (.string x) (by unfold strCells; rw [List.getElem?_map, hx]; rfl)
  exact ⟨b, off, ha, hc⟩

set_option linter.unusedSimpArgs false in
set_option maxHeartbeats 8000000 in
set_option maxRecDepth 100000 in
theorem tokens_law (s : ByteArray) (w : World) (hsz : s.size ≤ maxLen) (hw : All w) :
    Calls Tryz.prog 8 #[.string s] w fun x w' => x = .returned (.bool true) ∧ Below w.heap.size w w' := by
  have hWk := Lib.hid (fun V (hV : All V) => works_c V hV)
  have hsl : (s.size : Int) ≤ 9223372036854775807 := by unfold maxLen at hsz; omega
  by_cases hlong : 15000 < s.size
  · have hl1 : (15000 : Int) < (s.size : Int) := by omega
    have hl2 : decide ((s.size : Int) > 15000) = true := decide_eq_true hl1
    replace hw := Lib.hid hw
    clear hsz hlong
    go_enter Tryz.func8, Tryz.ntmps8
    go_wp2_with fail
    refine (hWk.out w hw.out).mono ?_
    rintro e w1 ⟨rfl, hb1⟩
    replace hb1 := Lib.hid hb1
    go_wp2_with fail
    refine (hWk.out w1 (hw.out.below hb1.out)).mono ?_
    rintro e w2 ⟨rfl, hb2⟩
    have hb02 := Lib.hid (hb1.out.trans (hb2.mono hb1.out.size))
    clear hb1 hb2
    go_wp2_with fail
    go_ret
    exact ⟨rfl, hb02.out⟩
  · have hl1 : ¬ (15000 : Int) < (s.size : Int) := by omega
    have hl2 : decide ((s.size : Int) > 15000) = false := decide_eq_false hl1
    have hs2 : s.size ≤ 15000 := by omega
    have hTk := Lib.hid (fun V (hV : All V) => tokens_any s V hsz hV.tb.sg)
    have hP1 := Lib.hid (fun V (hV : All V) => parse_c s V hsz hV.tb hV.ht)
    obtain ⟨ts, q, en, hres⟩ : ∃ ts q en, res s.data.toList = (ts, q, en) := ⟨_, _, _, rfl⟩
    rw [hres] at hTk
    simp only at hTk
    replace hw := Lib.hid hw
    by_cases hen : en = 0
    · subst hen
      obtain ⟨hq, _, htl, htz⟩ := Pa.res_ok hres
      subst hq
      have hag : (again ts).length ≤ 30000 := by
        have := lx_again _ _ _ _ (res_lexs hres)
        have : s.size = s.data.toList.length := Lib.size_eq s
        omega
      have htsl : ts.length ≤ 15000 := by have : s.size = s.data.toList.length := Lib.size_eq s; omega
      have hPL := Lib.hid (fun (G : ByteArray) (hG : G.data.toList = again ts) (hGz : G.size ≤ 65536) => parseP_again (s := s) (s' := G) hres hG hGz)
      have htxt := Lib.hid (fun (k : Nat) (t : Tok) (ht : ts[k]? = some t) => (⟨again_step ts k t ht, by have := (htz t (List.mem_of_getElem? ht)).1; have : s.size = s.data.toList.length := Lib.size_eq s; show t.txt.length ≤ 15000; omega⟩ : again (ts.take (k + 1)) = again (ts.take k) ++ (t.txt ++ [32]) ∧ t.txt.length ≤ 15000))
      have hGsz := Lib.hid (fun (k : Nat) => Nat.le_trans (again_take ts k) hag)
      have hss := Lib.hid (fun ds p e (h : parseP s = (ds, p, e)) => parseP_sz h)
      clear htz htl hres hag hlong hsz
      go_enter Tryz.func8, Tryz.ntmps8
      go_wp2_with fail
      refine (hWk.out w hw.out).mono ?_
      rintro e w1 ⟨rfl, hb1⟩
      have hw1 := Lib.hid (hw.out.below hb1)
      replace hb1 := Lib.hid hb1
      clear hWk
      go_wp2_with fail
      refine (hTk.out w1 hw1.out).mono ?_
      rintro e w2 ⟨vt, rfl, hown, hb2, _⟩
      obtain ⟨ta, tcap, rfl, htok⟩ := tok_at hown
      replace htok := Lib.hid htok
      have hw2 := Lib.hid (hw1.out.below hb2)
      have hb02 := Lib.hid (hb1.out.trans (hb2.mono hb1.out.size))
      clear hb1 hb2 hw1 hw hTk hown
      go_wp2_with fail
      go_loopw [6, 7] (fun x i wr => ∃ (k : Nat) (G : ByteArray), k ≤ ts.length ∧ x = .string G ∧ i = .int .i64 k ∧ Hid (G.data.toList = again (ts.take k)) ∧ wr = w2) (fun _ i _ => ts.length - (intOf i).toNat)
      case atStart => exact ⟨0, ⟨#[]⟩, Nat.zero_le _, rfl, rfl, Lib.hid rfl, rfl⟩
      case round =>
        obtain ⟨k, G, hk, rfl, rfl, hG, rfl⟩ := hrel
        have hGl : G.size ≤ 30000 := by rw [Lib.size_eq, hG.out]; exact hGsz.out k
        by_cases hlt : k < ts.length
        · obtain ⟨t, ht⟩ : ∃ t, ts[k]? = some t := ⟨ts[k], by simp [hlt]⟩
          obtain ⟨g, rfl, hc⟩ := htok.out k t ht
          obtain ⟨hst, htx⟩ := htxt.out k t ht
          obtain ⟨T, hT⟩ : ∃ x : ByteArray, ⟨t.txt.toArray⟩ = x := ⟨_, rfl⟩
          have hTd : T.data.toList = t.txt := by rw [← hT]
          have hTz : T.size ≤ 15000 := by rw [Lib.size_eq, hTd]; exact htx
          rw [hT] at hc
          have hN : Hid ((G ++ T ++ ⟨#[32]⟩ : ByteArray).data.toList = again (ts.take (k + 1))) := Lib.hid (by
            rw [app_any, app_any, hG.out, hTd, hst, List.append_assoc])
          have ha1 : ∀ W : World, (Op.stringOp .add G T).run Tryz.prog W = .ok (.string (G ++ T)) W := fun W => run_string_add W _ _ (by omega) (by omega)
          have ha2 : ∀ W : World, (Op.stringOp .add (G ++ T) ⟨#[32]⟩).run Tryz.prog W = .ok (.string (G ++ T ++ ⟨#[32]⟩)) W := fun W => run_string_add W _ _ (by rw [app_sz]; omega) (by show ((1 : Nat) : Int) ≤ 8388608; decide)
          have hlt1 : (k : Int) < (ts.length : Int) := by omega
          have hk0 : (0 : Int) ≤ (k : Int) := by omega
          clear hT hTd hst htx hG htok htxt hGsz ht hss hPL
          go_wp2_with fail
          go_roundw
          case rel => exact ⟨k + 1, _, by omega, rfl, by go_num, hN, trivial⟩
          case measure => simp [intOf]; omega
        · have hke : k = ts.length := by omega
          subst hke
          have hGa : G.data.toList = again ts := by rw [hG.out, List.take_length]
          have hlt1 : ¬ (ts.length : Int) < (ts.length : Int) := by omega
          have hP2 := Lib.hid (fun V (hV : All V) => parse_c G V (by unfold maxLen; omega) hV.tb hV.ht)
          have hk := hPL.out G hGa (by omega)
          clear hPL htok htxt hGsz hG hGa
          rcases hk with ⟨ds, ds', e1, e2, hx⟩ | ⟨e1, e2⟩ | ⟨p, p', e1, e2, _⟩
          · have hds := hss.out _ _ _ e1
            rw [e1] at hP1
            rw [e2] at hP2
            simp only at hP1 hP2
            clear hss
            go_wp2_with fail
            refine (hP1.out _ hw2.out).mono ?_
            rintro e w3 ⟨hb3, v3, rfl, l, a, cap, rfl, h1, h2, rfl⟩
            have hw3 := Lib.hid (hw2.out.below hb3)
            have hb03 := Lib.hid (hb02.out.trans (hb3.mono hb02.out.size))
            have hrow3 := Lib.hid (h1.mono (S' := fun _ => True) (fun _ _ => trivial))
            have hin3 := Lib.hid (h2.mono (S' := fun _ => True) (fun _ _ => trivial))
            clear hb3 hw2 hb02 h1 h2
            go_wp2_with fail
            refine (hP2.out w3 hw3.out).mono ?_
            rintro e w4 ⟨hb4, v4, rfl, l', a', cap', rfl, h1, h2, rfl⟩
            have hb04 := Lib.hid (hb03.out.trans (hb4.mono hb03.out.size))
            have hrow := Lib.hid (hrow3.out.below (Kps.of_below hb4))
            have hin := Lib.hid (hin3.out.below (Kps.of_below hb4))
            have hrow' := Lib.hid (h1.mono (S' := fun _ => True) (fun _ _ => trivial))
            have hin' := Lib.hid (h2.mono (S' := fun _ => True) (fun _ _ => trivial))
            clear hb4 hb03 h1 h2 hrow3 hin3 hw3
            obtain ⟨hlen, hfd⟩ := sd_of hx
            rw [sz_da] at hds
            rw [hlen] at hrow' ⊢
            replace hfd := Lib.hid hfd
            have hll : l.length ≤ 9223372036854775807 := by have := hrow.out.le; have := hrow.out.lim; unfold maxLen at this; omega
            clear hx e1 e2 hP1 hP2
            go_wp2_with fail
            go_loopw [13] (fun i wr => ∃ k : Nat, k ≤ l.length ∧ i = .int .i64 k ∧ Below w4.heap.size w4 wr) (fun i _ => l.length - (intOf i).toNat)
            case atStart => exact ⟨0, Nat.zero_le _, rfl, Below.refl _ _⟩
            case round =>
              obtain ⟨k, hk, rfl, hbr⟩ := hrel
              by_cases hlt : k < l.length
              · have hlt' : k < l'.length := by rw [hlen]; exact hlt
                obtain ⟨e, he⟩ : ∃ e, l[k]? = some e := ⟨l[k], by simp [hlt]⟩
                obtain ⟨e', he'⟩ : ∃ e, l'[k]? = some e := ⟨l'[k], by simp [hlt']⟩
                obtain ⟨b, off, rfl, _, hcell⟩ := de_row hrow.out k e he
                obtain ⟨b', off', rfl, _, hcell'⟩ := de_row (by rw [hlen]; exact hrow'.out : RowAt w4 (fun _ => True) a' cap' l'.length (deCells l')) k e' he'
                have hf := hfd.out k e e' he he'
                have hi1 := hin.out e (List.mem_of_getElem? he)
                have hi2 := hin'.out e' (List.mem_of_getElem? he')
                have hzb := De.sz_get he
                obtain ⟨xk, xnm, xn, xpa, xpc, xps, xba, xbc, xbody, xpos⟩ := e
                obtain ⟨yk, ynm, yn, ypa, ypc, yps, yba, ybc, ybody, ypos⟩ := e'
                obtain ⟨k1, k2, k3, k4, k5, k7⟩ := hf
                simp only at k1 k2 k3 k4 k5 k7 hzb
                subst k1 k2 k3 k4
                obtain ⟨_, _, _, _, rp1, _, rb1, ib1⟩ := hi1
                obtain ⟨_, _, _, _, rp2, _, rb2, ib2⟩ := hi2
                simp only at rp1 rb1 ib1 rp2 rb2 ib2
                have elB : ybody.length = xbody.length := by rw [← St.erL_len ybody, ← k5, St.erL_len]
                have hpl : yps.length ≤ 9223372036854775807 := by have := rp1.le; have := rp1.lim; unfold maxLen at this; omega
                have cB := Lib.hid (fun V (h : Below w4.heap.size w4 V) => alike_any _ xbody ybody xba yba xbc ybc V (Nat.le_refl _) (rb1.below (Kps.of_below h)) (rb2.below (Kps.of_below h)) (St.InL.below (Kps.of_below h) _ ib1) (St.InL.below (Kps.of_below h) _ ib2) k5 k7 (by omega))
                rw [elB] at cB
                have hS1 := Lib.hid (fun (j : Nat) (x : ByteArray) (hx : yps[j]? = some x) => str_at rp1 j x hx)
                have hS2 := Lib.hid (fun (j : Nat) (x : ByteArray) (hx : yps[j]? = some x) => str_at rp2 j x hx)
                simp only [← Nat.add_assoc] at hcell hcell'
                have c0 := below_in hbr (hcell 0 _ rfl)
                have c1 := below_in hbr (hcell 1 _ rfl)
                have c2 := below_in hbr (hcell 2 _ rfl)
                have c3 := below_in hbr (hcell 3 _ rfl)
                have c4 := below_in hbr (hcell 4 _ rfl)
                have c5 := below_in hbr (hcell 5 _ rfl)
                have d0 := below_in hbr (hcell' 0 _ rfl)
                have d1 := below_in hbr (hcell' 1 _ rfl)
                have d2 := below_in hbr (hcell' 2 _ rfl)
                have d3 := below_in hbr (hcell' 3 _ rfl)
                have d4 := below_in hbr (hcell' 4 _ rfl)
                have d5 := below_in hbr (hcell' 5 _ rfl)
                rw [Nat.add_zero] at c0 d0
                simp only at c0 c1 c2 c3 c4 c5 d0 d1 d2 d3 d4 d5
                rw [elB] at d4
                have hlt1 : (k : Int) < (l.length : Int) := by omega
                have hk0 : (0 : Int) ≤ (k : Int) := by omega
                replace hbr := Lib.hid hbr
                clear hcell hcell' rp1 rp2 rb1 rb2 ib1 ib2 k5 k7 hzb he he' hrow hrow' hin hin' hfd elB
                go_upto_region 18 with fail
                refine pair_cut (G := (fun k6 k7 a => ((((((((((a.put (some 75) (.slice (some ⟨b, off, none⟩) l.length cap)).put (some 76) (.int .i64 k)).put (some 77) (.pointer (some ⟨b, off + k * 6, none⟩))).put (some 78) (.agg #[.int .u8 yk, .string ynm, .int .i64 yn, .slice xpa yps.length xpc, .slice xba xbody.length xbc, .int .i64 xpos])).put (some 79) (.slice (some ⟨b', off', none⟩) l.length cap')).put (some 80) (.int .i64 k)).put (some 81) (.pointer (some ⟨b', off' + k * 6, none⟩))).put (some 82) (.agg #[.int .u8 yk, .string ynm, .int .i64 yn, .slice ypa yps.length ypc, .slice yba xbody.length ybc, .int .i64 ypos])).put (some 14) (.pointer (some ⟨k6, 0, none⟩))).put (some 15) (.pointer (some ⟨k7, 0, none⟩))))) (F := fun k6 k7 V => Below wr.heap.size wr V ∧ k6 ≠ k7 ∧ V.heap[k6]? = some (.cells #[.int .u8 yk, .string ynm, .int .i64 yn, .slice xpa yps.length xpc, .slice xba xbody.length xbc, .int .i64 xpos] 35 (0, 0)) ∧ V.heap[k7]? = some (.cells #[.int .u8 yk, .string ynm, .int .i64 yn, .slice ypa yps.length ypc, .slice yba xbody.length ybc, .int .i64 ypos] 35 (0, 0))) ?reg ?rest
                case reg =>
                  have hSb : Hid (∀ V, Below wr.heap.size wr V → (fun V : World => V.cell? ⟨b, off + k * 6, none⟩ = some (.int .u8 yk) ∧ V.cell? ⟨b, off + k * 6 + 1, none⟩ = some (.string ynm) ∧ V.cell? ⟨b, off + k * 6 + 2, none⟩ = some (.int .i64 yn) ∧ V.cell? ⟨b, off + k * 6 + 3, none⟩ = some (.slice xpa yps.length xpc) ∧ V.cell? ⟨b, off + k * 6 + 4, none⟩ = some (.slice xba xbody.length xbc) ∧ V.cell? ⟨b, off + k * 6 + 5, none⟩ = some (.int .i64 xpos) ∧ V.cell? ⟨b', off' + k * 6, none⟩ = some (.int .u8 yk) ∧ V.cell? ⟨b', off' + k * 6 + 1, none⟩ = some (.string ynm) ∧ V.cell? ⟨b', off' + k * 6 + 2, none⟩ = some (.int .i64 yn) ∧ V.cell? ⟨b', off' + k * 6 + 3, none⟩ = some (.slice ypa yps.length ypc) ∧ V.cell? ⟨b', off' + k * 6 + 4, none⟩ = some (.slice yba xbody.length ybc) ∧ V.cell? ⟨b', off' + k * 6 + 5, none⟩ = some (.int .i64 ypos)) V) := Lib.hid fun V hV => ⟨below_in hV c0, below_in hV c1, below_in hV c2, below_in hV c3, below_in hV c4, below_in hV c5, below_in hV d0, below_in hV d1, below_in hV d2, below_in hV d3, below_in hV d4, below_in hV d5⟩
                  have hSS := hSb.out wr.drew (Below.refl _ _).drew
                  refine wp_region_noPanic ?_
                  refine wp_region_held_drew (S := (fun V : World => V.cell? ⟨b, off + k * 6, none⟩ = some (.int .u8 yk) ∧ V.cell? ⟨b, off + k * 6 + 1, none⟩ = some (.string ynm) ∧ V.cell? ⟨b, off + k * 6 + 2, none⟩ = some (.int .i64 yn) ∧ V.cell? ⟨b, off + k * 6 + 3, none⟩ = some (.slice xpa yps.length xpc) ∧ V.cell? ⟨b, off + k * 6 + 4, none⟩ = some (.slice xba xbody.length xbc) ∧ V.cell? ⟨b, off + k * 6 + 5, none⟩ = some (.int .i64 xpos) ∧ V.cell? ⟨b', off' + k * 6, none⟩ = some (.int .u8 yk) ∧ V.cell? ⟨b', off' + k * 6 + 1, none⟩ = some (.string ynm) ∧ V.cell? ⟨b', off' + k * 6 + 2, none⟩ = some (.int .i64 yn) ∧ V.cell? ⟨b', off' + k * 6 + 3, none⟩ = some (.slice ypa yps.length ypc) ∧ V.cell? ⟨b', off' + k * 6 + 4, none⟩ = some (.slice yba xbody.length ybc) ∧ V.cell? ⟨b', off' + k * 6 + 5, none⟩ = some (.int .i64 ypos))) (by kernel_rfl) hSS (fun hHeld => ?_)
                  refine' wpAnyH_take (i := 0) (oi := _) (v := _) rfl (by kernel_rfl) (by kernel_rfl) (by kernel_rfl) (fun _ _ _ h => h) (Or.inl ⟨by rfl, ?hyp0⟩) (by assumption) ?restp0
                  case hyp0 => (intro w hSw; obtain ⟨s0, s1, s2, s3, s4, s5, t0, t1, t2, t3, t4, t5⟩ := hSw; go_simp; all_goals (with_reducible rfl))
                  try simp only [Act.put, List.getElem_toArray, List.getElem_cons_zero, List.getElem_cons_succ, List.setIfInBounds_toArray, List.set_cons_zero, List.set_cons_succ]
                  refine' wpAnyH_take (i := 1) (oi := _) (v := _) rfl (by kernel_rfl) (by kernel_rfl) (by kernel_rfl) (fun _ _ _ h => h) (Or.inl ⟨by rfl, ?hyp1⟩) (by assumption) ?restp1
                  case hyp1 => (intro w hSw; obtain ⟨s0, s1, s2, s3, s4, s5, t0, t1, t2, t3, t4, t5⟩ := hSw; go_simp; all_goals (with_reducible rfl))
                  try simp only [Act.put, List.getElem_toArray, List.getElem_cons_zero, List.getElem_cons_succ, List.setIfInBounds_toArray, List.set_cons_zero, List.set_cons_succ]
                  refine' wpAnyH_take (i := 2) (oi := _) (v := _) rfl (by kernel_rfl) (by kernel_rfl) (by kernel_rfl) (fun _ _ _ h => h) (Or.inl ⟨by rfl, ?hyp2⟩) (by assumption) ?restp2
                  case hyp2 => (intro w hSw; obtain ⟨s0, s1, s2, s3, s4, s5, t0, t1, t2, t3, t4, t5⟩ := hSw; go_simp; all_goals (with_reducible rfl))
                  try simp only [Act.put, List.getElem_toArray, List.getElem_cons_zero, List.getElem_cons_succ, List.setIfInBounds_toArray, List.set_cons_zero, List.set_cons_succ]
                  refine' wpAnyH_take (i := 3) (oi := _) (v := _) rfl (by kernel_rfl) (by kernel_rfl) (by kernel_rfl) (fun _ _ _ h => h) (Or.inl ⟨by rfl, ?hyp3⟩) (by assumption) ?restp3
                  case hyp3 => (intro w hSw; obtain ⟨s0, s1, s2, s3, s4, s5, t0, t1, t2, t3, t4, t5⟩ := hSw; go_simp; all_goals (with_reducible rfl))
                  try simp only [Act.put, List.getElem_toArray, List.getElem_cons_zero, List.getElem_cons_succ, List.setIfInBounds_toArray, List.set_cons_zero, List.set_cons_succ]
                  refine' wpAnyH_take (i := 4) (oi := _) (v := _) rfl (by kernel_rfl) (by kernel_rfl) (by kernel_rfl) (fun _ _ _ h => h) (Or.inl ⟨by rfl, ?hyp4⟩) (by assumption) ?restp4
                  case hyp4 => (intro w hSw; obtain ⟨s0, s1, s2, s3, s4, s5, t0, t1, t2, t3, t4, t5⟩ := hSw; go_simp; all_goals (with_reducible rfl))
                  try simp only [Act.put, List.getElem_toArray, List.getElem_cons_zero, List.getElem_cons_succ, List.setIfInBounds_toArray, List.set_cons_zero, List.set_cons_succ]
                  refine' wpAnyH_take (i := 5) (oi := _) (v := _) rfl (by kernel_rfl) (by kernel_rfl) (by kernel_rfl) (fun _ _ _ h => h) (Or.inl ⟨by rfl, ?hyp5⟩) (by assumption) ?restp5
                  case hyp5 => (intro w hSw; obtain ⟨s0, s1, s2, s3, s4, s5, t0, t1, t2, t3, t4, t5⟩ := hSw; go_simp; all_goals (with_reducible rfl))
                  try simp only [Act.put, List.getElem_toArray, List.getElem_cons_zero, List.getElem_cons_succ, List.setIfInBounds_toArray, List.set_cons_zero, List.set_cons_succ]
                  refine' wpAnyH_take (i := 6) (oi := _) (v := _) rfl (by kernel_rfl) (by kernel_rfl) (by kernel_rfl) (fun _ _ _ h => h) (Or.inl ⟨by rfl, ?hyp6⟩) (by assumption) ?restp6
                  case hyp6 => (intro w hSw; obtain ⟨s0, s1, s2, s3, s4, s5, t0, t1, t2, t3, t4, t5⟩ := hSw; go_simp; all_goals (with_reducible rfl))
                  try simp only [Act.put, List.getElem_toArray, List.getElem_cons_zero, List.getElem_cons_succ, List.setIfInBounds_toArray, List.set_cons_zero, List.set_cons_succ]
                  refine' wpAnyH_take (i := 7) (oi := _) (v := _) rfl (by kernel_rfl) (by kernel_rfl) (by kernel_rfl) (fun _ _ _ h => h) (Or.inl ⟨by rfl, ?hyp7⟩) (by assumption) ?restp7
                  case hyp7 => (intro w hSw; obtain ⟨s0, s1, s2, s3, s4, s5, t0, t1, t2, t3, t4, t5⟩ := hSw; go_simp; all_goals (with_reducible rfl))
                  try simp only [Act.put, List.getElem_toArray, List.getElem_cons_zero, List.getElem_cons_succ, List.setIfInBounds_toArray, List.set_cons_zero, List.set_cons_succ]
                  clear hSS
                  refine wpAnyH_ready (rs := [8, 9]) (by kernel_rfl) (by simp) ?_
                  refine AllReadyH.cons (o := _) rfl (fun K hK => ?_) (AllReadyH.cons (o := _) rfl (fun K hK => ?_) AllReadyH.nil)
                  · go_simp
                    obtain ⟨V1, hV1⟩ : ∃ W, (wr.alloc (.cells #[.int .u8 0, .string ⟨#[]⟩, .int .i64 0, .slice none 0 0, .slice none 0 0, .int .i64 0] 35)).drew = W := ⟨_, rfl⟩
                    have b1 : Below wr.heap.size wr V1 := by rw [← hV1]; exact ((Below.refl _ _).alloc (Nat.le_refl _) _).drew
                    have l1 : wr.heap.size ≤ wr.heap.size := Nat.le_refl _
                    have x1 : V1.heap[wr.heap.size]? = some (.cells #[.int .u8 0, .string ⟨#[]⟩, .int .i64 0, .slice none 0 0, .slice none 0 0, .int .i64 0] 35 (0, 0)) := by rw [← hV1]; exact World.alloc_heap_new wr _
                    rw [hV1]
                    clear hV1
                    refine hK.out _ _ (hSb.out _ b1) (fun hHeld => ?_)
                    clear hK K
                    try simp only [Act.put, List.getElem_toArray, List.getElem_cons_zero, List.getElem_cons_succ, List.setIfInBounds_toArray, List.set_cons_zero, List.set_cons_succ]
                    refine wpAnyH_ready (rs := [9]) (by kernel_rfl) (by simp) ?_
                    refine AllReadyH.cons (o := _) rfl (fun K hK => ?_) AllReadyH.nil
                    go_simp
                    obtain ⟨V2, hV2⟩ : ∃ W, V1.alloc (.cells #[.int .u8 0, .string ⟨#[]⟩, .int .i64 0, .slice none 0 0, .slice none 0 0, .int .i64 0] 35) = W := ⟨_, rfl⟩
                    have b2 : Below wr.heap.size wr V2 := by rw [← hV2]; exact b1.alloc b1.size _
                    have l2 : wr.heap.size ≤ V1.heap.size := b1.size
                    have x2 : V2.heap[V1.heap.size]? = some (.cells #[.int .u8 0, .string ⟨#[]⟩, .int .i64 0, .slice none 0 0, .slice none 0 0, .int .i64 0] 35 (0, 0)) := by rw [← hV2]; exact World.alloc_heap_new V1 _
                    have y2 : V2.heap[wr.heap.size]? = some (.cells #[.int .u8 0, .string ⟨#[]⟩, .int .i64 0, .slice none 0 0, .slice none 0 0, .int .i64 0] 35 (0, 0)) := by rw [← hV2]; exact (heap_alloc_old V1 _ (cells_lt x1)).trans x1
                    have hne : wr.heap.size ≠ V1.heap.size := Nat.ne_of_lt (cells_lt x1)
                    rw [hV2]
                    clear hV2
                    refine hK.out _ _ (hSb.out _ b2) (fun hHeld => ?_)
                    clear hK K
                    try simp only [Act.put, List.getElem_toArray, List.getElem_cons_zero, List.getElem_cons_succ, List.setIfInBounds_toArray, List.set_cons_zero, List.set_cons_succ]
                    refine wpAnyH_ready (rs := [10]) (by kernel_rfl) (by simp) ?_
                    refine AllReadyH.cons (o := _) rfl (fun K hK => ?_) AllReadyH.nil
                    have z3_0 := blk_cell y2 (j := 0) rfl
                    have f3_0 := blk_free y2 0
                    have z3_1 := blk_cell y2 (j := 1) rfl
                    have f3_1 := blk_free y2 1
                    have z3_2 := blk_cell y2 (j := 2) rfl
                    have f3_2 := blk_free y2 2
                    have z3_3 := blk_cell y2 (j := 3) rfl
                    have f3_3 := blk_free y2 3
                    have z3_4 := blk_cell y2 (j := 4) rfl
                    have f3_4 := blk_free y2 4
                    have z3_5 := blk_cell y2 (j := 5) rfl
                    have f3_5 := blk_free y2 5
                    go_simp
                    obtain ⟨V3, hV3⟩ : ∃ W, ((((((V2.setCell ⟨wr.heap.size, 0, none⟩ (.int .u8 yk)).setCell ⟨wr.heap.size, 1, none⟩ (.string ynm)).setCell ⟨wr.heap.size, 2, none⟩ (.int .i64 yn)).setCell ⟨wr.heap.size, 3, none⟩ (.slice xpa yps.length xpc)).setCell ⟨wr.heap.size, 4, none⟩ (.slice xba xbody.length xbc)).setCell ⟨wr.heap.size, 5, none⟩ (.int .i64 xpos)) = W := ⟨_, rfl⟩
                    have b3 : Below wr.heap.size wr V3 := by rw [← hV3]; exact ((((((b2.setCell (p := ⟨wr.heap.size, _, none⟩) l1 _).setCell (p := ⟨wr.heap.size, _, none⟩) l1 _).setCell (p := ⟨wr.heap.size, _, none⟩) l1 _).setCell (p := ⟨wr.heap.size, _, none⟩) l1 _).setCell (p := ⟨wr.heap.size, _, none⟩) l1 _).setCell (p := ⟨wr.heap.size, _, none⟩) l1 _)
                    have x3 : V3.heap[wr.heap.size]? = some (.cells #[.int .u8 yk, .string ynm, .int .i64 yn, .slice xpa yps.length xpc, .slice xba xbody.length xbc, .int .i64 xpos] 35 (0, 0)) := by rw [← hV3]; simpa using (heap_set (heap_set (heap_set (heap_set (heap_set (heap_set y2 0 (.int .u8 yk)) 1 (.string ynm)) 2 (.int .i64 yn)) 3 (.slice xpa yps.length xpc)) 4 (.slice xba xbody.length xbc)) 5 (.int .i64 xpos))
                    have y3 : V3.heap[V1.heap.size]? = some (.cells #[.int .u8 0, .string ⟨#[]⟩, .int .i64 0, .slice none 0 0, .slice none 0 0, .int .i64 0] 35 (0, 0)) := by rw [← hV3]; rw [Below.heap_setCell _ _ _ _ (Ne.symm hne), Below.heap_setCell _ _ _ _ (Ne.symm hne), Below.heap_setCell _ _ _ _ (Ne.symm hne), Below.heap_setCell _ _ _ _ (Ne.symm hne), Below.heap_setCell _ _ _ _ (Ne.symm hne), Below.heap_setCell _ _ _ _ (Ne.symm hne)]; exact x2
                    clear z3_0 f3_0 z3_1 f3_1 z3_2 f3_2 z3_3 f3_3 z3_4 f3_4 z3_5 f3_5
                    rw [hV3]
                    clear hV3
                    refine hK.out _ _ (hSb.out _ b3) (fun hHeld => ?_)
                    clear hK K
                    try simp only [Act.put, List.getElem_toArray, List.getElem_cons_zero, List.getElem_cons_succ, List.setIfInBounds_toArray, List.set_cons_zero, List.set_cons_succ]
                    refine wpAnyH_ready (rs := [11]) (by kernel_rfl) (by simp) ?_
                    refine AllReadyH.cons (o := _) rfl (fun K hK => ?_) AllReadyH.nil
                    have z4_0 := blk_cell y3 (j := 0) rfl
                    have f4_0 := blk_free y3 0
                    have z4_1 := blk_cell y3 (j := 1) rfl
                    have f4_1 := blk_free y3 1
                    have z4_2 := blk_cell y3 (j := 2) rfl
                    have f4_2 := blk_free y3 2
                    have z4_3 := blk_cell y3 (j := 3) rfl
                    have f4_3 := blk_free y3 3
                    have z4_4 := blk_cell y3 (j := 4) rfl
                    have f4_4 := blk_free y3 4
                    have z4_5 := blk_cell y3 (j := 5) rfl
                    have f4_5 := blk_free y3 5
                    go_simp
                    obtain ⟨V4, hV4⟩ : ∃ W, ((((((V3.setCell ⟨V1.heap.size, 0, none⟩ (.int .u8 yk)).setCell ⟨V1.heap.size, 1, none⟩ (.string ynm)).setCell ⟨V1.heap.size, 2, none⟩ (.int .i64 yn)).setCell ⟨V1.heap.size, 3, none⟩ (.slice ypa yps.length ypc)).setCell ⟨V1.heap.size, 4, none⟩ (.slice yba xbody.length ybc)).setCell ⟨V1.heap.size, 5, none⟩ (.int .i64 ypos)) = W := ⟨_, rfl⟩
                    have b4 : Below wr.heap.size wr V4 := by rw [← hV4]; exact ((((((b3.setCell (p := ⟨V1.heap.size, _, none⟩) l2 _).setCell (p := ⟨V1.heap.size, _, none⟩) l2 _).setCell (p := ⟨V1.heap.size, _, none⟩) l2 _).setCell (p := ⟨V1.heap.size, _, none⟩) l2 _).setCell (p := ⟨V1.heap.size, _, none⟩) l2 _).setCell (p := ⟨V1.heap.size, _, none⟩) l2 _)
                    have x4 : V4.heap[V1.heap.size]? = some (.cells #[.int .u8 yk, .string ynm, .int .i64 yn, .slice ypa yps.length ypc, .slice yba xbody.length ybc, .int .i64 ypos] 35 (0, 0)) := by rw [← hV4]; simpa using (heap_set (heap_set (heap_set (heap_set (heap_set (heap_set y3 0 (.int .u8 yk)) 1 (.string ynm)) 2 (.int .i64 yn)) 3 (.slice ypa yps.length ypc)) 4 (.slice yba xbody.length ybc)) 5 (.int .i64 ypos))
                    have y4 : V4.heap[wr.heap.size]? = some (.cells #[.int .u8 yk, .string ynm, .int .i64 yn, .slice xpa yps.length xpc, .slice xba xbody.length xbc, .int .i64 xpos] 35 (0, 0)) := by rw [← hV4]; rw [Below.heap_setCell _ _ _ _ hne, Below.heap_setCell _ _ _ _ hne, Below.heap_setCell _ _ _ _ hne, Below.heap_setCell _ _ _ _ hne, Below.heap_setCell _ _ _ _ hne, Below.heap_setCell _ _ _ _ hne]; exact x3
                    clear z4_0 f4_0 z4_1 f4_1 z4_2 f4_2 z4_3 f4_3 z4_4 f4_4 z4_5 f4_5
                    rw [hV4]
                    clear hV4
                    refine hK.out _ _ (hSb.out _ b4) (fun hHeld => ?_)
                    clear hK K
                    try simp only [Act.put, List.getElem_toArray, List.getElem_cons_zero, List.getElem_cons_succ, List.setIfInBounds_toArray, List.set_cons_zero, List.set_cons_succ]
                    refine wpAnyH_done (by kernel_rfl) ?_ _
                    refine NoPanic.normal ?_
                    exact ⟨rfl, wr.heap.size, V1.heap.size, ⟨b4, by exact hne, y4, x4⟩, by simp only [Act.put, List.getElem_toArray, List.getElem_cons_zero, List.getElem_cons_succ, List.setIfInBounds_toArray, List.set_cons_zero, List.set_cons_succ]⟩
                  · go_simp
                    obtain ⟨V5, hV5⟩ : ∃ W, (wr.alloc (.cells #[.int .u8 0, .string ⟨#[]⟩, .int .i64 0, .slice none 0 0, .slice none 0 0, .int .i64 0] 35)).drew = W := ⟨_, rfl⟩
                    have b5 : Below wr.heap.size wr V5 := by rw [← hV5]; exact ((Below.refl _ _).alloc (Nat.le_refl _) _).drew
                    have l5 : wr.heap.size ≤ wr.heap.size := Nat.le_refl _
                    have x5 : V5.heap[wr.heap.size]? = some (.cells #[.int .u8 0, .string ⟨#[]⟩, .int .i64 0, .slice none 0 0, .slice none 0 0, .int .i64 0] 35 (0, 0)) := by rw [← hV5]; exact World.alloc_heap_new wr _
                    rw [hV5]
                    clear hV5
                    refine hK.out _ _ (hSb.out _ b5) (fun hHeld => ?_)
                    clear hK K
                    try simp only [Act.put, List.getElem_toArray, List.getElem_cons_zero, List.getElem_cons_succ, List.setIfInBounds_toArray, List.set_cons_zero, List.set_cons_succ]
                    refine wpAnyH_ready (rs := [8]) (by kernel_rfl) (by simp) ?_
                    refine AllReadyH.cons (o := _) rfl (fun K hK => ?_) AllReadyH.nil
                    go_simp
                    obtain ⟨V6, hV6⟩ : ∃ W, V5.alloc (.cells #[.int .u8 0, .string ⟨#[]⟩, .int .i64 0, .slice none 0 0, .slice none 0 0, .int .i64 0] 35) = W := ⟨_, rfl⟩
                    have b6 : Below wr.heap.size wr V6 := by rw [← hV6]; exact b5.alloc b5.size _
                    have l6 : wr.heap.size ≤ V5.heap.size := b5.size
                    have x6 : V6.heap[V5.heap.size]? = some (.cells #[.int .u8 0, .string ⟨#[]⟩, .int .i64 0, .slice none 0 0, .slice none 0 0, .int .i64 0] 35 (0, 0)) := by rw [← hV6]; exact World.alloc_heap_new V5 _
                    have y6 : V6.heap[wr.heap.size]? = some (.cells #[.int .u8 0, .string ⟨#[]⟩, .int .i64 0, .slice none 0 0, .slice none 0 0, .int .i64 0] 35 (0, 0)) := by rw [← hV6]; exact (heap_alloc_old V5 _ (cells_lt x5)).trans x5
                    have hne : wr.heap.size ≠ V5.heap.size := Nat.ne_of_lt (cells_lt x5)
                    rw [hV6]
                    clear hV6
                    refine hK.out _ _ (hSb.out _ b6) (fun hHeld => ?_)
                    clear hK K
                    try simp only [Act.put, List.getElem_toArray, List.getElem_cons_zero, List.getElem_cons_succ, List.setIfInBounds_toArray, List.set_cons_zero, List.set_cons_succ]
                    refine wpAnyH_ready (rs := [10]) (by kernel_rfl) (by simp) ?_
                    refine AllReadyH.cons (o := _) rfl (fun K hK => ?_) AllReadyH.nil
                    have z7_0 := blk_cell x6 (j := 0) rfl
                    have f7_0 := blk_free x6 0
                    have z7_1 := blk_cell x6 (j := 1) rfl
                    have f7_1 := blk_free x6 1
                    have z7_2 := blk_cell x6 (j := 2) rfl
                    have f7_2 := blk_free x6 2
                    have z7_3 := blk_cell x6 (j := 3) rfl
                    have f7_3 := blk_free x6 3
                    have z7_4 := blk_cell x6 (j := 4) rfl
                    have f7_4 := blk_free x6 4
                    have z7_5 := blk_cell x6 (j := 5) rfl
                    have f7_5 := blk_free x6 5
                    go_simp
                    obtain ⟨V7, hV7⟩ : ∃ W, ((((((V6.setCell ⟨V5.heap.size, 0, none⟩ (.int .u8 yk)).setCell ⟨V5.heap.size, 1, none⟩ (.string ynm)).setCell ⟨V5.heap.size, 2, none⟩ (.int .i64 yn)).setCell ⟨V5.heap.size, 3, none⟩ (.slice xpa yps.length xpc)).setCell ⟨V5.heap.size, 4, none⟩ (.slice xba xbody.length xbc)).setCell ⟨V5.heap.size, 5, none⟩ (.int .i64 xpos)) = W := ⟨_, rfl⟩
                    have b7 : Below wr.heap.size wr V7 := by rw [← hV7]; exact ((((((b6.setCell (p := ⟨V5.heap.size, _, none⟩) l6 _).setCell (p := ⟨V5.heap.size, _, none⟩) l6 _).setCell (p := ⟨V5.heap.size, _, none⟩) l6 _).setCell (p := ⟨V5.heap.size, _, none⟩) l6 _).setCell (p := ⟨V5.heap.size, _, none⟩) l6 _).setCell (p := ⟨V5.heap.size, _, none⟩) l6 _)
                    have x7 : V7.heap[V5.heap.size]? = some (.cells #[.int .u8 yk, .string ynm, .int .i64 yn, .slice xpa yps.length xpc, .slice xba xbody.length xbc, .int .i64 xpos] 35 (0, 0)) := by rw [← hV7]; simpa using (heap_set (heap_set (heap_set (heap_set (heap_set (heap_set x6 0 (.int .u8 yk)) 1 (.string ynm)) 2 (.int .i64 yn)) 3 (.slice xpa yps.length xpc)) 4 (.slice xba xbody.length xbc)) 5 (.int .i64 xpos))
                    have y7 : V7.heap[wr.heap.size]? = some (.cells #[.int .u8 0, .string ⟨#[]⟩, .int .i64 0, .slice none 0 0, .slice none 0 0, .int .i64 0] 35 (0, 0)) := by rw [← hV7]; rw [Below.heap_setCell _ _ _ _ hne, Below.heap_setCell _ _ _ _ hne, Below.heap_setCell _ _ _ _ hne, Below.heap_setCell _ _ _ _ hne, Below.heap_setCell _ _ _ _ hne, Below.heap_setCell _ _ _ _ hne]; exact y6
                    clear z7_0 f7_0 z7_1 f7_1 z7_2 f7_2 z7_3 f7_3 z7_4 f7_4 z7_5 f7_5
                    rw [hV7]
                    clear hV7
                    refine hK.out _ _ (hSb.out _ b7) (fun hHeld => ?_)
                    clear hK K
                    try simp only [Act.put, List.getElem_toArray, List.getElem_cons_zero, List.getElem_cons_succ, List.setIfInBounds_toArray, List.set_cons_zero, List.set_cons_succ]
                    refine wpAnyH_ready (rs := [11]) (by kernel_rfl) (by simp) ?_
                    refine AllReadyH.cons (o := _) rfl (fun K hK => ?_) AllReadyH.nil
                    have z8_0 := blk_cell y7 (j := 0) rfl
                    have f8_0 := blk_free y7 0
                    have z8_1 := blk_cell y7 (j := 1) rfl
                    have f8_1 := blk_free y7 1
                    have z8_2 := blk_cell y7 (j := 2) rfl
                    have f8_2 := blk_free y7 2
                    have z8_3 := blk_cell y7 (j := 3) rfl
                    have f8_3 := blk_free y7 3
                    have z8_4 := blk_cell y7 (j := 4) rfl
                    have f8_4 := blk_free y7 4
                    have z8_5 := blk_cell y7 (j := 5) rfl
                    have f8_5 := blk_free y7 5
                    go_simp
                    obtain ⟨V8, hV8⟩ : ∃ W, ((((((V7.setCell ⟨wr.heap.size, 0, none⟩ (.int .u8 yk)).setCell ⟨wr.heap.size, 1, none⟩ (.string ynm)).setCell ⟨wr.heap.size, 2, none⟩ (.int .i64 yn)).setCell ⟨wr.heap.size, 3, none⟩ (.slice ypa yps.length ypc)).setCell ⟨wr.heap.size, 4, none⟩ (.slice yba xbody.length ybc)).setCell ⟨wr.heap.size, 5, none⟩ (.int .i64 ypos)) = W := ⟨_, rfl⟩
                    have b8 : Below wr.heap.size wr V8 := by rw [← hV8]; exact ((((((b7.setCell (p := ⟨wr.heap.size, _, none⟩) l5 _).setCell (p := ⟨wr.heap.size, _, none⟩) l5 _).setCell (p := ⟨wr.heap.size, _, none⟩) l5 _).setCell (p := ⟨wr.heap.size, _, none⟩) l5 _).setCell (p := ⟨wr.heap.size, _, none⟩) l5 _).setCell (p := ⟨wr.heap.size, _, none⟩) l5 _)
                    have x8 : V8.heap[wr.heap.size]? = some (.cells #[.int .u8 yk, .string ynm, .int .i64 yn, .slice ypa yps.length ypc, .slice yba xbody.length ybc, .int .i64 ypos] 35 (0, 0)) := by rw [← hV8]; simpa using (heap_set (heap_set (heap_set (heap_set (heap_set (heap_set y7 0 (.int .u8 yk)) 1 (.string ynm)) 2 (.int .i64 yn)) 3 (.slice ypa yps.length ypc)) 4 (.slice yba xbody.length ybc)) 5 (.int .i64 ypos))
                    have y8 : V8.heap[V5.heap.size]? = some (.cells #[.int .u8 yk, .string ynm, .int .i64 yn, .slice xpa yps.length xpc, .slice xba xbody.length xbc, .int .i64 xpos] 35 (0, 0)) := by rw [← hV8]; rw [Below.heap_setCell _ _ _ _ (Ne.symm hne), Below.heap_setCell _ _ _ _ (Ne.symm hne), Below.heap_setCell _ _ _ _ (Ne.symm hne), Below.heap_setCell _ _ _ _ (Ne.symm hne), Below.heap_setCell _ _ _ _ (Ne.symm hne), Below.heap_setCell _ _ _ _ (Ne.symm hne)]; exact x7
                    clear z8_0 f8_0 z8_1 f8_1 z8_2 f8_2 z8_3 f8_3 z8_4 f8_4 z8_5 f8_5
                    rw [hV8]
                    clear hV8
                    refine hK.out _ _ (hSb.out _ b8) (fun hHeld => ?_)
                    clear hK K
                    try simp only [Act.put, List.getElem_toArray, List.getElem_cons_zero, List.getElem_cons_succ, List.setIfInBounds_toArray, List.set_cons_zero, List.set_cons_succ]
                    refine wpAnyH_done (by kernel_rfl) ?_ _
                    refine NoPanic.normal ?_
                    exact ⟨rfl, V5.heap.size, wr.heap.size, ⟨b8, by exact Ne.symm hne, y8, x8⟩, by simp only [Act.put, List.getElem_toArray, List.getElem_cons_zero, List.getElem_cons_succ, List.setIfInBounds_toArray, List.set_cons_zero, List.set_cons_succ]⟩
                rintro k6 k7 W6 ⟨b6, hne, x6, y6⟩
                simp only [Act.put, List.getElem_toArray, List.setIfInBounds_toArray, List.set_cons_zero, List.set_cons_succ]
                have hb6 := Lib.hid (hbr.out.trans (b6.mono hbr.out.size))
                clear c0 c1 c2 c3 c4 c5 d0 d1 d2 d3 d4 d5
                have p0 := blk_cell x6 (j := 0) rfl
                have r0 := blk_cell y6 (j := 0) rfl
                have p1 := blk_cell x6 (j := 1) rfl
                have r1 := blk_cell y6 (j := 1) rfl
                have p2 := blk_cell x6 (j := 2) rfl
                have r2 := blk_cell y6 (j := 2) rfl
                have p3 := blk_cell x6 (j := 3) rfl
                have r3 := blk_cell y6 (j := 3) rfl
                have p4 := blk_cell x6 (j := 4) rfl
                have r4 := blk_cell y6 (j := 4) rfl
                have p5 := blk_cell x6 (j := 5) rfl
                have r5 := blk_cell y6 (j := 5) rfl
                have hx6 := Lib.hid x6
                have hy6 := Lib.hid y6
                clear b6 hne x6 y6
                go_wp2_with fail
                refine (cB.out W6 hb6.out).mono ?_
                rintro e w7 ⟨rfl, hb7⟩
                have x7 := Lib.hid ((hb7.block _ (cells_lt hx6.out)).trans hx6.out)
                have y7 := Lib.hid ((hb7.block _ (cells_lt hy6.out)).trans hy6.out)
                have hb07 := Lib.hid (hb6.out.trans (hb7.mono hb6.out.size))
                clear p0 p1 p2 p3 p4 p5 r0 r1 r2 r3 r4 r5 hb7 hb6 cB hx6 hy6
                have p3 := blk_cell x7.out (j := 3) rfl
                go_wp2_with fail
                go_loopw [16] (fun i wr => ∃ j : Nat, j ≤ yps.length ∧ i = .int .i64 j ∧ Below w7.heap.size w7 wr) (fun i _ => yps.length - (intOf i).toNat)
                case atStart => exact ⟨0, Nat.zero_le _, rfl, Below.refl _ _⟩
                case round =>
                  clear p3
                  obtain ⟨j, hj, rfl, hbr2⟩ := hrel
                  have p3 := blk_cell ((hbr2.block _ (cells_lt x7.out)).trans x7.out) (j := 3) rfl
                  have r3 := blk_cell ((hbr2.block _ (cells_lt y7.out)).trans y7.out) (j := 3) rfl
                  have hbw := hb07.out.trans (hbr2.mono hb07.out.size)
                  by_cases hjl : j < yps.length
                  · obtain ⟨z, hzz⟩ : ∃ z, yps[j]? = some z := ⟨yps[j], by simp [hjl]⟩
                    obtain ⟨b2, off2, rfl, ec⟩ := hS1.out j z hzz
                    obtain ⟨b2', off2', rfl, ec'⟩ := hS2.out j z hzz
                    have m0 := below_in hbw ec
                    have n0 := below_in hbw ec'
                    have hj1 : (j : Int) < (yps.length : Int) := by omega
                    have hj0 : (0 : Int) ≤ (j : Int) := by omega
                    have hb2w := hbr2
                    clear hS1 hS2 hzz ec ec' hbr2 hbw x7 y7
                    replace hb2w := Lib.hid hb2w
                    go_upto_region 24 with fail
                    go_quiet (fail)
                    have hbU : Hid (Below w7.heap.size w7 (wr.drewN nq)) := Lib.hid ⟨hb2w.out.os, hb2w.out.tape, hb2w.out.output, hb2w.out.size, hb2w.out.block⟩
                    go_wp2_with fail
                    go_roundw
                    case rel => exact ⟨j + 1, by omega, by go_num, hbU.out⟩
                    case measure => simp [intOf]; omega
                  · have hje : j = yps.length := by omega
                    subst hje
                    have hj1 : ¬ (yps.length : Int) < (yps.length : Int) := by omega
                    replace hbw := Lib.hid hbw
                    clear hS1 hS2 hbr2
                    go_wp2_with fail
                    go_roundw
                    case rel => exact ⟨k + 1, by omega, by go_num, hbw.out⟩
                    case measure => simp [intOf]; omega
              · have hke : k = l.length := by omega
                subst hke
                have hlt1 : ¬ (l.length : Int) < (l.length : Int) := by omega
                have hbe := Lib.hid (hb04.out.trans (hbr.mono hb04.out.size))
                clear hrow hrow' hin hin' hfd hbr
                go_wp2_with fail
                go_ret
                exact ⟨rfl, hbe.out⟩
          · rw [e1] at hP1
            rw [e2] at hP2
            simp only at hP1 hP2
            clear hss
            go_wp2_with fail
            refine (hP1.out _ hw2.out).mono ?_
            rintro e w3 ⟨hb3, v3, rfl, hv3⟩
            obtain ⟨a3, c3, rfl⟩ := vds_nil hv3
            have hw3 := Lib.hid (hw2.out.below hb3)
            have hb03 := Lib.hid (hb02.out.trans (hb3.mono hb02.out.size))
            clear hb3 hw2 hb02 hv3
            go_wp2_with fail
            refine (hP2.out w3 hw3.out).mono ?_
            rintro e w4 ⟨hb4, v4, rfl, hv4⟩
            obtain ⟨a4, c4, rfl⟩ := vds_nil hv4
            have hb04 := Lib.hid (hb03.out.trans (hb4.mono hb03.out.size))
            clear hb4 hb03 hv4 hw3 hP1 hP2 e1 e2
            go_wp2_with fail
            go_loopw [13] (fun i wr => i = .int .i64 0 ∧ wr = w4) (fun _ _ => 0)
            case atStart => exact ⟨rfl, rfl⟩
            case round =>
              obtain ⟨rfl, rfl⟩ := hrel
              go_wp2_with fail
              go_ret
              exact ⟨rfl, hb04.out⟩
          · rw [e1] at hP1
            rw [e2] at hP2
            simp only at hP1 hP2
            clear hss
            go_wp2_with fail
            refine (hP1.out _ hw2.out).mono ?_
            rintro e w3 ⟨hb3, v3, rfl, hv3⟩
            obtain ⟨a3, c3, rfl⟩ := vds_nil hv3
            have hw3 := Lib.hid (hw2.out.below hb3)
            have hb03 := Lib.hid (hb02.out.trans (hb3.mono hb02.out.size))
            clear hb3 hw2 hb02 hv3
            go_wp2_with fail
            refine (hP2.out w3 hw3.out).mono ?_
            rintro e w4 ⟨hb4, v4, rfl, hv4⟩
            obtain ⟨a4, c4, rfl⟩ := vds_nil hv4
            have hb04 := Lib.hid (hb03.out.trans (hb4.mono hb03.out.size))
            clear hb4 hb03 hv4 hw3 hP1 hP2 e1 e2
            go_wp2_with fail
            go_loopw [13] (fun i wr => i = .int .i64 0 ∧ wr = w4) (fun _ _ => 0)
            case atStart => exact ⟨rfl, rfl⟩
            case round =>
              obtain ⟨rfl, rfl⟩ := hrel
              go_wp2_with fail
              go_ret
              exact ⟨rfl, hb04.out⟩
    · have hne : ((en : Int) != 0) = true := by simp; omega
      have hne2 : ¬ (en : Int) = 0 := by omega
      clear hsz hlong hres hP1 hen
      go_enter Tryz.func8, Tryz.ntmps8
      go_wp2_with fail
      refine (hWk.out w hw.out).mono ?_
      rintro e w1 ⟨rfl, hb1⟩
      have hw1 := Lib.hid (hw.out.below hb1)
      replace hb1 := Lib.hid hb1
      go_wp2_with fail
      refine (hTk.out w1 hw1.out).mono ?_
      rintro e w2 ⟨vt, rfl, hown, hb2, _⟩
      have hb02 := Lib.hid (hb1.out.trans (hb2.mono hb1.out.size))
      clear hb1 hb2 hw1 hw hTk hown hWk
      go_wp2_with fail
      go_ret
      exact ⟨rfl, hb02.out⟩
end Go.Proofs.YtfhmhplbkheojaaGreatDoor.Pa
