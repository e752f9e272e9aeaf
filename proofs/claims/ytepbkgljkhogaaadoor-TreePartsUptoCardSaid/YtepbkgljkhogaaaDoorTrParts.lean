/- Walk of the statement TreeParts's function. Conditions: the package's tables hold their lists; the programs have at most 1048576 parts. -/
import Derived.Test.YtepbkgljkhogaaaDoorTrWi
import Derived.Test.YtepbkgljkhogaaaDoorAcc2
import Derived.Test.YtepbkgljkhogaaaDoorTrX
namespace Go.Proofs.YtepbkgljkhogaaaDoor.Tr
open Go Go.RowKit
open Go.Proofs.YtepbkgljkhogaaaDoor.Lx

theorem infoD2 : (Tryd.prog.info? 40).map (fun i => (i.zero, i.size, i.bytes)) = some (some (.agg #[.int .u8 0, .string ⟨#[]⟩, .int .i64 0, .slice none 0 0, .slice none 0 0, .int .i64 0]), 6, 88) := by kernel_rfl

set_option maxHeartbeats 4000000 in
set_option maxRecDepth 100000 in
theorem parts_all (la lb : List De) (a b : Option Addr) (capa capb : Nat) (w : World) (ra : RowAt w (fun _ => True) a capa la.length (deCells la)) (rb : RowAt w (fun _ => True) b capb lb.length (deCells lb)) (ia : De.InL w (fun _ => True) la) (ib : De.InL w (fun _ => True) lb)
    (sa : De.szL la + la.length ≤ 1048576) (sb : De.szL lb + lb.length ≤ 1048576) (ht : TabsD w) :
    Calls Tryd.prog 5 #[.slice a la.length capa, .slice b lb.length capb] w fun x w' => x = .returned (.bool true) ∧ Below w.heap.size w w' := by
  have hti := fun V (h : Below w.heap.size w V) => ht.below h
  have cLA : ∀ V, Below w.heap.size w V → Calls Tryd.prog 8 #[.slice a la.length capa] V fun x w' => SomeB x ∧ Below w.heap.size w w' := fun V h => (long_any la a capa V (by omega) (ra.below (Kps.of_below h)) (De.InL.below (Kps.of_below h) ia)).mono fun x w' h2 => ⟨h2.1, h.trans (h2.2.mono h.size)⟩
  have cLB : ∀ V, Below w.heap.size w V → Calls Tryd.prog 8 #[.slice b lb.length capb] V fun x w' => SomeB x ∧ Below w.heap.size w w' := fun V h => (long_any lb b capb V (by omega) (rb.below (Kps.of_below h)) (De.InL.below (Kps.of_below h) ib)).mono fun x w' h2 => ⟨h2.1, h.trans (h2.2.mono h.size)⟩
  have cAw : ∀ V, Below w.heap.size w V → Calls Tryd.prog 10 #[] V fun x w' => x = .returned (.bool true) ∧ Below w.heap.size w w' := fun V h => (awake_any V (ht.below h)).mono fun x w' h2 => ⟨h2.1, h.trans (h2.2.mono h.size)⟩
  replace hti := Lib.hid hti
  replace cLA := Lib.hid cLA
  replace cLB := Lib.hid cLB
  replace cAw := Lib.hid cAw
  obtain ⟨iD, hiD, hzD0, hzD1, hzD2⟩ := info_parts infoD2
  replace hzD0 := Lib.hid hzD0
  clear ht
  go_enter Tryd.func5, Tryd.ntmps5
  go_wp2_with fail
  refine (cLA.out _ (Below.refl _ _)).mono ?_
  rintro x V1 ⟨⟨v, rfl⟩, h1⟩
  cases v
  case true =>
    go_wp2_with fail
    refine (cAw.out _ h1).mono ?_
    rintro x V2 ⟨rfl, h2⟩
    go_wp2_with fail
    go_ret
    exact ⟨rfl, h2⟩
  case false =>
    go_wp2_with fail
    refine (cLB.out _ h1).mono ?_
    rintro x V2 ⟨⟨v, rfl⟩, h2⟩
    cases v
    case true =>
      go_wp2_with fail
      refine (cAw.out _ h2).mono ?_
      rintro x V3 ⟨rfl, h3⟩
      go_wp2_with fail
      go_ret
      exact ⟨rfl, h3⟩
    case false =>
      go_wp2_with fail
      refine (cAw.out _ h2).mono ?_
      rintro x V3 ⟨rfl, h3⟩
      clear h1 h2
      have hw3 := h3.size
      replace h3 := Lib.hid h3
      have hii : ∀ (V : World) (v : Value) (xs : List De), Below w.heap.size w V → De.InL w (fun _ => True) xs → (∀ k, v.ownBlock = some k → w.heap.size ≤ k) → ∀ y ∈ xs, KDe.In V (fun b => v.ownBlock ≠ some b) y := fun V v xs hb hi hk y hy =>
        KDe.mono (fun b (hb : b < w.heap.size) hv => by have := hk b hv; omega) (KDe.below (S := fun b => b < w.heap.size) (Kps.of_below hb) (De.InL.bd hi y hy))
      replace hii := Lib.hid hii
      have hb0 := Lib.hid (h3.out.alloc hw3 (.cells #[] 22))
      go_wp2_with (at_builtin; refine wpList_append_L KDe rfl (.tmp 18) (.tmp 19) 22 rfl 40 iD _ 6 88 Tryd.underlying22 hiD hzD0.out hzD1 hzD2 rfl (by decide) rfl De.vals_one w.heap.size _ [] rfl ⟨World.ownsRow_made _ _ 0 hw3 (by unfold maxLen; omega) rfl, fun x hx => by cases hx⟩ la a capa rfl (ra.below (Kps.of_below (h3.out.alloc hw3 _))) ?i1 ?c1 ?c2 ?c3 ?_)
      case i1 => exact hii.out _ _ la (h3.out.alloc hw3 _) ia (fun k hk => by have := Option.some.inj hk; simp only at this; omega)
      case c1 => show 0 + la.length ≤ _; unfold maxLen; omega
      case c2 => show (0 + la.length) * 88 ≤ _; omega
      case c3 => simp; omega
      intro v1 w1 hacc1 hg1
      have hb1 := Below.grown (h3.out.alloc hw3 _) hg1 (by simp; omega) (fun b hb => by have := Option.some.inj hb; simp only at this; omega)
      have hw1 := hb1.size
      replace hacc1 : AccS KDe 40 w.heap.size w1 v1 la := hacc1
      replace hacc1 := Lib.hid hacc1
      replace hb1 := Lib.hid hb1
      clear hg1 hb0
      go_wp2_with (at_builtin; refine wpList_append_L KDe rfl (.tmp 20) (.tmp 21) 22 rfl 40 iD _ 6 88 Tryd.underlying22 hiD hzD0.out hzD1 hzD2 rfl (by decide) rfl De.vals_one w.heap.size _ la rfl hacc1.out lb b capb rfl (rb.below (Kps.of_below hb1.out)) ?i1 ?c1 ?c2 ?c3 ?_)
      case i1 => exact hii.out _ _ lb hb1.out ib (fun k hk => (hacc1.out.block k hk).1)
      case c1 => unfold maxLen; omega
      case c2 => omega
      case c3 => exact hw1
      intro v2 w2 hacc2 hg2
      have hb2 := Below.grown hb1.out hg2 hw1 (fun b hb => (hacc1.out.block b hb).1)
      clear hg2 hacc1 hb1 hw1 hw3 h3
      obtain ⟨ac, capc, rfl, rC, iC'⟩ := hacc2.out
      have iC : De.InL w2 (fun _ => True) (la ++ lb) := fun d hd => iC' d hd
      clear hacc2 iC'
      have rA := ra.below (Kps.of_below hb2)
      have iA := De.InL.below (Kps.of_below hb2) ia
      have rB := rb.below (Kps.of_below hb2)
      have iB := De.InL.below (Kps.of_below hb2) ib
      obtain ⟨ma, hma⟩ : ∃ m, mayP la = m := ⟨_, rfl⟩
      obtain ⟨mb, hmb⟩ : ∃ m, mayP lb = m := ⟨_, rfl⟩
      obtain ⟨da, hda⟩ : ∃ d, deepest (ptsD la) = d := ⟨_, rfl⟩
      obtain ⟨db, hdb⟩ : ∃ d, deepest (ptsD lb) = d := ⟨_, rfl⟩
      obtain ⟨na, hna⟩ : ∃ n, ((la.length : Int) + (ptsD la).length) = n := ⟨_, rfl⟩
      obtain ⟨nb, hnb⟩ : ∃ n, ((lb.length : Int) + (ptsD lb).length) = n := ⟨_, rfl⟩
      have hnab : 0 ≤ na ∧ na ≤ 1048576 ∧ 0 ≤ nb ∧ nb ≤ 1048576 := by rw [ptsD_len] at hna hnb; omega
      have hsc : De.szL (la ++ lb) ≤ 2097152 := by rw [De.szL_app]; omega
      have hlc : (la ++ lb).length ≤ 2097152 := by rw [List.length_append]; omega
      have eM : mayP (la ++ lb) = (ma && mb && decide ((la ++ lb).length ≤ 256)) := by rw [mayP_app, hma, hmb]
      have eD : deepest (ptsD (la ++ lb)) = max da db := by rw [ptsD_app, deepest_app, hda, hdb]
      have eS : (((la ++ lb).length : Int) + (ptsD (la ++ lb)).length) = na + nb := by rw [ptsD_app, List.length_append, List.length_append, ← hna, ← hnb]; omega
      obtain ⟨lc, hLC⟩ : ∃ lc, la ++ lb = lc := ⟨_, rfl⟩
      rw [hLC] at rC iC hsc hlc eM eD eS ⊢
      clear hLC
      have cMA : Hid (∀ V, Below w2.heap.size w2 V → Calls Tryd.prog 11 #[.slice a la.length capa] V fun x w' => x = .returned (.bool ma) ∧ Below w2.heap.size w2 w') := Lib.hid fun V h => (mayP_any la _ _ V (rA.below (Kps.of_below h)) (De.InL.below (Kps.of_below h) iA) (by omega) (hti.out V (hb2.trans (h.mono hb2.size)))).mono fun x w' h2 => ⟨by rw [h2.1, hma], h.trans (h2.2.mono h.size)⟩
      have cDA : Hid (∀ V, Below w2.heap.size w2 V → Calls Tryd.prog 13 #[.slice a la.length capa] V fun x w' => x = .returned (.int .i64 da) ∧ Below w2.heap.size w2 w') := Lib.hid fun V h => (callsIn_wide.1 (depth_in 1 la _ _ V (rA.below (Kps.of_below h)) (De.InL.below (Kps.of_below h) iA) (by omega))).mono fun x w' h2 => ⟨by rw [h2.1, hda], h.trans (h2.2.mono h.size)⟩
      have cSA : Hid (∀ V, Below w2.heap.size w2 V → Calls Tryd.prog 15 #[.slice a la.length capa] V fun x w' => x = .returned (.int .i64 na) ∧ Below w2.heap.size w2 w') := Lib.hid fun V h => (callsIn_wide.1 (size_in 1 la _ _ V (rA.below (Kps.of_below h)) (De.InL.below (Kps.of_below h) iA) (by omega) (by omega) (by rw [ptsD_len]; omega))).mono fun x w' h2 => ⟨by rw [h2.1, hna], h.trans (h2.2.mono h.size)⟩
      have cMB : Hid (∀ V, Below w2.heap.size w2 V → Calls Tryd.prog 11 #[.slice b lb.length capb] V fun x w' => x = .returned (.bool mb) ∧ Below w2.heap.size w2 w') := Lib.hid fun V h => (mayP_any lb _ _ V (rB.below (Kps.of_below h)) (De.InL.below (Kps.of_below h) iB) (by omega) (hti.out V (hb2.trans (h.mono hb2.size)))).mono fun x w' h2 => ⟨by rw [h2.1, hmb], h.trans (h2.2.mono h.size)⟩
      have cDB : Hid (∀ V, Below w2.heap.size w2 V → Calls Tryd.prog 13 #[.slice b lb.length capb] V fun x w' => x = .returned (.int .i64 db) ∧ Below w2.heap.size w2 w') := Lib.hid fun V h => (callsIn_wide.1 (depth_in 1 lb _ _ V (rB.below (Kps.of_below h)) (De.InL.below (Kps.of_below h) iB) (by omega))).mono fun x w' h2 => ⟨by rw [h2.1, hdb], h.trans (h2.2.mono h.size)⟩
      have cSB : Hid (∀ V, Below w2.heap.size w2 V → Calls Tryd.prog 15 #[.slice b lb.length capb] V fun x w' => x = .returned (.int .i64 nb) ∧ Below w2.heap.size w2 w') := Lib.hid fun V h => (callsIn_wide.1 (size_in 1 lb _ _ V (rB.below (Kps.of_below h)) (De.InL.below (Kps.of_below h) iB) (by omega) (by omega) (by rw [ptsD_len]; omega))).mono fun x w' h2 => ⟨by rw [h2.1, hnb], h.trans (h2.2.mono h.size)⟩
      have cMC : Hid (∀ V, Below w2.heap.size w2 V → Calls Tryd.prog 11 #[.slice ac lc.length capc] V fun x w' => x = .returned (.bool (ma && mb && decide (lc.length ≤ 256))) ∧ Below w2.heap.size w2 w') := Lib.hid fun V h => (mayP_any lc _ _ V (rC.below (Kps.of_below h)) (De.InL.below (Kps.of_below h) iC) (by omega) (hti.out V (hb2.trans (h.mono hb2.size)))).mono fun x w' h2 => ⟨by rw [h2.1, eM], h.trans (h2.2.mono h.size)⟩
      have cDC : Hid (∀ V, Below w2.heap.size w2 V → Calls Tryd.prog 13 #[.slice ac lc.length capc] V fun x w' => x = .returned (.int .i64 (max da db)) ∧ Below w2.heap.size w2 w') := Lib.hid fun V h => (callsIn_wide.1 (depth_in 1 lc _ _ V (rC.below (Kps.of_below h)) (De.InL.below (Kps.of_below h) iC) (by omega))).mono fun x w' h2 => ⟨by rw [h2.1, eD], h.trans (h2.2.mono h.size)⟩
      have cSC : Hid (∀ V, Below w2.heap.size w2 V → Calls Tryd.prog 15 #[.slice ac lc.length capc] V fun x w' => x = .returned (.int .i64 (na + nb)) ∧ Below w2.heap.size w2 w') := Lib.hid fun V h => (callsIn_wide.1 (size_in 1 lc _ _ V (rC.below (Kps.of_below h)) (De.InL.below (Kps.of_below h) iC) (by omega) (by omega) (by rw [ptsD_len]; omega))).mono fun x w' h2 => ⟨by rw [h2.1, eS], h.trans (h2.2.mono h.size)⟩
      have hown : Hid (ma = true → ∀ (k : Nat) (x : De), la[k]? = some x → mayP [x] = true ∧ OkL x.body) := Lib.hid fun h k x hx => mayP_one (by rw [hma]; exact h) (List.mem_of_getElem? hx)
      have hwab : IntKind.i64.wrap (na + nb) = na + nb := IntWalk.i64_in _ (by omega)
      replace hb2 := Lib.hid hb2
      clear rB rC iB iC hma hmb hda hdb hna hnb hnab rb ib ra eM eD eS sb hsc
      have g0 := Below.refl w2.heap.size w2
      go_wp2_with fail
      refine (cDC.out _ g0).mono ?_
      rintro x W1 ⟨rfl, g1⟩
      go_wp2_with fail
      refine (cDA.out _ g1).mono ?_
      rintro x W2 ⟨rfl, g2⟩
      go_wp2_with fail
      refine (cDB.out _ g2).mono ?_
      rintro x W3 ⟨rfl, g3⟩
      clear g1 g2
      go_wp2_with fail
      refine (cSC.out _ g3).mono ?_
      rintro x W4 ⟨rfl, g4⟩
      clear g3
      go_wp2_with fail
      refine (cSA.out _ g4).mono ?_
      rintro x W5 ⟨rfl, g5⟩
      clear g4
      go_wp2_with fail
      refine (cSB.out _ g5).mono ?_
      rintro x W6 ⟨rfl, g6⟩
      clear g5
      cases ma
      case false =>
        go_wp2_with fail
        refine (cMC.out _ g6).mono ?_
        rintro x W7 ⟨rfl, g7⟩
        clear g6
        go_wp2_with fail
        refine (cMA.out _ g7).mono ?_
        rintro x W8 ⟨rfl, g8⟩
        clear g7
        go_wp2_with fail
        refine (cMA.out _ g8).mono ?_
        rintro x W9 ⟨rfl, g9⟩
        clear g8
        go_wp2_with fail
        go_ret
        exact ⟨rfl, hb2.out.trans (g9.mono hb2.out.size)⟩
      case true =>
        replace hown := hown.out rfl
        replace hown := Lib.hid hown
        have hqq : (lc.length ≤ 256 ∧ (lc.length : Int) ≤ 256 ∧ decide ((lc.length : Int) ≤ 256) = true) ∨ ((¬ lc.length ≤ 256) ∧ (256 : Int) < lc.length ∧ decide ((lc.length : Int) ≤ 256) = false) := by
          by_cases hq : lc.length ≤ 256
          · exact .inl ⟨hq, by omega, decide_eq_true (by omega)⟩
          · exact .inr ⟨hq, by omega, decide_eq_false (by omega)⟩
        cases mb <;> rcases hqq with ⟨hq, hq1, hq2⟩ | ⟨hq, hq1, hq2⟩
        all_goals
          go_wp2_with fail
          refine (cMC.out _ g6).mono ?_
          rintro x W7 ⟨rfl, g7⟩
          clear g6
          go_wp2_with fail
          refine (cMA.out _ g7).mono ?_
          rintro x W8 ⟨rfl, g8⟩
          clear g7
          go_wp2_with fail
          refine (cMB.out _ g8).mono ?_
          rintro x W9 ⟨rfl, g9⟩
          clear g8
          go_wp2_with fail
          refine (cMA.out _ g9).mono ?_
          rintro x W10 ⟨rfl, g10⟩
          clear g9
          go_wp2_with fail
          go_loopw [6] (fun i wr => ∃ k : Nat, k ≤ la.length ∧ i = .int .i64 k ∧ Below w2.heap.size w2 wr) (fun i _ => la.length - (intOf i).toNat)
          case atStart => exact ⟨0, Nat.zero_le _, rfl, g10⟩
          case round =>
            obtain ⟨k, hk, rfl, hbr⟩ := hrel
            by_cases hlt : k < la.length
            · obtain ⟨x, hx⟩ : ∃ e, la[k]? = some e := ⟨la[k], by simp [hlt]⟩
              obtain ⟨bb, off, rfl, _, hcell⟩ := de_row rA k x hx
              obtain ⟨hm1, hok⟩ := hown.out k x hx
              have hxs := De.sz_get hx
              have hxin := De.In.below (Kps.of_below hbr) (iA x (List.mem_of_getElem? hx))
              obtain ⟨xk, xnm, xn, pa, pcap, xp, ba, bcap, xbody, xpos⟩ := x
              replace hxs : St.szL xbody ≤ De.szL la := hxs
              simp only [← Nat.add_assoc] at hcell
              have d4 := below_in hbr (hcell 4 _ rfl)
              have hcap1 := rA.le
              have hcap2 : (1 : Int) ≤ (capa : Int) := by omega
              have hkc : (k : Int) < (capa : Int) := by omega
              have hk1 : (k : Int) + 1 ≤ (capa : Int) := by omega
              have r1 : RowAt wr (fun _ => True) (some ⟨bb, off + k * 6, none⟩) (capa - k) 1 (deCells [⟨xk, xnm, xn, pa, pcap, xp, ba, bcap, xbody, xpos⟩]) :=
                ⟨by omega, by have := rA.lim; omega, fun h => (by cases h), fun j u hj => ⟨bb, off + k * 6, rfl, trivial, below_in hbr (hcell j u (by simpa [deCells] using hj))⟩⟩
              have i1 : De.InL wr (fun _ => True) [⟨xk, xnm, xn, pa, pcap, xp, ba, bcap, xbody, xpos⟩] := fun d hd => by rw [List.mem_singleton.1 hd]; exact hxin
              have htw := hti.out wr (hb2.out.trans (hbr.mono hb2.out.size))
              have hmy := mayP_any [⟨xk, xnm, xn, pa, pcap, xp, ba, bcap, xbody, xpos⟩] (some ⟨bb, off + k * 6, none⟩) (capa - k) wr r1 i1 (by show St.szL xbody + 0 ≤ _; omega) htw
              rw [hm1] at hmy
              have hwi := fun V (h : Below wr.heap.size wr V) => within_any (St.szL xbody) xbody ba bcap V (Nat.le_refl _) (by omega) hok (hxin.2.2.2.2.2.2.1.below (Kps.of_below h)) (St.InL.below (Kps.of_below h) _ hxin.2.2.2.2.2.2.2) (htw.below h)
              replace hmy := Lib.hid hmy
              replace hwi := Lib.hid hwi
              replace hx := Lib.hid hx
              clear r1 i1 htw hcell hm1 hok hxin
              go_wp2_with fail
              refine hmy.out.mono ?_
              rintro y V4 ⟨rfl, hb4⟩
              have d4b := below_in hb4 d4
              replace hb4 := Lib.hid hb4
              go_wp2_with fail
              refine (hwi.out _ hb4.out).mono ?_
              rintro y V5 ⟨rfl, hb5⟩
              have hb5' := Lib.hid (hbr.trans ((hb4.out.trans (hb5.mono hb4.out.size)).mono hbr.size))
              clear hb5
              go_wp2_with fail
              go_roundw
              case rel => exact ⟨k + 1, by omega, by go_num, hb5'.out⟩
              case measure => simp [intOf]; omega
            · go_wp2_with fail
              go_ret
              exact ⟨rfl, hb2.out.trans (hbr.mono hb2.out.size)⟩
end Go.Proofs.YtepbkgljkhogaaaDoor.Tr
