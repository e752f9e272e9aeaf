/- Walk of the statement TreeSame's function. Conditions: the package's tables hold their lists; the programs have at most 1048576 parts. -/
import Derived.Test.YtepbkgljkhogaaaDoorTrZ2
import Derived.Test.YtepbkgljkhogaaaDoorTrX
namespace Go.Proofs.YtepbkgljkhogaaaDoor.Tr
open Go Go.RowKit
open Go.Proofs.YtepbkgljkhogaaaDoor.Lx

theorem infoD : (Tryd.prog.info? 40).map (fun i => (i.zero, i.size, i.bytes)) = some (some (.agg #[.int .u8 0, .string ⟨#[]⟩, .int .i64 0, .slice none 0 0, .slice none 0 0, .int .i64 0]), 6, 88) := by kernel_rfl
theorem De.erL_snoc (l : List De) (x : De) : De.erL (l ++ [x]) = De.erL l ++ [x.er] := by unfold De.erL; rw [List.map_append, List.map_singleton]

set_option maxHeartbeats 16000000 in
set_option maxRecDepth 100000 in
theorem same_any (la lb : List De) (a b : Option Addr) (capa capb : Nat) (p : Int) (w : World) (ra : RowAt w (fun _ => True) a capa la.length (deCells la)) (rb : RowAt w (fun _ => True) b capb lb.length (deCells lb)) (ia : De.InL w (fun _ => True) la) (ib : De.InL w (fun _ => True) lb)
    (sa : De.szL la + la.length ≤ 1048576) (sb : De.szL lb + lb.length ≤ 1048576) (hp : I64 p) (ht : TabsD w) :
    Calls Tryd.prog 6 #[.slice a la.length capa, .slice b lb.length capb, .int .i64 p] w fun x w' => x = .returned (.bool true) ∧ Below w.heap.size w w' := by
  have hti := fun V (h : Below w.heap.size w V) => ht.below h
  have cLA : ∀ V, Below w.heap.size w V → Calls Tryd.prog 8 #[.slice a la.length capa] V fun x w' => SomeB x ∧ Below w.heap.size w w' := fun V h => (long_any la a capa V (by omega) (ra.below (Kps.of_below h)) (De.InL.below (Kps.of_below h) ia)).mono fun x w' h2 => ⟨h2.1, h.trans (h2.2.mono h.size)⟩
  have cLB : ∀ V, Below w.heap.size w V → Calls Tryd.prog 8 #[.slice b lb.length capb] V fun x w' => SomeB x ∧ Below w.heap.size w w' := fun V h => (long_any lb b capb V (by omega) (rb.below (Kps.of_below h)) (De.InL.below (Kps.of_below h) ib)).mono fun x w' h2 => ⟨h2.1, h.trans (h2.2.mono h.size)⟩
  have cAw : ∀ V, Below w.heap.size w V → Calls Tryd.prog 10 #[] V fun x w' => x = .returned (.bool true) ∧ Below w.heap.size w w' := fun V h => (awake_any V (ht.below h)).mono fun x w' h2 => ⟨h2.1, h.trans (h2.2.mono h.size)⟩
  replace hti := Lib.hid hti
  replace cLA := Lib.hid cLA
  replace cLB := Lib.hid cLB
  replace cAw := Lib.hid cAw
  obtain ⟨iD, hiD, hzD0, hzD1, hzD2⟩ := info_parts infoD
  replace hzD0 := Lib.hid hzD0
  clear ht
  go_enter Tryd.func6, Tryd.ntmps6
  go_wp2_with fail
  refine (cLA.out _ (Below.refl _ _)).mono ?_
  rintro x V1 ⟨⟨v, rfl⟩, h1⟩
  cases v
  case true =>
    go_wp2_with fail
    refine (cAw.out _ h1).mono ?_
    rintro x V2 ⟨rfl, h2⟩
    go_wp2_with fail
    go_ret
    exact ⟨rfl, h2⟩
  case false =>
    go_wp2_with fail
    refine (cLB.out _ h1).mono ?_
    rintro x V2 ⟨⟨v, rfl⟩, h2⟩
    cases v
    case true =>
      go_wp2_with fail
      refine (cAw.out _ h2).mono ?_
      rintro x V3 ⟨rfl, h3⟩
      go_wp2_with fail
      go_ret
      exact ⟨rfl, h3⟩
    case false =>
      go_wp2_with fail
      refine (cAw.out _ h2).mono ?_
      rintro x V3 ⟨rfl, h3⟩
      go_wp2_with fail
      clear h1 h2
      go_loopw [7, 8] (fun v i wr => ∃ (k : Nat) (l' : List De), k ≤ la.length ∧ i = .int .i64 k ∧ Hid (l'.length = k ∧ De.erL l' = De.erL (la.take k)) ∧ Hid (AccS KDe 40 w.heap.size wr v l') ∧ Below w.heap.size w wr) (fun _ i _ => la.length - (intOf i).toNat)
      case atStart => exact ⟨0, [], Nat.zero_le _, rfl, Lib.hid ⟨rfl, rfl⟩, Lib.hid (AccS.nil _ _ _ _), h3⟩
      case round =>
        obtain ⟨k, l', hk, rfl, hlk, hacc, hbr⟩ := hrel
        by_cases hlt : k < la.length
        · obtain ⟨x, hx⟩ : ∃ e, la[k]? = some e := ⟨la[k], by simp [hlt]⟩
          obtain ⟨bb, off, rfl, _, hcell⟩ := de_row ra k x hx
          have hmem := List.mem_of_getElem? hx
          have hxin := ia x hmem
          have hxs := De.sz_get hx
          have hgt : la.take (k + 1) = la.take k ++ [x] := by rw [List.take_add_one, hx]; rfl
          obtain ⟨xk, xnm, xn, pa, pcap, xp, ba, bcap, xbody, xpos⟩ := x
          obtain ⟨hk8, hnm, hn64, hq, hrp, hip, hrb, hib⟩ := hxin
          simp only at hk8 hnm hn64 hrp hip hrb hib hxs
          simp only [← Nat.add_assoc] at hcell
          have d0 := below_in hbr (hcell 0 _ rfl)
          have d1 := below_in hbr (hcell 1 _ rfl)
          have d2 := below_in hbr (hcell 2 _ rfl)
          have d3 := below_in hbr (hcell 3 _ rfl)
          have d4 := below_in hbr (hcell 4 _ rfl)
          have d5 := below_in hbr (hcell 5 _ rfl)
          simp only [Nat.add_zero] at d0
          have da4 := fun o => below_in ((Below.refl wr.heap.size wr).alloc (Nat.le_refl _) o) d4
          have hcp := fun V (h : Below w.heap.size w V) => place_any (St.szL xbody) xbody ba bcap p V (Nat.le_refl _) (by omega) hp (hrb.below (Kps.of_below h)) (St.InL.below (Kps.of_below h) _ hib)
          replace hcp := Lib.hid hcp
          replace hgt := Lib.hid hgt
          replace hx := Lib.hid hx
          have hws := hbr.size
          replace hbr := Lib.hid hbr
          clear hcell
          go_wp2_with fail
          refine (hcp.out _ (hbr.out.alloc hws _)).mono ?_
          rintro x w1 ⟨ab, cb, body', rfl, hab, hbw⟩
          have hb71 : w1.heap[wr.heap.size]? = some (.cells #[.int .u8 xk, .string xnm, .int .i64 xn, .slice pa xp.length pcap, .slice ba xbody.length bcap, .int .i64 p] 40 (0, 0)) := (hbw.block _ (by simp)).trans (blk_new _ _ rfl)
          have hbo1 : Below wr.heap.size wr w1 := ((Below.refl _ _).alloc (Nat.le_refl _) _).trans (hbw.mono (by simp))
          have hs1 : wr.heap.size + 1 ≤ w1.heap.size := by have := hbw.size; simpa using this
          have y0 : w1.cell? ⟨wr.heap.size, 0, none⟩ = some (.int .u8 xk) := blk_cell hb71 rfl
          have y1 : w1.cell? ⟨wr.heap.size, 1, none⟩ = some (.string xnm) := blk_cell hb71 rfl
          have y2 : w1.cell? ⟨wr.heap.size, 2, none⟩ = some (.int .i64 xn) := blk_cell hb71 rfl
          have y3 : w1.cell? ⟨wr.heap.size, 3, none⟩ = some (.slice pa xp.length pcap) := blk_cell hb71 rfl
          have y5 : w1.cell? ⟨wr.heap.size, 5, none⟩ = some (.int .i64 p) := blk_cell hb71 rfl
          have y4 : w1.cell? ⟨wr.heap.size, 4, none⟩ = some (.slice ba xbody.length bcap) := blk_cell hb71 rfl
          have f4 : w1.frozen? ⟨wr.heap.size, 4, none⟩ = false := blk_free hb71 4
          have hab' := hab.mono (m := wr.heap.size + 1) (by simp)
          obtain ⟨w4, hw4⟩ : ∃ W, w1.setCell ⟨wr.heap.size, 4, none⟩ (.slice ab body'.length cb) = W := ⟨_, rfl⟩
          have hb74 : w4.heap[wr.heap.size]? = some (.cells #[.int .u8 xk, .string xnm, .int .i64 xn, .slice pa xp.length pcap, .slice ab body'.length cb, .int .i64 p] 40 (0, 0)) := by
            rw [← hw4]; exact blk_set hb71 4 _
          have hbo4 : Below wr.heap.size wr w4 := by rw [← hw4]; exact hbo1.setCell (Nat.le_refl _) _
          have hs4 : wr.heap.size + 1 ≤ w4.heap.size := by rw [← hw4, size_set]; exact hs1
          have hab4 := hab'.keep (W' := w4) (by rw [← hw4]; exact (Kps_set _ _ _ _).mono fun b hb => hb)
          have hbr4 := hbr.out.trans (hbo4.mono hws)
          have hown : ∀ j, j < w.heap.size ∨ wr.heap.size ≤ j → ∀ (_ : u7.ownBlock = some j), False := fun j hj hv => by have := hacc.out.block j hv; omega
          have hdin : KDe.In w4 (fun j => u7.ownBlock ≠ some j) ⟨xk, xnm, xn, pa, pcap, xp, ab, cb, body', p⟩ := by
            refine ⟨hk8, hnm, hn64, hp, ?_, hip, hab4.row.mono (fun j hj hv => hown j (.inr (by omega)) hv), St.InL.mono (fun j hj hv => hown j (.inr (by omega)) hv) _ hab4.inn⟩
            exact ((hrp.bd).below (Kps.of_below hbr4)).mono fun j hj hv => hown j (.inl hj) hv
          have her4 : Hid ((⟨xk, xnm, xn, pa, pcap, xp, ab, cb, body', p⟩ : De).er = (⟨xk, xnm, xn, pa, pcap, xp, ba, bcap, xbody, xpos⟩ : De).er) := Lib.hid (by
            unfold De.er
            simp only
            rw [hab4.er])
          have z0 : w4.cell? ⟨wr.heap.size, 0, none⟩ = some (.int .u8 xk) := blk_cell hb74 rfl
          have z1 : w4.cell? ⟨wr.heap.size, 1, none⟩ = some (.string xnm) := blk_cell hb74 rfl
          have z2 : w4.cell? ⟨wr.heap.size, 2, none⟩ = some (.int .i64 xn) := blk_cell hb74 rfl
          have z3 : w4.cell? ⟨wr.heap.size, 3, none⟩ = some (.slice pa xp.length pcap) := blk_cell hb74 rfl
          have z4 : w4.cell? ⟨wr.heap.size, 4, none⟩ = some (.slice ab body'.length cb) := blk_cell hb74 rfl
          have z5 : w4.cell? ⟨wr.heap.size, 5, none⟩ = some (.int .i64 p) := blk_cell hb74 rfl
          have hacc4 := Lib.hid (hacc.out.below hbo4)
          replace hdin := Lib.hid hdin
          replace hbr4 := Lib.hid hbr4
          replace hw4 := Lib.hid hw4
          clear hb71 hb74 hbo1 hbo4 hab hab' hab4 hbw hown hrp hip hrb hib
          go_upto_region 10 with fail
          rw [hw4.out]
          clear hw4 y0 y1 y2 y3 y4 y5 f4
          go_wp2_with (at_builtin; refine wpList_append_S KDe rfl (.tmp 41) (.tmp 43) (.tmp 42) 22 rfl 40 iD _ 6 88 Tryd.underlying22 hiD hzD0.out hzD1 hzD2 rfl (by decide) rfl De.vals_one w.heap.size _ l' ⟨xk, xnm, xn, pa, pcap, xp, ab, cb, body', p⟩ rfl (hacc4.out.alloc _) (KDe.below (Kps.alloc _ _) hdin.out) _ rfl rfl (0, 0) (blk_new _ _ rfl) ?c1 ?c2 ?c3 ?_)
          case c1 => have := hlk.out.1; unfold maxLen; omega
          case c2 => have := hlk.out.1; omega
          case c3 => simp; omega
          intro v1 w5 hacc5 hg5
          have hbr5 := hacc4.out.belowA hbr4.out (Nat.le_refl _) (by omega) hg5
          replace hacc5 := Lib.hid hacc5
          replace hbr5 := Lib.hid hbr5
          clear hg5
          go_wp2_with fail
          go_roundw
          case rel => exact ⟨k + 1, l' ++ [⟨xk, xnm, xn, pa, pcap, xp, ab, cb, body', p⟩], by omega, by go_num, Lib.hid ⟨by rw [List.length_append, hlk.out.1]; rfl, by rw [hgt.out, De.erL_snoc, De.erL_snoc, hlk.out.2, her4.out]⟩, hacc5, hbr5.out⟩
          case measure => simp [intOf]; omega
        · obtain ⟨ac, capc, rfl, rC, iC'⟩ := hacc.out.out
          have iC : De.InL wr (fun _ => True) l' := fun d hd => iC' d hd
          have hlc : l'.length = la.length := by rw [hlk.out.1]; omega
          have her : De.erL la = De.erL l' := by rw [hlk.out.2, List.take_of_length_le (by omega)]
          have hsc : De.szL l' = De.szL la := (szL_of_er her).symm
          have rA := ra.below (Kps.of_below hbr)
          have iA := De.InL.below (Kps.of_below hbr) ia
          have rB := rb.below (Kps.of_below hbr)
          have iB := De.InL.below (Kps.of_below hbr) ib
          obtain ⟨s, hs⟩ : ∃ s, sameDL la lb = s := ⟨_, rfl⟩
          have cAA : Hid (∀ V, Below wr.heap.size wr V → Calls Tryd.prog 17 #[.slice a la.length capa, .slice a la.length capa] V fun x w' => x = .returned (.bool true) ∧ Below wr.heap.size wr w') := Lib.hid fun V h => (sameP_any la la _ _ _ _ V (rA.below (Kps.of_below h)) (rA.below (Kps.of_below h)) (De.InL.below (Kps.of_below h) iA) (De.InL.below (Kps.of_below h) iA)).mono fun x w' h2 => ⟨by rw [h2.1, sameDL_self la], h.trans (h2.2.mono h.size)⟩
          have cAC : Hid (∀ V, Below wr.heap.size wr V → Calls Tryd.prog 17 #[.slice a la.length capa, .slice ac l'.length capc] V fun x w' => x = .returned (.bool true) ∧ Below wr.heap.size wr w') := Lib.hid fun V h => (sameP_any la l' _ _ _ _ V (rA.below (Kps.of_below h)) (rC.below (Kps.of_below h)) (De.InL.below (Kps.of_below h) iA) (De.InL.below (Kps.of_below h) iC)).mono fun x w' h2 => ⟨by rw [h2.1, (sameDL_er la l').2 her], h.trans (h2.2.mono h.size)⟩
          have cCA : Hid (∀ V, Below wr.heap.size wr V → Calls Tryd.prog 17 #[.slice ac l'.length capc, .slice a la.length capa] V fun x w' => x = .returned (.bool true) ∧ Below wr.heap.size wr w') := Lib.hid fun V h => (sameP_any l' la _ _ _ _ V (rC.below (Kps.of_below h)) (rA.below (Kps.of_below h)) (De.InL.below (Kps.of_below h) iC) (De.InL.below (Kps.of_below h) iA)).mono fun x w' h2 => ⟨by rw [h2.1, (sameDL_er l' la).2 her.symm], h.trans (h2.2.mono h.size)⟩
          have cAB : Hid (∀ V, Below wr.heap.size wr V → Calls Tryd.prog 17 #[.slice a la.length capa, .slice b lb.length capb] V fun x w' => x = .returned (.bool s) ∧ Below wr.heap.size wr w') := Lib.hid fun V h => (sameP_any la lb _ _ _ _ V (rA.below (Kps.of_below h)) (rB.below (Kps.of_below h)) (De.InL.below (Kps.of_below h) iA) (De.InL.below (Kps.of_below h) iB)).mono fun x w' h2 => ⟨by rw [h2.1, hs], h.trans (h2.2.mono h.size)⟩
          have cBA : Hid (∀ V, Below wr.heap.size wr V → Calls Tryd.prog 17 #[.slice b lb.length capb, .slice a la.length capa] V fun x w' => x = .returned (.bool s) ∧ Below wr.heap.size wr w') := Lib.hid fun V h => (sameP_any lb la _ _ _ _ V (rB.below (Kps.of_below h)) (rA.below (Kps.of_below h)) (De.InL.below (Kps.of_below h) iB) (De.InL.below (Kps.of_below h) iA)).mono fun x w' h2 => ⟨by rw [h2.1, (sameDL_symm lb la).trans hs], h.trans (h2.2.mono h.size)⟩
          have cCB : Hid (∀ V, Below wr.heap.size wr V → Calls Tryd.prog 17 #[.slice ac l'.length capc, .slice b lb.length capb] V fun x w' => x = .returned (.bool s) ∧ Below wr.heap.size wr w') := Lib.hid fun V h => (sameP_any l' lb _ _ _ _ V (rC.below (Kps.of_below h)) (rB.below (Kps.of_below h)) (De.InL.below (Kps.of_below h) iC) (De.InL.below (Kps.of_below h) iB)).mono fun x w' h2 => ⟨by rw [h2.1, (sameDL_of_er her lb).symm.trans hs], h.trans (h2.2.mono h.size)⟩
          obtain ⟨m, hm⟩ : ∃ m, mayP la = m := ⟨_, rfl⟩
          obtain ⟨d, hd⟩ : ∃ d, deepest (ptsD la) = d := ⟨_, rfl⟩
          obtain ⟨n, hn⟩ : ∃ n, ((la.length : Int) + (ptsD la).length) = n := ⟨_, rfl⟩
          have cMA : Hid (∀ V, Below wr.heap.size wr V → Calls Tryd.prog 11 #[.slice a la.length capa] V fun x w' => x = .returned (.bool m) ∧ Below wr.heap.size wr w') := Lib.hid fun V h => (mayP_any la _ _ V (rA.below (Kps.of_below h)) (De.InL.below (Kps.of_below h) iA) (by omega) (hti.out V (hbr.trans (h.mono hbr.size)))).mono fun x w' h2 => ⟨by rw [h2.1, hm], h.trans (h2.2.mono h.size)⟩
          have cDA : Hid (∀ V, Below wr.heap.size wr V → Calls Tryd.prog 13 #[.slice a la.length capa] V fun x w' => x = .returned (.int .i64 d) ∧ Below wr.heap.size wr w') := Lib.hid fun V h => (callsIn_wide.1 (depth_in 1 la _ _ V (rA.below (Kps.of_below h)) (De.InL.below (Kps.of_below h) iA) (by omega))).mono fun x w' h2 => ⟨by rw [h2.1, hd], h.trans (h2.2.mono h.size)⟩
          have cSA : Hid (∀ V, Below wr.heap.size wr V → Calls Tryd.prog 15 #[.slice a la.length capa] V fun x w' => x = .returned (.int .i64 n) ∧ Below wr.heap.size wr w') := Lib.hid fun V h => (callsIn_wide.1 (size_in 1 la _ _ V (rA.below (Kps.of_below h)) (De.InL.below (Kps.of_below h) iA) (by omega) (by omega) (by rw [ptsD_len]; omega))).mono fun x w' h2 => ⟨by rw [h2.1, hn], h.trans (h2.2.mono h.size)⟩
          have cMC : Hid (∀ V, Below wr.heap.size wr V → Calls Tryd.prog 11 #[.slice ac l'.length capc] V fun x w' => x = .returned (.bool m) ∧ Below wr.heap.size wr w') := Lib.hid fun V h => (mayP_any l' _ _ V (rC.below (Kps.of_below h)) (De.InL.below (Kps.of_below h) iC) (by omega) (hti.out V (hbr.trans (h.mono hbr.size)))).mono fun x w' h2 => ⟨by rw [h2.1, (mayP_of_er her).symm.trans hm], h.trans (h2.2.mono h.size)⟩
          have cDC : Hid (∀ V, Below wr.heap.size wr V → Calls Tryd.prog 13 #[.slice ac l'.length capc] V fun x w' => x = .returned (.int .i64 d) ∧ Below wr.heap.size wr w') := Lib.hid fun V h => (callsIn_wide.1 (depth_in 1 l' _ _ V (rC.below (Kps.of_below h)) (De.InL.below (Kps.of_below h) iC) (by omega))).mono fun x w' h2 => ⟨by rw [h2.1, (deep_of_er her).symm.trans hd], h.trans (h2.2.mono h.size)⟩
          have cSC : Hid (∀ V, Below wr.heap.size wr V → Calls Tryd.prog 15 #[.slice ac l'.length capc] V fun x w' => x = .returned (.int .i64 n) ∧ Below wr.heap.size wr w') := Lib.hid fun V h => (callsIn_wide.1 (size_in 1 l' _ _ V (rC.below (Kps.of_below h)) (De.InL.below (Kps.of_below h) iC) (by omega) (by omega) (by rw [ptsD_len]; omega))).mono fun x w' h2 => ⟨by rw [h2.1, show ((l'.length : Int) + (ptsD l').length) = n by rw [hlc, ← len_of_er her]; exact hn], h.trans (h2.2.mono h.size)⟩
          have hfin : Hid (∀ V, Below wr.heap.size wr V → Below w.heap.size w V) := Lib.hid fun V h => hbr.trans (h.mono hbr.size)
          have g0 := Below.refl wr.heap.size wr
          cases s
          case false =>
            clear hacc hlk her hsc rA iA rB iB rC iC iC' hm hd hn hs ra rb ia ib hti hbr h3 hlc sa sb
            cases m <;> skip
            all_goals
              go_wp2_with fail
              refine (cAA.out _ g0).mono ?_
              rintro x W1 ⟨rfl, g1⟩
              go_wp2_with fail
              refine (cAC.out _ g1).mono ?_
              rintro x W2 ⟨rfl, g2⟩
              clear g1
              go_wp2_with fail
              refine (cCA.out _ g2).mono ?_
              rintro x W3 ⟨rfl, g3⟩
              clear g2
              go_wp2_with fail
              refine (cAB.out _ g3).mono ?_
              rintro x W4 ⟨rfl, g4⟩
              clear g3
              go_wp2_with fail
              refine (cBA.out _ g4).mono ?_
              rintro x W5 ⟨rfl, g5⟩
              clear g4
              go_wp2_with fail
              refine (cAB.out _ g5).mono ?_
              rintro x W6 ⟨rfl, g6⟩
              clear g5
              go_wp2_with fail
              refine (cCB.out _ g6).mono ?_
              rintro x W7 ⟨rfl, g7⟩
              clear g6
              go_wp2_with fail
              refine (cAB.out _ g7).mono ?_
              rintro x W8 ⟨rfl, g8⟩
              clear g7
              go_wp2_with fail
              refine (cMA.out _ g8).mono ?_
              rintro x W9 ⟨rfl, g9⟩
              clear g8
              go_wp2_with fail
              refine (cMC.out _ g9).mono ?_
              rintro x W10 ⟨rfl, g10⟩
              clear g9
              go_wp2_with fail
              refine (cDA.out _ g10).mono ?_
              rintro x W11 ⟨rfl, g11⟩
              clear g10
              go_wp2_with fail
              refine (cDC.out _ g11).mono ?_
              rintro x W12 ⟨rfl, g12⟩
              clear g11
              go_wp2_with fail
              refine (cSA.out _ g12).mono ?_
              rintro x W13 ⟨rfl, g13⟩
              clear g12
              go_wp2_with fail
              refine (cSC.out _ g13).mono ?_
              rintro x W14 ⟨rfl, g14⟩
              clear g13
              go_wp2_with fail
              go_ret
              exact ⟨rfl, hfin.out _ g14⟩
          case true =>
            have heb := (sameDL_er la lb).1 hs
            have hlb : lb.length = la.length := (sameDL_len _ _ hs).symm
            have cMB : Hid (∀ V, Below wr.heap.size wr V → Calls Tryd.prog 11 #[.slice b lb.length capb] V fun x w' => x = .returned (.bool m) ∧ Below wr.heap.size wr w') := Lib.hid fun V h => (mayP_any lb _ _ V (rB.below (Kps.of_below h)) (De.InL.below (Kps.of_below h) iB) (by omega) (hti.out V (hbr.trans (h.mono hbr.size)))).mono fun x w' h2 => ⟨by rw [h2.1, (mayP_of_er heb).symm.trans hm], h.trans (h2.2.mono h.size)⟩
            have cDB : Hid (∀ V, Below wr.heap.size wr V → Calls Tryd.prog 13 #[.slice b lb.length capb] V fun x w' => x = .returned (.int .i64 d) ∧ Below wr.heap.size wr w') := Lib.hid fun V h => (callsIn_wide.1 (depth_in 1 lb _ _ V (rB.below (Kps.of_below h)) (De.InL.below (Kps.of_below h) iB) (by omega))).mono fun x w' h2 => ⟨by rw [h2.1, (deep_of_er heb).symm.trans hd], h.trans (h2.2.mono h.size)⟩
            have cSB : Hid (∀ V, Below wr.heap.size wr V → Calls Tryd.prog 15 #[.slice b lb.length capb] V fun x w' => x = .returned (.int .i64 n) ∧ Below wr.heap.size wr w') := Lib.hid fun V h => (callsIn_wide.1 (size_in 1 lb _ _ V (rB.below (Kps.of_below h)) (De.InL.below (Kps.of_below h) iB) (by omega) (by omega) (by rw [ptsD_len]; omega))).mono fun x w' h2 => ⟨by rw [h2.1, show ((lb.length : Int) + (ptsD lb).length) = n by rw [hlb, ← len_of_er heb]; exact hn], h.trans (h2.2.mono h.size)⟩
            clear heb hlb hacc hlk her hsc rA iA rB iB rC iC iC' hm hd hn hs ra rb ia ib hti hbr h3 hlc sa sb
            cases m <;> skip
            all_goals
              go_wp2_with fail
              refine (cAA.out _ g0).mono ?_
              rintro x W1 ⟨rfl, g1⟩
              go_wp2_with fail
              refine (cAC.out _ g1).mono ?_
              rintro x W2 ⟨rfl, g2⟩
              clear g1
              go_wp2_with fail
              refine (cCA.out _ g2).mono ?_
              rintro x W3 ⟨rfl, g3⟩
              clear g2
              go_wp2_with fail
              refine (cAB.out _ g3).mono ?_
              rintro x W4 ⟨rfl, g4⟩
              clear g3
              go_wp2_with fail
              refine (cBA.out _ g4).mono ?_
              rintro x W5 ⟨rfl, g5⟩
              clear g4
              go_wp2_with fail
              refine (cAB.out _ g5).mono ?_
              rintro x W6 ⟨rfl, g6⟩
              clear g5
              go_wp2_with fail
              refine (cCB.out _ g6).mono ?_
              rintro x W7 ⟨rfl, g7⟩
              clear g6
              go_wp2_with fail
              refine (cAB.out _ g7).mono ?_
              rintro x W8 ⟨rfl, g8⟩
              clear g7
              go_wp2_with fail
              refine (cMA.out _ g8).mono ?_
              rintro x W9 ⟨rfl, g9⟩
              clear g8
              go_wp2_with fail
              refine (cMB.out _ g9).mono ?_
              rintro x W10 ⟨rfl, g10⟩
              clear g9
              go_wp2_with fail
              refine (cDA.out _ g10).mono ?_
              rintro x W11 ⟨rfl, g11⟩
              clear g10
              go_wp2_with fail
              refine (cDB.out _ g11).mono ?_
              rintro x W12 ⟨rfl, g12⟩
              clear g11
              go_wp2_with fail
              refine (cSA.out _ g12).mono ?_
              rintro x W13 ⟨rfl, g13⟩
              clear g12
              go_wp2_with fail
              refine (cSB.out _ g13).mono ?_
              rintro x W14 ⟨rfl, g14⟩
              clear g13
              go_wp2_with fail
              refine (cMA.out _ g14).mono ?_
              rintro x W15 ⟨rfl, g15⟩
              clear g14
              go_wp2_with fail
              refine (cMC.out _ g15).mono ?_
              rintro x W16 ⟨rfl, g16⟩
              clear g15
              go_wp2_with fail
              refine (cDA.out _ g16).mono ?_
              rintro x W17 ⟨rfl, g17⟩
              clear g16
              go_wp2_with fail
              refine (cDC.out _ g17).mono ?_
              rintro x W18 ⟨rfl, g18⟩
              clear g17
              go_wp2_with fail
              refine (cSA.out _ g18).mono ?_
              rintro x W19 ⟨rfl, g19⟩
              clear g18
              go_wp2_with fail
              refine (cSC.out _ g19).mono ?_
              rintro x W20 ⟨rfl, g20⟩
              clear g19
              go_wp2_with fail
              go_ret
              exact ⟨rfl, hfin.out _ g20⟩
end Go.Proofs.YtepbkgljkhogaaaDoor.Tr
