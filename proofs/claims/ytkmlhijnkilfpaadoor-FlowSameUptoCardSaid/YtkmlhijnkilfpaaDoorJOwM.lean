/- Walk of reached. Conditions: the blocks lie in memory, each goes to blocks, each list of where one goes to lies in a row of its own. -/
import Derived.Test.YtkmlhijnkilfpaaDoorJOe
set_option linter.unusedVariables false
set_option linter.unusedSimpArgs false
namespace Go.Proofs.YtkmlhijnkilfpaaDoor.Fw
open Go Go.RowKit
open Go.Proofs.YtkmlhijnkilfpaaDoor.Lx Go.Proofs.YtkmlhijnkilfpaaDoor.Tr Go.Proofs.YtkmlhijnkilfpaaDoor.Cd

set_option maxHeartbeats 8000000 in
set_option maxRecDepth 100000 in
theorem reached_c (g B0 : Nat) (bs : List Bk) (w : World) (hrow : RowAt w Tt (some ⟨g, 0, none⟩) bs.length bs.length (bkCells bs)) (htos : TtI B0 bs (oldTo bs) w) (hto : ∀ b ∈ bs, ∀ t ∈ b.tt, 0 ≤ t ∧ t < (bs.length : Int)) (hn1 : 0 < bs.length) (hn : bs.length ≤ 65537) :
    Calls Tryd.prog 61 #[.slice (some ⟨g, 0, none⟩) bs.length bs.length] w fun e w' => ∃ v, e = .returned v ∧ w'.ownsRow w.heap.size 42 4 v (pickF (metF bs) 0 bs).length (bkCells (pickF (metF bs) 0 bs)) ∧ TtI B0 (pickF (metF bs) 0 bs) (newTo (metF bs) bs.length (pickF (metF bs) 0 bs)) w' ∧ Frm bs w w' := by
  obtain ⟨hc1, hc2⟩ := len_i hrow
  have hmk := make_bb bs.length (by omega) (w.alloc (.cells #[.slice (some ⟨g, 0, none⟩) bs.length bs.length] 35))
  go_enter Tryd.func61, Tryd.ntmps61
  go_upto_region 3 with fail
  obtain ⟨s1, s2, s3, s4, s5, s6, s7⟩ := rc_start w g bs.length
  generalize hW3 : (((w.alloc (.cells #[.slice (some ⟨g, 0, none⟩) bs.length bs.length] 35)).alloc (.cells (Array.replicate bs.length (Value.bool false)) 4)).alloc (.cells #[.slice (some ⟨w.heap.size + 1, 0, none⟩) bs.length bs.length] 110)).alloc (.cells #[Value.nilFunc] 121) = W3 at *
  unfold rcW at s1 s2 s3 s4 s5 s6 s7
  rw [hW3] at s1 s2 s3 s4 s5 s6 s7
  clear hW3 hmk
  have hl3 : w.heap.size + 1 + 1 + 1 < W3.heap.size := by omega
  have hG4 := grown_set W3 (w.heap.size + 1 + 1 + 1) 0 (.func (.func 97) #[] #[.pointer (some ⟨w.heap.size + 1 + 1, 0, none⟩), .pointer (some ⟨w.heap.size, 0, none⟩), .pointer (some ⟨w.heap.size + 1 + 1 + 1, 0, none⟩)])
  have hB4 := Lib.hid (s7.grown hG4 s7.size (fun k e => by cases e; omega))
  have c1 := cell_grown hG4 (by omega) s3
  have c2 := cell_grown hG4 (by omega) s1
  have c3 := World.cell?_setCell_same W3 _ (.func (.func 97) #[] #[.pointer (some ⟨w.heap.size + 1 + 1, 0, none⟩), .pointer (some ⟨w.heap.size, 0, none⟩), .pointer (some ⟨w.heap.size + 1 + 1 + 1, 0, none⟩)]) s4
  have hM4 : Hid (MkB (w.heap.size + 1) bs.length (fun _ => false) (W3.setCell ⟨w.heap.size + 1 + 1 + 1, 0, none⟩ (.func (.func 97) #[] #[.pointer (some ⟨w.heap.size + 1 + 1, 0, none⟩), .pointer (some ⟨w.heap.size, 0, none⟩), .pointer (some ⟨w.heap.size + 1 + 1 + 1, 0, none⟩)]))) := Lib.hid (s2.grown hG4 (fun e => by injection e with e; omega))
  clear hG4
  go_upto_region 4 with fail
  generalize hW4 : W3.setCell ⟨w.heap.size + 1 + 1 + 1, 0, none⟩ (.func (.func 97) #[] #[.pointer (some ⟨w.heap.size + 1 + 1, 0, none⟩), .pointer (some ⟨w.heap.size, 0, none⟩), .pointer (some ⟨w.heap.size + 1 + 1 + 1, 0, none⟩)]) = W4 at *
  clear hW4 s1 s2 s3 s4 s5 s6 s7 hl3
  have hRc := rc_made (gm := w.heap.size + 1) hrow htos hB4.out (by omega) (by omega) c1 c2 c3
  have hcome := Lib.hid (come_c _ _ _ _ _ bs hto bs.length (fun _ => false) 0 W4 hRc hM4.out (unmet_all _ _) hn1)
  replace hRc := Lib.hid hRc
  go_wp2_with fail
  refine hcome.out.mono ?_
  rintro e W5 ⟨rfl, hg5, hM5⟩
  have hR5 := Lib.hid (hRc.out.grown hg5)
  have hb5 := Lib.hid (hB4.out.grown hg5 hB4.out.size (fun k e => by cases e; omega))
  replace hM5 : MkB (w.heap.size + 1) bs.length (metF bs) W5 := hM5
  replace hM5 := Lib.hid hM5
  have hrow5 := Lib.hid (fun V (hv : Below W5.heap.size W5 V) => hrow.below (Kps.of_below (hb5.out.trans (hv.mono hb5.out.size))))
  have hmk := make_in bs.length (by omega) W5
  have hN0 := Lib.hid (InB.start W5 bs.length)
  have hB5 := Lib.hid (b_alloc W5 (.cells (Array.replicate bs.length (.int .i64 0)) 3))
  have hMk := Lib.hid (fun V (hv : Below W5.heap.size W5 V) => hM5.out.keep hv)
  have hc1k := Lib.hid (fun V (hv : Below W5.heap.size W5 V) => below_in hv hR5.out.c1)
  have hc2k := Lib.hid (fun V (hv : Below W5.heap.size W5 V) => below_in hv hR5.out.c2)
  have c1' := hR5.out.c1
  have c2' := hR5.out.c2
  have hlw5 : w.heap.size < W5.heap.size := World.block_lt_of_cell? _ _ c2'
  obtain ⟨i0, hi0, hz0, hz1, hz2⟩ := info_bk4
  have hp0 : Hid (pickF (metF bs) 0 (bs.take 0) = []) := Lib.hid (by simp [pickF])
  have hnu0 : Hid (∀ b, nuF (metF bs) 0 b = 0) := Lib.hid (fun b => by unfold nuF; rw [if_neg (by omega)])
  generalize hmet : metF bs = met at *
  clear hcome hM4 hB4 hRc c1 c2 c3 hg5
  go_wp2_with fail
  go_loopw [6, 24] (fun v i wr => ∃ k : Nat, k ≤ bs.length ∧ i = .int .i64 k ∧ Hid (wr.ownsRow (W5.heap.size + 1) 42 4 v (pickF met 0 (bs.take k)).length (bkCells (pickF met 0 (bs.take k)))) ∧ Hid (InB W5.heap.size bs.length (nuF met k) wr) ∧ Hid (Below W5.heap.size W5 wr) ∧ Hid (W5.heap.size + 1 ≤ wr.heap.size)) (fun _ i _ => bs.length - (intOf i).toNat)
  case atStart => exact ⟨0, Nat.zero_le _, rfl, Lib.hid (by rw [hp0.out]; exact World.ownsRow_nil _ _ _ _), Lib.hid (hN0.out.cong fun b _ => (hnu0.out b).symm), hB5, Lib.hid (by simp)⟩
  case round =>
    obtain ⟨k, hk, rfl, hown, hN, hb, hBS⟩ := hrel
    by_cases hlt : k < bs.length
    · obtain ⟨x, hx⟩ : ∃ x, bs[k]? = some x := ⟨_, List.getElem?_eq_getElem hlt⟩
      obtain ⟨b', off', ha', _, d0, d1, d2, d3⟩ := bk_row (hrow5.out _ hb.out) k x hx
      cases ha'
      simp only [Nat.zero_add] at d0 d1 d2 d3
      have hgl : g < wr.heap.size := World.block_lt_of_cell? _ _ d0
      have e1 := hc1k.out _ hb.out
      have e1l := World.block_lt_of_cell? _ _ e1
      have hMw := hMk.out _ hb.out
      obtain ⟨t1, t2⟩ := hMw.get hlt
      have hMl := hMw.lt
      obtain ⟨n1, n2⟩ := hN.out.get hlt
      have hNl := hN.out.lt
      obtain ⟨va, vcap, rfl, hv1, hv2⟩ := own_shape hown.out
      have hpl : Hid ((pickF met 0 (bs.take k)).length = numM met k) := Lib.hid (pick_len met bs k hk)
      have hpl2 : (pickF met 0 (bs.take k)).length ≤ 65537 := by rw [hpl.out]; have := numM_le_self met k; omega
      have hi0' : (0 : Int) ≤ (k : Int) := by omega
      have hi1 : (k : Int) < (bs.length : Int) := by omega
      have hpt := Lib.hid (pick_take (f := met) hx)
      have hbe := Lib.hid (b_alloc wr (.cells #[.slice x.pa x.phis.length x.pcap, .slice x.ca x.code.length x.ccap, .slice x.fa x.fm.length x.fcap, .slice x.ta x.tt.length x.tcap] 42))
      have hq := Lib.hid (box4 wr x)
      have hb1 := Lib.hid (hb.out.trans (hbe.out.mono hb.out.size))
      have hN1 := Lib.hid (hN.out.keep hbe.out)
      have hown1 := Lib.hid (own_below hown.out hbe.out)
      clear hx hMw hown hN hb
      generalize pickF met 0 (bs.take k) = P at *
      cases hmk' : met k
      · rw [hmk'] at t1
        rw [hmk', if_neg (by simp), List.append_nil] at hpt
        have hN2 := Lib.hid (hN1.out.cong (f' := nuF met (k + 1)) fun b _ => (nu_no hmk' b).symm)
        have hBS2 := Lib.hid (Nat.le_trans hBS.out hbe.out.size)
        clear hpl hpl2 hmk' hN1 hq hbe hBS
        go_wp2_with fail
        go_roundw
        case rel => exact ⟨k + 1, by omega, by go_num, Lib.hid (by rw [hpt.out]; exact hown1.out), hN2, hb1, hBS2⟩
        case measure => simp [intOf]; omega
      · rw [hmk'] at t1
        rw [hmk', if_pos rfl] at hpt
        have hN2 := Lib.hid (hN1.out.set hlt (P.length : Int) (nuF met (k + 1)) (fun b _ => by rw [nu_yes hmk' b, hpl.out]))
        have hb2 := Lib.hid (hb1.out.setCell (p := ⟨W5.heap.size, k, none⟩) (Nat.le_refl _) (.int .i64 (P.length : Int)))
        have hown2 := Lib.hid (ownsRow_setCell_other hown1.out (a := ⟨W5.heap.size, k, none⟩) (show _ ≠ some W5.heap.size from own_apart hown1.out (Nat.lt_succ_self _)) (.int .i64 (P.length : Int)))
        have hx2 : Hid (∀ V, RowAt V Tt (some ⟨wr.heap.size, 0, none⟩) 1 1 x.vals → True) := Lib.hid (fun _ _ => trivial)
        clear hN1 hown1 hb1 hpl hmk'
        go_upto_region 12 with fail
        have hbx6 : Hid (((wr.alloc (.cells #[.slice x.pa x.phis.length x.pcap, .slice x.ca x.code.length x.ccap, .slice x.fa x.fm.length x.fcap, .slice x.ta x.tt.length x.tcap] 42)).setCell ⟨W5.heap.size, k, none⟩ (.int .i64 (P.length : Int))).cell? ⟨wr.heap.size, 0, none⟩ = some (.slice x.pa x.phis.length x.pcap) ∧ ((wr.alloc (.cells #[.slice x.pa x.phis.length x.pcap, .slice x.ca x.code.length x.ccap, .slice x.fa x.fm.length x.fcap, .slice x.ta x.tt.length x.tcap] 42)).setCell ⟨W5.heap.size, k, none⟩ (.int .i64 (P.length : Int))).cell? ⟨wr.heap.size, 1, none⟩ = some (.slice x.ca x.code.length x.ccap) ∧ ((wr.alloc (.cells #[.slice x.pa x.phis.length x.pcap, .slice x.ca x.code.length x.ccap, .slice x.fa x.fm.length x.fcap, .slice x.ta x.tt.length x.tcap] 42)).setCell ⟨W5.heap.size, k, none⟩ (.int .i64 (P.length : Int))).cell? ⟨wr.heap.size, 2, none⟩ = some (.slice x.fa x.fm.length x.fcap) ∧ ((wr.alloc (.cells #[.slice x.pa x.phis.length x.pcap, .slice x.ca x.code.length x.ccap, .slice x.fa x.fm.length x.fcap, .slice x.ta x.tt.length x.tcap] 42)).setCell ⟨W5.heap.size, k, none⟩ (.int .i64 (P.length : Int))).cell? ⟨wr.heap.size, 3, none⟩ = some (.slice x.ta x.tt.length x.tcap)) := Lib.hid (by
          obtain ⟨q0, q1, q2, q3⟩ := hq.out
          have hgr := grown_set (wr.alloc (.cells #[.slice x.pa x.phis.length x.pcap, .slice x.ca x.code.length x.ccap, .slice x.fa x.fm.length x.fcap, .slice x.ta x.tt.length x.tcap] 42)) W5.heap.size k (.int .i64 (P.length : Int))
          have hne : wr.heap.size ≠ W5.heap.size := by omega
          exact ⟨cell_grown hgr hne q0, cell_grown hgr hne q1, cell_grown hgr hne q2, cell_grown hgr hne q3⟩)
        have hBS2 : Hid (W5.heap.size + 1 ≤ ((wr.alloc (.cells #[.slice x.pa x.phis.length x.pcap, .slice x.ca x.code.length x.ccap, .slice x.fa x.fm.length x.fcap, .slice x.ta x.tt.length x.tcap] 42)).setCell ⟨W5.heap.size, k, none⟩ (.int .i64 (P.length : Int))).heap.size) := Lib.hid (by have := hBS.out; simp [World.setCell]; omega)
        rw [World.setCell_alloc_past (w := wr) (.cells #[.slice x.pa x.phis.length x.pcap, .slice x.ca x.code.length x.ccap, .slice x.fa x.fm.length x.fcap, .slice x.ta x.tt.length x.tcap] 42) _ _ _ hNl] at hbx6 hBS2 hN2 hb2 hown2
        generalize hW6 : (wr.setCell ⟨W5.heap.size, k, none⟩ (.int .i64 (P.length : Int))).alloc (.cells #[.slice x.pa x.phis.length x.pcap, .slice x.ca x.code.length x.ccap, .slice x.fa x.fm.length x.fcap, .slice x.ta x.tt.length x.tcap] 42) = W6 at *
        clear hW6 hq hbe hx2 d0 d1 d2 d3 e1 t1 t2 n1 n2
        obtain ⟨q0, q1, q2, q3⟩ := hbx6.out
        have hq6 := World.block_lt_of_cell? _ _ q0
        clear hbx6
        go_wp2_with (at_builtin; refine wpList_append_own_at _ rfl _ _ 35 rfl (W5.heap.size + 1) 42 i0 _ 4 96 Tryd.underlying35 hi0 hz0 hz1 hz2 rfl (by decide) _ _ _ rfl (own_below hown2.out (b_alloc _ _)) _ 1 1 [.slice x.pa x.phis.length x.pcap, .slice x.ca x.code.length x.ccap, .slice x.fa x.fm.length x.fcap, .slice x.ta x.tt.length x.tcap] rfl rfl (news_at _ _ _ _ (by first | rfl | simp)) (bk_one x) ?c1 ?c2 ?c3 ?_)
        case c1 => unfold maxLen; omega
        case c2 => omega
        case c3 => have := hBS2.out; simp; omega
        intro v' w3 hown3 hg3 _ _
        have hown4 : Hid (w3.ownsRow (W5.heap.size + 1) 42 4 v' (pickF met 0 (bs.take (k + 1))).length (bkCells (pickF met 0 (bs.take (k + 1))))) := Lib.hid (by
          rw [hpt.out, List.length_append]
          have he : bkCells (P ++ [x]) = bkCells P ++ [.slice x.pa x.phis.length x.pcap, .slice x.ca x.code.length x.ccap, .slice x.fa x.fm.length x.fcap, .slice x.ta x.tt.length x.tcap] := by unfold bkCells; simp [Bk.vals]
          rw [he]; exact hown3)
        have hN4 := Lib.hid ((hN2.out.keep (b_alloc _ _)).grown hg3 (own_apart hown2.out (Nat.lt_succ_self _)))
        have hb4 : Hid (Below W5.heap.size W5 w3) := Lib.hid ((hb2.out.alloc hb2.out.size _).grown hg3 (by have := hb2.out.size; simp; omega) (fun q e => by have := (hown2.out.lt q e).1; omega))
        have hBS4 : Hid (W5.heap.size + 1 ≤ w3.heap.size) := Lib.hid (by have := hg3.size; have := hBS2.out; simp at *; omega)
        clear hown3 hg3 hown2 hN2 hb2 hpt hBS hBS2
        go_wp2_with fail
        go_roundw
        case rel => exact ⟨k + 1, by omega, by go_num, hown4, hN4, hb4, hBS4⟩
        case measure => simp [intOf]; omega
    · have hk2 : k = bs.length := by omega
      subst hk2
      rw [List.take_length] at hown
      obtain ⟨P, hP⟩ : ∃ P, pickF met 0 bs = P := ⟨_, rfl⟩
      have hPm : Hid (∀ (i : Nat) (x : Bk), P[i]? = some x → x ∈ bs) := Lib.hid (fun i x h => by rw [← hP] at h; exact pick_mem h)
      have htW : Hid (TtI B0 P (oldTo P) wr) := Lib.hid (by rw [← hP]; exact (htos.keep (hb5.out.trans (hb.out.mono hb5.out.size))).pick met)
      rw [hP] at hown
      have hPl : P.length ≤ 65537 := by rw [← hP]; have := pick_len met bs bs.length (Nat.le_refl _); rw [List.take_length] at this; rw [this]; have := numM_le_self met bs.length; omega
      obtain ⟨va, vcap, rfl, hro⟩ := own_rowB hown.out
      obtain ⟨hv1, hv2⟩ := len_i hro
      have hTl : Hid (∀ x ∈ bs, ∀ q, (toV x).ownBlock = some q → q < w.heap.size) := Lib.hid (fun x hx q hq => by
        obtain ⟨i, hi⟩ := List.mem_iff_getElem?.1 hx
        exact ((htos.rows i x hi).lt q hq).2)
      have hroK := Lib.hid (fun V (hv : Frm bs wr V) => (hro.mono (S' := fun b => ∀ x ∈ bs, (toV x).ownBlock ≠ some b) (fun b hb x hx e => by have := hTl.out x hx b e; omega)).below hv.kps)
      have hnK := Lib.hid (fun V (hv : Frm bs wr V) b (h : b < bs.length) => hv.kps W5.heap.size b _ (fun x hx e => by have := hTl.out x hx _ e; omega) (hN.out.get h).1)
      have hNlt := hN.out.lt
      clear hMk hc1k hc2k hrow5 hp0 hnu0 hmk hN0 hB5 hM5 hR5 c1' c2' hro
      go_wp2_with fail
      go_loopw [45] (fun i wq => ∃ k : Nat, k ≤ P.length ∧ i = .int .i64 k ∧ Hid (TtI B0 P (fun i => if i < k then newTo met bs.length P i else oldTo P i) wq) ∧ Hid (Frm bs wr wq)) (fun i _ => P.length - (intOf i).toNat)
      case atStart => exact ⟨0, Nat.zero_le _, rfl, Lib.hid (htW.out.cong fun i _ => by simp), Lib.hid (Frm.of_below (Below.refl _ _))⟩
      case round =>
        obtain ⟨k, hk, rfl, hT, hF⟩ := hrel
        by_cases hlt : k < P.length
        · obtain ⟨x, hx⟩ : ∃ x, P[k]? = some x := ⟨_, List.getElem?_eq_getElem hlt⟩
          have hxm := hPm.out k x hx
          obtain ⟨b', off', ha', _, d0, d1, d2, d3⟩ := bk_row (hroK.out _ hF.out) k x hx
          have hbl : b' < wr.heap.size := World.block_lt_of_cell? _ _ d0
          have hi0' : (0 : Int) ≤ (k : Int) := by omega
          have hi1 : (k : Int) < (P.length : Int) := by omega
          have hbe := Lib.hid (b_alloc wr (.cells #[.slice x.pa x.phis.length x.pcap, .slice x.ca x.code.length x.ccap, .slice x.fa x.fm.length x.fcap, .slice x.ta x.tt.length x.tcap] 42))
          have hq := box4 wr x
          obtain ⟨q0, q1, q2, q3⟩ := hq
          have hF1 := Lib.hid (hF.out.trans (Frm.of_below hbe.out))
          have hT1 := Lib.hid ((hT.out.keep hbe.out).cong (F' := midTo met bs.length P k 0) fun i _ => mid_zero i)
          have hlw6 : w.heap.size ≤ wr.heap.size := Nat.le_trans hb5.out.size (Nat.le_trans hb.out.size hF.out.size)
          obtain ⟨xa, xcap, exa, hl1, hl2⟩ := own_shape (hT.out.rows k x hx)
          have hl1' : x.tt.length ≤ x.tcap ∧ x.tcap ≤ 9223372036854775807 := by
            injection exa with e1 e2 e3
            rw [e3]; exact ⟨hl1, hl2⟩
          obtain ⟨hm1, hm2⟩ := hl1'
          have hme := Lib.hid (fun i => mid_end (f := met) (n := bs.length) hx i)
          have htx := Lib.hid (hto x hxm)
          rw [ha']
          clear hT hF exa hl1 hl2
          go_upto_region 17 with fail
          generalize hW7 : wr.alloc (.cells #[.slice x.pa x.phis.length x.pcap, .slice x.ca x.code.length x.ccap, .slice x.fa x.fm.length x.fcap, .slice x.ta x.tt.length x.tcap] 42) = W7 at *
          have hl7 : wr.heap.size < W7.heap.size := World.block_lt_of_cell? _ _ q0
          clear hW7 d0 d1 d2 d3 q0 q1 q2
          have hbxK := Lib.hid (fun V (hv : Frm bs W7 V) => hv.kps wr.heap.size 3 _ (fun x hx e => by have := hTl.out x hx _ e; omega) q3)
          have hnK7 := Lib.hid (fun V (hv : Frm bs W7 V) b h => hnK.out V (hF1.out.trans hv) b h)
          generalize wr.heap.size = bx at *
          have hget := Lib.hid (fun V j (m : Nat) (hT : TtI B0 P (midTo met bs.length P k j) V) (hy : x.tt[j]? = some (m : Int)) => (⟨hT.get hx (mid_get hx hy).1, fun q hq => (hT.set (nuF met bs.length m) hx hq (mid_get hx hy).2).cong fun i _ => mid_set hx hy i⟩ : (∃ q, x.ta = some ⟨q, 0, none⟩ ∧ V.cell? ⟨q, j, none⟩ = some (.int .i64 (m : Int)) ∧ V.frozen? ⟨q, j, none⟩ = false ∧ B0 ≤ q ∧ q < V.heap.size ∧ (midTo met bs.length P k j k).length = x.tt.length) ∧ ∀ q, x.ta = some ⟨q, 0, none⟩ → TtI B0 P (midTo met bs.length P k (j + 1)) (V.setCell ⟨q, j, none⟩ (.int .i64 (nuF met bs.length m)))))
          have hset := Lib.hid (fun V q j v (hF : Frm bs W7 V) (hq : x.ta = some ⟨q, 0, none⟩) => hF.set (j := j) hxm (q := q) (by unfold toV; rw [hq]; rfl) v)
          generalize x.ta = xta at *
          go_wp2_with fail
          go_loopw [52] (fun i wq => ∃ j : Nat, j ≤ x.tt.length ∧ i = .int .i64 j ∧ Hid (TtI B0 P (midTo met bs.length P k j) wq) ∧ Hid (Frm bs W7 wq)) (fun i _ => x.tt.length - (intOf i).toNat)
          case atStart => exact ⟨0, Nat.zero_le _, rfl, hT1, Lib.hid (Frm.of_below (Below.refl _ _))⟩
          case round =>
            obtain ⟨j, hj, rfl, hTj, hFj⟩ := hrel
            by_cases hjt : j < x.tt.length
            · obtain ⟨y, hy⟩ : ∃ y, x.tt[j]? = some y := ⟨_, List.getElem?_eq_getElem hjt⟩
              have hyr := htx.out y (List.mem_of_getElem? hy)
              obtain ⟨m, rfl⟩ : ∃ m : Nat, y = m := ⟨y.toNat, by omega⟩
              obtain ⟨⟨q, hqa, t1, t2, hB, hql, _⟩, hTs⟩ := hget.out wr j m hTj.out hy
              have hT2 := Lib.hid (hTs q hqa)
              have hF2 := Lib.hid (hset.out wr q j (.int .i64 (nuF met bs.length m)) hFj.out hqa)
              have e3 := hbxK.out wr hFj.out
              have n5 := hnK7.out wr hFj.out m (by omega)
              have hj0 : (0 : Int) ≤ (j : Int) := by omega
              have hj1 : (j : Int) < (x.tt.length : Int) := by omega
              have hm0 : (0 : Int) ≤ (m : Int) := by omega
              have hmn : (m : Int) < (bs.length : Int) := by omega
              subst hqa
              clear hTs hget hset hbxK hnK7 hyr hy hTj hFj
              go_upto_region 20 with fail
              go_region
              go_wp2_with fail
              go_roundw
              case rel => exact ⟨j + 1, by omega, by go_num, Lib.hid (hT2.out.keep ((Below.refl _ _).drew)), Lib.hid (hF2.out.trans (Frm.of_below ((Below.refl _ _).drew)))⟩
              case measure => simp [intOf]; omega
            · have hj2 : j = x.tt.length := by omega
              subst hj2
              have hT2 := Lib.hid (hTj.out.cong (F' := fun i => if i < k + 1 then newTo met bs.length P i else oldTo P i) fun i _ => hme.out i)
              have hF2 := Lib.hid (hF1.out.trans hFj.out)
              clear hTj hFj hget hset hbxK hnK7
              go_wp2_with fail
              go_roundw
              case rel => exact ⟨k + 1, by omega, by go_num, hT2, hF2⟩
              case measure => simp [intOf]; omega
        · have hk2 : k = P.length := by omega
          subst hk2
          go_wp2_with fail
          go_ret
          rw [hmet, hP]
          exact ⟨_, rfl, own_mono (own_frm hown.out hF.out (fun x hx q hq => by have := hTl.out x hx q hq; omega)) (by omega), hT.out.cong fun i hi => by rw [if_pos hi], (Frm.of_below (hb5.out.trans (hb.out.mono hb5.out.size))).trans hF.out⟩
end Go.Proofs.YtkmlhijnkilfpaaDoor.Fw
