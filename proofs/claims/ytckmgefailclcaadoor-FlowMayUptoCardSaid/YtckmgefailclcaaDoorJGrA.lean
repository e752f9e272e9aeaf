/- Walks of the document's last, ends, has, ints, within, Froms. Conditions: the lists lie in memory. -/
import Derived.Test.YtckmgefailclcaaDoorJaK
import Derived.BigQuiet
import Derived.Deep.QuietTactic
namespace Go.Proofs.YtckmgefailclcaaDoor.Fw
open Go Go.RowKit
open Go.Proofs.YtckmgefailclcaaDoor.Lx Go.Proofs.YtckmgefailclcaaDoor.Tr Go.Proofs.YtckmgefailclcaaDoor.Cd

set_option maxHeartbeats 800000 in
theorem rends_c (op : Int) (w : World) : Calls Tryd.prog 74 #[.int .u8 op] w fun e w' => e = .returned (.bool (opEnds op)) ∧ Below w.heap.size w w' := by
  by_cases h : ¬ op = 11 ∧ ¬ op = 12 ∧ ¬ op = 13
  · obtain ⟨h1, h2, h3⟩ := h
    have he : opEnds op = false := by simp [opEnds, h1, h2, h3]
    rw [he]
    have e1 := ne_b h1
    have e2 := ne_b h2
    have e3 := ne_b h3
    clear h1 h2 h3 he
    go_enter Tryd.func74, Tryd.ntmps74
    go_wp2_with fail
    go_ret
    exact ⟨rfl, Below.refl _ _⟩
  · have h' : op = 11 ∨ op = 12 ∨ op = 13 := by omega
    rcases h' with rfl | rfl | rfl
    · go_enter Tryd.func74, Tryd.ntmps74
      go_wp2_with fail
      go_ret
      exact ⟨rfl, Below.refl _ _⟩
    · go_enter Tryd.func74, Tryd.ntmps74
      go_wp2_with fail
      go_ret
      exact ⟨rfl, Below.refl _ _⟩
    · go_enter Tryd.func74, Tryd.ntmps74
      go_wp2_with fail
      go_ret
      exact ⟨rfl, Below.refl _ _⟩
set_option maxHeartbeats 2000000 in
set_option maxRecDepth 100000 in
theorem rlast_c (b : Bk) (w : World) (hrow : RowAt w Tt b.ca b.ccap b.code.length (inCells b.code)) :
    Calls Tryd.prog 75 #[.agg #[.slice b.pa b.phis.length b.pcap, .slice b.ca b.code.length b.ccap, .slice b.fa b.fm.length b.fcap, .slice b.ta b.tt.length b.tcap]] w fun e w' => e = .returned (.int .u8 (lastOp b.code)) ∧ Below w.heap.size w w' := by
  obtain ⟨hc1, hc2⟩ := len_i hrow
  obtain ⟨pa, pcap, phis, ca, ccap, code, fa, fcap, fm, ta, tcap, tt⟩ := b
  simp only at *
  by_cases hl : code.length = 0
  · have : code = [] := List.eq_nil_of_length_eq_zero hl
    subst this
    go_enter Tryd.func75, Tryd.ntmps75
    go_wp2_with fail
    go_ret
    exact ⟨rfl, b_alloc _ _⟩
  · obtain ⟨y, hy⟩ : ∃ y, code[code.length - 1]? = some y := ⟨_, List.getElem?_eq_getElem (by omega)⟩
    obtain ⟨b, off, ha, _, c0, c1, c2, c3, c4, c5⟩ := in_row hrow _ y hy
    have hbl : b < w.heap.size := World.block_lt_of_cell? _ _ c0
    have hl1 : (0 : Int) ≤ (code.length : Int) - 1 := by omega
    have hl2 : (code.length : Int) - 1 < (code.length : Int) := by omega
    have hl3 : ((code.length : Int) - 1).toNat = code.length - 1 := by omega
    have hl4 : ((code.length : Int) == 0) = false := ne_b (by omega)
    have hlo : lastOp code = y.op := by rw [← lastI_op, lastI_at hy]
    rw [hlo]
    subst ha
    clear hy hrow hlo
    go_enter Tryd.func75, Tryd.ntmps75
    go_wp2_with fail
    go_ret
    exact ⟨rfl, b_alloc _ _⟩
set_option maxHeartbeats 2000000 in
set_option maxRecDepth 100000 in
theorem rhas_c (l : List Int) (n : Int) (a : Option Addr) (cap : Nat) (w : World) (hrow : RowAt w Tt a cap l.length (numCells l)) :
    Calls Tryd.prog 77 #[.slice a l.length cap, .int .i64 n] w fun e w' => e = .returned (.bool (l.contains n)) ∧ Below w.heap.size w w' := by
  obtain ⟨hc1, hc2⟩ := len_i hrow
  have hany : Hid (l.contains n = l.any fun x => decide (x = n)) := Lib.hid (by rw [Bool.eq_iff_iff]; simp)
  rw [hany.out]
  clear hany
  go_enter Tryd.func77, Tryd.ntmps77
  go_wp2_with fail
  go_loopw [5] (fun i wr => ∃ k : Nat, k ≤ l.length ∧ i = .int .i64 k ∧ Hid ((l.take k).any (fun x => decide (x = n)) = false) ∧ Hid (Below w.heap.size w wr)) (fun i _ => l.length - (intOf i).toNat)
  case atStart => exact ⟨0, Nat.zero_le _, rfl, Lib.hid rfl, Lib.hid (Below.refl _ _)⟩
  case round =>
    obtain ⟨k, hk, rfl, hall, hb⟩ := hrel
    by_cases hlt : k < l.length
    · obtain ⟨x, hx⟩ : ∃ x, l[k]? = some x := ⟨_, List.getElem?_eq_getElem hlt⟩
      obtain ⟨b, off, ha, _, c0⟩ := num_row (hrow.below (Kps.of_below hb.out)) k x hx
      subst ha
      have hi0' : (0 : Int) ≤ (k : Int) := by omega
      have hi1 : (k : Int) < (l.length : Int) := by omega
      have hyes := Lib.hid (anyN_take (P := fun x => decide (x = n)) hx)
      have hmem := Lib.hid (List.mem_of_getElem? hx)
      clear hx hrow
      by_cases hxn : x = n
      · have hfin : Hid ((l.any fun x => decide (x = n)) = true) := Lib.hid (List.any_eq_true.2 ⟨x, hmem.out, by simp [hxn]⟩)
        have he : (x == n) = true := by simp [hxn]
        clear hxn hyes hall
        go_wp2_with fail
        go_ret
        exact ⟨ret_bool hfin.out.symm, hb.out⟩
      · have hn : Hid ((l.take (k + 1)).any (fun x => decide (x = n)) = false) := Lib.hid (by rw [hyes.out, hall.out]; simp [hxn])
        have he := ne_b hxn
        clear hxn hyes hall
        go_wp2_with fail
        go_roundw
        case rel => exact ⟨k + 1, by omega, by go_num, hn, hb⟩
        case measure => simp [intOf]; omega
    · have hk2 : k = l.length := by omega
      subst hk2
      rw [List.take_length] at hall
      go_wp2_with fail
      go_ret
      exact ⟨ret_bool hall.out.symm, hb.out⟩
set_option maxHeartbeats 2000000 in
set_option maxRecDepth 100000 in
theorem rwithin1_c (l : List Int) (n : Int) (a : Option Addr) (cap : Nat) (w : World) (hrow : RowAt w Tt a cap l.length (numCells l)) :
    Calls Tryd.prog 76 #[.slice a l.length cap, .int .i64 n] w fun e w' => e = .returned (.bool (l.all fun x => inP x n)) ∧ Below w.heap.size w w' := by
  obtain ⟨hc1, hc2⟩ := len_i hrow
  go_enter Tryd.func76, Tryd.ntmps76
  go_wp2_with fail
  go_loopw [5] (fun i wr => ∃ k : Nat, k ≤ l.length ∧ i = .int .i64 k ∧ Hid ((l.take k).all (fun x => inP x n) = true) ∧ Hid (Below w.heap.size w wr)) (fun i _ => l.length - (intOf i).toNat)
  case atStart => exact ⟨0, Nat.zero_le _, rfl, Lib.hid rfl, Lib.hid (Below.refl _ _)⟩
  case round =>
    obtain ⟨k, hk, rfl, hall, hb⟩ := hrel
    by_cases hlt : k < l.length
    · obtain ⟨x, hx⟩ : ∃ x, l[k]? = some x := ⟨_, List.getElem?_eq_getElem hlt⟩
      obtain ⟨b, off, ha, _, c0⟩ := num_row (hrow.below (Kps.of_below hb.out)) k x hx
      subst ha
      have hi0' : (0 : Int) ≤ (k : Int) := by omega
      have hi1 : (k : Int) < (l.length : Int) := by omega
      have hyes := Lib.hid (all_take (f := fun x => inP x n) hx)
      have hno := Lib.hid (fun h => all_no (f := fun x => inP x n) hx h)
      clear hx hrow
      by_cases h1 : x < 0
      · have hfin := Lib.hid (hno.out (by simp [inP]; omega))
        clear hyes hno hall
        go_wp2_with fail
        go_ret
        exact ⟨ret_bool hfin.out.symm, hb.out⟩
      · by_cases h2 : x < n
        · have hn : Hid ((l.take (k + 1)).all (fun x => inP x n) = true) := Lib.hid (by rw [hyes.out, hall.out]; simp [inP]; omega)
          have h3 : ¬ n ≤ x := by omega
          clear hyes hno hall
          go_wp2_with fail
          go_roundw
          case rel => exact ⟨k + 1, by omega, by go_num, hn, hb⟩
          case measure => simp [intOf]; omega
        · have hfin := Lib.hid (hno.out (by simp [inP]; omega))
          have h3 : n ≤ x := by omega
          clear hyes hno hall
          go_wp2_with fail
          go_ret
          exact ⟨ret_bool hfin.out.symm, hb.out⟩
    · have hk2 : k = l.length := by omega
      subst hk2
      rw [List.take_length] at hall
      go_wp2_with fail
      go_ret
      exact ⟨ret_bool hall.out.symm, hb.out⟩

set_option maxHeartbeats 800000 in
set_option maxRecDepth 100000 in
theorem rints_c (l l' : List Int) (a a' : Option Addr) (cap cap' : Nat) (w : World) (hrow : RowAt w (fun _ => True) a cap l.length (numCells l)) (hrow' : RowAt w (fun _ => True) a' cap' l'.length (numCells l')) :
    Calls Tryd.prog 32 #[.slice a l.length cap, .slice a' l'.length cap'] w fun x w' => x = .returned (.bool (decide (l = l'))) ∧ Below w.heap.size w w' := by
  obtain ⟨hc11, hc12⟩ := len_i hrow
  obtain ⟨hc21, hc22⟩ := len_i hrow'
  by_cases hle : l.length = l'.length
  · have hne : ((l.length : Int) != (l'.length : Int)) = false := by rw [hle]; simp
    have hle' := Lib.hid hle
    go_enter Tryd.func32, Tryd.ntmps32
    clear hle
    go_wp2
    go_loopw [5] (fun i wr => ∃ k : Nat, k ≤ l.length ∧ i = .int .i64 k ∧ l.take k = l'.take k ∧ ∃ m, wr = w.drewN m) (fun i _ => l.length - (intOf i).toNat)
    case atStart => exact ⟨0, Nat.zero_le _, rfl, rfl, 0, rfl⟩
    case round =>
      obtain ⟨k, hk, rfl, htk, m, rfl⟩ := hrel
      replace htk := Lib.hid htk
      by_cases hlt : k < l.length
      · have hlt' : k < l'.length := by rw [← hle'.out]; exact hlt
        obtain ⟨x, hx⟩ : ∃ e, l[k]? = some e := ⟨l[k], by simp [hlt]⟩
        obtain ⟨y, hy⟩ : ∃ e, l'[k]? = some e := ⟨l'[k], by simp [hlt']⟩
        obtain ⟨b, off, rfl, _, hcell⟩ := hrow.at_ k (.int .i64 x) (by unfold numCells; rw [List.getElem?_map, hx]; rfl)
        obtain ⟨b', off', rfl, _, hcell'⟩ := hrow'.at_ k (.int .i64 y) (by unfold numCells; rw [List.getElem?_map, hy]; rfl)
        replace hx := Lib.hid hx
        replace hy := Lib.hid hy
        have hkl' : k < l'.length := hlt'
        by_cases hxy : x = y
        · have HT : Hid (l.take (k + 1) = l'.take (k + 1)) := Lib.hid (by rw [List.take_add_one, List.take_add_one, htk.out, hx.out, hy.out, hxy])
          subst hxy
          go_wp2
          go_quiet (fail)
          go_wp2
          go_roundw
          case rel => exact ⟨k + 1, by omega, by go_num, HT.out, _, rfl⟩
          case measure => simp [intOf]; omega
        · have HN : Hid (decide (l = l') = false) := Lib.hid (by
            rw [decide_eq_false_iff_not]; intro e; apply hxy
            have h3 := hx.out; rw [e, hy.out] at h3
            exact (Option.some.inj h3).symm)
          have hs1 := ne_n hxy
          clear hxy
          go_wp2
          go_quiet (fail)
          go_wp2
          go_ret
          exact ⟨ret_bool HN.out.symm, ⟨rfl, rfl, rfl, Nat.le_refl _, fun _ _ => rfl⟩⟩
      · have HE : Hid (decide (l = l') = true) := Lib.hid (by
          have h3 := htk.out
          have h4 := hle'.out
          rw [List.take_of_length_le (by omega), List.take_of_length_le (by omega)] at h3
          simpa using h3)
        clear htk
        go_wp2
        go_ret
        exact ⟨ret_bool HE.out.symm, ⟨rfl, rfl, rfl, Nat.le_refl _, fun _ _ => rfl⟩⟩
  · have hne : ((l.length : Int) != (l'.length : Int)) = true := by simp; omega
    have hF : Hid (decide (l = l') = false) := Lib.hid (by rw [decide_eq_false_iff_not]; intro h; exact hle (by rw [h]))
    go_enter Tryd.func32, Tryd.ntmps32
    go_wp2
    go_ret
    exact ⟨ret_bool hF.out.symm, Below.refl _ _⟩
set_option maxHeartbeats 4000000 in
set_option maxRecDepth 100000 in
theorem rfroms_c (l : List Bk) (n : Int) (a : Option Addr) (cap : Nat) (w : World) (hrow : RowAt w Tt a cap l.length (bkCells l)) (hin : ∀ b ∈ l, Bk.In w b) (hlen : l.length ≤ 8796093022208) :
    Calls Tryd.prog 33 #[.slice a l.length cap, .int .i64 n] w fun e w' => ∃ v, e = .returned v ∧ w'.ownsRow w.heap.size 3 1 v (fromsP l n).length (numCells (fromsP l n)) ∧ Below w.heap.size w w' := by
  obtain ⟨hc1, hc2⟩ := len_i hrow
  obtain ⟨i0, hi0, hz0, hz1, hz2⟩ := info_i
  have hH := Lib.hid (fun (b : Bk) V (hb : b ∈ l) (hv : Below w.heap.size w V) => rhas_c b.tt n b.ta b.tcap V (((hin b hb).keep hv).trow))
  have hR := Lib.hid (fun V (hv : Below w.heap.size w V) => hrow.below (Kps.of_below hv))
  clear hrow hin
  unfold fromsP
  go_enter Tryd.func33, Tryd.ntmps33
  go_wp2_with fail
  go_loopw [5, 6] (fun v i wr => ∃ k : Nat, k ≤ l.length ∧ i = .int .i64 k ∧ Hid (wr.ownsRow w.heap.size 3 1 v (fromsF 0 (l.take k) n).length (numCells (fromsF 0 (l.take k) n))) ∧ Hid (Below w.heap.size w wr)) (fun _ i _ => l.length - (intOf i).toNat)
  case atStart => exact ⟨0, Nat.zero_le _, rfl, Lib.hid (World.ownsRow_nil _ _ _ _), Lib.hid (Below.refl _ _)⟩
  case round =>
    obtain ⟨k, hk, rfl, hown, hb⟩ := hrel
    by_cases hlt : k < l.length
    · obtain ⟨x, hx⟩ : ∃ x, l[k]? = some x := ⟨_, List.getElem?_eq_getElem hlt⟩
      obtain ⟨b, off, ha, _, c0, c1, c2, c3⟩ := bk_row (hR.out _ hb.out) k x hx
      subst ha
      have htk := fromsF_take hx n
      have hln := fromsF_len (l.take k) 0 n
      rw [List.length_take] at hln
      have hi0' : (0 : Int) ≤ (k : Int) := by omega
      have hi1 : (k : Int) < (l.length : Int) := by omega
      have hHx := hH.out x _ (List.mem_of_getElem? hx) hb.out
      clear hx hH
      cases ht : x.tt.contains n
      · rw [ht] at htk hHx
        rw [if_neg (by simp), List.append_nil] at htk
        replace hHx := Lib.hid hHx
        clear ht
        go_wp2_with fail
        refine hHx.out.mono ?_
        rintro e w1 ⟨rfl, hb1⟩
        have hown2 := Lib.hid (own_below hown.out hb1)
        rw [← htk] at hown2
        have hb2 := Lib.hid (hb.out.trans (hb1.mono hb.out.size))
        clear hb1 hown htk
        go_wp2_with fail
        go_roundw
        case rel => exact ⟨k + 1, by omega, by go_num, hown2, hb2⟩
        case measure => simp [intOf]; omega
      · rw [ht] at htk hHx
        rw [if_pos rfl] at htk
        replace hHx := Lib.hid hHx
        clear ht
        go_wp2_with fail
        refine hHx.out.mono ?_
        rintro e w1 ⟨rfl, hb1⟩
        have hown2 := Lib.hid (own_below hown.out hb1)
        have hb2 := Lib.hid (hb.out.trans (hb1.mono hb.out.size))
        generalize fromsF 0 (l.take k) n = T at *
        replace htk := Lib.hid htk
        clear hb1 hown
        go_wp2_with (at_builtin; refine wpList_append_own_at _ rfl _ _ 40 rfl w.heap.size 3 i0 _ 1 8 Tryd.underlying40 hi0 hz0 hz1 hz2 rfl (by decide) _ _ _ rfl (own_below hown2.out (b_alloc _ _)) _ 1 1 [.int .i64 k] rfl rfl (one_at _ _ _ _ (by first | rfl | simp)) (by simp [Value.oneCell']) ?c1 ?c2 ?c3 ?_)
        case c1 => unfold maxLen; omega
        case c2 => omega
        case c3 => have := hb2.out.size; simp; omega
        intro v' w3 hown3 hg3 _ hat3
        have hfin : Hid (w3.ownsRow w.heap.size 3 1 v' (fromsF 0 (l.take (k + 1)) n).length (numCells (fromsF 0 (l.take (k + 1)) n))) := Lib.hid (by
          rw [htk.out, List.length_append]
          have he : numCells (T ++ [(k : Int)]) = numCells T ++ [.int .i64 k] := by unfold numCells; rw [List.map_append]; rfl
          rw [he]; exact hown3)
        have hbz : Hid (Below w.heap.size w w3) := Lib.hid ((hb2.out.alloc hb2.out.size _).grown hg3 (by have := hb2.out.size; simp; omega) (fun q e => (hown2.out.lt q e).1))
        clear hown3 hg3 hat3 hown2 htk
        go_wp2_with fail
        go_roundw
        case rel => exact ⟨k + 1, by omega, by go_num, hfin, hbz⟩
        case measure => simp [intOf]; omega
    · have hk2 : k = l.length := by omega
      subst hk2
      rw [List.take_length] at hown
      go_wp2_with fail
      go_ret
      exact ⟨_, rfl, hown.out, hb.out⟩
end Go.Proofs.YtckmgefailclcaaDoor.Fw
