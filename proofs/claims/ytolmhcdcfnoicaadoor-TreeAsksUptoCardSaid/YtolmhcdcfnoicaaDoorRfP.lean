/- Walks of the document's own answers: Depth, Size. Conditions: none. -/
import Derived.Test.YtolmhcdcfnoicaaDoorRfJ
import Derived.Test.YtolmhcdcfnoicaaDoorTrX
namespace Go.Proofs.YtolmhcdcfnoicaaDoor.Tr
open Go Go.RowKit
open Go.Proofs.YtolmhcdcfnoicaaDoor.Lx

theorem depD_take (l : List De) (k : Nat) (x : De) (h : l[k]? = some x) : deepest (ptsD (l.take (k + 1))) = max (deepest (ptsD (l.take k))) (depSL x.body) := by
  rw [ptsD_take l k x h, deepest_app]
  unfold depSL
  rw [deepest_key _ _ (ptsSL_at x.body (adB x.ba) (adO x.ba) 0 0 1)]
set_option maxHeartbeats 4000000 in
set_option maxRecDepth 100000 in
theorem refDepth_any (l : List De) (a : Option Addr) (cap : Nat) (w : World) (hsz : De.szL l ≤ 4194304) (hrow : RowAt w (fun _ => True) a cap l.length (deCells l)) (hin : De.InL w (fun _ => True) l) :
    Calls Tryd.prog 14 #[.slice a l.length cap] w fun x w' => x = .returned (.int .i64 (deepest (ptsD l))) ∧ Below w.heap.size w w' := by
  have hll : l.length ≤ 9223372036854775807 := by have := hrow.le; have := hrow.lim; unfold maxLen at this; omega
  have hcx := fun (k : Nat) (x : De) (W : World) (hx : l[k]? = some x) (hb : Below w.heap.size w W) => De.In.below (Kps.of_below (S := fun _ => True) hb) (hin x (List.mem_of_getElem? hx))
  replace hcx := Lib.hid hcx
  clear hin
  go_enter Tryd.func14, Tryd.ntmps14
  go_wp2_with fail
  go_loopw [3, 4] (fun n i wr => ∃ (k : Nat) (v : Int), k ≤ l.length ∧ n = .int .i64 v ∧ i = .int .i64 k ∧ Hid (deepest (ptsD (l.take k)) = v) ∧ Below w.heap.size w wr) (fun _ i _ => l.length - (intOf i).toNat)
  case atStart => exact ⟨0, 0, Nat.zero_le _, rfl, rfl, Lib.hid rfl, Below.refl _ _⟩
  case round =>
    obtain ⟨k, v, hk, rfl, rfl, hok, hbr⟩ := hrel
    by_cases hlt : k < l.length
    · obtain ⟨x, hx⟩ : ∃ e, l[k]? = some e := ⟨l[k], by simp [hlt]⟩
      obtain ⟨b, off, rfl, _, hcell⟩ := de_row hrow k x hx
      have hxin := hcx.out k x wr hx hbr
      have hxs := De.sz_get hx
      have hnx := depD_take l k x hx
      obtain ⟨xk, xnm, xn, pa, pcap, xp, ba, bcap, xbody, xpos⟩ := x
      replace hxs : St.szL xbody ≤ De.szL l := hxs
      obtain ⟨_, _, _, _, _, _, hrb, hib⟩ := hxin
      have hc := refdeep_any (St.szL xbody) xbody ba bcap wr (Nat.le_refl _) (by omega) hrb hib
      simp only [← Nat.add_assoc] at hcell hnx
      have d4 := below_in hbr (hcell 4 _ rfl)
      generalize depSL xbody = u at *
      replace hc := Lib.hid hc
      replace hnx := Lib.hid hnx
      replace hx := Lib.hid hx
      clear hcell hrb hib
      go_wp2_with fail
      refine hc.out.mono ?_
      rintro x W3 ⟨rfl, hb3⟩
      replace hb3 := Lib.hid hb3
      go_wp2_with fail
      go_roundw
      case rel => exact ⟨k + 1, max v u, by omega, rfl, by go_num, Lib.hid (by rw [hnx.out, hok.out]), hbr.trans (hb3.out.mono hbr.size)⟩
      case measure => simp [intOf]; omega
    · have hall : Hid (v = deepest (ptsD l)) := Lib.hid (by have := hok.out; rw [List.take_of_length_le (by omega)] at this; exact this.symm)
      go_wp2_with fail
      go_ret
      exact ⟨ret_int hall.out, hbr⟩

set_option maxHeartbeats 4000000 in
set_option maxRecDepth 100000 in
theorem refSize_any (l : List De) (a : Option Addr) (cap : Nat) (w : World) (hsz : De.szL l ≤ 4194304) (hlen : l.length ≤ 4194304) (hrow : RowAt w (fun _ => True) a cap l.length (deCells l)) (hin : De.InL w (fun _ => True) l) :
    Calls Tryd.prog 16 #[.slice a l.length cap] w fun x w' => x = .returned (.int .i64 ((l.length : Int) + De.szL l)) ∧ Below w.heap.size w w' := by
  have hcx := fun (k : Nat) (x : De) (W : World) (hx : l[k]? = some x) (hb : Below w.heap.size w W) => De.In.below (Kps.of_below (S := fun _ => True) hb) (hin x (List.mem_of_getElem? hx))
  replace hcx := Lib.hid hcx
  clear hin
  go_enter Tryd.func16, Tryd.ntmps16
  go_wp2_with fail
  go_loopw [3, 4] (fun n i wr => ∃ (k : Nat) (v : Int), k ≤ l.length ∧ n = .int .i64 v ∧ i = .int .i64 k ∧ 0 ≤ v ∧ v ≤ 8388608 ∧ Hid (v = l.length + De.szL (l.take k)) ∧ Below w.heap.size w wr) (fun _ i _ => l.length - (intOf i).toNat)
  case atStart => exact ⟨0, l.length, Nat.zero_le _, rfl, rfl, by omega, by omega, Lib.hid (by simp [De.szL]), Below.refl _ _⟩
  case round =>
    obtain ⟨k, v, hk, rfl, rfl, hv0, hv1, hv, hbr⟩ := hrel
    by_cases hlt : k < l.length
    · obtain ⟨x, hx⟩ : ∃ e, l[k]? = some e := ⟨l[k], by simp [hlt]⟩
      obtain ⟨b, off, rfl, _, hcell⟩ := de_row hrow k x hx
      have hxin := hcx.out k x wr hx hbr
      have hst := De.szL_take l k x hx
      have hst2 := De.szL_take_le l (k + 1)
      obtain ⟨xk, xnm, xn, pa, pcap, xp, ba, bcap, xbody, xpos⟩ := x
      replace hst : De.szL (l.take (k + 1)) = De.szL (l.take k) + St.szL xbody := hst
      obtain ⟨_, _, _, _, _, _, hrb, hib⟩ := hxin
      have hc := refStmtSize_any (St.szL xbody) xbody ba bcap wr (Nat.le_refl _) (by omega) hrb hib
      have hvn := hv.out
      have hsum : 0 ≤ v + (St.szL xbody : Int) ∧ v + (St.szL xbody : Int) ≤ 8388608 := by omega
      have hsum2 : Hid (v + (St.szL xbody : Int) = l.length + De.szL (l.take (k + 1))) := Lib.hid (by omega)
      simp only [← Nat.add_assoc] at hcell
      have d4 := below_in hbr (hcell 4 _ rfl)
      obtain ⟨hsa, hsb⟩ := hsum
      generalize St.szL xbody = u at *
      replace hc := Lib.hid hc
      clear hcell hrb hib hst hst2 hvn hv hx
      go_wp2_with fail
      refine hc.out.mono ?_
      rintro x W3 ⟨rfl, hb3⟩
      replace hb3 := Lib.hid hb3
      go_wp2_with fail
      go_roundw
      case rel => exact ⟨k + 1, v + u, by omega, rfl, by go_num, hsa, hsb, hsum2, hbr.trans (hb3.out.mono hbr.size)⟩
      case measure => simp [intOf]; omega
    · have hfin : Hid (v = (l.length : Int) + De.szL l) := Lib.hid (by have := hv.out; rw [List.take_of_length_le (by omega)] at this; exact this)
      go_wp2_with fail
      go_ret
      exact ⟨ret_int hfin.out, hbr⟩
end Go.Proofs.YtolmhcdcfnoicaaDoor.Tr
