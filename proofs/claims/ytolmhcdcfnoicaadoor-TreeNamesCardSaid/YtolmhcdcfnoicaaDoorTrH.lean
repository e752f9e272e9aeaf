/- Walks of tree.parts: all parts of declarations. Conditions: none. -/
import Derived.Test.YtolmhcdcfnoicaaDoorTrG
namespace Go.Proofs.YtolmhcdcfnoicaaDoor.Tr
open Go Go.RowKit Go.Shelf
open Go.Proofs.YtolmhcdcfnoicaaDoor.Lx Go.Proofs.YtolmhcdcfnoicaaDoor.Rg
attribute [local go_sem] Oper.semAt_some

def ptsD (ds : List De) : List Pt := ds.flatMap fun d => ptsSL (adB d.ba) (adO d.ba) 1 d.body
def De.szL : List De → Nat
  | [] => 0
  | d :: r => St.szL d.body + De.szL r
theorem De.sz_get : ∀ {l : List De} {i : Nat} {e : De}, l[i]? = some e → St.szL e.body ≤ De.szL l
  | x :: r, 0, e, h => by simp at h; subst h; unfold De.szL; omega
  | x :: r, i + 1, e, h => by
    have := De.sz_get (l := r) (i := i) (e := e) (by simpa using h)
    unfold De.szL; omega
theorem ptsD_take (l : List De) (k : Nat) (e : De) (h : l[k]? = some e) : ptsD (l.take (k + 1)) = ptsD (l.take k) ++ ptsSL (adB e.ba) (adO e.ba) 1 e.body := by
  rw [List.take_add_one, h]; simp [ptsD]
theorem ptsD_pre (l : List De) (k : Nat) : ptsD (l.take k) <+: ptsD l := by
  refine ⟨ptsD (l.drop k), ?_⟩
  unfold ptsD
  rw [← List.flatMap_append, List.take_append_drop]

set_option maxRecDepth 100000 in
set_option maxHeartbeats 2000000 in
theorem parts1_in (l n bx N : Nat) (S : Nat → Prop) (ds : List De) (a : Option Addr) (cap : Nat) (J Jx : List Pt → World → Prop) (W : World) (hbx : W.cell? ⟨bx, 0, none⟩ = some (.slice a ds.length cap)) (hS : S bx)
    (hrow : RowAt W S a cap ds.length (deCells ds)) (hin : De.InL W S ds) (hsz : De.szL ds ≤ 4194304) (hN : (ptsD ds).length ≤ N)
    (hY : ∀ m pre x W1, J pre W1 → x.In W1 S → pre.length < N → YieldAt Fence.wide m Tryd.prog l #[x.val] W1 fun e W' =>
        (e = .returned (.bool true) ∧ J (pre ++ [x]) W' ∧ Kps S W1 W') ∨ (e = .returned (.bool false) ∧ Jx (pre ++ [x]) W'))
    (hJ0 : J [] W) :
    CallsIn Fence.wide n Tryd.prog 54 #[.func (.yield l) #[] #[], .pointer (some ⟨bx, 0, none⟩)] W fun e' W' => (∃ v, e' = .returned v) ∧
      ((∃ xs, xs = ptsD ds ∧ J xs W') ∨ (∃ pre, pre <+: ptsD ds ∧ Jx pre W')) := by
  have hll : ds.length ≤ 9223372036854775807 := by have := hrow.le; have := hrow.lim; unfold maxLen at this; omega
  refine callsIn_of_wp Tryd.func54 rfl trivial ?_ rfl
  simp only [Tryd.ntmps54, List.size_toArray, List.length_cons, List.length_nil, Nat.reduceAdd, Nat.reduceSub, Array.replicate_succ, Array.replicate_zero, List.push_toArray, List.append_toArray, List.nil_append, List.cons_append]
  gi_wp2
  gi_loopw [6] (fun i wr => ∃ k : Nat, k ≤ ds.length ∧ i = .int .i64 k ∧ J (ptsD (ds.take k)) wr ∧ Kps S W wr) (fun i _ => ds.length - (intOf i).toNat)
  case atStart => exact ⟨0, Nat.zero_le _, rfl, by simpa [ptsD] using hJ0, Kps.refl _ _⟩
  case round =>
    obtain ⟨k, hk, rfl, hJs, hbr⟩ := hrel
    by_cases hlt : k < ds.length
    · obtain ⟨e, he⟩ : ∃ e, ds[k]? = some e := ⟨ds[k], by simp [hlt]⟩
      have hsz1 := De.sz_get he
      have hbox := hbr _ _ _ hS hbx
      obtain ⟨b, off, rfl, hbn, hcell⟩ := de_row hrow k e he
      have htk := ptsD_take ds k e he
      have hpp := ptsD_pre ds (k + 1)
      have hei := De.In.below hbr (hin e (List.mem_of_getElem? he))
      have c4 : wr.cell? ⟨b, off + k * 6 + 4, none⟩ = some (.slice e.ba e.body.length e.bcap) := hbr _ _ _ hbn (by rw [Nat.add_assoc]; exact hcell 4 _ rfl)
      have hlen : (ptsD (ds.take k)).length + (ptsSL (adB e.ba) (adO e.ba) 1 e.body).length ≤ N := by
        have h1 := hpp.length_le
        rw [htk, List.length_append] at h1
        omega
      have hc := eachS_in Fence.wide rfl trivial trivial rfl l N S J Jx hY (St.szL e.body) e.body e.ba e.bcap 1 (n - 1) (ptsD (ds.take k)) wr (Nat.le_refl _) (by omega) (by omega) hei.2.2.2.2.2.2.1 hei.2.2.2.2.2.2.2 hJs hlen
      rw [← htk] at hc
      replace hc := Lib.hid hc
      replace htk := Lib.hid htk
      replace hpp := Lib.hid hpp
      replace hbr := Lib.hid hbr
      clear hY hrow hin hsz hN hei hcell hlen hsz1 he hJs hbx hJ0
      obtain ⟨ek, enm, en, pa, pcap, params, ba, bcap, body, epos⟩ := e
      simp only at c4 hc htk
      gi_wp2_with fail
      refine ⟨trivial, fun h => (by cases h), ?_⟩
      refine hc.out.mono ?_
      clear hc
      rintro e W2 (⟨rfl, hJ2, hb2⟩ | ⟨rfl, q, hq, hx2⟩)
      · replace hJ2 := Lib.hid hJ2
        replace hb2 := Lib.hid hb2
        gi_wp2_with fail
        go_roundw
        case rel => exact ⟨k + 1, by omega, by go_num, hJ2.out, hbr.out.trans hb2.out⟩
        case measure => simp [intOf]; omega
      · have HR : Hid (∃ pre, pre <+: ptsD ds ∧ Jx pre W2) := Lib.hid ⟨ptsD (ds.take k) ++ q, by
          refine List.IsPrefix.trans ?_ hpp.out
          rw [htk.out]
          exact List.prefix_append_right_inj _ |>.2 hq, hx2⟩
        clear hq hx2
        gi_wp2_with fail
        refine bodyPost_ret (results_none rfl _ _ _) rfl ?_
        exact ⟨⟨_, rfl⟩, .inr HR.out⟩
    · rw [List.take_of_length_le (by omega)] at hJs
      gi_wp2
      go_end0
      exact ⟨⟨_, rfl⟩, .inl ⟨_, rfl, hJs⟩⟩

set_option maxHeartbeats 800000 in
theorem parts_any (a : Option Addr) (len cap : Nat) (w : World) :
    Calls Tryd.prog 35 #[.slice a len cap] w fun e w' =>
      e = .returned (.func (.func 54) #[] #[.pointer (some ⟨w.heap.size, 0, none⟩)]) ∧ w' = w.alloc (.cells #[.slice a len cap] 22) := by
  go_enter Tryd.func35, Tryd.ntmps35
  go_wp2_with fail
  go_ret
  exact ⟨rfl, rfl⟩
end Go.Proofs.YtolmhcdcfnoicaaDoor.Tr
