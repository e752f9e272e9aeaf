/- Walks of tree.parts: all parts of declarations. Conditions: none. · Walks of tree.all over texts and over declarations, of slices.Values at both. Conditions: none. · Walks of tree.fitsDecl. Conditions: the package's tables hold their lists. -/
import Derived.Test.YtpcdlneompnhlaaGreatDoorGrAD
namespace Go.Proofs.YtpcdlneompnhlaaGreatDoor.Tr
open Go Go.RowKit Go.Shelf
open Go.Proofs.YtpcdlneompnhlaaGreatDoor.Lx Go.Proofs.YtpcdlneompnhlaaGreatDoor.Rg
attribute [local go_sem] Oper.semAt_some

def ptsD (ds : List De) : List Pt := ds.flatMap fun d => ptsSL (adB d.ba) (adO d.ba) 1 d.body
def De.szL : List De → Nat
  | [] => 0
  | d :: r => St.szL d.body + De.szL r
theorem De.sz_get : ∀ {l : List De} {i : Nat} {e : De}, l[i]? = some e → St.szL e.body ≤ De.szL l
  | x :: r, 0, e, h => by simp at h; subst h; unfold De.szL; omega
  | x :: r, i + 1, e, h => by
    have := De.sz_get (l := r) (i := i) (e := e) (by simpa using h)
    unfold De.szL; omega
theorem ptsD_take (l : List De) (k : Nat) (e : De) (h : l[k]? = some e) : ptsD (l.take (k + 1)) = ptsD (l.take k) ++ ptsSL (adB e.ba) (adO e.ba) 1 e.body := by
  rw [List.take_add_one, h]; simp [ptsD]
theorem ptsD_pre (l : List De) (k : Nat) : ptsD (l.take k) <+: ptsD l := by
  refine ⟨ptsD (l.drop k), ?_⟩
  unfold ptsD
  rw [← List.flatMap_append, List.take_append_drop]

set_option maxRecDepth 100000 in
set_option maxHeartbeats 2000000 in
theorem parts1_in (l n bx N : Nat) (S : Nat → Prop) (ds : List De) (a : Option Addr) (cap : Nat) (J Jx : List Pt → World → Prop) (W : World) (hbx : W.cell? ⟨bx, 0, none⟩ = some (.slice a ds.length cap)) (hS : S bx)
    (hrow : RowAt W S a cap ds.length (deCells ds)) (hin : De.InL W S ds) (hsz : De.szL ds ≤ 4194304) (hN : (ptsD ds).length ≤ N)
    (hY : ∀ m pre x W1, J pre W1 → x.In W1 S → pre.length < N → YieldAt Fence.wide m Tryz.prog l #[x.val] W1 fun e W' =>
        (e = .returned (.bool true) ∧ J (pre ++ [x]) W' ∧ Kps S W1 W') ∨ (e = .returned (.bool false) ∧ Jx (pre ++ [x]) W'))
    (hJ0 : J [] W) :
    CallsIn Fence.wide n Tryz.prog 113 #[.func (.yield l) #[] #[], .pointer (some ⟨bx, 0, none⟩)] W fun e' W' => (∃ v, e' = .returned v) ∧
      ((∃ xs, xs = ptsD ds ∧ J xs W') ∨ (∃ pre, pre <+: ptsD ds ∧ Jx pre W')) := by
  have hll : ds.length ≤ 9223372036854775807 := by have := hrow.le; have := hrow.lim; unfold maxLen at this; omega
  refine callsIn_of_wp Tryz.func113 rfl trivial ?_ rfl
  simp only [Tryz.ntmps113, List.size_toArray, List.length_cons, List.length_nil, Nat.reduceAdd, Nat.reduceSub, Array.replicate_succ, Array.replicate_zero, List.push_toArray, List.append_toArray, List.nil_append, List.cons_append]
  gi_wp2
  gi_loopw [6] (fun i wr => ∃ k : Nat, k ≤ ds.length ∧ i = .int .i64 k ∧ J (ptsD (ds.take k)) wr ∧ Kps S W wr) (fun i _ => ds.length - (intOf i).toNat)
  case atStart => exact ⟨0, Nat.zero_le _, rfl, by simpa [ptsD] using hJ0, Kps.refl _ _⟩
  case round =>
    obtain ⟨k, hk, rfl, hJs, hbr⟩ := hrel
    by_cases hlt : k < ds.length
    · obtain ⟨e, he⟩ : ∃ e, ds[k]? = some e := ⟨ds[k], by simp [hlt]⟩
      have hsz1 := De.sz_get he
      have hbox := hbr _ _ _ hS hbx
      obtain ⟨b, off, rfl, hbn, hcell⟩ := de_row hrow k e he
      have htk := ptsD_take ds k e he
      have hpp := ptsD_pre ds (k + 1)
      have hei := De.In.below hbr (hin e (List.mem_of_getElem? he))
      have c4 : wr.cell? ⟨b, off + k * 6 + 4, none⟩ = some (.slice e.ba e.body.length e.bcap) := hbr _ _ _ hbn (by rw [Nat.add_assoc]; exact hcell 4 _ rfl)
      have hlen : (ptsD (ds.take k)).length + (ptsSL (adB e.ba) (adO e.ba) 1 e.body).length ≤ N := by
        have h1 := hpp.length_le
        rw [htk, List.length_append] at h1
        omega
      have hc := eachS_in Fence.wide rfl trivial trivial rfl l N S J Jx hY (St.szL e.body) e.body e.ba e.bcap 1 (n - 1) (ptsD (ds.take k)) wr (Nat.le_refl _) (by omega) (by omega) hei.2.2.2.2.2.2.1 hei.2.2.2.2.2.2.2 hJs hlen
      rw [← htk] at hc
      replace hc := Lib.hid hc
      replace htk := Lib.hid htk
      replace hpp := Lib.hid hpp
      replace hbr := Lib.hid hbr
      clear hY hrow hin hsz hN hei hcell hlen hsz1 he hJs hbx hJ0
      obtain ⟨ek, enm, en, pa, pcap, params, ba, bcap, body, epos⟩ := e
      simp only at c4 hc htk
      gi_wp2_with fail
      refine ⟨trivial, fun h => (by cases h), ?_⟩
      refine hc.out.mono ?_
      clear hc
      rintro e W2 (⟨rfl, hJ2, hb2⟩ | ⟨rfl, q, hq, hx2⟩)
      · replace hJ2 := Lib.hid hJ2
        replace hb2 := Lib.hid hb2
        gi_wp2_with fail
        go_roundw
        case rel => exact ⟨k + 1, by omega, by go_num, hJ2.out, hbr.out.trans hb2.out⟩
        case measure => simp [intOf]; omega
      · have HR : Hid (∃ pre, pre <+: ptsD ds ∧ Jx pre W2) := Lib.hid ⟨ptsD (ds.take k) ++ q, by
          refine List.IsPrefix.trans ?_ hpp.out
          rw [htk.out]
          exact List.prefix_append_right_inj _ |>.2 hq, hx2⟩
        clear hq hx2
        gi_wp2_with fail
        refine bodyPost_ret (results_none rfl _ _ _) rfl ?_
        exact ⟨⟨_, rfl⟩, .inr HR.out⟩
    · rw [List.take_of_length_le (by omega)] at hJs
      gi_wp2
      go_end0
      exact ⟨⟨_, rfl⟩, .inl ⟨_, rfl, hJs⟩⟩

set_option maxHeartbeats 800000 in
theorem parts_any (a : Option Addr) (len cap : Nat) (w : World) :
    Calls Tryz.prog 69 #[.slice a len cap] w fun e w' =>
      e = .returned (.func (.func 113) #[] #[.pointer (some ⟨w.heap.size, 0, none⟩)]) ∧ w' = w.alloc (.cells #[.slice a len cap] 22) := by
  go_enter Tryz.func69, Tryz.ntmps69
  go_wp2_with fail
  go_ret
  exact ⟨rfl, rfl⟩
end Go.Proofs.YtpcdlneompnhlaaGreatDoor.Tr

namespace Go.Proofs.YtpcdlneompnhlaaGreatDoor.Tr
open Go Go.RowKit Go.Shelf
open Go.Proofs.YtpcdlneompnhlaaGreatDoor.Lx Go.Proofs.YtpcdlneompnhlaaGreatDoor.Rg
attribute [local go_sem] Oper.semAt_some

set_option maxRecDepth 100000 in
set_option maxHeartbeats 2000000 in
theorem all_str (n gf hf : Nat) (lb : Array Value) (eg : ∀ args w, (callFunc gf args).run Tryz.prog w = .ok (.enter gf args) w) (eh : ∀ args w, (callFunc hf args).run Tryz.prog w = .ok (.enter hf args) w)
    (w : World) (T : List ByteArray) (p : ByteArray → Bool)
    (hseq : ∀ (l : Nat) (J Jx : List ByteArray → World → Prop) (W : World), Below w.heap.size w W → W.heap.size = w.heap.size + 4 →
      (∀ m pre x W1, J pre W1 → x.size ≤ maxLen → pre.length < T.length → YieldAt Fence.wide m Tryz.prog l #[.string x] W1 fun e W' =>
        (e = .returned (.bool true) ∧ J (pre ++ [x]) W' ∧ Kps (fun _ => True) W1 W') ∨ (e = .returned (.bool false) ∧ Jx (pre ++ [x]) W')) →
      (∀ pre W1 o, J pre W1 → J pre (W1.alloc o)) → J [] W →
      CallsIn Fence.wide (n - 1) Tryz.prog gf (#[.func (.yield l) #[] #[]] ++ lb) W fun e W' => (∃ v, e = .returned v) ∧ ((∃ xs, xs = T ∧ J xs W') ∨ (∃ pre, pre <+: T ∧ Jx pre W')))
    (hholds : ∀ (x : ByteArray) W, Below w.heap.size w W → x.size ≤ maxLen → Calls Tryz.prog hf #[.string x] W fun e W' => e = .returned (.bool (p x)) ∧ Below W.heap.size W W') :
    CallsIn Fence.wide n Tryz.prog 111 #[.func (.func gf) #[] lb, .func (.func hf) #[] #[]] w fun e w' => e = .returned (.bool (T.all p)) ∧ Below w.heap.size w w' := by
  refine callsIn_of_wp_marks Tryz.func111 rfl trivial ?_ rfl
  simp only [Tryz.ntmps111, List.size_toArray, List.length_cons, List.length_nil, Nat.reduceAdd, Nat.reduceSub, Array.replicate_succ, Array.replicate_zero, List.push_toArray, List.append_toArray, List.nil_append, List.cons_append]
  gi_wp2
  have e0 : ∀ o1 o2, ((w.alloc o1).alloc o2).heap.size = w.heap.size + 2 := fun o1 o2 => by simp
  obtain ⟨w2, hw2⟩ : ∃ w2, (w.alloc (.cells #[.func (.func hf) #[] #[]] 32)).alloc (.cells #[.bool false] 4) = w2 := ⟨_, rfl⟩
  have hs2 : w2.heap.size = w.heap.size + 2 := by rw [← hw2]; exact e0 _ _
  have hb2 : Below w.heap.size w w2 := by rw [← hw2]; exact ((Below.refl _ _).alloc (Nat.le_refl _) _).alloc (by simp) _
  have hc0 : Cel w w.heap.size (.func (.func hf) #[] #[]) w2 := by rw [← hw2]; exact (Cel.new w w _ _).alloc _
  have hc1 : Cel w (w.heap.size + 1) (.bool false) w2 := by rw [← hw2]; have := Cel.new w (w.alloc (.cells #[.func (.func hf) #[] #[]] 32)) (.bool false) 4; rwa [World.size_alloc] at this
  rw [hw2]
  have habd : ∀ (c : Bool), Abd w2.heap.size (fun (pre : List ByteArray) W => pre.all p = c ∧ Cel w w.heap.size (.func (.func hf) #[] #[]) W ∧ Cel w (w.heap.size + 1) (.bool false) W ∧ Below w.heap.size w W ∧ w2.heap.size ≤ W.heap.size) := fun c =>
    ⟨fun pre W W' h hq hb => ⟨h.1, h.2.1.ceq hq, h.2.2.1.ceq hq, h.2.2.2.1.trans (hb.mono (by omega)), by have := h.2.2.2.2; rw [hq.size]; exact this⟩,
      fun pre W o h hs => ⟨h.1, h.2.1.alloc o, h.2.2.1.alloc o, h.2.2.2.1.alloc (by omega) o, by simp; omega⟩⟩
  refine range_law (α := ByteArray) rfl rfl (gf := gf) (lb := lb) rfl trivial eg (encs := fun x => #[.string x]) (fun _ => rfl) (fun x _ => x.size ≤ maxLen) (Kps (fun _ => True)) (fun xs => xs = T) (fun pre => pre <+: T) T.length
    (fun l J Jx W hsz hb hY hJa hJ0 => hseq l J Jx W (hb2.trans (hb.mono (by omega))) (by omega) hY hJa hJ0) (fun h k => h.trans k) ceq_kps _ _ (habd true) (habd false) (fun _ _ h => h.2.2.2.2) ⟨rfl, hc0, hc1, hb2, Nat.le_refl _⟩ ?round ?done ?stop
  case round =>
    rintro l m pre x W ⟨hp, hk0, hk1, hbW, hsz⟩ hx hlen
    gi_wp2
    refine ⟨KeepsFrom.refl _ _, Kps.refl _ _, fun W2 hq hb => ?_⟩
    have a0 := (hk0.ceq hq).cell
    have ha0 := (hk0.ceq hq).frozen
    have a1 := hk1.ceq hq
    have hbW2 : Below w.heap.size w W2 := hbW.trans (hb.mono (by omega))
    have hsz2 : w2.heap.size ≤ W2.heap.size := by rw [hq.size]; exact hsz
    have hc := hholds x W2 hbW2 hx
    have ha1 := a1.cell
    have ha2 := a1.frozen
    replace hbW2 := Lib.hid hbW2
    replace hp := Lib.hid hp
    replace hc := Lib.hid hc
    clear hq hb hx hk0 hk1
    cases hpx : p x
    · rw [hpx] at hc
      replace hpx := Lib.hid hpx
      replace hc := Lib.hid hc
      gi_wp2_with fail
      refine ⟨trivial, fun h => (by cases h), (CallsIn.inRound l (callsIn_wide.2 hc.out)).mono ?_⟩
      rintro e W3 ⟨rfl, hb3⟩
      have d0 := (a1.below hb3).cell
      have d1 := (a1.below hb3).frozen
      have dd := a1.below hb3
      have de := Cel.below (w := w) ⟨a0, ha0⟩ hb3
      replace hb3 := Lib.hid hb3
      gi_wp2_with fail
      refine ⟨(keeps_below hb3.out).trans ((KeepsOthers.setCell _ _ _).from _), ?_, de.setO (by omega) _, dd.setS _, (hbW2.out.trans (hb3.out.mono (by omega))).setCell (by simp) _, ?_⟩
      · rw [List.all_append, hp.out]; simp [hpx.out]
      · have := hb3.out.size; simp; omega
    · rw [hpx] at hc
      replace hpx := Lib.hid hpx
      replace hc := Lib.hid hc
      gi_wp2_with fail
      refine ⟨trivial, fun h => (by cases h), (CallsIn.inRound l (callsIn_wide.2 hc.out)).mono ?_⟩
      rintro e W3 ⟨rfl, hb3⟩
      have dd := a1.below hb3
      have de := Cel.below (w := w) ⟨a0, ha0⟩ hb3
      replace hb3 := Lib.hid hb3
      gi_wp2_with fail
      refine ⟨keeps_below hb3.out, Kps.of_below hb3.out, ?_, de, dd, hbW2.out.trans (hb3.out.mono (by omega)), ?_⟩
      · rw [List.all_append, hp.out]; simp [hpx.out]
      · have := hb3.out.size; omega
  case done =>
    rintro D xs W hD rfl ⟨hp, hk0, hk1, hbW, hsz⟩ hK
    have a1 := hk1.cell
    have a2 := hk1.frozen
    gi_wp2
    have hK' : (W.setCell ⟨w.heap.size + 1, 0, none⟩ (.bool true)).heap[D]? = some (.deferred (some [])) := (Below.heap_setCell _ _ _ _ (by simp; omega)).trans hK
    refine ⟨by simp, .inl ⟨_, _, rfl, run_takeDeferred hK', ?_⟩⟩
    have hc5 := ((hk1.setS (.bool true)).ceq (ceq_deferred (d' := none) hK')).cell
    refine ⟨.bool true, ?_, by rw [hp], (hbW.setCell (by simp) _).trans (below_put _ _ (by omega))⟩
    simp [results, Tryz.results111, go_sem, hc5]
  case stop =>
    rintro D pre W hD hpre ⟨hp, hk0, hk1, hbW, hsz⟩ hK
    gi_wp2
    refine ⟨by simp, .inl ⟨_, _, rfl, run_takeDeferred hK, ?_⟩⟩
    have hc5 := (hk1.ceq (ceq_deferred (d' := none) hK)).cell
    have hT : T.all p = false := by
      obtain ⟨r, rfl⟩ := hpre
      rw [List.all_append, hp]; rfl
    refine ⟨.bool false, ?_, by rw [hT], hbW.trans (below_put _ _ (by omega))⟩
    simp [results, Tryz.results111, go_sem, hc5]
set_option maxRecDepth 100000 in
set_option maxHeartbeats 2000000 in
theorem values1_str_in (l n bx N : Nat) (ps : List ByteArray) (a : Option Addr) (cap : Nat) (J Jx : List ByteArray → World → Prop) (W : World) (hbx : W.cell? ⟨bx, 0, none⟩ = some (.slice a ps.length cap))
    (hrow : RowAt W (fun _ => True) a cap ps.length (strCells ps)) (hin : ∀ p ∈ ps, p.size ≤ maxLen) (hN : ps.length ≤ N)
    (hY : ∀ m pre x W1, J pre W1 → x.size ≤ maxLen → pre.length < N → YieldAt Fence.wide m Tryz.prog l #[.string x] W1 fun e W' =>
        (e = .returned (.bool true) ∧ J (pre ++ [x]) W' ∧ Kps (fun _ => True) W1 W') ∨ (e = .returned (.bool false) ∧ Jx (pre ++ [x]) W'))
    (hJ0 : J [] W) :
    CallsIn Fence.wide n Tryz.prog 157 #[.func (.yield l) #[] #[], .pointer (some ⟨bx, 0, none⟩)] W fun e' W' => (∃ v, e' = .returned v) ∧
      ((∃ xs, xs = ps ∧ J xs W') ∨ (∃ pre, pre <+: ps ∧ Jx pre W')) := by
  have hll : ps.length ≤ 9223372036854775807 := by have := hrow.le; have := hrow.lim; unfold maxLen at this; omega
  refine callsIn_of_wp Tryz.func157 rfl trivial ?_ rfl
  simp only [Tryz.ntmps157, List.size_toArray, List.length_cons, List.length_nil, Nat.reduceAdd, Nat.reduceSub, Array.replicate_succ, Array.replicate_zero, List.push_toArray, List.append_toArray, List.nil_append, List.cons_append]
  gi_wp2
  gi_loopw [7] (fun i wr => ∃ k : Nat, k ≤ ps.length ∧ i = .int .i64 k ∧ J (ps.take k) wr ∧ Kps (fun _ => True) W wr) (fun i _ => ps.length - (intOf i).toNat)
  case atStart => exact ⟨0, Nat.zero_le _, rfl, by simpa using hJ0, Kps.refl _ _⟩
  case round =>
    obtain ⟨k, hk, rfl, hJs, hbr⟩ := hrel
    by_cases hlt : k < ps.length
    · obtain ⟨x, hx⟩ : ∃ x, ps[k]? = some x := ⟨ps[k], by simp [hlt]⟩
      obtain ⟨b, off, rfl, _, hcell⟩ := hrow.at_ k (.string x) (by unfold strCells; rw [List.getElem?_map, hx]; rfl)
      have c0 : wr.cell? ⟨b, off + k, none⟩ = some (.string x) := hbr _ _ _ trivial hcell
      have htk : ps.take (k + 1) = ps.take k ++ [x] := by rw [List.take_add_one, hx]; rfl
      have hy0 := hY (n - 1) (ps.take k) x wr hJs (hin x (List.mem_of_getElem? hx)) (by rw [List.length_take]; omega)
      rw [← htk] at hy0
      have hpp : ps.take (k + 1) <+: ps := List.take_prefix _ _
      replace htk := Lib.hid htk
      replace hpp := Lib.hid hpp
      replace hbr := Lib.hid hbr
      clear hY hrow hin hcell hJs hbx hJ0 hx hN
      obtain ⟨fn, tmps, assign, body, hy, hR⟩ := hy0
      gi_wp2_with fail
      refine ⟨fun h => (by cases h), hR.mono ?_⟩
      clear hR
      rintro e W2 (⟨rfl, hJ2, hb2⟩ | ⟨rfl, hx2⟩)
      · replace hJ2 := Lib.hid hJ2
        replace hb2 := Lib.hid hb2
        gi_wp2_with fail
        go_roundw
        case rel => exact ⟨k + 1, by omega, by go_num, hJ2.out, hbr.out.trans hb2.out⟩
        case measure => simp [intOf]; omega
      · have HR : Hid (∃ pre, pre <+: ps ∧ Jx pre W2) := Lib.hid ⟨_, hpp.out, hx2⟩
        clear hx2
        gi_wp2_with fail
        refine bodyPost_ret (results_none rfl _ _ _) rfl ?_
        exact ⟨⟨_, rfl⟩, .inr HR.out⟩
    · rw [List.take_of_length_le (by omega)] at hJs
      gi_wp2
      go_end0
      exact ⟨⟨_, rfl⟩, .inl ⟨_, rfl, hJs⟩⟩
set_option maxHeartbeats 800000 in
theorem values_str_any (a : Option Addr) (len cap : Nat) (w : World) :
    Calls Tryz.prog 112 #[.slice a len cap] w fun e w' =>
      e = .returned (.func (.func 157) #[] #[.pointer (some ⟨w.heap.size, 0, none⟩)]) ∧ w' = w.alloc (.cells #[.slice a len cap] 28) := by
  go_enter Tryz.func112, Tryz.ntmps112
  go_wp2_with fail
  go_ret
  exact ⟨rfl, rfl⟩

set_option maxRecDepth 100000 in
set_option maxHeartbeats 2000000 in
theorem all_de (n gf hf : Nat) (lb : Array Value) (eg : ∀ args w, (callFunc gf args).run Tryz.prog w = .ok (.enter gf args) w) (eh : ∀ args w, (callFunc hf args).run Tryz.prog w = .ok (.enter hf args) w)
    (w : World) (T : List De) (p : De → Bool)
    (hseq : ∀ (l : Nat) (J Jx : List De → World → Prop) (W : World), Below w.heap.size w W → W.heap.size = w.heap.size + 4 →
      (∀ m pre x W1, J pre W1 → De.In W1 (fun _ => True) x → pre.length < T.length → YieldAt Fence.wide m Tryz.prog l #[.agg ⟨x.vals⟩] W1 fun e W' =>
        (e = .returned (.bool true) ∧ J (pre ++ [x]) W' ∧ Kps (fun _ => True) W1 W') ∨ (e = .returned (.bool false) ∧ Jx (pre ++ [x]) W')) →
      (∀ pre W1 o, J pre W1 → J pre (W1.alloc o)) → J [] W →
      CallsIn Fence.wide (n - 1) Tryz.prog gf (#[.func (.yield l) #[] #[]] ++ lb) W fun e W' => (∃ v, e = .returned v) ∧ ((∃ xs, xs = T ∧ J xs W') ∨ (∃ pre, pre <+: T ∧ Jx pre W')))
    (hholds : ∀ (x : De) W, Below w.heap.size w W → De.In W (fun _ => True) x → Calls Tryz.prog hf #[.agg ⟨x.vals⟩] W fun e W' => e = .returned (.bool (p x)) ∧ Below W.heap.size W W') :
    CallsIn Fence.wide n Tryz.prog 65 #[.func (.func gf) #[] lb, .func (.func hf) #[] #[]] w fun e w' => e = .returned (.bool (T.all p)) ∧ Below w.heap.size w w' := by
  refine callsIn_of_wp_marks Tryz.func65 rfl trivial ?_ rfl
  simp only [Tryz.ntmps65, List.size_toArray, List.length_cons, List.length_nil, Nat.reduceAdd, Nat.reduceSub, Array.replicate_succ, Array.replicate_zero, List.push_toArray, List.append_toArray, List.nil_append, List.cons_append]
  gi_wp2
  have e0 : ∀ o1 o2, ((w.alloc o1).alloc o2).heap.size = w.heap.size + 2 := fun o1 o2 => by simp
  obtain ⟨w2, hw2⟩ : ∃ w2, (w.alloc (.cells #[.func (.func hf) #[] #[]] 70)).alloc (.cells #[.bool false] 4) = w2 := ⟨_, rfl⟩
  have hs2 : w2.heap.size = w.heap.size + 2 := by rw [← hw2]; exact e0 _ _
  have hb2 : Below w.heap.size w w2 := by rw [← hw2]; exact ((Below.refl _ _).alloc (Nat.le_refl _) _).alloc (by simp) _
  have hc0 : Cel w w.heap.size (.func (.func hf) #[] #[]) w2 := by rw [← hw2]; exact (Cel.new w w _ _).alloc _
  have hc1 : Cel w (w.heap.size + 1) (.bool false) w2 := by rw [← hw2]; have := Cel.new w (w.alloc (.cells #[.func (.func hf) #[] #[]] 70)) (.bool false) 4; rwa [World.size_alloc] at this
  rw [hw2]
  have habd : ∀ (c : Bool), Abd w2.heap.size (fun (pre : List De) W => pre.all p = c ∧ Cel w w.heap.size (.func (.func hf) #[] #[]) W ∧ Cel w (w.heap.size + 1) (.bool false) W ∧ Below w.heap.size w W ∧ w2.heap.size ≤ W.heap.size) := fun c =>
    ⟨fun pre W W' h hq hb => ⟨h.1, h.2.1.ceq hq, h.2.2.1.ceq hq, h.2.2.2.1.trans (hb.mono (by omega)), by have := h.2.2.2.2; rw [hq.size]; exact this⟩,
      fun pre W o h hs => ⟨h.1, h.2.1.alloc o, h.2.2.1.alloc o, h.2.2.2.1.alloc (by omega) o, by simp; omega⟩⟩
  refine range_law (α := De) rfl rfl (gf := gf) (lb := lb) rfl trivial eg (encs := fun x => #[.agg ⟨x.vals⟩]) (fun _ => rfl) (fun x W => De.In W (fun _ => True) x) (Kps (fun _ => True)) (fun xs => xs = T) (fun pre => pre <+: T) T.length
    (fun l J Jx W hsz hb hY hJa hJ0 => hseq l J Jx W (hb2.trans (hb.mono (by omega))) (by omega) hY hJa hJ0) (fun h k => h.trans k) ceq_kps _ _ (habd true) (habd false) (fun _ _ h => h.2.2.2.2) ⟨rfl, hc0, hc1, hb2, Nat.le_refl _⟩ ?round ?done ?stop
  case round =>
    rintro l m pre x W ⟨hp, hk0, hk1, hbW, hsz⟩ hx hlen
    obtain ⟨k, nm, en, pa, pcap, params, ba, bcap, body, pos⟩ := x
    obtain ⟨x, hxe⟩ : ∃ x : De, x = ⟨k, nm, en, pa, pcap, params, ba, bcap, body, pos⟩ := ⟨_, rfl⟩
    have hv : Value.agg ⟨x.vals⟩ = .agg #[.int .u8 k, .string nm, .int .i64 en, .slice pa params.length pcap, .slice ba body.length bcap, .int .i64 pos] := by rw [hxe]; rfl
    rw [← hxe] at hx ⊢
    rw [hv]
    clear hxe
    gi_wp2
    refine ⟨keeps_below ((Below.refl _ _).alloc (Nat.le_refl _) _), Kps.alloc _ _, fun W2 hq hb => ?_⟩
    have a0 := ((hk0.alloc (.cells #[.int .u8 k, .string nm, .int .i64 en, .slice pa params.length pcap, .slice ba body.length bcap, .int .i64 pos] 31)).ceq hq).cell
    have ha0 := ((hk0.alloc (.cells #[.int .u8 k, .string nm, .int .i64 en, .slice pa params.length pcap, .slice ba body.length bcap, .int .i64 pos] 31)).ceq hq).frozen
    have a1 := (hk1.alloc (.cells #[.int .u8 k, .string nm, .int .i64 en, .slice pa params.length pcap, .slice ba body.length bcap, .int .i64 pos] 31)).ceq hq
    have b0 : W2.cell? ⟨W.heap.size, 0, none⟩ = some (.int .u8 k) := by rw [hq.cell]; go_simp
    have b1 : W2.cell? ⟨W.heap.size, 1, none⟩ = some (.string nm) := by rw [hq.cell]; go_simp
    have b2 : W2.cell? ⟨W.heap.size, 2, none⟩ = some (.int .i64 en) := by rw [hq.cell]; go_simp
    have b3 : W2.cell? ⟨W.heap.size, 3, none⟩ = some (.slice pa params.length pcap) := by rw [hq.cell]; go_simp
    have b4 : W2.cell? ⟨W.heap.size, 4, none⟩ = some (.slice ba body.length bcap) := by rw [hq.cell]; go_simp
    have b5 : W2.cell? ⟨W.heap.size, 5, none⟩ = some (.int .i64 pos) := by rw [hq.cell]; go_simp
    have hx2 := De.In.below ((Kps.alloc W (.cells #[.int .u8 k, .string nm, .int .i64 en, .slice pa params.length pcap, .slice ba body.length bcap, .int .i64 pos] 31)).trans (ceq_kps hq)) hx
    have hbW2 : Below w.heap.size w W2 := (hbW.alloc (by omega) _).trans (hb.mono (by omega))
    have hsz2 : w2.heap.size ≤ W2.heap.size := by rw [hq.size]; simp; omega
    have hc := hholds x W2 hbW2 hx2
    rw [hv] at hc
    have ha1 := a1.cell
    have ha2 := a1.frozen
    replace hbW2 := Lib.hid hbW2
    replace hp := Lib.hid hp
    replace hc := Lib.hid hc
    clear hq hb hx2 hx hk0 hk1
    cases hpx : p x
    · rw [hpx] at hc
      replace hpx := Lib.hid hpx
      replace hc := Lib.hid hc
      gi_wp2_with fail
      refine ⟨trivial, fun h => (by cases h), (CallsIn.inRound l (callsIn_wide.2 hc.out)).mono ?_⟩
      rintro e W3 ⟨rfl, hb3⟩
      have d0 := (a1.below hb3).cell
      have d1 := (a1.below hb3).frozen
      have dd := a1.below hb3
      have de := Cel.below (w := w) ⟨a0, ha0⟩ hb3
      replace hb3 := Lib.hid hb3
      gi_wp2_with fail
      refine ⟨(keeps_below hb3.out).trans ((KeepsOthers.setCell _ _ _).from _), ?_, de.setO (by omega) _, dd.setS _, (hbW2.out.trans (hb3.out.mono (by omega))).setCell (by simp) _, ?_⟩
      · rw [List.all_append, hp.out]; simp [hpx.out]
      · have := hb3.out.size; simp; omega
    · rw [hpx] at hc
      replace hpx := Lib.hid hpx
      replace hc := Lib.hid hc
      gi_wp2_with fail
      refine ⟨trivial, fun h => (by cases h), (CallsIn.inRound l (callsIn_wide.2 hc.out)).mono ?_⟩
      rintro e W3 ⟨rfl, hb3⟩
      have dd := a1.below hb3
      have de := Cel.below (w := w) ⟨a0, ha0⟩ hb3
      replace hb3 := Lib.hid hb3
      gi_wp2_with fail
      refine ⟨keeps_below hb3.out, Kps.of_below hb3.out, ?_, de, dd, hbW2.out.trans (hb3.out.mono (by omega)), ?_⟩
      · rw [List.all_append, hp.out]; simp [hpx.out]
      · have := hb3.out.size; omega
  case done =>
    rintro D xs W hD rfl ⟨hp, hk0, hk1, hbW, hsz⟩ hK
    have a1 := hk1.cell
    have a2 := hk1.frozen
    gi_wp2
    have hK' : (W.setCell ⟨w.heap.size + 1, 0, none⟩ (.bool true)).heap[D]? = some (.deferred (some [])) := (Below.heap_setCell _ _ _ _ (by simp; omega)).trans hK
    refine ⟨by simp, .inl ⟨_, _, rfl, run_takeDeferred hK', ?_⟩⟩
    have hc5 := ((hk1.setS (.bool true)).ceq (ceq_deferred (d' := none) hK')).cell
    refine ⟨.bool true, ?_, by rw [hp], (hbW.setCell (by simp) _).trans (below_put _ _ (by omega))⟩
    simp [results, Tryz.results65, go_sem, hc5]
  case stop =>
    rintro D pre W hD hpre ⟨hp, hk0, hk1, hbW, hsz⟩ hK
    gi_wp2
    refine ⟨by simp, .inl ⟨_, _, rfl, run_takeDeferred hK, ?_⟩⟩
    have hc5 := (hk1.ceq (ceq_deferred (d' := none) hK)).cell
    have hT : T.all p = false := by
      obtain ⟨r, rfl⟩ := hpre
      rw [List.all_append, hp]; rfl
    refine ⟨.bool false, ?_, by rw [hT], hbW.trans (below_put _ _ (by omega))⟩
    simp [results, Tryz.results65, go_sem, hc5]
set_option maxRecDepth 100000 in
set_option maxHeartbeats 2000000 in
theorem values1_de_in (l n bx N : Nat) (ps : List De) (a : Option Addr) (cap : Nat) (J Jx : List De → World → Prop) (W : World) (hbx : W.cell? ⟨bx, 0, none⟩ = some (.slice a ps.length cap))
    (hrow : RowAt W (fun _ => True) a cap ps.length (deCells ps)) (hin : De.InL W (fun _ => True) ps) (hN : ps.length ≤ N)
    (hY : ∀ m pre x W1, J pre W1 → De.In W1 (fun _ => True) x → pre.length < N → YieldAt Fence.wide m Tryz.prog l #[.agg ⟨x.vals⟩] W1 fun e W' =>
        (e = .returned (.bool true) ∧ J (pre ++ [x]) W' ∧ Kps (fun _ => True) W1 W') ∨ (e = .returned (.bool false) ∧ Jx (pre ++ [x]) W'))
    (hJa : ∀ pre W1 o, J pre W1 → J pre (W1.alloc o)) (hJ0 : J [] W) :
    CallsIn Fence.wide n Tryz.prog 109 #[.func (.yield l) #[] #[], .pointer (some ⟨bx, 0, none⟩)] W fun e' W' => (∃ v, e' = .returned v) ∧
      ((∃ xs, xs = ps ∧ J xs W') ∨ (∃ pre, pre <+: ps ∧ Jx pre W')) := by
  have hll : ps.length ≤ 9223372036854775807 := by have := hrow.le; have := hrow.lim; unfold maxLen at this; omega
  refine callsIn_of_wp Tryz.func109 rfl trivial ?_ rfl
  simp only [Tryz.ntmps109, List.size_toArray, List.length_cons, List.length_nil, Nat.reduceAdd, Nat.reduceSub, Array.replicate_succ, Array.replicate_zero, List.push_toArray, List.append_toArray, List.nil_append, List.cons_append]
  gi_wp2
  gi_loopw [7] (fun i wr => ∃ k : Nat, k ≤ ps.length ∧ i = .int .i64 k ∧ J (ps.take k) wr ∧ Kps (fun _ => True) W wr) (fun i _ => ps.length - (intOf i).toNat)
  case atStart => exact ⟨0, Nat.zero_le _, rfl, by simpa using hJ0, Kps.refl _ _⟩
  case round =>
    obtain ⟨k, hk, rfl, hJs, hbr⟩ := hrel
    by_cases hlt : k < ps.length
    · obtain ⟨x, hx⟩ : ∃ x, ps[k]? = some x := ⟨ps[k], by simp [hlt]⟩
      obtain ⟨b, off, rfl, _, hcell⟩ := de_row hrow k x hx
      have c0 : ∀ j u, x.vals[j]? = some u → wr.cell? ⟨b, off + (k * 6 + j), none⟩ = some u := fun j u hu => hbr _ _ _ trivial (hcell j u hu)
      simp only [← Nat.add_assoc] at c0
      have hxin : De.In wr (fun _ => True) x := De.In.below hbr (hin x (List.mem_of_getElem? hx))
      have htk : ps.take (k + 1) = ps.take k ++ [x] := by rw [List.take_add_one, hx]; rfl
      have hy0 := fun o => hY (n - 1) (ps.take k) x (wr.alloc o) (hJa _ _ _ hJs) (De.In.below (Kps.alloc _ _) hxin) (by rw [List.length_take]; omega)
      rw [← htk] at hy0
      have hpp : ps.take (k + 1) <+: ps := List.take_prefix _ _
      replace htk := Lib.hid htk
      replace hpp := Lib.hid hpp
      replace hbr := Lib.hid hbr
      clear hY hrow hin hcell hJs hbx hJ0 hx hN
      obtain ⟨k', nm, en, pa, pcap, params, ba, bcap, body', pos⟩ := x
      have d0 := c0 0 _ rfl
      have d1 := c0 1 _ rfl
      have d2 := c0 2 _ rfl
      have d3 := c0 3 _ rfl
      have d4 := c0 4 _ rfl
      have d5 := c0 5 _ rfl
      simp only [Nat.add_zero] at d0 d1 d2 d3 d4 d5
      replace hy0 := hy0 (.cells #[.int .u8 k', .string nm, .int .i64 en, .slice pa params.length pcap, .slice ba body'.length bcap, .int .i64 pos] 31)
      replace hy0 : YieldAt Fence.wide (n - 1) Tryz.prog l #[.agg #[.int .u8 k', .string nm, .int .i64 en, .slice pa params.length pcap, .slice ba body'.length bcap, .int .i64 pos]] _ _ := hy0
      clear c0 hxin hJa
      obtain ⟨fn, tmps, assign, body, hy, hR⟩ := hy0
      gi_wp2_with fail
      refine ⟨fun h => (by cases h), hR.mono ?_⟩
      clear hR
      rintro e W2 (⟨rfl, hJ2, hb2⟩ | ⟨rfl, hx2⟩)
      · replace hJ2 := Lib.hid hJ2
        replace hb2 := Lib.hid hb2
        gi_wp2_with fail
        go_roundw
        case rel => exact ⟨k + 1, by omega, by go_num, hJ2.out, (hbr.out.trans (Kps.alloc _ _)).trans hb2.out⟩
        case measure => simp [intOf]; omega
      · have HR : Hid (∃ pre, pre <+: ps ∧ Jx pre W2) := Lib.hid ⟨_, hpp.out, hx2⟩
        clear hx2
        gi_wp2_with fail
        refine bodyPost_ret (results_none rfl _ _ _) rfl ?_
        exact ⟨⟨_, rfl⟩, .inr HR.out⟩
    · rw [List.take_of_length_le (by omega)] at hJs
      gi_wp2
      go_end0
      exact ⟨⟨_, rfl⟩, .inl ⟨_, rfl, hJs⟩⟩
set_option maxHeartbeats 800000 in
theorem values_de_any (a : Option Addr) (len cap : Nat) (w : World) :
    Calls Tryz.prog 66 #[.slice a len cap] w fun e w' =>
      e = .returned (.func (.func 109) #[] #[.pointer (some ⟨w.heap.size, 0, none⟩)]) ∧ w' = w.alloc (.cells #[.slice a len cap] 22) := by
  go_enter Tryz.func66, Tryz.ntmps66
  go_wp2_with fail
  go_ret
  exact ⟨rfl, rfl⟩

end Go.Proofs.YtpcdlneompnhlaaGreatDoor.Tr

namespace Go.Proofs.YtpcdlneompnhlaaGreatDoor.Tr
open Go Go.RowKit Go.Shelf
open Go.Proofs.YtpcdlneompnhlaaGreatDoor.Lx Go.Proofs.YtpcdlneompnhlaaGreatDoor.Rg

/-- what a Kind of declarations has -/
def deLeast (k : Int) : Int := if k = 1 then -9223372036854775808 else if k = 2 then 1 else 0
def deMost (k : Int) : Int := if k = 1 then 9223372036854775807 else if k = 2 then 1024 else 0
def deParams (k : Int) : Int := if k = 4 then 8 else 0
def deBody (k : Int) : Bool := k == 4 || k == 5
def deVals : Array Value := ((List.range 6).flatMap fun (i : Nat) => [Value.int .i64 (deLeast (i : Int)), .int .i64 (deMost (i : Int)), .int .i64 (deParams (i : Int)), .bool (deBody (i : Int))]).toArray
def DeTab (w : World) : Prop := ∃ t fr, w.heap[1]? = some (.cells deVals t fr)
theorem DeTab.below {w w' : World} (h : DeTab w) (hb : Below w.heap.size w w') : DeTab w' := by
  obtain ⟨t, fr, hg⟩ := h
  exact ⟨t, fr, (hb.block _ (Array.getElem?_eq_some_iff.1 hg).1).trans hg⟩
theorem deTab_at {w : World} (h : DeTab w) (k : Int) (h0 : 0 ≤ k) (h1 : k ≤ 5) :
    w.cell? ⟨1, k.toNat * 4, none⟩ = some (.int .i64 (deLeast k)) ∧ w.cell? ⟨1, k.toNat * 4 + 1, none⟩ = some (.int .i64 (deMost k)) ∧ w.cell? ⟨1, k.toNat * 4 + 2, none⟩ = some (.int .i64 (deParams k)) ∧
    w.cell? ⟨1, k.toNat * 4 + 3, none⟩ = some (.bool (deBody k)) := by
  obtain ⟨t, fr, hg⟩ := h
  obtain ⟨m, rfl⟩ : ∃ m : Nat, k = m := ⟨k.toNat, by omega⟩
  rw [Int.toNat_natCast]
  have hc : ∀ j, w.cell? ⟨1, j, none⟩ = deVals[j]? := fun j => by simp [World.cell?, hg]
  rw [hc, hc, hc, hc]
  have hm : m < 6 := by omega
  clear hg hc h0 h1
  have hd : m = 0 ∨ m = 1 ∨ m = 2 ∨ m = 3 ∨ m = 4 ∨ m = 5 := by omega
  rcases hd with rfl | rfl | rfl | rfl | rfl | rfl <;> exact ⟨rfl, rfl, rfl, rfl⟩

/-- are texts all names? -/
def nmes (ps : List ByteArray) : Bool := ps.all fun s => nme s.data.toList
theorem names_any (ps : List ByteArray) (a : Option Addr) (cap : Nat) (V : World) (hrow : RowAt V (fun _ => True) a cap ps.length (strCells ps)) (hin : ∀ p ∈ ps, p.size ≤ maxLen) (hsg : SignsIn V) :
    Calls Tryz.prog 111 #[.func (.func 157) #[] #[.pointer (some ⟨V.heap.size, 0, none⟩)], .func (.func 110) #[] #[]] (V.alloc (.cells #[.slice a ps.length cap] 28)) fun e w' =>
      e = .returned (.bool (nmes ps)) ∧ Below V.heap.size V w' := by
  obtain ⟨W0, hW0⟩ : ∃ W0, V.alloc (.cells #[.slice a ps.length cap] 28) = W0 := ⟨_, rfl⟩
  have hb0 : Below V.heap.size V W0 := by rw [← hW0]; exact (Below.refl _ _).alloc (Nat.le_refl _) _
  have hs0 : W0.heap.size = V.heap.size + 1 := by rw [← hW0]; simp
  have hc0 : Cel V V.heap.size (.slice a ps.length cap) W0 := by rw [← hW0]; exact Cel.new V V _ _
  rw [hW0]
  refine (callsIn_wide.1 (all_str 1 157 110 #[.pointer (some ⟨V.heap.size, 0, none⟩)] (enters_of Tryz.func157 (by kernel_rfl) rfl) (enters_of Tryz.func110 (by kernel_rfl) rfl) W0 ps (fun s => nme s.data.toList)
    (fun l J Jx W hb hsW hY hJa hJ0 => values1_str_in l (1 - 1) V.heap.size ps.length ps a cap J Jx W (hc0.below hb).cell (hrow.below (Kps.of_below (hb0.trans (hb.mono (by omega))))) hin (Nat.le_refl _) hY hJ0)
    (fun x W hb hx => tname_any x W hx (hsg.below hsg.lt (hb0.trans (hb.mono (by omega))))))).mono ?_
  rintro e w' ⟨rfl, hb⟩
  exact ⟨rfl, hb0.trans (hb.mono (by omega))⟩

def fitD (d : De) : Bool := decide (1 ≤ d.kind) && decide (d.kind ≤ 5) && (nme d.name.data.toList && decide (deLeast d.kind ≤ d.n) && decide (d.n ≤ deMost d.kind) && decide ((d.params.length : Int) ≤ deParams d.kind) && nmes d.params && (deBody d.kind || decide (d.body.length = 0)))
theorem fitD_eq (k : Int) (nm : ByteArray) (n : Int) (pa : Option Addr) (pcap : Nat) (params : List ByteArray) (ba : Option Addr) (bcap : Nat) (body : List St) (pos : Int) :
    fitD ⟨k, nm, n, pa, pcap, params, ba, bcap, body, pos⟩ = (decide (1 ≤ k) && decide (k ≤ 5) && (nme nm.data.toList && decide (deLeast k ≤ n) && decide (n ≤ deMost k) && decide ((params.length : Int) ≤ deParams k) && nmes params && (deBody k || decide (body.length = 0)))) := rfl

set_option maxHeartbeats 1600000 in
set_option maxRecDepth 100000 in
theorem fitD_any (d : De) (w : World) (hin : De.In w (fun _ => True) d) (hsg : SignsIn w) (ht : DeTab w) :
    Calls Tryz.prog 67 #[.agg ⟨d.vals⟩] w fun e' w' => e' = .returned (.bool (fitD d)) ∧ Below w.heap.size w w' := by
  obtain ⟨k, nm, n, pa, pcap, params, ba, bcap, body, pos⟩ := d
  obtain ⟨hk, hs, hn, _, hrow, hps, _, _⟩ := hin
  simp only at hk hs hn hrow hps
  unfold U8 at hk
  show Calls Tryz.prog 67 #[.agg #[.int .u8 k, .string nm, .int .i64 n, .slice pa params.length pcap, .slice ba body.length bcap, .int .i64 pos]] w _
  by_cases h1 : k < 1
  · go_enter Tryz.func67, Tryz.ntmps67
    go_wp2_with fail
    go_ret
    exact ⟨ret_bool (by rw [fitD_eq, decide_eq_false (by omega : ¬ 1 ≤ k)]; rfl), (Below.refl _ _).alloc (Nat.le_refl _) _⟩
  · by_cases h9 : 5 < k
    · go_enter Tryz.func67, Tryz.ntmps67
      go_wp2_with fail
      go_ret
      exact ⟨ret_bool (by rw [fitD_eq, decide_eq_false (by omega : ¬ k ≤ 5), Bool.and_false]; rfl), (Below.refl _ _).alloc (Nat.le_refl _) _⟩
    · obtain ⟨c0, c1, c2, c3⟩ := deTab_at ht k (by omega) (by omega)
      have hz2 : 1 < w.heap.size := World.block_lt_of_cell? _ _ c0
      replace c0 := fun o => (World.cell?_alloc_lt w o ⟨1, k.toNat * 4, none⟩ hz2).trans c0
      replace c1 := fun o => (World.cell?_alloc_lt w o ⟨1, k.toNat * 4 + 1, none⟩ hz2).trans c1
      replace c2 := fun o => (World.cell?_alloc_lt w o ⟨1, k.toNat * 4 + 2, none⟩ hz2).trans c2
      replace c3 := fun o => (World.cell?_alloc_lt w o ⟨1, k.toNat * 4 + 3, none⟩ hz2).trans c3
      have hg : 0 < w.heap.size := hsg.lt
      have hcall := fun W h => tname_any nm W hs h
      have hnames := fun V (h : Below w.heap.size w V) => names_any params pa pcap V (hrow.below (Kps.of_below h)) hps (hsg.below hg h)
      have HD := Lib.hid (fitD_eq k nm n pa pcap params ba bcap body pos)
      rw [decide_eq_true (by omega : 1 ≤ k), decide_eq_true (by omega : k ≤ 5)] at HD
      generalize deLeast k = xl at *
      generalize deMost k = xm at *
      generalize deParams k = xp at *
      generalize deBody k = xb at *
      generalize nme nm.data.toList = f1 at *
      generalize nmes params = f2 at *
      replace hcall := Lib.hid hcall
      replace hnames := Lib.hid hnames
      have hfin : ∀ b, b = (true && true && (f1 && decide (xl ≤ n) && decide (n ≤ xm) && decide ((params.length : Int) ≤ xp) && f2 && (xb || decide (body.length = 0)))) → Ending.returned (.bool b) = .returned (.bool (fitD ⟨k, nm, n, pa, pcap, params, ba, bcap, body, pos⟩)) := fun b hb => ret_bool (hb.trans HD.out.symm)
      replace hfin := Lib.hid hfin
      clear hrow
      cases f1
      · go_enter Tryz.func67, Tryz.ntmps67
        go_wp2_with fail
        refine (hcall.out _ ((hsg.below hg (((Below.refl _ _).alloc (Nat.le_refl _) _).alloc (by simp) _)))).mono ?_
        rintro e w' ⟨rfl, hb⟩
        obtain ⟨hc, hf⟩ := bcell hb
        go_wp2_with fail
        go_ret
        exact ⟨hfin.out _ rfl, (((Below.refl _ _).alloc (Nat.le_refl _) _).alloc (by simp) _).trans (hb.mono (by simp; omega))⟩
      · go_enter Tryz.func67, Tryz.ntmps67
        go_wp2_with fail
        refine (hcall.out _ ((hsg.below hg (((Below.refl _ _).alloc (Nat.le_refl _) _).alloc (by simp) _)))).mono ?_
        rintro e w' ⟨rfl, hb⟩
        obtain ⟨hc, hf⟩ := bcell hb
        have hbw : Below w.heap.size w w' := ((((Below.refl _ _).alloc (Nat.le_refl _) _).alloc (by simp) _).trans (hb.mono (by simp; omega)))
        have hz := hb.size
        simp only [World.size_alloc] at hz
        replace hb := Lib.hid hb
        replace hbw := Lib.hid hbw
        go_wp2_with (first
          | (go_at_call 112; refine (values_str_any _ _ _ _).mono ?_; rintro e w2 ⟨rfl, rfl⟩)
          | (go_at_call 111; refine (hnames.out _ hbw.out).mono ?_; rintro e w3 ⟨rfl, hb3⟩; have hl3 : ∀ b o, b < w.heap.size + 2 → w3.cell? ⟨b, o, none⟩ = w'.cell? ⟨b, o, none⟩ := fun b o h => hb3.cell (p := ⟨b, o, none⟩) (by simp only; omega); replace hb3 := Lib.hid hb3))
        all_goals
          go_ret
          refine ⟨hfin.out _ ?_, ?_⟩
          · clear hc hf c0 c1 c2 c3
            try clear hl3
            rw [Bool.eq_iff_iff]
            first
              | (simp [*]; done)
              | (simp [*]; intros; exfalso; omega)
          · first
              | exact hbw.out.trans (hb3.out.mono (by omega))
              | exact hbw.out
end Go.Proofs.YtpcdlneompnhlaaGreatDoor.Tr
