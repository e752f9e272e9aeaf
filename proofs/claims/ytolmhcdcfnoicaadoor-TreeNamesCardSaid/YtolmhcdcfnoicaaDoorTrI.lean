/- Walks of tree.all over texts and over declarations, of slices.Values at both. Conditions: none. -/
import Derived.Test.YtolmhcdcfnoicaaDoorTrH
namespace Go.Proofs.YtolmhcdcfnoicaaDoor.Tr
open Go Go.RowKit Go.Shelf
open Go.Proofs.YtolmhcdcfnoicaaDoor.Lx Go.Proofs.YtolmhcdcfnoicaaDoor.Rg
attribute [local go_sem] Oper.semAt_some

set_option maxRecDepth 100000 in
set_option maxHeartbeats 2000000 in
theorem all_str (n gf hf : Nat) (lb : Array Value) (eg : ∀ args w, (callFunc gf args).run Tryd.prog w = .ok (.enter gf args) w) (eh : ∀ args w, (callFunc hf args).run Tryd.prog w = .ok (.enter hf args) w)
    (w : World) (T : List ByteArray) (p : ByteArray → Bool)
    (hseq : ∀ (l : Nat) (J Jx : List ByteArray → World → Prop) (W : World), Below w.heap.size w W → W.heap.size = w.heap.size + 4 →
      (∀ m pre x W1, J pre W1 → x.size ≤ maxLen → pre.length < T.length → YieldAt Fence.wide m Tryd.prog l #[.string x] W1 fun e W' =>
        (e = .returned (.bool true) ∧ J (pre ++ [x]) W' ∧ Kps (fun _ => True) W1 W') ∨ (e = .returned (.bool false) ∧ Jx (pre ++ [x]) W')) →
      (∀ pre W1 o, J pre W1 → J pre (W1.alloc o)) → J [] W →
      CallsIn Fence.wide (n - 1) Tryd.prog gf (#[.func (.yield l) #[] #[]] ++ lb) W fun e W' => (∃ v, e = .returned v) ∧ ((∃ xs, xs = T ∧ J xs W') ∨ (∃ pre, pre <+: T ∧ Jx pre W')))
    (hholds : ∀ (x : ByteArray) W, Below w.heap.size w W → x.size ≤ maxLen → Calls Tryd.prog hf #[.string x] W fun e W' => e = .returned (.bool (p x)) ∧ Below W.heap.size W W') :
    CallsIn Fence.wide n Tryd.prog 52 #[.func (.func gf) #[] lb, .func (.func hf) #[] #[]] w fun e w' => e = .returned (.bool (T.all p)) ∧ Below w.heap.size w w' := by
  refine callsIn_of_wp_marks Tryd.func52 rfl trivial ?_ rfl
  simp only [Tryd.ntmps52, List.size_toArray, List.length_cons, List.length_nil, Nat.reduceAdd, Nat.reduceSub, Array.replicate_succ, Array.replicate_zero, List.push_toArray, List.append_toArray, List.nil_append, List.cons_append]
  gi_wp2
  have e0 : ∀ o1 o2, ((w.alloc o1).alloc o2).heap.size = w.heap.size + 2 := fun o1 o2 => by simp
  obtain ⟨w2, hw2⟩ : ∃ w2, (w.alloc (.cells #[.func (.func hf) #[] #[]] 33)).alloc (.cells #[.bool false] 4) = w2 := ⟨_, rfl⟩
  have hs2 : w2.heap.size = w.heap.size + 2 := by rw [← hw2]; exact e0 _ _
  have hb2 : Below w.heap.size w w2 := by rw [← hw2]; exact ((Below.refl _ _).alloc (Nat.le_refl _) _).alloc (by simp) _
  have hc0 : Cel w w.heap.size (.func (.func hf) #[] #[]) w2 := by rw [← hw2]; exact (Cel.new w w _ _).alloc _
  have hc1 : Cel w (w.heap.size + 1) (.bool false) w2 := by rw [← hw2]; have := Cel.new w (w.alloc (.cells #[.func (.func hf) #[] #[]] 33)) (.bool false) 4; rwa [World.size_alloc] at this
  rw [hw2]
  have habd : ∀ (c : Bool), Abd w2.heap.size (fun (pre : List ByteArray) W => pre.all p = c ∧ Cel w w.heap.size (.func (.func hf) #[] #[]) W ∧ Cel w (w.heap.size + 1) (.bool false) W ∧ Below w.heap.size w W ∧ w2.heap.size ≤ W.heap.size) := fun c =>
    ⟨fun pre W W' h hq hb => ⟨h.1, h.2.1.ceq hq, h.2.2.1.ceq hq, h.2.2.2.1.trans (hb.mono (by omega)), by have := h.2.2.2.2; rw [hq.size]; exact this⟩,
      fun pre W o h hs => ⟨h.1, h.2.1.alloc o, h.2.2.1.alloc o, h.2.2.2.1.alloc (by omega) o, by simp; omega⟩⟩
  refine range_law (α := ByteArray) rfl rfl (gf := gf) (lb := lb) rfl trivial eg (encs := fun x => #[.string x]) (fun _ => rfl) (fun x _ => x.size ≤ maxLen) (Kps (fun _ => True)) (fun xs => xs = T) (fun pre => pre <+: T) T.length
    (fun l J Jx W hsz hb hY hJa hJ0 => hseq l J Jx W (hb2.trans (hb.mono (by omega))) (by omega) hY hJa hJ0) (fun h k => h.trans k) ceq_kps _ _ (habd true) (habd false) (fun _ _ h => h.2.2.2.2) ⟨rfl, hc0, hc1, hb2, Nat.le_refl _⟩ ?round ?done ?stop
  case round =>
    rintro l m pre x W ⟨hp, hk0, hk1, hbW, hsz⟩ hx hlen
    gi_wp2
    refine ⟨KeepsFrom.refl _ _, Kps.refl _ _, fun W2 hq hb => ?_⟩
    have a0 := (hk0.ceq hq).cell
    have ha0 := (hk0.ceq hq).frozen
    have a1 := hk1.ceq hq
    have hbW2 : Below w.heap.size w W2 := hbW.trans (hb.mono (by omega))
    have hsz2 : w2.heap.size ≤ W2.heap.size := by rw [hq.size]; exact hsz
    have hc := hholds x W2 hbW2 hx
    have ha1 := a1.cell
    have ha2 := a1.frozen
    replace hbW2 := Lib.hid hbW2
    replace hp := Lib.hid hp
    replace hc := Lib.hid hc
    clear hq hb hx hk0 hk1
    cases hpx : p x
    · rw [hpx] at hc
      replace hpx := Lib.hid hpx
      replace hc := Lib.hid hc
      gi_wp2_with fail
      refine ⟨trivial, fun h => (by cases h), (CallsIn.inRound l (callsIn_wide.2 hc.out)).mono ?_⟩
      rintro e W3 ⟨rfl, hb3⟩
      have d0 := (a1.below hb3).cell
      have d1 := (a1.below hb3).frozen
      have dd := a1.below hb3
      have de := Cel.below (w := w) ⟨a0, ha0⟩ hb3
      replace hb3 := Lib.hid hb3
      gi_wp2_with fail
      refine ⟨(keeps_below hb3.out).trans ((KeepsOthers.setCell _ _ _).from _), ?_, de.setO (by omega) _, dd.setS _, (hbW2.out.trans (hb3.out.mono (by omega))).setCell (by simp) _, ?_⟩
      · rw [List.all_append, hp.out]; simp [hpx.out]
      · have := hb3.out.size; simp; omega
    · rw [hpx] at hc
      replace hpx := Lib.hid hpx
      replace hc := Lib.hid hc
      gi_wp2_with fail
      refine ⟨trivial, fun h => (by cases h), (CallsIn.inRound l (callsIn_wide.2 hc.out)).mono ?_⟩
      rintro e W3 ⟨rfl, hb3⟩
      have dd := a1.below hb3
      have de := Cel.below (w := w) ⟨a0, ha0⟩ hb3
      replace hb3 := Lib.hid hb3
      gi_wp2_with fail
      refine ⟨keeps_below hb3.out, Kps.of_below hb3.out, ?_, de, dd, hbW2.out.trans (hb3.out.mono (by omega)), ?_⟩
      · rw [List.all_append, hp.out]; simp [hpx.out]
      · have := hb3.out.size; omega
  case done =>
    rintro D xs W hD rfl ⟨hp, hk0, hk1, hbW, hsz⟩ hK
    have a1 := hk1.cell
    have a2 := hk1.frozen
    gi_wp2
    have hK' : (W.setCell ⟨w.heap.size + 1, 0, none⟩ (.bool true)).heap[D]? = some (.deferred (some [])) := (Below.heap_setCell _ _ _ _ (by simp; omega)).trans hK
    refine ⟨by simp, .inl ⟨_, _, rfl, run_takeDeferred hK', ?_⟩⟩
    have hc5 := ((hk1.setS (.bool true)).ceq (ceq_deferred (d' := none) hK')).cell
    refine ⟨.bool true, ?_, by rw [hp], (hbW.setCell (by simp) _).trans (below_put _ _ (by omega))⟩
    simp [results, Tryd.results52, go_sem, hc5]
  case stop =>
    rintro D pre W hD hpre ⟨hp, hk0, hk1, hbW, hsz⟩ hK
    gi_wp2
    refine ⟨by simp, .inl ⟨_, _, rfl, run_takeDeferred hK, ?_⟩⟩
    have hc5 := (hk1.ceq (ceq_deferred (d' := none) hK)).cell
    have hT : T.all p = false := by
      obtain ⟨r, rfl⟩ := hpre
      rw [List.all_append, hp]; rfl
    refine ⟨.bool false, ?_, by rw [hT], hbW.trans (below_put _ _ (by omega))⟩
    simp [results, Tryd.results52, go_sem, hc5]
set_option maxRecDepth 100000 in
set_option maxHeartbeats 2000000 in
theorem values1_str_in (l n bx N : Nat) (ps : List ByteArray) (a : Option Addr) (cap : Nat) (J Jx : List ByteArray → World → Prop) (W : World) (hbx : W.cell? ⟨bx, 0, none⟩ = some (.slice a ps.length cap))
    (hrow : RowAt W (fun _ => True) a cap ps.length (strCells ps)) (hin : ∀ p ∈ ps, p.size ≤ maxLen) (hN : ps.length ≤ N)
    (hY : ∀ m pre x W1, J pre W1 → x.size ≤ maxLen → pre.length < N → YieldAt Fence.wide m Tryd.prog l #[.string x] W1 fun e W' =>
        (e = .returned (.bool true) ∧ J (pre ++ [x]) W' ∧ Kps (fun _ => True) W1 W') ∨ (e = .returned (.bool false) ∧ Jx (pre ++ [x]) W'))
    (hJ0 : J [] W) :
    CallsIn Fence.wide n Tryd.prog 68 #[.func (.yield l) #[] #[], .pointer (some ⟨bx, 0, none⟩)] W fun e' W' => (∃ v, e' = .returned v) ∧
      ((∃ xs, xs = ps ∧ J xs W') ∨ (∃ pre, pre <+: ps ∧ Jx pre W')) := by
  have hll : ps.length ≤ 9223372036854775807 := by have := hrow.le; have := hrow.lim; unfold maxLen at this; omega
  refine callsIn_of_wp Tryd.func68 rfl trivial ?_ rfl
  simp only [Tryd.ntmps68, List.size_toArray, List.length_cons, List.length_nil, Nat.reduceAdd, Nat.reduceSub, Array.replicate_succ, Array.replicate_zero, List.push_toArray, List.append_toArray, List.nil_append, List.cons_append]
  gi_wp2
  gi_loopw [7] (fun i wr => ∃ k : Nat, k ≤ ps.length ∧ i = .int .i64 k ∧ J (ps.take k) wr ∧ Kps (fun _ => True) W wr) (fun i _ => ps.length - (intOf i).toNat)
  case atStart => exact ⟨0, Nat.zero_le _, rfl, by simpa using hJ0, Kps.refl _ _⟩
  case round =>
    obtain ⟨k, hk, rfl, hJs, hbr⟩ := hrel
    by_cases hlt : k < ps.length
    · obtain ⟨x, hx⟩ : ∃ x, ps[k]? = some x := ⟨ps[k], by simp [hlt]⟩
      obtain ⟨b, off, rfl, _, hcell⟩ := hrow.at_ k (.string x) (by unfold strCells; rw [List.getElem?_map, hx]; rfl)
      have c0 : wr.cell? ⟨b, off + k, none⟩ = some (.string x) := hbr _ _ _ trivial hcell
      have htk : ps.take (k + 1) = ps.take k ++ [x] := by rw [List.take_add_one, hx]; rfl
      have hy0 := hY (n - 1) (ps.take k) x wr hJs (hin x (List.mem_of_getElem? hx)) (by rw [List.length_take]; omega)
      rw [← htk] at hy0
      have hpp : ps.take (k + 1) <+: ps := List.take_prefix _ _
      replace htk := Lib.hid htk
      replace hpp := Lib.hid hpp
      replace hbr := Lib.hid hbr
      clear hY hrow hin hcell hJs hbx hJ0 hx hN
      obtain ⟨fn, tmps, assign, body, hy, hR⟩ := hy0
      gi_wp2_with fail
      refine ⟨fun h => (by cases h), hR.mono ?_⟩
      clear hR
      rintro e W2 (⟨rfl, hJ2, hb2⟩ | ⟨rfl, hx2⟩)
      · replace hJ2 := Lib.hid hJ2
        replace hb2 := Lib.hid hb2
        gi_wp2_with fail
        go_roundw
        case rel => exact ⟨k + 1, by omega, by go_num, hJ2.out, hbr.out.trans hb2.out⟩
        case measure => simp [intOf]; omega
      · have HR : Hid (∃ pre, pre <+: ps ∧ Jx pre W2) := Lib.hid ⟨_, hpp.out, hx2⟩
        clear hx2
        gi_wp2_with fail
        refine bodyPost_ret (results_none rfl _ _ _) rfl ?_
        exact ⟨⟨_, rfl⟩, .inr HR.out⟩
    · rw [List.take_of_length_le (by omega)] at hJs
      gi_wp2
      go_end0
      exact ⟨⟨_, rfl⟩, .inl ⟨_, rfl, hJs⟩⟩
set_option maxHeartbeats 800000 in
theorem values_str_any (a : Option Addr) (len cap : Nat) (w : World) :
    Calls Tryd.prog 53 #[.slice a len cap] w fun e w' =>
      e = .returned (.func (.func 68) #[] #[.pointer (some ⟨w.heap.size, 0, none⟩)]) ∧ w' = w.alloc (.cells #[.slice a len cap] 35) := by
  go_enter Tryd.func53, Tryd.ntmps53
  go_wp2_with fail
  go_ret
  exact ⟨rfl, rfl⟩

set_option maxRecDepth 100000 in
set_option maxHeartbeats 2000000 in
theorem all_de (n gf hf : Nat) (lb : Array Value) (eg : ∀ args w, (callFunc gf args).run Tryd.prog w = .ok (.enter gf args) w) (eh : ∀ args w, (callFunc hf args).run Tryd.prog w = .ok (.enter hf args) w)
    (w : World) (T : List De) (p : De → Bool)
    (hseq : ∀ (l : Nat) (J Jx : List De → World → Prop) (W : World), Below w.heap.size w W → W.heap.size = w.heap.size + 4 →
      (∀ m pre x W1, J pre W1 → De.In W1 (fun _ => True) x → pre.length < T.length → YieldAt Fence.wide m Tryd.prog l #[.agg ⟨x.vals⟩] W1 fun e W' =>
        (e = .returned (.bool true) ∧ J (pre ++ [x]) W' ∧ Kps (fun _ => True) W1 W') ∨ (e = .returned (.bool false) ∧ Jx (pre ++ [x]) W')) →
      (∀ pre W1 o, J pre W1 → J pre (W1.alloc o)) → J [] W →
      CallsIn Fence.wide (n - 1) Tryd.prog gf (#[.func (.yield l) #[] #[]] ++ lb) W fun e W' => (∃ v, e = .returned v) ∧ ((∃ xs, xs = T ∧ J xs W') ∨ (∃ pre, pre <+: T ∧ Jx pre W')))
    (hholds : ∀ (x : De) W, Below w.heap.size w W → De.In W (fun _ => True) x → Calls Tryd.prog hf #[.agg ⟨x.vals⟩] W fun e W' => e = .returned (.bool (p x)) ∧ Below W.heap.size W W') :
    CallsIn Fence.wide n Tryd.prog 31 #[.func (.func gf) #[] lb, .func (.func hf) #[] #[]] w fun e w' => e = .returned (.bool (T.all p)) ∧ Below w.heap.size w w' := by
  refine callsIn_of_wp_marks Tryd.func31 rfl trivial ?_ rfl
  simp only [Tryd.ntmps31, List.size_toArray, List.length_cons, List.length_nil, Nat.reduceAdd, Nat.reduceSub, Array.replicate_succ, Array.replicate_zero, List.push_toArray, List.append_toArray, List.nil_append, List.cons_append]
  gi_wp2
  have e0 : ∀ o1 o2, ((w.alloc o1).alloc o2).heap.size = w.heap.size + 2 := fun o1 o2 => by simp
  obtain ⟨w2, hw2⟩ : ∃ w2, (w.alloc (.cells #[.func (.func hf) #[] #[]] 55)).alloc (.cells #[.bool false] 4) = w2 := ⟨_, rfl⟩
  have hs2 : w2.heap.size = w.heap.size + 2 := by rw [← hw2]; exact e0 _ _
  have hb2 : Below w.heap.size w w2 := by rw [← hw2]; exact ((Below.refl _ _).alloc (Nat.le_refl _) _).alloc (by simp) _
  have hc0 : Cel w w.heap.size (.func (.func hf) #[] #[]) w2 := by rw [← hw2]; exact (Cel.new w w _ _).alloc _
  have hc1 : Cel w (w.heap.size + 1) (.bool false) w2 := by rw [← hw2]; have := Cel.new w (w.alloc (.cells #[.func (.func hf) #[] #[]] 55)) (.bool false) 4; rwa [World.size_alloc] at this
  rw [hw2]
  have habd : ∀ (c : Bool), Abd w2.heap.size (fun (pre : List De) W => pre.all p = c ∧ Cel w w.heap.size (.func (.func hf) #[] #[]) W ∧ Cel w (w.heap.size + 1) (.bool false) W ∧ Below w.heap.size w W ∧ w2.heap.size ≤ W.heap.size) := fun c =>
    ⟨fun pre W W' h hq hb => ⟨h.1, h.2.1.ceq hq, h.2.2.1.ceq hq, h.2.2.2.1.trans (hb.mono (by omega)), by have := h.2.2.2.2; rw [hq.size]; exact this⟩,
      fun pre W o h hs => ⟨h.1, h.2.1.alloc o, h.2.2.1.alloc o, h.2.2.2.1.alloc (by omega) o, by simp; omega⟩⟩
  refine range_law (α := De) rfl rfl (gf := gf) (lb := lb) rfl trivial eg (encs := fun x => #[.agg ⟨x.vals⟩]) (fun _ => rfl) (fun x W => De.In W (fun _ => True) x) (Kps (fun _ => True)) (fun xs => xs = T) (fun pre => pre <+: T) T.length
    (fun l J Jx W hsz hb hY hJa hJ0 => hseq l J Jx W (hb2.trans (hb.mono (by omega))) (by omega) hY hJa hJ0) (fun h k => h.trans k) ceq_kps _ _ (habd true) (habd false) (fun _ _ h => h.2.2.2.2) ⟨rfl, hc0, hc1, hb2, Nat.le_refl _⟩ ?round ?done ?stop
  case round =>
    rintro l m pre x W ⟨hp, hk0, hk1, hbW, hsz⟩ hx hlen
    obtain ⟨k, nm, en, pa, pcap, params, ba, bcap, body, pos⟩ := x
    obtain ⟨x, hxe⟩ : ∃ x : De, x = ⟨k, nm, en, pa, pcap, params, ba, bcap, body, pos⟩ := ⟨_, rfl⟩
    have hv : Value.agg ⟨x.vals⟩ = .agg #[.int .u8 k, .string nm, .int .i64 en, .slice pa params.length pcap, .slice ba body.length bcap, .int .i64 pos] := by rw [hxe]; rfl
    rw [← hxe] at hx ⊢
    rw [hv]
    clear hxe
    gi_wp2
    refine ⟨keeps_below ((Below.refl _ _).alloc (Nat.le_refl _) _), Kps.alloc _ _, fun W2 hq hb => ?_⟩
    have a0 := ((hk0.alloc (.cells #[.int .u8 k, .string nm, .int .i64 en, .slice pa params.length pcap, .slice ba body.length bcap, .int .i64 pos] 40)).ceq hq).cell
    have ha0 := ((hk0.alloc (.cells #[.int .u8 k, .string nm, .int .i64 en, .slice pa params.length pcap, .slice ba body.length bcap, .int .i64 pos] 40)).ceq hq).frozen
    have a1 := (hk1.alloc (.cells #[.int .u8 k, .string nm, .int .i64 en, .slice pa params.length pcap, .slice ba body.length bcap, .int .i64 pos] 40)).ceq hq
    have b0 : W2.cell? ⟨W.heap.size, 0, none⟩ = some (.int .u8 k) := by rw [hq.cell]; go_simp
    have b1 : W2.cell? ⟨W.heap.size, 1, none⟩ = some (.string nm) := by rw [hq.cell]; go_simp
    have b2 : W2.cell? ⟨W.heap.size, 2, none⟩ = some (.int .i64 en) := by rw [hq.cell]; go_simp
    have b3 : W2.cell? ⟨W.heap.size, 3, none⟩ = some (.slice pa params.length pcap) := by rw [hq.cell]; go_simp
    have b4 : W2.cell? ⟨W.heap.size, 4, none⟩ = some (.slice ba body.length bcap) := by rw [hq.cell]; go_simp
    have b5 : W2.cell? ⟨W.heap.size, 5, none⟩ = some (.int .i64 pos) := by rw [hq.cell]; go_simp
    have hx2 := De.In.below ((Kps.alloc W (.cells #[.int .u8 k, .string nm, .int .i64 en, .slice pa params.length pcap, .slice ba body.length bcap, .int .i64 pos] 40)).trans (ceq_kps hq)) hx
    have hbW2 : Below w.heap.size w W2 := (hbW.alloc (by omega) _).trans (hb.mono (by omega))
    have hsz2 : w2.heap.size ≤ W2.heap.size := by rw [hq.size]; simp; omega
    have hc := hholds x W2 hbW2 hx2
    rw [hv] at hc
    have ha1 := a1.cell
    have ha2 := a1.frozen
    replace hbW2 := Lib.hid hbW2
    replace hp := Lib.hid hp
    replace hc := Lib.hid hc
    clear hq hb hx2 hx hk0 hk1
    cases hpx : p x
    · rw [hpx] at hc
      replace hpx := Lib.hid hpx
      replace hc := Lib.hid hc
      gi_wp2_with fail
      refine ⟨trivial, fun h => (by cases h), (CallsIn.inRound l (callsIn_wide.2 hc.out)).mono ?_⟩
      rintro e W3 ⟨rfl, hb3⟩
      have d0 := (a1.below hb3).cell
      have d1 := (a1.below hb3).frozen
      have dd := a1.below hb3
      have de := Cel.below (w := w) ⟨a0, ha0⟩ hb3
      replace hb3 := Lib.hid hb3
      gi_wp2_with fail
      refine ⟨(keeps_below hb3.out).trans ((KeepsOthers.setCell _ _ _).from _), ?_, de.setO (by omega) _, dd.setS _, (hbW2.out.trans (hb3.out.mono (by omega))).setCell (by simp) _, ?_⟩
      · rw [List.all_append, hp.out]; simp [hpx.out]
      · have := hb3.out.size; simp; omega
    · rw [hpx] at hc
      replace hpx := Lib.hid hpx
      replace hc := Lib.hid hc
      gi_wp2_with fail
      refine ⟨trivial, fun h => (by cases h), (CallsIn.inRound l (callsIn_wide.2 hc.out)).mono ?_⟩
      rintro e W3 ⟨rfl, hb3⟩
      have dd := a1.below hb3
      have de := Cel.below (w := w) ⟨a0, ha0⟩ hb3
      replace hb3 := Lib.hid hb3
      gi_wp2_with fail
      refine ⟨keeps_below hb3.out, Kps.of_below hb3.out, ?_, de, dd, hbW2.out.trans (hb3.out.mono (by omega)), ?_⟩
      · rw [List.all_append, hp.out]; simp [hpx.out]
      · have := hb3.out.size; omega
  case done =>
    rintro D xs W hD rfl ⟨hp, hk0, hk1, hbW, hsz⟩ hK
    have a1 := hk1.cell
    have a2 := hk1.frozen
    gi_wp2
    have hK' : (W.setCell ⟨w.heap.size + 1, 0, none⟩ (.bool true)).heap[D]? = some (.deferred (some [])) := (Below.heap_setCell _ _ _ _ (by simp; omega)).trans hK
    refine ⟨by simp, .inl ⟨_, _, rfl, run_takeDeferred hK', ?_⟩⟩
    have hc5 := ((hk1.setS (.bool true)).ceq (ceq_deferred (d' := none) hK')).cell
    refine ⟨.bool true, ?_, by rw [hp], (hbW.setCell (by simp) _).trans (below_put _ _ (by omega))⟩
    simp [results, Tryd.results31, go_sem, hc5]
  case stop =>
    rintro D pre W hD hpre ⟨hp, hk0, hk1, hbW, hsz⟩ hK
    gi_wp2
    refine ⟨by simp, .inl ⟨_, _, rfl, run_takeDeferred hK, ?_⟩⟩
    have hc5 := (hk1.ceq (ceq_deferred (d' := none) hK)).cell
    have hT : T.all p = false := by
      obtain ⟨r, rfl⟩ := hpre
      rw [List.all_append, hp]; rfl
    refine ⟨.bool false, ?_, by rw [hT], hbW.trans (below_put _ _ (by omega))⟩
    simp [results, Tryd.results31, go_sem, hc5]
set_option maxRecDepth 100000 in
set_option maxHeartbeats 2000000 in
theorem values1_de_in (l n bx N : Nat) (ps : List De) (a : Option Addr) (cap : Nat) (J Jx : List De → World → Prop) (W : World) (hbx : W.cell? ⟨bx, 0, none⟩ = some (.slice a ps.length cap))
    (hrow : RowAt W (fun _ => True) a cap ps.length (deCells ps)) (hin : De.InL W (fun _ => True) ps) (hN : ps.length ≤ N)
    (hY : ∀ m pre x W1, J pre W1 → De.In W1 (fun _ => True) x → pre.length < N → YieldAt Fence.wide m Tryd.prog l #[.agg ⟨x.vals⟩] W1 fun e W' =>
        (e = .returned (.bool true) ∧ J (pre ++ [x]) W' ∧ Kps (fun _ => True) W1 W') ∨ (e = .returned (.bool false) ∧ Jx (pre ++ [x]) W'))
    (hJa : ∀ pre W1 o, J pre W1 → J pre (W1.alloc o)) (hJ0 : J [] W) :
    CallsIn Fence.wide n Tryd.prog 51 #[.func (.yield l) #[] #[], .pointer (some ⟨bx, 0, none⟩)] W fun e' W' => (∃ v, e' = .returned v) ∧
      ((∃ xs, xs = ps ∧ J xs W') ∨ (∃ pre, pre <+: ps ∧ Jx pre W')) := by
  have hll : ps.length ≤ 9223372036854775807 := by have := hrow.le; have := hrow.lim; unfold maxLen at this; omega
  refine callsIn_of_wp Tryd.func51 rfl trivial ?_ rfl
  simp only [Tryd.ntmps51, List.size_toArray, List.length_cons, List.length_nil, Nat.reduceAdd, Nat.reduceSub, Array.replicate_succ, Array.replicate_zero, List.push_toArray, List.append_toArray, List.nil_append, List.cons_append]
  gi_wp2
  gi_loopw [7] (fun i wr => ∃ k : Nat, k ≤ ps.length ∧ i = .int .i64 k ∧ J (ps.take k) wr ∧ Kps (fun _ => True) W wr) (fun i _ => ps.length - (intOf i).toNat)
  case atStart => exact ⟨0, Nat.zero_le _, rfl, by simpa using hJ0, Kps.refl _ _⟩
  case round =>
    obtain ⟨k, hk, rfl, hJs, hbr⟩ := hrel
    by_cases hlt : k < ps.length
    · obtain ⟨x, hx⟩ : ∃ x, ps[k]? = some x := ⟨ps[k], by simp [hlt]⟩
      obtain ⟨b, off, rfl, _, hcell⟩ := de_row hrow k x hx
      have c0 : ∀ j u, x.vals[j]? = some u → wr.cell? ⟨b, off + (k * 6 + j), none⟩ = some u := fun j u hu => hbr _ _ _ trivial (hcell j u hu)
      simp only [← Nat.add_assoc] at c0
      have hxin : De.In wr (fun _ => True) x := De.In.below hbr (hin x (List.mem_of_getElem? hx))
      have htk : ps.take (k + 1) = ps.take k ++ [x] := by rw [List.take_add_one, hx]; rfl
      have hy0 := fun o => hY (n - 1) (ps.take k) x (wr.alloc o) (hJa _ _ _ hJs) (De.In.below (Kps.alloc _ _) hxin) (by rw [List.length_take]; omega)
      rw [← htk] at hy0
      have hpp : ps.take (k + 1) <+: ps := List.take_prefix _ _
      replace htk := Lib.hid htk
      replace hpp := Lib.hid hpp
      replace hbr := Lib.hid hbr
      clear hY hrow hin hcell hJs hbx hJ0 hx hN
      obtain ⟨k', nm, en, pa, pcap, params, ba, bcap, body', pos⟩ := x
      have d0 := c0 0 _ rfl
      have d1 := c0 1 _ rfl
      have d2 := c0 2 _ rfl
      have d3 := c0 3 _ rfl
      have d4 := c0 4 _ rfl
      have d5 := c0 5 _ rfl
      simp only [Nat.add_zero] at d0 d1 d2 d3 d4 d5
      replace hy0 := hy0 (.cells #[.int .u8 k', .string nm, .int .i64 en, .slice pa params.length pcap, .slice ba body'.length bcap, .int .i64 pos] 40)
      replace hy0 : YieldAt Fence.wide (n - 1) Tryd.prog l #[.agg #[.int .u8 k', .string nm, .int .i64 en, .slice pa params.length pcap, .slice ba body'.length bcap, .int .i64 pos]] _ _ := hy0
      clear c0 hxin hJa
      obtain ⟨fn, tmps, assign, body, hy, hR⟩ := hy0
      gi_wp2_with fail
      refine ⟨fun h => (by cases h), hR.mono ?_⟩
      clear hR
      rintro e W2 (⟨rfl, hJ2, hb2⟩ | ⟨rfl, hx2⟩)
      · replace hJ2 := Lib.hid hJ2
        replace hb2 := Lib.hid hb2
        gi_wp2_with fail
        go_roundw
        case rel => exact ⟨k + 1, by omega, by go_num, hJ2.out, (hbr.out.trans (Kps.alloc _ _)).trans hb2.out⟩
        case measure => simp [intOf]; omega
      · have HR : Hid (∃ pre, pre <+: ps ∧ Jx pre W2) := Lib.hid ⟨_, hpp.out, hx2⟩
        clear hx2
        gi_wp2_with fail
        refine bodyPost_ret (results_none rfl _ _ _) rfl ?_
        exact ⟨⟨_, rfl⟩, .inr HR.out⟩
    · rw [List.take_of_length_le (by omega)] at hJs
      gi_wp2
      go_end0
      exact ⟨⟨_, rfl⟩, .inl ⟨_, rfl, hJs⟩⟩
set_option maxHeartbeats 800000 in
theorem values_de_any (a : Option Addr) (len cap : Nat) (w : World) :
    Calls Tryd.prog 32 #[.slice a len cap] w fun e w' =>
      e = .returned (.func (.func 51) #[] #[.pointer (some ⟨w.heap.size, 0, none⟩)]) ∧ w' = w.alloc (.cells #[.slice a len cap] 22) := by
  go_enter Tryd.func32, Tryd.ntmps32
  go_wp2_with fail
  go_ret
  exact ⟨rfl, rfl⟩

end Go.Proofs.YtolmhcdcfnoicaaDoor.Tr
