/- Walks of tree.all over parts, and of MayExpr. Conditions: the package's tables hold their lists. -/
import Derived.Test.YtolmhcdcfnoicaaDoorTrC
namespace Go.Proofs.YtolmhcdcfnoicaaDoor.Tr
open Go Go.RowKit Go.Shelf
open Go.Proofs.YtolmhcdcfnoicaaDoor.Lx Go.Proofs.YtolmhcdcfnoicaaDoor.Rg
attribute [local go_sem] Oper.semAt_some

theorem ceq_kps {S : Nat → Prop} {A B : World} (h : Ceq A B) : Kps S A B := fun _ _ _ _ hc => (h.cell _).trans hc
theorem keeps_below {B : Nat} {W W' : World} (h : Below W.heap.size W W') : KeepsFrom B W W' :=
  ⟨h.size, fun k _ _ hk _ => (h.block k (Array.getElem?_eq_some_iff.1 hk).1).trans hk⟩
/-- what a statement's call makes is new, and the cell r holds a value -/
structure Cel (w : World) (r : Nat) (v : Value) (W : World) : Prop where
  cell : W.cell? ⟨r, 0, none⟩ = some v
  frozen : W.frozen? ⟨r, 0, none⟩ = false
theorem Cel.ceq {w : World} {r : Nat} {v : Value} {W W' : World} (h : Cel w r v W) (hc : Ceq W W') : Cel w r v W' := ⟨(hc.cell _).trans h.cell, (hc.frozen _).trans h.frozen⟩
theorem Cel.below {w : World} {r : Nat} {v : Value} {W W' : World} (h : Cel w r v W) (hb : Below W.heap.size W W') : Cel w r v W' :=
  have hl := World.block_lt_of_cell? _ _ h.cell
  ⟨(hb.cell (p := ⟨r, 0, none⟩) hl).trans h.cell, (hb.frozen (p := ⟨r, 0, none⟩) hl).trans h.frozen⟩
theorem Cel.alloc {w : World} {r : Nat} {v : Value} {W : World} (h : Cel w r v W) (o : Obj) : Cel w r v (W.alloc o) := h.below ((Below.refl _ _).alloc (Nat.le_refl _) _)
theorem Cel.setS {w : World} {r : Nat} {v : Value} {W : World} (h : Cel w r v W) (u : Value) : Cel w r u (W.setCell ⟨r, 0, none⟩ u) :=
  ⟨World.cell?_setCell_same _ _ _ h.cell, by rw [World.frozen?_setCell]; exact h.frozen⟩
theorem Cel.setO {w : World} {r r' : Nat} {v : Value} {W : World} (h : Cel w r v W) (hr : r' ≠ r) (u : Value) : Cel w r v (W.setCell ⟨r', 0, none⟩ u) :=
  ⟨(World.cell?_setCell_other _ _ _ _ (fun e => hr (by rw [Addr.mk.injEq] at e; exact e.1))).trans h.cell, by rw [World.frozen?_setCell]; exact h.frozen⟩
theorem Cel.new (w W : World) (v : Value) (t : TypeId) : Cel w W.heap.size v (W.alloc (.cells #[v] t)) := by
  have h : (W.alloc (.cells #[v] t)).heap[W.heap.size]? = some (.cells #[v] t (0, 0)) := World.alloc_heap_new W _
  have key : ∀ (V : World) (B : Nat), V.heap[B]? = some (.cells #[v] t (0, 0)) → V.cell? ⟨B, 0, none⟩ = some v ∧ V.frozen? ⟨B, 0, none⟩ = false := fun V B hB => ⟨by simp [World.cell?, hB], by simp [World.frozen?, hB]⟩
  exact ⟨(key _ _ h).1, (key _ _ h).2⟩
theorem Pt.val_eq (x : Pt) : ∃ p1 p2 : Option Addr, x.val = .agg #[.pointer p1, .pointer p2, .int .i64 x.d] := by
  obtain ⟨b, o, x, d⟩ := x
  cases x
  · exact ⟨_, _, rfl⟩
  · exact ⟨_, _, rfl⟩

set_option maxRecDepth 100000 in
set_option maxHeartbeats 2000000 in
theorem all_part (n gf hf : Nat) (lb : Array Value) (eg : ∀ args w, (callFunc gf args).run Tryd.prog w = .ok (.enter gf args) w) (eh : ∀ args w, (callFunc hf args).run Tryd.prog w = .ok (.enter hf args) w)
    (w : World) (T : List Pt) (p : Pt → Bool)
    (hseq : ∀ (l : Nat) (J Jx : List Pt → World → Prop) (W : World), Below w.heap.size w W → W.heap.size = w.heap.size + 4 →
      (∀ m pre x W1, J pre W1 → x.In W1 (fun _ => True) → pre.length < T.length → YieldAt Fence.wide m Tryd.prog l #[x.val] W1 fun e W' =>
        (e = .returned (.bool true) ∧ J (pre ++ [x]) W' ∧ Kps (fun _ => True) W1 W') ∨ (e = .returned (.bool false) ∧ Jx (pre ++ [x]) W')) →
      (∀ pre W1 o, J pre W1 → J pre (W1.alloc o)) → J [] W →
      CallsIn Fence.wide (n - 1) Tryd.prog gf (#[.func (.yield l) #[] #[]] ++ lb) W fun e W' => (∃ v, e = .returned v) ∧ ((∃ xs, xs = T ∧ J xs W') ∨ (∃ pre, pre <+: T ∧ Jx pre W')))
    (hholds : ∀ (x : Pt) W, Below w.heap.size w W → x.In W (fun _ => True) → Calls Tryd.prog hf #[x.val] W fun e W' => e = .returned (.bool (p x)) ∧ Below W.heap.size W W') :
    CallsIn Fence.wide n Tryd.prog 34 #[.func (.func gf) #[] lb, .func (.func hf) #[] #[]] w fun e w' => e = .returned (.bool (T.all p)) ∧ Below w.heap.size w w' := by
  refine callsIn_of_wp_marks Tryd.func34 rfl trivial ?_ rfl
  simp only [Tryd.ntmps34, List.size_toArray, List.length_cons, List.length_nil, Nat.reduceAdd, Nat.reduceSub, Array.replicate_succ, Array.replicate_zero, List.push_toArray, List.append_toArray, List.nil_append, List.cons_append]
  gi_wp2
  have e0 : ∀ o1 o2, ((w.alloc o1).alloc o2).heap.size = w.heap.size + 2 := fun o1 o2 => by simp
  obtain ⟨w2, hw2⟩ : ∃ w2, (w.alloc (.cells #[.func (.func hf) #[] #[]] 50)).alloc (.cells #[.bool false] 4) = w2 := ⟨_, rfl⟩
  have hs2 : w2.heap.size = w.heap.size + 2 := by rw [← hw2]; exact e0 _ _
  have hb2 : Below w.heap.size w w2 := by rw [← hw2]; exact ((Below.refl _ _).alloc (Nat.le_refl _) _).alloc (by simp) _
  have hc0 : Cel w w.heap.size (.func (.func hf) #[] #[]) w2 := by rw [← hw2]; exact (Cel.new w w _ _).alloc _
  have hc1 : Cel w (w.heap.size + 1) (.bool false) w2 := by rw [← hw2]; have := Cel.new w (w.alloc (.cells #[.func (.func hf) #[] #[]] 50)) (.bool false) 4; rwa [World.size_alloc] at this
  rw [hw2]
  have habd : ∀ (c : Bool), Abd w2.heap.size (fun (pre : List Pt) W => pre.all p = c ∧ Cel w w.heap.size (.func (.func hf) #[] #[]) W ∧ Cel w (w.heap.size + 1) (.bool false) W ∧ Below w.heap.size w W ∧ w2.heap.size ≤ W.heap.size) := fun c =>
    ⟨fun pre W W' h hq hb => ⟨h.1, h.2.1.ceq hq, h.2.2.1.ceq hq, h.2.2.2.1.trans (hb.mono (by omega)), by have := h.2.2.2.2; rw [hq.size]; exact this⟩,
      fun pre W o h hs => ⟨h.1, h.2.1.alloc o, h.2.2.1.alloc o, h.2.2.2.1.alloc (by omega) o, by simp; omega⟩⟩
  refine range_law (α := Pt) rfl rfl (gf := gf) (lb := lb) rfl trivial eg (encs := fun x => #[x.val]) (fun _ => rfl) (fun x W => x.In W (fun _ => True)) (Kps (fun _ => True)) (fun xs => xs = T) (fun pre => pre <+: T) T.length
    (fun l J Jx W hsz hb hY hJa hJ0 => hseq l J Jx W (hb2.trans (hb.mono (by omega))) (by omega) hY hJa hJ0) (fun h k => h.trans k) ceq_kps _ _ (habd true) (habd false) (fun _ _ h => h.2.2.2.2) ⟨rfl, hc0, hc1, hb2, Nat.le_refl _⟩ ?round ?done ?stop
  case round =>
    rintro l m pre x W ⟨hp, hk0, hk1, hbW, hsz⟩ hx hlen
    obtain ⟨p1, p2, hv⟩ := x.val_eq
    rw [hv]
    gi_wp2
    refine ⟨keeps_below ((Below.refl _ _).alloc (Nat.le_refl _) _), Kps.alloc _ _, fun W2 hq hb => ?_⟩
    have a0 := ((hk0.alloc (.cells #[.pointer p1, .pointer p2, .int .i64 x.d] 49)).ceq hq).cell
    have ha0 := ((hk0.alloc (.cells #[.pointer p1, .pointer p2, .int .i64 x.d] 49)).ceq hq).frozen
    have a1 := (hk1.alloc (.cells #[.pointer p1, .pointer p2, .int .i64 x.d] 49)).ceq hq
    have b0 : W2.cell? ⟨W.heap.size, 0, none⟩ = some (.pointer p1) := by rw [hq.cell]; go_simp
    have b1 : W2.cell? ⟨W.heap.size, 1, none⟩ = some (.pointer p2) := by rw [hq.cell]; go_simp
    have b2 : W2.cell? ⟨W.heap.size, 2, none⟩ = some (.int .i64 x.d) := by rw [hq.cell]; go_simp
    have hx2 := hx.keep ((Kps.alloc W (.cells #[.pointer p1, .pointer p2, .int .i64 x.d] 49)).trans (ceq_kps hq))
    have hbW2 : Below w.heap.size w W2 := (hbW.alloc (by omega) _).trans (hb.mono (by omega))
    have hsz2 : w2.heap.size ≤ W2.heap.size := by rw [hq.size]; simp; omega
    have hc := hholds x W2 hbW2 hx2
    rw [hv] at hc
    have ha1 := a1.cell
    have ha2 := a1.frozen
    replace hbW2 := Lib.hid hbW2
    replace hp := Lib.hid hp
    replace hc := Lib.hid hc
    clear hq hb hx2 hx hk0 hk1
    cases hpx : p x
    · rw [hpx] at hc
      replace hpx := Lib.hid hpx
      replace hc := Lib.hid hc
      gi_wp2_with fail
      refine ⟨trivial, fun h => (by cases h), (CallsIn.inRound l (callsIn_wide.2 hc.out)).mono ?_⟩
      rintro e W3 ⟨rfl, hb3⟩
      have d0 := (a1.below hb3).cell
      have d1 := (a1.below hb3).frozen
      have dd := a1.below hb3
      have de := Cel.below (w := w) ⟨a0, ha0⟩ hb3
      replace hb3 := Lib.hid hb3
      gi_wp2_with fail
      refine ⟨(keeps_below hb3.out).trans ((KeepsOthers.setCell _ _ _).from _), ?_, de.setO (by omega) _, dd.setS _, (hbW2.out.trans (hb3.out.mono (by omega))).setCell (by simp) _, ?_⟩
      · rw [List.all_append, hp.out]; simp [hpx.out]
      · have := hb3.out.size; simp; omega
    · rw [hpx] at hc
      replace hpx := Lib.hid hpx
      replace hc := Lib.hid hc
      gi_wp2_with fail
      refine ⟨trivial, fun h => (by cases h), (CallsIn.inRound l (callsIn_wide.2 hc.out)).mono ?_⟩
      rintro e W3 ⟨rfl, hb3⟩
      have dd := a1.below hb3
      have de := Cel.below (w := w) ⟨a0, ha0⟩ hb3
      replace hb3 := Lib.hid hb3
      gi_wp2_with fail
      refine ⟨keeps_below hb3.out, Kps.of_below hb3.out, ?_, de, dd, hbW2.out.trans (hb3.out.mono (by omega)), ?_⟩
      · rw [List.all_append, hp.out]; simp [hpx.out]
      · have := hb3.out.size; omega
  case done =>
    rintro D xs W hD rfl ⟨hp, hk0, hk1, hbW, hsz⟩ hK
    have a1 := hk1.cell
    have a2 := hk1.frozen
    gi_wp2
    have hK' : (W.setCell ⟨w.heap.size + 1, 0, none⟩ (.bool true)).heap[D]? = some (.deferred (some [])) := (Below.heap_setCell _ _ _ _ (by simp; omega)).trans hK
    refine ⟨by simp, .inl ⟨_, _, rfl, run_takeDeferred hK', ?_⟩⟩
    have hc5 := ((hk1.setS (.bool true)).ceq (ceq_deferred (d' := none) hK')).cell
    refine ⟨.bool true, ?_, by rw [hp], (hbW.setCell (by simp) _).trans (below_put _ _ (by omega))⟩
    simp [results, Tryd.results34, go_sem, hc5]
  case stop =>
    rintro D pre W hD hpre ⟨hp, hk0, hk1, hbW, hsz⟩ hK
    gi_wp2
    refine ⟨by simp, .inl ⟨_, _, rfl, run_takeDeferred hK, ?_⟩⟩
    have hc5 := (hk1.ceq (ceq_deferred (d' := none) hK)).cell
    have hT : T.all p = false := by
      obtain ⟨r, rfl⟩ := hpre
      rw [List.all_append, hp]; rfl
    refine ⟨.bool false, ?_, by rw [hT], hbW.trans (below_put _ _ (by omega))⟩
    simp [results, Tryd.results34, go_sem, hc5]
end Go.Proofs.YtolmhcdcfnoicaaDoor.Tr
