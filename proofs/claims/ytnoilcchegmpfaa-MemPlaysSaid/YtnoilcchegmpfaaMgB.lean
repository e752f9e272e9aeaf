/- Walks of Set, Take, Give of the document's memory. Conditions: the memory lies in the world; the numbers fit their kinds. -/
import Derived.Test.YtnoilcchegmpfaaMgA
namespace Go.Proofs.Ytnoilcchegmpfaa.Me
open Go Go.RowKit

theorem Slc.keep' {w w' : World} {T : TypeId} {a : Option Addr} {n cap : Nat} {L : Nat → Option Value} (h : Slc w T a n cap L) (hk : ∀ (b : Nat) (vs : Array Value), w.heap[b]? = some (Obj.cells vs T (0, 0)) → w'.heap[b]? = w.heap[b]?) : Slc w' T a n cap L :=
  ⟨fun j v hj => by
    obtain ⟨b, vs, h1, h2, h3⟩ := h.at_ j v hj
    exact ⟨b, vs, h1, (hk b vs h2).trans h2, h3⟩, h.le, h.lim⟩
/-- the document's memory after a step -/
def PostD (m : Dm) (w : World) (err : Int) (C' : List (List Int)) (h' : Int → Option Int) (e : Ending) (w' : World) : Prop :=
  e = .returned (.int .i64 err) ∧ ∃ m' : Dm, m'.In w' ∧ m'.C = C' ∧ m'.h = h' ∧ m'.locks = m.locks ∧ m'.mb = m.mb ∧ (∀ b, m'.foot b ↔ m.foot b) ∧ (∀ b, ¬ m.foot b → w'.heap[b]? = w.heap[b]?) ∧ ∀ B, (∀ b, m.foot b → B ≤ b) → Below B w w'
theorem PostD.same {m : Dm} {w : World} (h : m.In w) {err : Int} {C' : List (List Int)} {h' : Int → Option Int} (hC : C' = m.C) (hh : h' = m.h) {e : Ending} (he : e = .returned (.int .i64 err)) : PostD m w err C' h' e w :=
  ⟨he, m, h, hC.symm, hh.symm, rfl, rfl, fun _ => Iff.rfl, fun _ _ => rfl, fun _ _ => Below.refl _ _⟩
def Dm.set (m : Dm) (k j : Nat) (v : Int) : Dm := { m with rows := m.rows.modify k fun r => { r with l := r.l.set j v } }
theorem Dm.set_C (m : Dm) (k j : Nat) (v : Int) : (m.set k j v).C = m.C.modify k fun l => l.set j v := map_modify Row.l _ _ (fun _ => rfl) m.rows k
theorem Dm.set_foot {m : Dm} {k j : Nat} {v : Int} {i : Nat} : (m.set k j v).foot i ↔ m.foot i := by
  have e : (m.set k j v).rows.map Row.b = m.rows.map Row.b := map_modify_same Row.b (fun r => { r with l := r.l.set j v }) (fun _ => rfl) m.rows k
  have key : (∃ r ∈ (m.set k j v).rows, r.b = i) ↔ ∃ r ∈ m.rows, r.b = i := by
    rw [← List.mem_map, ← List.mem_map, e]
  unfold Dm.foot
  rw [key]
  rfl
theorem Dm.In.set {w : World} {m : Dm} (h : m.In w) {k j : Nat} {r : Row} {x : Int} (hr : m.rows[k]? = some r) (hj : r.l[j]? = some x) (v : Int) : (m.set k j v).In (w.setCell ⟨r.b, j, none⟩ (.int .i64 v)) := by
  have hR := (h.row hr).1
  obtain ⟨⟨vs, hb, hv⟩, hsz, hle, hlim⟩ := hR
  have n1 : m.mb ≠ r.b := fun e => by have := h.blk; rw [e, hb] at this; simp at this
  have n2 : ∀ (b : Nat) (vs' : Array Value), w.heap[b]? = some (Obj.cells vs' 52 (0, 0)) → (w.setCell ⟨r.b, j, none⟩ (.int .i64 v)).heap[b]? = w.heap[b]? := fun b vs' h1 => heap_set_ne (fun e => by rw [e, hb] at h1; simp at h1) _ _
  have n3 : ∀ (b : Nat) (vs' : Array Value), w.heap[b]? = some (Obj.cells vs' 4 (0, 0)) → (w.setCell ⟨r.b, j, none⟩ (.int .i64 v)).heap[b]? = w.heap[b]? := fun b vs' h1 => heap_set_ne (fun e => by rw [e, hb] at h1; simp at h1) _ _
  have n4 : ∀ (b : Nat) (vs' : Array Value), w.heap[b]? = some (Obj.cells vs' 3 (0, 0)) → (w.setCell ⟨r.b, j, none⟩ (.int .i64 v)).heap[b]? = w.heap[b]? := fun b vs' h1 => heap_set_ne (fun e => by rw [e, hb] at h1; simp at h1) _ _
  have hval : (m.set k j v).rows.map Row.val = m.rows.map Row.val := map_modify_same Row.val _ (fun r => by simp [Row.val]) m.rows k
  have hlen : (m.set k j v).rows.length = m.rows.length := by simp [Dm.set]
  have hbs : (m.set k j v).rows.map Row.b = m.rows.map Row.b := map_modify_same Row.b (fun r => { r with l := r.l.set j v }) (fun _ => rfl) m.rows k
  have hrl : (m.set k j v).rowL = m.rowL := by
    funext i
    unfold Dm.rowL
    rw [← List.getElem?_map, ← List.getElem?_map, hval]
  refine ⟨?_, ?_, h.hs.keep' n3, h.bs.keep' n4, ?_, by rw [hbs]; exact h.nd, by rw [hlen]; exact h.lim, h.lk⟩
  · rw [hlen]
    exact (heap_set_ne n1 _ _).trans h.blk
  · rw [hrl, hlen]
    exact h.cs.keep' n2
  · intro r' hr'
    obtain ⟨i, hi⟩ := List.getElem?_of_mem hr'
    have hi' := hi
    simp only [Dm.set, List.getElem?_modify] at hi'
    by_cases hik : k = i
    · subst hik
      rw [hr] at hi'
      simp at hi'
      subst hi'
      have hjs : j < vs.size := by
        have := hv j x hj
        exact (Array.getElem?_eq_some_iff.1 this).1
      refine ⟨⟨vs.setIfInBounds j (.int .i64 v), heap_set hb _ _, fun j' x' hj' => ?_⟩, by simpa using hsz, by simpa using hle, hlim⟩
      rw [List.getElem?_set] at hj'
      rw [Array.getElem?_setIfInBounds]
      by_cases e : j = j'
      · subst e
        rw [if_pos rfl] at hj' ⊢
        rw [if_pos hjs]
        split at hj'
        · cases hj'; rfl
        · cases hj'
      · rw [if_neg e] at hj' ⊢
        exact hv j' x' hj'
    · have hri : m.rows[i]? = some r' := by
        simpa [hik] using hi'
      refine (h.row hri).1.keep (heap_set_ne (fun e => hik ?_) _ _)
      have hn := h.nd
      have h1 : (m.rows.map Row.b)[k]? = some r.b := by simp [hr]
      have h2 : (m.rows.map Row.b)[i]? = some r.b := by simp [hri, e]
      have hk' := (List.getElem?_eq_some_iff.1 h1).1
      exact (List.getElem?_inj hk' hn).1 (h1.trans h2.symm)
set_option maxHeartbeats 4000000 in
theorem dSet_c {w : World} {m : Dm} (h : m.In w) (a i v : Int) : Calls Try.prog 23 #[.pointer (some ⟨m.mb, 0, none⟩), .int .i64 a, .int .i64 i, .int .i64 v] w (PostD m w (getP m.C a i).2 (setC m.C a i v) m.h) := by
  have same : (getP m.C a i).2 ≠ 0 → ∀ e, e = Ending.returned (.int .i64 (getP m.C a i).2) → PostD m w (getP m.C a i).2 (setC m.C a i v) m.h e w := fun hne e he =>
    .same h (by unfold setC; rw [if_neg hne]) rfl he
  rcases m.ways a i with ha | ⟨k, r, rfl, hr, hi⟩ | ⟨k, j, r, x, rfl, rfl, hr, hj⟩
  · have hc := Lib.hid (at_arg h a i ha)
    have hp := Lib.hid (dgetP_arg (m := m) (i := i) ha)
    replace same := Lib.hid same
    clear h ha
    go_enter Try.func23, Try.ntmps23
    go_wp2_with (go_at_call 40; refine hc.out.mono ?_; rintro e w' ⟨rfl, rfl⟩)
    go_ret
    exact same.out (by rw [hp.out]; decide) _ (by rw [hp.out]; rfl)
  · have hc := Lib.hid (at_none h k i hr hi)
    have hp := Lib.hid (dgetP_none hr hi)
    replace same := Lib.hid same
    clear h hr hi
    go_enter Try.func23, Try.ntmps23
    go_wp2_with (go_at_call 40; refine hc.out.mono ?_; rintro e w' ⟨rfl, rfl⟩)
    go_ret
    exact same.out (by rw [hp.out]; decide) _ (by rw [hp.out]; rfl)
  · have hc := Lib.hid (at_ok h k j hr hj)
    have c0 := h.c0
    have hl := h.lim
    have hle := h.cs.le
    obtain ⟨hR, cb, hca, c1⟩ := h.row hr
    have hk := (List.getElem?_eq_some_iff.1 hr).1
    have hz := (List.getElem?_eq_some_iff.1 hj).1
    obtain ⟨c2, f2⟩ := hR.cell hj
    have hle2 := hR.le
    have hlim2 := hR.lim
    have hfr : m.foot r.b := .inr (.inr (.inr (.inr ⟨r, List.mem_of_getElem? hr, rfl⟩)))
    have hfin : ∀ e, e = Ending.returned (.int .i64 0) → PostD m w (getP m.C k j).2 (setC m.C k j v) m.h e (w.setCell ⟨r.b, j, none⟩ (.int .i64 v)) := fun e he => by
      have hpp := dgetP_ok hr hj
      refine ⟨by rw [he, hpp], m.set k j v, h.set hr hj v, ?_, rfl, rfl, rfl, fun b => Dm.set_foot, fun b hb => heap_set_ne (fun e => hb (by rw [e]; exact hfr)) _ _, fun B hB => (Below.refl _ _).setCell (hB _ hfr) _⟩
      rw [Dm.set_C]
      unfold setC
      rw [hpp, if_pos rfl, Int.toNat_natCast, Int.toNat_natCast]
    replace hfin := Lib.hid hfin
    rw [hca] at c0
    clear h hR hr hj same hfr hca
    unfold Row.val at c1
    generalize hn : m.rows.length = n at *
    generalize r.l.length = z at *
    have hk0 : (0 : Int) ≤ (k : Int) := by omega
    have hk1 : (k : Int) < (n : Int) := by omega
    have hj0 : (0 : Int) ≤ (j : Int) := by omega
    have hj1 : (j : Int) < (z : Int) := by omega
    clear hn
    go_enter Try.func23, Try.ntmps23
    go_wp2_with (go_at_call 40; refine hc.out.mono ?_; rintro e w' ⟨rfl, rfl⟩)
    go_ret
    exact hfin.out _ rfl
/-- a lock is held by another, or by nobody -/
theorem Dm.In.turn {w : World} {m : Dm} (h : m.In w) {n : Nat} (hn : n < m.locks) (o : Option Int) {hb bb : Nat} (e1 : m.ha = some ⟨hb, 0, none⟩) (e2 : m.ba = some ⟨bb, 0, none⟩) :
    ({ m with h := fun j => if j = (n : Int) then o else m.h j } : Dm).In ((w.setCell ⟨hb, n, none⟩ (.bool o.isSome)).setCell ⟨bb, n, none⟩ (.int .i64 (o.getD 0))) := by
  obtain ⟨b1, vs1, g1, g2, g3⟩ := h.hs.at_ n _ (by unfold Dm.heldL; rw [if_pos hn])
  obtain ⟨b2, vs2, k1, k2, k3⟩ := h.bs.at_ n _ (by unfold Dm.byL; rw [if_pos hn])
  rw [e1] at g1
  rw [e2] at k1
  cases g1
  cases k1
  have hsz1 : n < vs1.size := (Array.getElem?_eq_some_iff.1 (g3 n _ (by unfold Dm.heldL; rw [if_pos hn]))).1
  have hsz2 : n < vs2.size := (Array.getElem?_eq_some_iff.1 (k3 n _ (by unfold Dm.byL; rw [if_pos hn]))).1
  have hne : hb ≠ bb := fun e => by rw [e, k2] at g2; simp at g2
  have kp : ∀ b, b ≠ hb → b ≠ bb → ((w.setCell ⟨hb, n, none⟩ (.bool o.isSome)).setCell ⟨bb, n, none⟩ (.int .i64 (o.getD 0))).heap[b]? = w.heap[b]? := fun b p1 p2 => (heap_set_ne p2 _ _).trans (heap_set_ne p1 _ _)
  refine ⟨(kp _ (fun e => ?_) (fun e => ?_)).trans h.blk, h.cs.keep' fun b vs' hb' => kp _ (fun e => ?_) (fun e => ?_), ⟨fun j v hj => ?_, h.hs.le, h.hs.lim⟩, ⟨fun j v hj => ?_, h.bs.le, h.bs.lim⟩, fun r hr => (h.rows r hr).keep (kp _ (fun e => ?_) (fun e => ?_)), h.nd, h.lim, h.lk⟩
  · have := h.blk; rw [e, g2] at this; simp at this
  · have := h.blk; rw [e, k2] at this; simp at this
  · rw [e, g2] at hb'; simp at hb'
  · rw [e, k2] at hb'; simp at hb'
  · refine ⟨hb, vs1.setIfInBounds n (.bool o.isSome), e1, (heap_set_ne hne _ _).trans (heap_set g2 _ _), fun i u hi => ?_⟩
    rw [Array.getElem?_setIfInBounds]
    unfold Dm.heldL at hi
    by_cases hin : n = i
    · subst hin
      rw [if_pos rfl, if_pos hsz1]
      simpa [hn] using hi
    · rw [if_neg hin]
      refine g3 i u ?_
      unfold Dm.heldL
      have : ¬ ((i : Int) = (n : Int)) := by omega
      simpa [this] using hi
  · refine ⟨bb, vs2.setIfInBounds n (.int .i64 (o.getD 0)), e2, heap_set ((heap_set_ne hne.symm _ _).trans k2) _ _, fun i u hi => ?_⟩
    rw [Array.getElem?_setIfInBounds]
    unfold Dm.byL at hi
    by_cases hin : n = i
    · subst hin
      rw [if_pos rfl, if_pos hsz2]
      simpa [hn] using hi
    · rw [if_neg hin]
      refine k3 i u ?_
      unfold Dm.byL
      have : ¬ ((i : Int) = (n : Int)) := by omega
      simpa [this] using hi
  · obtain ⟨vs, hv, _⟩ := (h.rows r hr).ex
    rw [e, g2] at hv; simp at hv
  · obtain ⟨vs, hv, _⟩ := (h.rows r hr).ex
    rw [e, k2] at hv; simp at hv
theorem PostD.turned {w : World} {m : Dm} (h : m.In w) {n : Nat} (hn : n < m.locks) (o : Option Int) {hb bb : Nat} (e1 : m.ha = some ⟨hb, 0, none⟩) (e2 : m.ba = some ⟨bb, 0, none⟩) {e : Ending} (he : e = .returned (.int .i64 0)) :
    PostD m w 0 m.C (fun j => if j = (n : Int) then o else m.h j) e ((w.setCell ⟨hb, n, none⟩ (.bool o.isSome)).setCell ⟨bb, n, none⟩ (.int .i64 (o.getD 0))) := by
  have f1 : m.foot hb := .inr (.inr (.inl ⟨_, e1, rfl⟩))
  have f2 : m.foot bb := .inr (.inr (.inr (.inl ⟨_, e2, rfl⟩)))
  exact ⟨he, _, h.turn hn o e1 e2, rfl, rfl, rfl, rfl, fun _ => Iff.rfl, fun b hb' => (heap_set_ne (fun e => hb' (by rw [e]; exact f2)) _ _).trans (heap_set_ne (fun e => hb' (by rw [e]; exact f1)) _ _), fun B hB => ((Below.refl _ _).setCell (hB _ f1) _).setCell (hB _ f2) _⟩
end Go.Proofs.Ytnoilcchegmpfaa.Me
