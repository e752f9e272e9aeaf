/- Walks of cell, Get, Set, look, Take, Give, Holder. Conditions: the memory lies in the world; the numbers fit their kinds. -/
import Derived.Test.YtnoilcchegmpfaaMeE
namespace Go.Proofs.Ytnoilcchegmpfaa.Me
open Go Go.RowKit

theorem Mm.In.row {w : World} {m : Mm} (h : m.In w) {k : Nat} {r : Row} (hr : m.rows[k]? = some r) : r.In w ∧ w.cell? ⟨m.cb, k, none⟩ = some r.val :=
  ⟨h.rows r (List.mem_of_getElem? hr), blk_cell h.cbl (by simp [hr])⟩
theorem Row.In.cell {w : World} {r : Row} (h : r.In w) {j : Nat} {x : Int} (hj : r.l[j]? = some x) : w.cell? ⟨r.b, j, none⟩ = some (.int .i64 x) ∧ w.frozen? ⟨r.b, j, none⟩ = false := by
  obtain ⟨⟨vs, h1, h2⟩, h0, h3, h4⟩ := h
  exact ⟨blk_cell h1 (h2 j x hj), blk_free h1 j⟩
theorem Mm.In.c0 {w : World} {m : Mm} (h : m.In w) : w.cell? ⟨m.mb, 0, none⟩ = some (.slice (some ⟨m.cb, 0, none⟩) m.rows.length m.rows.length) := blk_cell h.blk rfl
theorem Mm.In.c1 {w : World} {m : Mm} (h : m.In w) : w.cell? ⟨m.mb, 1, none⟩ = some (.int .i64 m.locks) := blk_cell h.blk rfl
theorem Mm.In.c2 {w : World} {m : Mm} (h : m.In w) : w.cell? ⟨m.mb, 2, none⟩ = some (.map (some m.hb)) := blk_cell h.blk rfl
theorem cell_arg {w : World} {m : Mm} (h : m.In w) (a i : Int) (ha : a < 0 ∨ (m.rows.length : Int) ≤ a) : Calls Try.prog 32 #[.pointer (some ⟨m.mb, 0, none⟩), .int .i64 a, .int .i64 i] w fun e w' => e = .returned (.tuple #[.pointer none, .int .i64 1]) ∧ w' = w := by
  have c0 := h.c0
  have hl := h.lim
  clear h
  generalize m.rows.length = n at *
  by_cases h0 : a < 0
  · clear ha
    go_enter Try.func32, Try.ntmps32
    go_wp2_with fail
    go_ret2
    exact ⟨rfl, rfl⟩
  · have h1 : (n : Int) ≤ a := by omega
    clear ha
    go_enter Try.func32, Try.ntmps32
    go_wp2_with fail
    go_ret2
    exact ⟨rfl, rfl⟩
theorem cell_none {w : World} {m : Mm} (h : m.In w) (k : Nat) (i : Int) {r : Row} (hr : m.rows[k]? = some r) (ha : i < 0 ∨ (r.l.length : Int) ≤ i) : Calls Try.prog 32 #[.pointer (some ⟨m.mb, 0, none⟩), .int .i64 k, .int .i64 i] w fun e w' => e = .returned (.tuple #[.pointer none, .int .i64 5]) ∧ w' = w := by
  have c0 := h.c0
  have hl := h.lim
  obtain ⟨hR, c1⟩ := h.row hr
  have hk := (List.getElem?_eq_some_iff.1 hr).1
  clear h hR hr
  unfold Row.val at c1
  generalize m.rows.length = n at *
  generalize r.l.length = z at *
  have hk0 : (0 : Int) ≤ (k : Int) := by omega
  have hk1 : (k : Int) < (n : Int) := by omega
  by_cases h0 : i < 0
  · clear ha
    go_enter Try.func32, Try.ntmps32
    go_wp2_with fail
    go_ret2
    exact ⟨rfl, rfl⟩
  · have h1 : (z : Int) ≤ i := by omega
    clear ha
    go_enter Try.func32, Try.ntmps32
    go_wp2_with fail
    go_ret2
    exact ⟨rfl, rfl⟩
theorem cell_ok {w : World} {m : Mm} (h : m.In w) (k j : Nat) {r : Row} {x : Int} (hr : m.rows[k]? = some r) (hj : r.l[j]? = some x) : Calls Try.prog 32 #[.pointer (some ⟨m.mb, 0, none⟩), .int .i64 k, .int .i64 j] w fun e w' => e = .returned (.tuple #[.pointer (some ⟨r.b, j, none⟩), .int .i64 0]) ∧ w' = w := by
  have c0 := h.c0
  have hl := h.lim
  obtain ⟨hR, c1⟩ := h.row hr
  have hk := (List.getElem?_eq_some_iff.1 hr).1
  have hz := (List.getElem?_eq_some_iff.1 hj).1
  have h3 := hR.le
  have h4 := hR.lim
  clear h hR hr hj
  unfold Row.val at c1
  generalize m.rows.length = n at *
  generalize r.l.length = z at *
  have hk0 : (0 : Int) ≤ (k : Int) := by omega
  have hk1 : (k : Int) < (n : Int) := by omega
  have hj0 : (0 : Int) ≤ (j : Int) := by omega
  have hj1 : (j : Int) < (z : Int) := by omega
  go_enter Try.func32, Try.ntmps32
  go_wp2_with fail
  go_ret2
  exact ⟨rfl, rfl⟩
/-- the three ways of asking for a cell -/
theorem Mm.ways (m : Mm) (a i : Int) : (a < 0 ∨ (m.rows.length : Int) ≤ a) ∨ (∃ (k : Nat) (r : Row), a = k ∧ m.rows[k]? = some r ∧ (i < 0 ∨ (r.l.length : Int) ≤ i)) ∨ ∃ (k j : Nat) (r : Row) (x : Int), a = k ∧ i = j ∧ m.rows[k]? = some r ∧ r.l[j]? = some x := by
  by_cases h : a < 0 ∨ (m.rows.length : Int) ≤ a
  · exact .inl h
  · refine .inr ?_
    have hk : a.toNat < m.rows.length := by omega
    have ea : a = (a.toNat : Int) := by omega
    by_cases h2 : i < 0 ∨ ((m.rows[a.toNat]).l.length : Int) ≤ i
    · exact .inl ⟨a.toNat, _, ea, List.getElem?_eq_getElem hk, h2⟩
    · have hj : i.toNat < (m.rows[a.toNat]).l.length := by omega
      exact .inr ⟨a.toNat, i.toNat, _, _, ea, by omega, List.getElem?_eq_getElem hk, List.getElem?_eq_getElem hj⟩
theorem getP_arg {m : Mm} {a i : Int} (h : a < 0 ∨ (m.rows.length : Int) ≤ a) : getP m.C a i = (0, 1) := by unfold getP Mm.C; rw [List.length_map, if_pos h]
theorem getP_row {m : Mm} {k : Nat} {r : Row} {i : Int} (hr : m.rows[k]? = some r) : getP m.C k i = if i < 0 ∨ (r.l.length : Int) ≤ i then (0, 5) else (r.l.getD i.toNat 0, 0) := by
  have hk := (List.getElem?_eq_some_iff.1 hr).1
  unfold getP Mm.C
  rw [List.length_map, if_neg (by omega), Int.toNat_natCast, List.getElem?_map, hr]
  rfl
theorem getP_none {m : Mm} {k : Nat} {r : Row} {i : Int} (hr : m.rows[k]? = some r) (hi : i < 0 ∨ (r.l.length : Int) ≤ i) : getP m.C k i = (0, 5) := by rw [getP_row hr, if_pos hi]
theorem getP_ok {m : Mm} {k j : Nat} {r : Row} {x : Int} (hr : m.rows[k]? = some r) (hj : r.l[j]? = some x) : getP m.C k j = (x, 0) := by
  have hz := (List.getElem?_eq_some_iff.1 hj).1
  rw [getP_row hr, if_neg (by omega), Int.toNat_natCast, List.getD_eq_getElem?_getD, hj]
  rfl
def gets (C : List (List Int)) (a i : Int) : Ending := .returned (.tuple #[.int .i64 (getP C a i).1, .int .i64 (getP C a i).2])
theorem Get_c {w : World} {m : Mm} (h : m.In w) (a i : Int) : Calls Try.prog 17 #[.pointer (some ⟨m.mb, 0, none⟩), .int .i64 a, .int .i64 i] w fun e w' => e = gets m.C a i ∧ w' = w := by
  rcases m.ways a i with ha | ⟨k, r, rfl, hr, hi⟩ | ⟨k, j, r, x, rfl, rfl, hr, hj⟩
  · have hc := Lib.hid (cell_arg h a i ha)
    have hp := Lib.hid (getP_arg (m := m) (i := i) ha)
    clear h ha
    go_enter Try.func17, Try.ntmps17
    go_wp2_with (go_at_call 32; refine hc.out.mono ?_; rintro e w' ⟨rfl, rfl⟩)
    go_ret2
    exact ⟨by unfold gets; rw [hp.out]; rfl, rfl⟩
  · have hc := Lib.hid (cell_none h k i hr hi)
    have hp := Lib.hid (getP_none hr hi)
    clear h hr hi
    go_enter Try.func17, Try.ntmps17
    go_wp2_with (go_at_call 32; refine hc.out.mono ?_; rintro e w' ⟨rfl, rfl⟩)
    go_ret2
    exact ⟨by unfold gets; rw [hp.out]; rfl, rfl⟩
  · have hc := Lib.hid (cell_ok h k j hr hj)
    have hp := Lib.hid (getP_ok hr hj)
    obtain ⟨c1, _⟩ := (h.row hr).1.cell hj
    clear h hr hj
    go_enter Try.func17, Try.ntmps17
    go_wp2_with (go_at_call 32; refine hc.out.mono ?_; rintro e w' ⟨rfl, rfl⟩)
    go_ret2
    exact ⟨by unfold gets; rw [hp.out]; rfl, rfl⟩

/-! a cell is put -/
def Mm.set (m : Mm) (k j : Nat) (v : Int) : Mm := { m with rows := m.rows.modify k fun r => { r with l := r.l.set j v } }
theorem map_modify_same {α β : Type} (f : α → β) (g : α → α) (hg : ∀ a, f (g a) = f a) : ∀ (l : List α) (k : Nat), (l.modify k g).map f = l.map f
  | [], k => by simp
  | a :: l, 0 => by simp [hg]
  | a :: l, k + 1 => by simp [map_modify_same f g hg l k]
theorem map_modify {α β : Type} (f : α → β) (g : α → α) (g' : β → β) (hg : ∀ a, f (g a) = g' (f a)) : ∀ (l : List α) (k : Nat), (l.modify k g).map f = (l.map f).modify k g'
  | [], k => by simp
  | a :: l, 0 => by simp [hg]
  | a :: l, k + 1 => by simp [map_modify f g g' hg l k]
theorem Mm.set_C (m : Mm) (k j : Nat) (v : Int) : (m.set k j v).C = m.C.modify k fun l => l.set j v := map_modify Row.l _ _ (fun _ => rfl) m.rows k
theorem Mm.set_foot {m : Mm} {k j : Nat} {v : Int} {i : Nat} : (m.set k j v).foot i ↔ m.foot i := by
  have e : (m.set k j v).rows.map Row.b = m.rows.map Row.b := map_modify_same Row.b (fun r => { r with l := r.l.set j v }) (fun _ => rfl) m.rows k
  have key : (∃ r ∈ (m.set k j v).rows, r.b = i) ↔ ∃ r ∈ m.rows, r.b = i := by
    rw [← List.mem_map, ← List.mem_map, e]
  unfold Mm.foot
  rw [key]
  rfl
theorem Mm.In.set {w : World} {m : Mm} (h : m.In w) {k j : Nat} {r : Row} {x : Int} (hr : m.rows[k]? = some r) (hj : r.l[j]? = some x) (v : Int) : (m.set k j v).In (w.setCell ⟨r.b, j, none⟩ (.int .i64 v)) := by
  have hR := (h.row hr).1
  obtain ⟨⟨vs, hb, hv⟩, hsz, hle, hlim⟩ := hR
  have hne : ∀ i, m.foot i → i ≠ r.b → (w.setCell ⟨r.b, j, none⟩ (.int .i64 v)).heap[i]? = w.heap[i]? := fun i _ hi => heap_set_ne hi _ _
  have n1 : m.mb ≠ r.b := fun e => by have := h.blk; rw [e, hb] at this; simp at this
  have n2 : m.cb ≠ r.b := fun e => by have := h.cbl; rw [e, hb] at this; simp at this
  have n3 : m.hb ≠ r.b := fun e => by
    obtain ⟨D, ⟨es, clock, h1, _⟩, _⟩ := h.hd
    rw [e, hb] at h1
    cases h1
  have hval : (m.set k j v).rows.map Row.val = m.rows.map Row.val := map_modify_same Row.val _ (fun r => by simp [Row.val]) m.rows k
  have hlen : (m.set k j v).rows.length = m.rows.length := by simp [Mm.set]
  have hbs : (m.set k j v).rows.map Row.b = m.rows.map Row.b := map_modify_same Row.b (fun r => { r with l := r.l.set j v }) (fun _ => rfl) m.rows k
  refine ⟨?_, ?_, ?_, by rw [hbs]; exact h.nd, h.hd.keep (heap_set_ne n3 _ _), by rw [hlen]; exact h.lim, h.lk⟩
  · rw [hlen]
    exact (heap_set_ne n1 _ _).trans h.blk
  · rw [hval]
    exact (heap_set_ne n2 _ _).trans h.cbl
  · intro r' hr'
    obtain ⟨i, hi⟩ := List.getElem?_of_mem hr'
    have hi' := hi
    simp only [Mm.set, List.getElem?_modify] at hi'
    by_cases hik : k = i
    · subst hik
      rw [hr] at hi'
      simp at hi'
      subst hi'
      have hjs : j < vs.size := by
        have := hv j x hj
        exact (Array.getElem?_eq_some_iff.1 this).1
      refine ⟨⟨vs.setIfInBounds j (.int .i64 v), heap_set hb _ _, fun j' x' hj' => ?_⟩, by simpa using hsz, by simpa using hle, hlim⟩
      rw [List.getElem?_set] at hj'
      rw [Array.getElem?_setIfInBounds]
      by_cases e : j = j'
      · subst e
        rw [if_pos rfl] at hj' ⊢
        rw [if_pos hjs]
        split at hj'
        · cases hj'; rfl
        · cases hj'
      · rw [if_neg e] at hj' ⊢
        exact hv j' x' hj'
    · have hri : m.rows[i]? = some r' := by
        simpa [hik] using hi'
      refine (h.row hri).1.keep (heap_set_ne (fun e => hik ?_) _ _)
      have hn := h.nd
      have h1 : (m.rows.map Row.b)[k]? = some r.b := by simp [hr]
      have h2 : (m.rows.map Row.b)[i]? = some r.b := by simp [hri, e]
      have hk' := (List.getElem?_eq_some_iff.1 h1).1
      exact (List.getElem?_inj hk' hn).1 (h1.trans h2.symm)
/-- how Set ends -/
def PostS (m : Mm) (w : World) (a i v : Int) (e : Ending) (w' : World) : Prop :=
  e = .returned (.int .i64 (getP m.C a i).2) ∧ ∃ m' : Mm, m'.In w' ∧ m'.C = setC m.C a i v ∧ m'.h = m.h ∧ m'.locks = m.locks ∧ m'.n = m.n ∧ m'.mb = m.mb ∧ (∀ b, m'.foot b ↔ m.foot b) ∧ (∀ b, ¬ m.foot b → w'.heap[b]? = w.heap[b]?) ∧ ∀ B, (∀ b, m.foot b → B ≤ b) → Below B w w'
theorem Set_c {w : World} {m : Mm} (h : m.In w) (a i v : Int) : Calls Try.prog 13 #[.pointer (some ⟨m.mb, 0, none⟩), .int .i64 a, .int .i64 i, .int .i64 v] w (PostS m w a i v) := by
  have same : (getP m.C a i).2 ≠ 0 → ∀ e, e = Ending.returned (.int .i64 (getP m.C a i).2) → PostS m w a i v e w := fun hne e he =>
    ⟨he, m, h, by unfold setC; rw [if_neg hne], rfl, rfl, rfl, rfl, fun _ => Iff.rfl, fun _ _ => rfl, fun B _ => Below.refl _ _⟩
  rcases m.ways a i with ha | ⟨k, r, rfl, hr, hi⟩ | ⟨k, j, r, x, rfl, rfl, hr, hj⟩
  · have hc := Lib.hid (cell_arg h a i ha)
    have hp := Lib.hid (getP_arg (m := m) (i := i) ha)
    replace same := Lib.hid same
    clear h ha
    go_enter Try.func13, Try.ntmps13
    go_wp2_with (go_at_call 32; refine hc.out.mono ?_; rintro e w' ⟨rfl, rfl⟩)
    go_ret
    exact same.out (by rw [hp.out]; decide) _ (by rw [hp.out]; rfl)
  · have hc := Lib.hid (cell_none h k i hr hi)
    have hp := Lib.hid (getP_none hr hi)
    replace same := Lib.hid same
    clear h hr hi
    go_enter Try.func13, Try.ntmps13
    go_wp2_with (go_at_call 32; refine hc.out.mono ?_; rintro e w' ⟨rfl, rfl⟩)
    go_ret
    exact same.out (by rw [hp.out]; decide) _ (by rw [hp.out]; rfl)
  · have hc := Lib.hid (cell_ok h k j hr hj)
    have hp := Lib.hid (getP_ok hr hj)
    obtain ⟨c1, f1⟩ := (h.row hr).1.cell hj
    have hfr : m.foot r.b := .inr (.inr (.inr ⟨r, List.mem_of_getElem? hr, rfl⟩))
    have hfin : ∀ e, e = Ending.returned (.int .i64 0) → PostS m w k j v e (w.setCell ⟨r.b, j, none⟩ (.int .i64 v)) := fun e he => by
      have hpp := getP_ok hr hj
      refine ⟨by rw [he, hpp], m.set k j v, h.set hr hj v, ?_, rfl, rfl, rfl, rfl, fun b => Mm.set_foot, fun b hb => heap_set_ne (fun e => hb (by rw [e]; exact hfr)) _ _, fun B hB => (Below.refl _ _).setCell (hB _ hfr) _⟩
      rw [Mm.set_C]
      unfold setC
      rw [hpp, if_pos rfl, Int.toNat_natCast, Int.toNat_natCast]
    replace hfin := Lib.hid hfin
    clear h hr hj same hfr
    go_enter Try.func13, Try.ntmps13
    go_wp2_with (go_at_call 32; refine hc.out.mono ?_; rintro e w' ⟨rfl, rfl⟩)
    go_ret
    exact hfin.out _ rfl
end Go.Proofs.Ytnoilcchegmpfaa.Me
