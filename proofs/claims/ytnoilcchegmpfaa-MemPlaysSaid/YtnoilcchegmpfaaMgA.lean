/- The document's memory (package bobbinref08) in memory; walks of its at, Get, Holder. Conditions: the memory lies in the world; the numbers fit their kinds. -/
import Derived.Test.YtnoilcchegmpfaaMeX
namespace Go.Proofs.Ytnoilcchegmpfaa.Me
open Go Go.RowKit

/-- a list of values of a kind lies at an address, in a block of its own -/
structure Slc (w : World) (T : TypeId) (a : Option Addr) (n cap : Nat) (L : Nat → Option Value) : Prop where
  at_ : ∀ j v, L j = some v → ∃ b vs, a = some ⟨b, 0, none⟩ ∧ w.heap[b]? = some (.cells vs T (0, 0)) ∧ ∀ i u, L i = some u → vs[i]? = some u
  le : n ≤ cap
  lim : cap ≤ maxLen
def aBlk (a : Option Addr) (b : Nat) : Prop := ∃ o, a = some o ∧ o.block = b
theorem Slc.keep {w w' : World} {T : TypeId} {a : Option Addr} {n cap : Nat} {L : Nat → Option Value} (h : Slc w T a n cap L) (hk : ∀ b, aBlk a b → w'.heap[b]? = w.heap[b]?) : Slc w' T a n cap L :=
  ⟨fun j v hj => by
    obtain ⟨b, vs, h1, h2, h3⟩ := h.at_ j v hj
    exact ⟨b, vs, h1, (hk b ⟨_, h1, rfl⟩).trans h2, h3⟩, h.le, h.lim⟩
theorem Slc.cell {w : World} {T : TypeId} {a : Option Addr} {n cap : Nat} {L : Nat → Option Value} (h : Slc w T a n cap L) {j : Nat} {v : Value} (hj : L j = some v) : ∃ b, a = some ⟨b, 0, none⟩ ∧ w.cell? ⟨b, j, none⟩ = some v ∧ w.frozen? ⟨b, j, none⟩ = false := by
  obtain ⟨b, vs, h1, h2, h3⟩ := h.at_ j v hj
  exact ⟨b, h1, blk_cell h2 (h3 j v hj), blk_free h2 j⟩
structure Dm where
  mb : Nat
  ca : Option Addr
  cc : Nat
  ha : Option Addr
  hc : Nat
  ba : Option Addr
  bc : Nat
  rows : List Row
  locks : Nat
  h : Int → Option Int
def Dm.C (d : Dm) : List (List Int) := d.rows.map Row.l
def Dm.rowL (d : Dm) (j : Nat) : Option Value := (d.rows[j]?).map Row.val
def Dm.heldL (d : Dm) (j : Nat) : Option Value := if j < d.locks then some (.bool (d.h j).isSome) else none
def Dm.byL (d : Dm) (j : Nat) : Option Value := if j < d.locks then some (.int .i64 ((d.h j).getD 0)) else none
def Dm.foot (d : Dm) (b : Nat) : Prop := b = d.mb ∨ aBlk d.ca b ∨ aBlk d.ha b ∨ aBlk d.ba b ∨ ∃ r ∈ d.rows, r.b = b
structure Dm.In (w : World) (d : Dm) : Prop where
  blk : w.heap[d.mb]? = some (.cells #[.slice d.ca d.rows.length d.cc, .slice d.ha d.locks d.hc, .slice d.ba d.locks d.bc] 62 (0, 0))
  cs : Slc w 52 d.ca d.rows.length d.cc d.rowL
  hs : Slc w 4 d.ha d.locks d.hc d.heldL
  bs : Slc w 3 d.ba d.locks d.bc d.byL
  rows : ∀ r ∈ d.rows, r.In w
  nd : (d.rows.map Row.b).Nodup
  lim : d.rows.length ≤ 1000000000
  lk : d.locks ≤ 256
theorem Dm.In.keep {w w' : World} {d : Dm} (h : d.In w) (hk : ∀ i, d.foot i → w'.heap[i]? = w.heap[i]?) : d.In w' :=
  ⟨(hk _ (.inl rfl)).trans h.blk, h.cs.keep fun b hb => hk b (.inr (.inl hb)), h.hs.keep fun b hb => hk b (.inr (.inr (.inl hb))), h.bs.keep fun b hb => hk b (.inr (.inr (.inr (.inl hb)))), fun r hr => (h.rows r hr).keep (hk _ (.inr (.inr (.inr (.inr ⟨r, hr, rfl⟩))))), h.nd, h.lim, h.lk⟩
theorem Dm.In.c0 {w : World} {d : Dm} (h : d.In w) : w.cell? ⟨d.mb, 0, none⟩ = some (.slice d.ca d.rows.length d.cc) := blk_cell h.blk rfl
theorem Dm.In.c1 {w : World} {d : Dm} (h : d.In w) : w.cell? ⟨d.mb, 1, none⟩ = some (.slice d.ha d.locks d.hc) := blk_cell h.blk rfl
theorem Dm.In.c2 {w : World} {d : Dm} (h : d.In w) : w.cell? ⟨d.mb, 2, none⟩ = some (.slice d.ba d.locks d.bc) := blk_cell h.blk rfl
theorem Dm.In.row {w : World} {d : Dm} (h : d.In w) {k : Nat} {r : Row} (hr : d.rows[k]? = some r) : r.In w ∧ ∃ b, d.ca = some ⟨b, 0, none⟩ ∧ w.cell? ⟨b, k, none⟩ = some r.val := by
  obtain ⟨b, h1, h2, _⟩ := h.cs.cell (j := k) (v := r.val) (by unfold Dm.rowL; rw [hr]; rfl)
  exact ⟨h.rows r (List.mem_of_getElem? hr), b, h1, h2⟩
theorem Dm.In.held {w : World} {d : Dm} (h : d.In w) {k : Nat} (hk : k < d.locks) : ∃ b, d.ha = some ⟨b, 0, none⟩ ∧ w.cell? ⟨b, k, none⟩ = some (.bool (d.h k).isSome) ∧ w.frozen? ⟨b, k, none⟩ = false :=
  h.hs.cell (by unfold Dm.heldL; rw [if_pos hk])
theorem Dm.In.by_ {w : World} {d : Dm} (h : d.In w) {k : Nat} (hk : k < d.locks) : ∃ b, d.ba = some ⟨b, 0, none⟩ ∧ w.cell? ⟨b, k, none⟩ = some (.int .i64 ((d.h k).getD 0)) ∧ w.frozen? ⟨b, k, none⟩ = false :=
  h.bs.cell (by unfold Dm.byL; rw [if_pos hk])
theorem Slc.lt {w : World} {T : TypeId} {a : Option Addr} {n cap : Nat} {L : Nat → Option Value} (h : Slc w T a n cap L) {j : Nat} {v : Value} (hj : L j = some v) {b : Nat} (hb : aBlk a b) : b < w.heap.size := by
  obtain ⟨b', vs, h1, h2, h3⟩ := h.at_ j v hj
  obtain ⟨o, ho, rfl⟩ := hb
  rw [h1] at ho
  cases ho
  exact cells_lt h2
theorem Dm.ways (m : Dm) (a i : Int) : (a < 0 ∨ (m.rows.length : Int) ≤ a) ∨ (∃ (k : Nat) (r : Row), a = k ∧ m.rows[k]? = some r ∧ (i < 0 ∨ (r.l.length : Int) ≤ i)) ∨ ∃ (k j : Nat) (r : Row) (x : Int), a = k ∧ i = j ∧ m.rows[k]? = some r ∧ r.l[j]? = some x :=
  Mm.ways ⟨0, 0, 0, 0, m.rows, 0, m.h⟩ a i
set_option maxHeartbeats 4000000 in
theorem at_arg {w : World} {m : Dm} (h : m.In w) (a i : Int) (ha : a < 0 ∨ (m.rows.length : Int) ≤ a) : Calls Try.prog 40 #[.pointer (some ⟨m.mb, 0, none⟩), .int .i64 a, .int .i64 i] w fun e w' => e = .returned (.int .i64 1) ∧ w' = w := by
  have c0 := h.c0
  have hl := h.lim
  clear h
  generalize m.rows.length = n at *
  by_cases h0 : a < 0
  · clear ha
    go_enter Try.func40, Try.ntmps40
    go_wp2_with fail
    go_ret
    exact ⟨rfl, rfl⟩
  · have h1 : (n : Int) ≤ a := by omega
    clear ha
    go_enter Try.func40, Try.ntmps40
    go_wp2_with fail
    go_ret
    exact ⟨rfl, rfl⟩
set_option maxHeartbeats 4000000 in
theorem at_none {w : World} {m : Dm} (h : m.In w) (k : Nat) (i : Int) {r : Row} (hr : m.rows[k]? = some r) (ha : i < 0 ∨ (r.l.length : Int) ≤ i) : Calls Try.prog 40 #[.pointer (some ⟨m.mb, 0, none⟩), .int .i64 k, .int .i64 i] w fun e w' => e = .returned (.int .i64 5) ∧ w' = w := by
  have c0 := h.c0
  have hl := h.lim
  have hle := h.cs.le
  obtain ⟨hR, cb, hca, c1⟩ := h.row hr
  have hk := (List.getElem?_eq_some_iff.1 hr).1
  rw [hca] at c0
  clear h hR hr
  unfold Row.val at c1
  generalize m.rows.length = n at *
  generalize r.l.length = z at *
  have hk0 : (0 : Int) ≤ (k : Int) := by omega
  have hk1 : (k : Int) < (n : Int) := by omega
  by_cases h0 : i < 0
  · clear ha
    go_enter Try.func40, Try.ntmps40
    go_wp2_with fail
    go_ret
    exact ⟨rfl, rfl⟩
  · have h1 : (z : Int) ≤ i := by omega
    clear ha
    go_enter Try.func40, Try.ntmps40
    go_wp2_with fail
    go_ret
    exact ⟨rfl, rfl⟩
set_option maxHeartbeats 4000000 in
theorem at_ok {w : World} {m : Dm} (h : m.In w) (k j : Nat) {r : Row} {x : Int} (hr : m.rows[k]? = some r) (hj : r.l[j]? = some x) : Calls Try.prog 40 #[.pointer (some ⟨m.mb, 0, none⟩), .int .i64 k, .int .i64 j] w fun e w' => e = .returned (.int .i64 0) ∧ w' = w := by
  have c0 := h.c0
  have hl := h.lim
  have hle := h.cs.le
  obtain ⟨hR, cb, hca, c1⟩ := h.row hr
  have hk := (List.getElem?_eq_some_iff.1 hr).1
  have hz := (List.getElem?_eq_some_iff.1 hj).1
  rw [hca] at c0
  clear h hR hr hj
  unfold Row.val at c1
  generalize m.rows.length = n at *
  generalize r.l.length = z at *
  have hk0 : (0 : Int) ≤ (k : Int) := by omega
  have hk1 : (k : Int) < (n : Int) := by omega
  have hj0 : (0 : Int) ≤ (j : Int) := by omega
  have hj1 : (j : Int) < (z : Int) := by omega
  go_enter Try.func40, Try.ntmps40
  go_wp2_with fail
  go_ret
  exact ⟨rfl, rfl⟩
theorem dgetP_arg {m : Dm} {a i : Int} (h : a < 0 ∨ (m.rows.length : Int) ≤ a) : getP m.C a i = (0, 1) := by unfold getP Dm.C; rw [List.length_map, if_pos h]
theorem dgetP_none {m : Dm} {k : Nat} {r : Row} {i : Int} (hr : m.rows[k]? = some r) (hi : i < 0 ∨ (r.l.length : Int) ≤ i) : getP m.C k i = (0, 5) :=
  getP_none (m := ⟨0, 0, 0, 0, m.rows, 0, m.h⟩) hr hi
theorem dgetP_ok {m : Dm} {k j : Nat} {r : Row} {x : Int} (hr : m.rows[k]? = some r) (hj : r.l[j]? = some x) : getP m.C k j = (x, 0) :=
  getP_ok (m := ⟨0, 0, 0, 0, m.rows, 0, m.h⟩) hr hj
set_option maxHeartbeats 4000000 in
theorem dGet_c {w : World} {m : Dm} (h : m.In w) (a i : Int) : Calls Try.prog 27 #[.pointer (some ⟨m.mb, 0, none⟩), .int .i64 a, .int .i64 i] w fun e w' => e = gets m.C a i ∧ w' = w := by
  rcases m.ways a i with ha | ⟨k, r, rfl, hr, hi⟩ | ⟨k, j, r, x, rfl, rfl, hr, hj⟩
  · have hc := Lib.hid (at_arg h a i ha)
    unfold gets
    rw [dgetP_arg ha]
    clear h ha
    go_enter Try.func27, Try.ntmps27
    go_wp2_with (go_at_call 40; refine hc.out.mono ?_; rintro e w' ⟨rfl, rfl⟩)
    go_ret2
    exact ⟨rfl, rfl⟩
  · have hc := Lib.hid (at_none h k i hr hi)
    unfold gets
    rw [dgetP_none hr hi]
    clear h hr hi
    go_enter Try.func27, Try.ntmps27
    go_wp2_with (go_at_call 40; refine hc.out.mono ?_; rintro e w' ⟨rfl, rfl⟩)
    go_ret2
    exact ⟨rfl, rfl⟩
  · have hc := Lib.hid (at_ok h k j hr hj)
    unfold gets
    rw [dgetP_ok hr hj]
    have c0 := h.c0
    have hl := h.lim
    have hle := h.cs.le
    obtain ⟨hR, cb, hca, c1⟩ := h.row hr
    have hk := (List.getElem?_eq_some_iff.1 hr).1
    have hz := (List.getElem?_eq_some_iff.1 hj).1
    have c2 := (hR.cell hj).1
    have hle2 := hR.le
    have hlim2 := hR.lim
    rw [hca] at c0
    clear h hR hr hj
    unfold Row.val at c1
    generalize m.rows.length = n at *
    generalize r.l.length = z at *
    have hk0 : (0 : Int) ≤ (k : Int) := by omega
    have hk1 : (k : Int) < (n : Int) := by omega
    have hj0 : (0 : Int) ≤ (j : Int) := by omega
    have hj1 : (j : Int) < (z : Int) := by omega
    go_enter Try.func27, Try.ntmps27
    go_wp2_with (go_at_call 40; refine hc.out.mono ?_; rintro e w' ⟨rfl, rfl⟩)
    go_ret2
    exact ⟨rfl, rfl⟩
/-- what Holder answers: no lock, nobody; else as held -/
def holdsD (m : Dm) (k : Int) : Ending := if k < 0 ∨ (m.locks : Int) ≤ k then holds none else holds (m.h k)
set_option maxHeartbeats 4000000 in
theorem dHolder_c {w : World} {m : Dm} (h : m.In w) (k : Int) : Calls Try.prog 28 #[.pointer (some ⟨m.mb, 0, none⟩), .int .i64 k] w fun e w' => e = holdsD m k ∧ w' = w := by
  have c1 := h.c1
  have c2 := h.c2
  have hl := h.lk
  have hle := h.hs.le
  have hle2 := h.bs.le
  unfold holdsD
  by_cases h0 : k < 0
  · rw [if_pos (.inl h0)]
    unfold holds
    clear h
    go_enter Try.func28, Try.ntmps28
    go_wp2_with fail
    go_ret2
    exact ⟨rfl, rfl⟩
  by_cases h1 : (m.locks : Int) ≤ k
  · rw [if_pos (.inr h1)]
    unfold holds
    clear h
    go_enter Try.func28, Try.ntmps28
    go_wp2_with fail
    go_ret2
    exact ⟨rfl, rfl⟩
  rw [if_neg (by omega)]
  obtain ⟨n, rfl⟩ : ∃ n : Nat, k = n := ⟨k.toNat, by omega⟩
  have hn : n < m.locks := by omega
  obtain ⟨hb, e1, d1, _⟩ := h.held hn
  obtain ⟨bb, e2, d2, _⟩ := h.by_ hn
  rw [e1] at c1
  rw [e2] at c2
  have hn0 : (0 : Int) ≤ (n : Int) := by omega
  have hn1 : (n : Int) < (m.locks : Int) := by omega
  clear h
  generalize m.locks = z at *
  generalize m.h n = o at *
  cases o with
  | none =>
    unfold holds
    simp only [Option.isSome_none, Option.getD_none] at d1 d2 ⊢
    go_enter Try.func28, Try.ntmps28
    go_wp2_with fail
    go_ret2
    exact ⟨rfl, rfl⟩
  | some v =>
    unfold holds
    simp only [Option.isSome_some, Option.getD_some] at d1 d2 ⊢
    go_enter Try.func28, Try.ntmps28
    go_wp2_with fail
    go_ret2
    exact ⟨rfl, rfl⟩
end Go.Proofs.Ytnoilcchegmpfaa.Me
