/- A memory of package mem as it lies in the world: cells, holders; what it answers. Conditions: none. -/
import Derived.Test.YtnoilcchegmpfaaMeD0
import Derived.Maps.Ext
import Derived.Maps.OwnSet
namespace Go.Proofs.Ytnoilcchegmpfaa.Me
open Go Go.RowKit
open Go.Maps (int_keyed keyOf_int_mk Keyed)

/-! who holds what -/
theorem key_law : Keyed Try.prog 3 := int_keyed (q := .i64) (by kernel_rfl)
abbrev kl (i : Int) : Lit := .int .i64 i
theorem und_int : Try.prog.underlying 3 = some (.int .i64) := by kernel_rfl
theorem und_map : Try.prog.underlying 55 = some (.map 3 3) := by kernel_rfl
theorem zero_int (V : World) : (zeroValue 3).run Try.prog V = .ok (.int .i64 0) V := by simp [zeroValue, Try.t3]
def litOf : DataW Unit → Int
  | .lit (.int _ c) => c
  | _ => 0
/-- who holds lock i -/
def hld (D : DataW Unit) (i : Int) : Option Int := if Maps.has D (kl i) then some (litOf (D.atKey (kl i) (.lit (.int .i64 0)))) else none
/-- block b is a map of at most n entries that says h -/
def Hd (w : World) (b n : Nat) (h : Int → Option Int) : Prop := ∃ D : DataW Unit, w.ownsMap Try.prog 3 (plainElem Try.prog 3) b n D ∧ ∀ i, hld D i = h i
theorem Hd.lt {w : World} {b n : Nat} {h : Int → Option Int} (H : Hd w b n h) : b < w.heap.size := by
  obtain ⟨D, hD, _⟩ := H
  exact hD.lt
theorem Hd.keep {w w' : World} {b n : Nat} {h : Int → Option Int} (H : Hd w b n h) (hb : w'.heap[b]? = w.heap[b]?) : Hd w' b n h := by
  obtain ⟨D, ⟨es, clock, h1, h2⟩, h3⟩ := H
  exact ⟨D, ⟨es, clock, hb.trans h1, h2⟩, h3⟩
theorem Hd.look {w : World} {b n : Nat} {h : Int → Option Int} (H : Hd w b n h) (i : Int) (hi : I64 i) : (Instr.lookup 55 (.map (some b)) (.int .i64 i) true).run Try.prog w = .ok (.tuple #[.int .i64 ((h i).getD 0), .bool (h i).isSome]) w := by
  obtain ⟨D, hD, hh⟩ := H
  obtain ⟨v, ps, hrun, hv⟩ := hD.look_ok key_law und_map (zero_int w) (plainElem_int und_int (by decide)) (keyOf_int_mk und_int (wf_i64 hi))
  obtain ⟨c, rfl, hc, hw⟩ := plainElem_int_inv und_int hv
  rw [hrun, ← hh i]
  unfold hld
  simp only [Prod.mk.injEq] at hc
  cases hs : Maps.has D (.int .i64 i)
  · rw [if_neg (by simp)]
    have := Maps.atKey_of_not_has hs (.lit (.int .i64 0))
    rw [this] at hc
    obtain ⟨hc, _⟩ := hc
    cases hc
    rfl
  · rw [if_pos rfl, hc.1]
    rfl
theorem isKey (i : Int) : WideAt.IsKeyLit (kl i) := trivial
theorem kl_ne {i j : Int} (h : j ≠ i) : kl j ≠ kl i := fun e => h (by injection e)
theorem hld_put {D : DataW Unit} (hD : Maps.IsMap D) (i v j : Int) : hld (D.put (kl i) (.lit (.int .i64 v))) j = if j = i then some v else hld D j := by
  unfold hld
  by_cases h : j = i
  · subst h
    rw [Maps.has_put_same hD (isKey j), Maps.atKey_put_same hD (isKey j), if_pos rfl, if_pos rfl]
    rfl
  · rw [Maps.has_put_other (kl_ne h), Maps.atKey_put_other (kl_ne h), if_neg h]
theorem hld_del {D : DataW Unit} (i j : Int) : hld (D.del (kl i)) j = if j = i then none else hld D j := by
  unfold hld
  by_cases h : j = i
  · subst h
    rw [Maps.has_del_same, if_pos rfl]
    rfl
  · rw [Maps.has_del_other (kl_ne h), Maps.atKey_del_other (kl_ne h), if_neg h]
theorem Hd.put {w : World} {b n : Nat} {h : Int → Option Int} (H : Hd w b n h) (hn : n < 1000000) (i v : Int) (hi : I64 i) (hv : I64 v) :
    ∃ w', (Instr.mapUpdate 55 (.map (some b)) (.int .i64 i) (.int .i64 v)).run Try.prog w = .ok () w' ∧ Hd w' b (n + 1) (fun j => if j = i then some v else h j) ∧ w.mapTurned w' b := by
  obtain ⟨D, hD, hh⟩ := H
  obtain ⟨w', h1, h2, h3⟩ := hD.store key_law und_map (by unfold maxLen; omega) (keyOf_int_mk und_int (wf_i64 hi)) (plainElem_int (H := Unit) und_int (wf_i64 hv))
  exact ⟨w', h1, ⟨_, h2, fun j => by rw [hld_put hD.isMap]; split <;> simp_all⟩, h3⟩
theorem Hd.del {w : World} {b n : Nat} {h : Int → Option Int} (H : Hd w b n h) (i : Int) (hi : I64 i) :
    ∃ w', (∀ ty, (Builtin.delete_ #[55, 3] ty #[.map (some b), .int .i64 i]).run Try.prog w = .ok (.tuple #[]) w') ∧ Hd w' b n (fun j => if j = i then none else h j) ∧ w.mapTurned w' b := by
  obtain ⟨D, hD, hh⟩ := H
  obtain ⟨w', h1, h2, h3⟩ := hD.drop key_law und_map (keyOf_int_mk und_int (wf_i64 hi)) 0
  exact ⟨w', fun ty => h1, ⟨_, h2, fun j => by rw [hld_del]; split <;> simp_all⟩, h3⟩
theorem turned_ne {w w' : World} {b : Nat} (h : w.mapTurned w' b) : (∀ i, i ≠ b → w'.heap[i]? = w.heap[i]?) ∧ w'.heap.size = w.heap.size ∧ w.grownBy w' (some b) := by
  refine ⟨?_, ?_, h.grown⟩
  · obtain ⟨es, clock, es', clock', hb, rfl⟩ := h
    exact fun i hi => ChangeMaps.heap_setBlock_other hb _ hi
  · obtain ⟨es, clock, es', clock', hb, rfl⟩ := h
    simp [ChangeMaps.setBlock]

/-! a memory -/
/-- a global's cells: their block, how many the block takes, what they are -/
structure Row where
  b : Nat
  cap : Nat
  l : List Int
def Row.val (r : Row) : Value := .slice (some ⟨r.b, 0, none⟩) r.l.length r.cap
structure Row.In (w : World) (r : Row) : Prop where
  ex : ∃ vs : Array Value, w.heap[r.b]? = some (.cells vs 2 (0, 0)) ∧ ∀ (j : Nat) (x : Int), r.l[j]? = some x → vs[j]? = some (Value.int .i64 x)
  sz : 1 ≤ r.l.length ∧ r.l.length ≤ 1024
  le : r.l.length ≤ r.cap
  lim : r.cap ≤ maxLen
structure Mm where
  mb : Nat
  cb : Nat
  hb : Nat
  n : Nat
  rows : List Row
  locks : Int
  h : Int → Option Int
def Mm.C (m : Mm) : List (List Int) := m.rows.map Row.l
def Mm.val (m : Mm) : Value := .pointer (some ⟨m.mb, 0, none⟩)
def Mm.foot (m : Mm) (i : Nat) : Prop := i = m.mb ∨ i = m.cb ∨ i = m.hb ∨ ∃ r ∈ m.rows, r.b = i
structure Mm.In (w : World) (m : Mm) : Prop where
  blk : w.heap[m.mb]? = some (.cells #[.slice (some ⟨m.cb, 0, none⟩) m.rows.length m.rows.length, .int .i64 m.locks, .map (some m.hb)] 57 (0, 0))
  cbl : w.heap[m.cb]? = some (.cells ⟨m.rows.map Row.val⟩ 52 (0, 0))
  rows : ∀ r ∈ m.rows, r.In w
  nd : (m.rows.map Row.b).Nodup
  hd : Hd w m.hb m.n m.h
  lim : m.rows.length ≤ 1000000000
  lk : 0 ≤ m.locks ∧ m.locks ≤ 256
theorem Row.In.keep {w w' : World} {r : Row} (h : r.In w) (hb : w'.heap[r.b]? = w.heap[r.b]?) : r.In w' := by
  obtain ⟨⟨vs, h1, h2⟩, h0, h3, h4⟩ := h
  exact ⟨⟨vs, hb.trans h1, h2⟩, h0, h3, h4⟩
theorem Row.In.lt {w : World} {r : Row} (h : r.In w) : r.b < w.heap.size := by
  obtain ⟨⟨vs, h1, h2⟩, h0, h3, h4⟩ := h
  exact cells_lt h1
theorem Mm.In.keep {w w' : World} {m : Mm} (h : m.In w) (hk : ∀ i, m.foot i → w'.heap[i]? = w.heap[i]?) : m.In w' :=
  ⟨(hk _ (.inl rfl)).trans h.blk, (hk _ (.inr (.inl rfl))).trans h.cbl, fun r hr => (h.rows r hr).keep (hk _ (.inr (.inr (.inr ⟨r, hr, rfl⟩)))), h.nd, h.hd.keep (hk _ (.inr (.inr (.inl rfl)))), h.lim, h.lk⟩
theorem Mm.In.foot_lt {w : World} {m : Mm} (h : m.In w) {i : Nat} (hi : m.foot i) : i < w.heap.size := by
  rcases hi with rfl | rfl | rfl | ⟨r, hr, rfl⟩
  · exact cells_lt h.blk
  · exact cells_lt h.cbl
  · exact h.hd.lt
  · exact (h.rows r hr).lt
/-- what was there stays -/
theorem Mm.In.below {w w' : World} {m : Mm} (h : m.In w) (hb : Below w.heap.size w w') : m.In w' := h.keep fun i hi => hb.block i (h.foot_lt hi)

/-! what is answered -/
def getP (C : List (List Int)) (a i : Int) : Int × Int :=
  if a < 0 ∨ (C.length : Int) ≤ a then (0, 1) else match C[a.toNat]? with
  | none => (0, 1)
  | some l => if i < 0 ∨ (l.length : Int) ≤ i then (0, 5) else (l.getD i.toNat 0, 0)
def setC (C : List (List Int)) (a i v : Int) : List (List Int) :=
  if (getP C a i).2 = 0 then C.modify a.toNat (fun l => l.set i.toNat v) else C
def takeE (locks : Int) (h : Int → Option Int) (k : Int) : Int := if k < 0 ∨ locks ≤ k then 1 else if (h k).isSome then 6 else 0
def giveE (locks : Int) (h : Int → Option Int) (k who : Int) : Int := if k < 0 ∨ locks ≤ k then 1 else if h k = some who then 0 else 69
end Go.Proofs.Ytnoilcchegmpfaa.Me
