/- Maps keyed by integers, as lists: look-up, store, a new one. Conditions: none. -/
import Derived.Test.YtnoilcchegmpfaaChecked
import Derived.WalkKit
import Derived.ProofKit
import Derived.OpenShut
import Derived.MapKept
import Derived.Maps.Own
import Derived.Maps.OwnOps
import Derived.Maps.OwnSet
import Derived.Below
import Derived.Carry
namespace Go.Proofs.Ytnoilcchegmpfaa.Me
open Go Go.RowKit
open Go.Maps (int_keyed keyOf_int_mk)
open Go.WideShapes Go.MapKept
open Go.ChangeMaps (setBlock heap_setBlock_same heap_setBlock_other)

theorem blk_cell {W : World} {b : Nat} {vs : Array Value} {t : TypeId} {fr : Nat × Nat} (h : W.heap[b]? = some (.cells vs t fr)) {j : Nat} {u : Value} (hu : vs[j]? = some u) : W.cell? ⟨b, j, none⟩ = some u := by
  simp only [World.cell?, h]
  simpa using hu
theorem blk_free {W : World} {b : Nat} {vs : Array Value} {t : TypeId} (h : W.heap[b]? = some (.cells vs t (0, 0))) (j : Nat) : W.frozen? ⟨b, j, none⟩ = false := by
  simp [World.frozen?, h]
theorem cells_lt {w : World} {b : Nat} {o : Obj} (h : w.heap[b]? = some o) : b < w.heap.size := (Array.getElem?_eq_some_iff.1 h).1
theorem heap_set {w : World} {b : Nat} {vs : Array Value} {T : TypeId} {fr : Nat × Nat} (h : w.heap[b]? = some (.cells vs T fr)) (j : Nat) (v : Value) : (w.setCell ⟨b, j, none⟩ v).heap[b]? = some (.cells (vs.setIfInBounds j v) T fr) := by
  unfold World.setCell
  show (w.heap.modify b _)[b]? = _
  rw [Array.getElem?_modify, if_pos rfl, h]
  simp
theorem heap_set_ne {w : World} {b i : Nat} (hi : i ≠ b) (j : Nat) (v : Value) : (w.setCell ⟨b, j, none⟩ v).heap[i]? = w.heap[i]? := by
  unfold World.setCell
  show (w.heap.modify b _)[i]? = _
  rw [Array.getElem?_modify, if_neg (fun e => hi e.symm)]
theorem size_set {w : World} {b : Nat} (j : Nat) (v : Value) : (w.setCell ⟨b, j, none⟩ v).heap.size = w.heap.size := by simp [World.setCell]

/-- block b is a map that holds these, in their row -/
structure MpI (q : IntKind) (w : World) (b : Nat) (L : List (Int × Value)) : Prop where
  ex : ∃ es k, w.heap[b]? = some (.map es k) ∧ es.toList.map (fun e => (e.key, e.val)) = L.map fun x => (Value.int q x.1, x.2)
  sz : ∀ x ∈ L, (Lit.int q x.1).wf = true
  nd : (L.map Prod.fst).Nodup
theorem MpI.lt {q : IntKind} {w : World} {b : Nat} {L : List (Int × Value)} (h : MpI q w b L) : b < w.heap.size := by
  obtain ⟨es, k, h, _⟩ := h.ex
  exact (Array.getElem?_eq_some_iff.1 h).1
theorem MpI.keep {q : IntKind} {w w' : World} {b : Nat} {L : List (Int × Value)} (h : MpI q w b L) (hb : w'.heap[b]? = w.heap[b]?) : MpI q w' b L := by
  obtain ⟨es, k, h1, h2⟩ := h.ex
  exact ⟨⟨es, k, hb.trans h1, h2⟩, h.sz, h.nd⟩
theorem MpI.below {q : IntKind} {w w' : World} {b B : Nat} {L : List (Int × Value)} (h : MpI q w b L) (hb : Below B w w') (hl : b < B) : MpI q w' b L := h.keep (hb.block b hl)
/-- what a list says of a key -/
def findV : List (Int × Value) → Int → Option Value
  | [], _ => none
  | x :: r, s => if x.1 = s then some x.2 else findV r s
theorem findV_none : ∀ {L : List (Int × Value)} {s : Int}, (∀ x ∈ L, x.1 ≠ s) → findV L s = none
  | [], _, _ => rfl
  | y :: r, s, h => by
    unfold findV
    rw [if_neg (h y (by simp))]
    exact findV_none fun x hx => h x (by simp [hx])
theorem findV_mem : ∀ {L : List (Int × Value)} {s : Int} {x : Int × Value}, (L.map Prod.fst).Nodup → x ∈ L → x.1 = s → findV L s = some x.2
  | y :: r, s, x, hn, hx, hs => by
    unfold findV
    rw [List.map_cons, List.nodup_cons] at hn
    rcases List.mem_cons.1 hx with rfl | hx
    · rw [if_pos hs]
    · rw [if_neg (fun e => hn.1 (List.mem_map.2 ⟨x, hx, by rw [hs, e]⟩))]
      exact findV_mem hn.2 hx hs
theorem findV_eq_none : ∀ {L : List (Int × Value)} {s : Int}, findV L s = none → ∀ x ∈ L, x.1 ≠ s
  | y :: r, s, h, x, hx => by
    unfold findV at h
    split at h
    · cases h
    · rename_i hy
      rcases List.mem_cons.1 hx with rfl | hx
      · exact hy
      · exact findV_eq_none h x hx
theorem look_run {q : IntKind} {P : Program} {w : World} {t k e : TypeId} {b : Nat} {z : Value} {L : List (Int × Value)} (hk : P.underlying k = some (.int q)) (ht : P.underlying t = some (.map k e)) (hz : (zeroValue e).run P w = .ok z w) (h : MpI q w b L) (s : Int) (hs : (Lit.int q s).wf = true) (ok : Bool) :
    (Instr.lookup t (.map (some b)) (.int q s) ok).run P w = .ok (match findV L s with | some v => if ok then .tuple #[v, .bool true] else v | none => if ok then .tuple #[z, .bool false] else z) w := by
  obtain ⟨es, clock, hb, hL⟩ := h.ex
  have K := int_keyed hk
  have hkey := keyOf_int_mk hk hs
  have hmem : ∀ x ∈ es.toList, ∃ y ∈ L, x.key = .int q y.1 ∧ x.val = y.2 := fun x hx => by
    have : (x.key, x.val) ∈ es.toList.map (fun e => (e.key, e.val)) := List.mem_map.2 ⟨x, hx, rfl⟩
    rw [hL] at this
    obtain ⟨y, hy, he⟩ := List.mem_map.1 this
    simp only [Prod.mk.injEq] at he
    exact ⟨y, hy, he.1.symm, he.2.symm⟩
  have hF : ∀ e ∈ es.toList, ∃ l, keyOf P k e.key = some l := fun e he => by
    obtain ⟨x, hx, h1, _⟩ := hmem e he
    rw [h1]
    exact ⟨_, keyOf_int_mk hk (h.sz x hx)⟩
  rcases K.find w hkey es.toList hF with ⟨h1, h2⟩ | ⟨j, e0, h1, h2, h3⟩
  · have : findV L s = none := findV_none fun x hx hxs => by
      have hm : (Value.int q x.1, x.2) ∈ L.map (fun x => (Value.int q x.1, x.2)) := List.mem_map.2 ⟨x, hx, rfl⟩
      rw [← hL] at hm
      obtain ⟨y, hy, he⟩ := List.mem_map.1 hm
      simp only [Prod.mk.injEq] at he
      exact h2 y hy (by rw [he.1, hxs])
    rw [this]
    cases ok <;> simp [Instr.lookup, run_underlying ht, MapKept.run_getObj_map hb, K.check w _ hkey, h1, hz, Result.andThen]
  · obtain ⟨y, hy, hy1, hy2⟩ := hmem e0 (List.mem_of_getElem? h2)
    have : findV L s = some y.2 := findV_mem h.nd hy (by rw [hy1] at h3; cases h3; rfl)
    rw [this]
    cases ok <;> simp [Instr.lookup, run_underlying ht, MapKept.run_getObj_map hb, K.check w _ hkey, h1, hy2, Result.andThen]
/-- a list with a key's value put in -/
def putV : List (Int × Value) → Int → Value → List (Int × Value)
  | [], s, v => [(s, v)]
  | x :: r, s, v => if x.1 = s then (s, v) :: r else x :: putV r s v
theorem putV_new : ∀ {L : List (Int × Value)} {s : Int} {v : Value}, findV L s = none → putV L s v = L ++ [(s, v)]
  | [], _, _, _ => rfl
  | x :: r, s, v, h => by
    unfold findV at h
    unfold putV
    split at h
    · cases h
    · rename_i hx
      rw [if_neg hx, putV_new h]
      rfl
theorem putV_keys : ∀ (L : List (Int × Value)) (s : Int) (v : Value), (putV L s v).map Prod.fst = if findV L s = none then L.map Prod.fst ++ [s] else L.map Prod.fst
  | [], _, _ => rfl
  | x :: r, s, v => by
    unfold putV findV
    by_cases hx : x.1 = s
    · rw [if_pos hx, if_pos hx]; simp [hx]
    · rw [if_neg hx, if_neg hx, List.map_cons, putV_keys r s v]
      split <;> simp
theorem findV_keys : ∀ {L : List (Int × Value)} {s : Int}, findV L s = none ↔ s ∉ L.map Prod.fst
  | [], s => by simp [findV]
  | x :: r, s => by
    unfold findV
    by_cases hx : x.1 = s
    · rw [if_pos hx]; simp [hx]
    · rw [if_neg hx, findV_keys (L := r)]
      simp only [List.map_cons, List.mem_cons, not_or]
      exact ⟨fun h => ⟨fun e => hx e.symm, h⟩, fun h => h.2⟩
theorem findV_put : ∀ (L : List (Int × Value)) (s : Int) (v : Value) (u : Int), findV (putV L s v) u = if s = u then some v else findV L u
  | [], s, v, u => by
    unfold putV findV
    split
    · rfl
    · rfl
  | x :: r, s, v, u => by
    unfold putV
    by_cases hx : x.1 = s
    · rw [if_pos hx]
      unfold findV
      simp only
      by_cases hu : s = u
      · rw [if_pos hu, if_pos hu]
      · rw [if_neg hu, if_neg hu, if_neg (by rw [hx]; exact hu)]
    · rw [if_neg hx]
      show (if x.1 = u then some x.2 else findV (putV r s v) u) = _
      rw [findV_put r s v u]
      show _ = if s = u then some v else if x.1 = u then some x.2 else findV r u
      by_cases hu : s = u
      · rw [if_pos hu, if_pos hu, if_neg (by rw [← hu]; exact hx)]
      · rw [if_neg hu, if_neg hu]
theorem modify_map {q : IntKind} {es : Array MapEntry} {L : List (Int × Value)} {s : Int} {v : Value} {j : Nat} {e0 : MapEntry} (hL : es.toList.map (fun e => (e.key, e.val)) = L.map fun x => (Value.int q x.1, x.2)) (hn : (L.map Prod.fst).Nodup) (h2 : es[j]? = some e0) (h3 : e0.key = .int q s) :
    (es.modify j fun e => { e with key := .int q s, val := v }).toList.map (fun e => (e.key, e.val)) = (putV L s v).map fun x => (Value.int q x.1, x.2) := by
  have key : ∀ (l : List MapEntry) (L : List (Int × Value)) (j : Nat), l.map (fun e => (e.key, e.val)) = L.map (fun x => (Value.int q x.1, x.2)) → (L.map Prod.fst).Nodup → l[j]? = some e0 →
      (l.modify j fun e => { e with key := .int q s, val := v }).map (fun e => (e.key, e.val)) = (putV L s v).map fun x => (Value.int q x.1, x.2) := by
    intro l
    induction l with
    | nil => intro L j h _ hj; simp at hj
    | cons a l ih =>
      intro L j h hn hj
      cases L with
      | nil => simp at h
      | cons x L =>
        simp only [List.map_cons, List.cons.injEq, Prod.mk.injEq] at h
        obtain ⟨⟨ha, hv⟩, hr⟩ := h
        rw [List.map_cons, List.nodup_cons] at hn
        unfold putV
        cases j with
        | zero =>
          simp at hj
          subst hj
          rw [ha] at h3
          cases h3
          rw [if_pos rfl]
          simp [hr]
        | succ j =>
          have hj' : l[j]? = some e0 := by simpa using hj
          have hxs : x.1 ≠ s := fun e => by
            refine hn.1 ?_
            have hm : (e0.key, e0.val) ∈ l.map (fun e => (e.key, e.val)) := List.mem_map.2 ⟨e0, List.mem_of_getElem? hj', rfl⟩
            rw [hr] at hm
            obtain ⟨y, hy, he⟩ := List.mem_map.1 hm
            simp only [Prod.mk.injEq] at he
            rw [h3] at he
            obtain ⟨he1, _⟩ := he
            cases he1
            exact List.mem_map.2 ⟨y, hy, e.symm⟩
          rw [if_neg hxs]
          simp only [List.modify_succ_cons, List.map_cons, ha, hv]
          rw [ih L j hr hn.2 hj']
  have := key es.toList L j hL hn (by simpa using h2)
  rw [← this]
  congr 1
  simp
theorem put_run {q : IntKind} {P : Program} {w : World} {t k e : TypeId} {b : Nat} {L : List (Int × Value)} (hk : P.underlying k = some (.int q)) (ht : P.underlying t = some (.map k e)) (h : MpI q w b L) (s : Int) (hs : (Lit.int q s).wf = true) (v : Value) :
    ∃ w', (Instr.mapUpdate t (.map (some b)) (.int q s) v).run P w = .ok () w' ∧ MpI q w' b (putV L s v) ∧ w.grownBy w' (some b) := by
  obtain ⟨es, clock, hb, hL⟩ := h.ex
  have K := int_keyed hk
  have hkey := keyOf_int_mk hk hs
  have hmem : ∀ x ∈ es.toList, ∃ y ∈ L, x.key = .int q y.1 ∧ x.val = y.2 := fun x hx => by
    have : (x.key, x.val) ∈ es.toList.map (fun e => (e.key, e.val)) := List.mem_map.2 ⟨x, hx, rfl⟩
    rw [hL] at this
    obtain ⟨y, hy, he⟩ := List.mem_map.1 this
    simp only [Prod.mk.injEq] at he
    exact ⟨y, hy, he.1.symm, he.2.symm⟩
  have hF : ∀ e ∈ es.toList, ∃ l, keyOf P k e.key = some l := fun e he => by
    obtain ⟨x, hx, h1, _⟩ := hmem e he
    rw [h1]
    exact ⟨_, keyOf_int_mk hk (h.sz x hx)⟩
  have hlt := h.lt
  have hg : ∀ o, w.grownBy (setBlock w b o) (some b) := fun o => ⟨rfl, rfl, rfl, by simp [setBlock], fun i _ hi => heap_setBlock_other hb o (fun e => hi (by rw [e]))⟩
  have hsz' : ∀ x ∈ putV L s v, (Lit.int q x.1).wf = true := by
    intro x hx
    have : x.1 ∈ (putV L s v).map Prod.fst := List.mem_map.2 ⟨x, hx, rfl⟩
    rw [putV_keys] at this
    split at this
    · rcases List.mem_append.1 this with hm | hm
      · obtain ⟨y, hy, he⟩ := List.mem_map.1 hm
        rw [← he]; exact h.sz y hy
      · rw [List.mem_singleton.1 hm]; exact hs
    · obtain ⟨y, hy, he⟩ := List.mem_map.1 this
      rw [← he]; exact h.sz y hy
  have hnd' : ((putV L s v).map Prod.fst).Nodup := by
    rw [putV_keys]
    split
    · rename_i hf
      rw [findV_keys] at hf
      refine List.nodup_append.2 ⟨h.nd, by simp, fun a ha c hc => ?_⟩
      rw [List.mem_singleton.1 hc]
      exact fun e => hf (e ▸ ha)
    · exact h.nd
  rcases K.find w hkey es.toList hF with ⟨h1, h2⟩ | ⟨j, e0, h1, h2, h3⟩
  · have hf : findV L s = none := findV_none fun x hx hxs => by
      have hm : (Value.int q x.1, x.2) ∈ L.map (fun x => (Value.int q x.1, x.2)) := List.mem_map.2 ⟨x, hx, rfl⟩
      rw [← hL] at hm
      obtain ⟨y, hy, he⟩ := List.mem_map.1 hm
      simp only [Prod.mk.injEq] at he
      exact h2 y hy (by rw [he.1, hxs])
    refine ⟨setBlock w b (.map (es.push { key := .int q s, val := v, born := clock }) (clock + 1)), ?_, ⟨⟨_, _, heap_setBlock_same hb _, ?_⟩, hsz', hnd'⟩, hg _⟩
    · simp [Instr.mapUpdate, run_underlying ht, MapKept.run_getObj_map hb, K.check w _ hkey, h1, MapKept.run_setObj_map _ hb, Result.andThen, setBlock]
    · rw [putV_new hf]
      simp [hL]
  · have hj : es[j]? = some e0 := by simpa using h2
    refine ⟨setBlock w b (.map (es.modify j fun e => { e with key := .int q s, val := v }) clock), ?_, ⟨⟨_, _, heap_setBlock_same hb _, modify_map hL h.nd hj h3⟩, hsz', hnd'⟩, hg _⟩
    have hst := K.stays w hkey
    simp [Instr.mapUpdate, run_underlying ht, MapKept.run_getObj_map hb, K.check w _ hkey, h1, hj, h3, hst, MapKept.run_setObj_map _ hb, Result.andThen, setBlock]

/-- a list with a key taken out -/
def delV : List (Int × Value) → Int → List (Int × Value)
  | [], _ => []
  | x :: r, s => if x.1 = s then r else x :: delV r s
theorem delV_none : ∀ {L : List (Int × Value)} {s : Int}, findV L s = none → delV L s = L
  | [], _, _ => rfl
  | x :: r, s, h => by
    unfold findV at h
    unfold delV
    split at h
    · cases h
    · rename_i hx
      rw [if_neg hx, delV_none h]
theorem delV_sub : ∀ (L : List (Int × Value)) (s : Int), (delV L s).Sublist L
  | [], _ => List.Sublist.refl _
  | x :: r, s => by
    unfold delV
    split
    · exact List.sublist_cons_self _ _
    · exact (delV_sub r s).cons_cons _
theorem findV_del : ∀ {L : List (Int × Value)} (s u : Int), (L.map Prod.fst).Nodup → findV (delV L s) u = if s = u then none else findV L u
  | [], s, u, _ => by simp [delV, findV]
  | x :: r, s, u, hn => by
    rw [List.map_cons, List.nodup_cons] at hn
    unfold delV
    by_cases hx : x.1 = s
    · rw [if_pos hx]
      by_cases hu : s = u
      · rw [if_pos hu, ← hu, ← hx]
        exact findV_keys.2 hn.1
      · rw [if_neg hu]
        show _ = if x.1 = u then some x.2 else findV r u
        rw [if_neg (by rw [hx]; exact hu)]
    · rw [if_neg hx]
      show (if x.1 = u then some x.2 else findV (delV r s) u) = if s = u then none else if x.1 = u then some x.2 else findV r u
      rw [findV_del s u hn.2]
      by_cases hu : s = u
      · rw [if_pos hu, if_pos hu, if_neg (by rw [← hu]; exact hx)]
      · rw [if_neg hu, if_neg hu]
theorem erase_map {q : IntKind} {es : Array MapEntry} {L : List (Int × Value)} {s : Int} {j : Nat} {e0 : MapEntry} (hL : es.toList.map (fun e => (e.key, e.val)) = L.map fun x => (Value.int q x.1, x.2)) (hn : (L.map Prod.fst).Nodup) (h2 : es.toList[j]? = some e0) (h3 : e0.key = .int q s) :
    (es.toList.eraseIdx j).map (fun e => (e.key, e.val)) = (delV L s).map fun x => (Value.int q x.1, x.2) := by
  have key : ∀ (l : List MapEntry) (L : List (Int × Value)) (j : Nat), l.map (fun e => (e.key, e.val)) = L.map (fun x => (Value.int q x.1, x.2)) → (L.map Prod.fst).Nodup → l[j]? = some e0 →
      (l.eraseIdx j).map (fun e => (e.key, e.val)) = (delV L s).map fun x => (Value.int q x.1, x.2) := by
    intro l
    induction l with
    | nil => intro L j h _ hj; simp at hj
    | cons a l ih =>
      intro L j h hn hj
      cases L with
      | nil => simp at h
      | cons x L =>
        simp only [List.map_cons, List.cons.injEq, Prod.mk.injEq] at h
        obtain ⟨⟨ha, hv⟩, hr⟩ := h
        rw [List.map_cons, List.nodup_cons] at hn
        unfold delV
        cases j with
        | zero =>
          simp at hj
          subst hj
          rw [ha] at h3
          cases h3
          rw [if_pos rfl]
          simpa using hr
        | succ j =>
          have hj' : l[j]? = some e0 := by simpa using hj
          have hxs : x.1 ≠ s := fun e => by
            refine hn.1 ?_
            have hm : (e0.key, e0.val) ∈ l.map (fun e => (e.key, e.val)) := List.mem_map.2 ⟨e0, List.mem_of_getElem? hj', rfl⟩
            rw [hr] at hm
            obtain ⟨y, hy, he⟩ := List.mem_map.1 hm
            simp only [Prod.mk.injEq] at he
            rw [h3] at he
            obtain ⟨he1, _⟩ := he
            cases he1
            exact List.mem_map.2 ⟨y, hy, e.symm⟩
          rw [if_neg hxs]
          simp only [List.eraseIdx_cons_succ, List.map_cons, ha, hv]
          rw [ih L j hr hn.2 hj']
  exact key es.toList L j hL hn h2
theorem del_run {q : IntKind} {P : Program} {w : World} {t k e : TypeId} {b : Nat} {L : List (Int × Value)} (hk : P.underlying k = some (.int q)) (ht : P.underlying t = some (.map k e)) (h : MpI q w b L) (s : Int) (hs : (Lit.int q s).wf = true) (ty : TypeId) :
    ∃ w', (Builtin.delete_ #[t, k] ty #[.map (some b), .int q s]).run P w = .ok (.tuple #[]) w' ∧ MpI q w' b (delV L s) ∧ w.grownBy w' (some b) ∧ w'.heap.size = w.heap.size := by
  obtain ⟨es, clock, hb, hL⟩ := h.ex
  have K := int_keyed hk
  have hkey := keyOf_int_mk hk hs
  have hmem : ∀ x ∈ es.toList, ∃ y ∈ L, x.key = .int q y.1 ∧ x.val = y.2 := fun x hx => by
    have : (x.key, x.val) ∈ es.toList.map (fun e => (e.key, e.val)) := List.mem_map.2 ⟨x, hx, rfl⟩
    rw [hL] at this
    obtain ⟨y, hy, he⟩ := List.mem_map.1 this
    simp only [Prod.mk.injEq] at he
    exact ⟨y, hy, he.1.symm, he.2.symm⟩
  have hF : ∀ e ∈ es.toList, ∃ l, keyOf P k e.key = some l := fun e he => by
    obtain ⟨x, hx, h1, _⟩ := hmem e he
    rw [h1]
    exact ⟨_, keyOf_int_mk hk (h.sz x hx)⟩
  have hg : ∀ o, w.grownBy (setBlock w b o) (some b) := fun o => ⟨rfl, rfl, rfl, by simp [setBlock], fun i _ hi => heap_setBlock_other hb o (fun e => hi (by rw [e]))⟩
  have hsz' : ∀ x ∈ delV L s, (Lit.int q x.1).wf = true := fun x hx => h.sz x ((delV_sub L s).subset hx)
  have hnd' : ((delV L s).map Prod.fst).Nodup := ((delV_sub L s).map _).nodup h.nd
  rcases K.find w hkey es.toList hF with ⟨h1, h2⟩ | ⟨j, e0, h1, h2, h3⟩
  · have hf : findV L s = none := findV_none fun x hx hxs => by
      have hm : (Value.int q x.1, x.2) ∈ L.map (fun x => (Value.int q x.1, x.2)) := List.mem_map.2 ⟨x, hx, rfl⟩
      rw [← hL] at hm
      obtain ⟨y, hy, he⟩ := List.mem_map.1 hm
      simp only [Prod.mk.injEq] at he
      exact h2 y hy (by rw [he.1, hxs])
    refine ⟨setBlock w b (.map es clock), ?_, ⟨⟨_, _, heap_setBlock_same hb _, by rw [delV_none hf]; exact hL⟩, hsz', hnd'⟩, hg _, by simp [setBlock]⟩
    simp [Builtin.delete_, run_underlying ht, MapKept.run_getObj_map hb, K.check w _ hkey, h1, MapKept.run_setObj_map _ hb, Result.andThen, setBlock]
  · have hsub : (es.eraseIdxIfInBounds j).toList = es.toList.eraseIdx j := by
      have hjs : j < es.size := by simpa using (List.getElem?_eq_some_iff.1 h2).1
      unfold Array.eraseIdxIfInBounds
      rw [dif_pos hjs]
      exact Array.toList_eraseIdx
    refine ⟨setBlock w b (.map (es.eraseIdxIfInBounds j) clock), ?_, ⟨⟨_, _, heap_setBlock_same hb _, by rw [hsub]; exact erase_map hL h.nd h2 h3⟩, hsz', hnd'⟩, hg _, by simp [setBlock]⟩
    simp [Builtin.delete_, run_underlying ht, MapKept.run_getObj_map hb, K.check w _ hkey, h1, MapKept.run_setObj_map _ hb, Result.andThen, setBlock]
end Go.Proofs.Ytnoilcchegmpfaa.Me
