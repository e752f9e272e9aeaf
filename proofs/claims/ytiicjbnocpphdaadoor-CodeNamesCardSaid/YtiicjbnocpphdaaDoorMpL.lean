/- Maps keyed by texts, as lists: look-up, store, a new one. Conditions: none. -/
import Derived.Test.YtiicjbnocpphdaaDoorTrA
import Derived.StringKeys
import Derived.MapKept
import Derived.Maps.Own
import Derived.Maps.OwnOps
import Derived.ChangeMaps5
namespace Go.Proofs.YtiicjbnocpphdaaDoor.Ty
open Go Go.RowKit
open Go.Proofs.YtiicjbnocpphdaaDoor.Lx Go.Proofs.YtiicjbnocpphdaaDoor.Tr
open Go.WideMaps (string_law keyOf_string_mk)
open Go.WideShapes Go.MapKept
open Go.ChangeMaps (setBlock heap_setBlock_same heap_setBlock_other)

theorem blk_cell {W : World} {b : Nat} {vs : Array Value} {t : TypeId} {fr : Nat × Nat} (h : W.heap[b]? = some (.cells vs t fr)) {j : Nat} {u : Value} (hu : vs[j]? = some u) : W.cell? ⟨b, j, none⟩ = some u := by
  simp only [World.cell?, h]
  simpa using hu
theorem blk_free {W : World} {b : Nat} {vs : Array Value} {t : TypeId} (h : W.heap[b]? = some (.cells vs t (0, 0))) (j : Nat) : W.frozen? ⟨b, j, none⟩ = false := by
  simp [World.frozen?, h]
theorem cells_lt {w : World} {b : Nat} {o : Obj} (h : w.heap[b]? = some o) : b < w.heap.size := (Array.getElem?_eq_some_iff.1 h).1
theorem heap_set {w : World} {b : Nat} {vs : Array Value} {T : TypeId} {fr : Nat × Nat} (h : w.heap[b]? = some (.cells vs T fr)) (j : Nat) (v : Value) : (w.setCell ⟨b, j, none⟩ v).heap[b]? = some (.cells (vs.setIfInBounds j v) T fr) := by
  unfold World.setCell
  show (w.heap.modify b _)[b]? = _
  rw [Array.getElem?_modify, if_pos rfl, h]
  simp

/-- block b is a map that holds these, in their row -/
structure MpS (w : World) (b : Nat) (L : List (ByteArray × Value)) : Prop where
  ex : ∃ es k, w.heap[b]? = some (.map es k) ∧ es.toList.map (fun e => (e.key, e.val)) = L.map fun x => (Value.string x.1, x.2)
  sz : ∀ x ∈ L, x.1.size ≤ maxLen
  nd : (L.map Prod.fst).Nodup
theorem MpS.lt {w : World} {b : Nat} {L : List (ByteArray × Value)} (h : MpS w b L) : b < w.heap.size := by
  obtain ⟨es, k, h, _⟩ := h.ex
  exact (Array.getElem?_eq_some_iff.1 h).1
theorem MpS.keep {w w' : World} {b : Nat} {L : List (ByteArray × Value)} (h : MpS w b L) (hb : w'.heap[b]? = w.heap[b]?) : MpS w' b L := by
  obtain ⟨es, k, h1, h2⟩ := h.ex
  exact ⟨⟨es, k, hb.trans h1, h2⟩, h.sz, h.nd⟩
theorem MpS.below {w w' : World} {b B : Nat} {L : List (ByteArray × Value)} (h : MpS w b L) (hb : Below B w w') (hl : b < B) : MpS w' b L := h.keep (hb.block b hl)
/-- what a list says of a key -/
def findV : List (ByteArray × Value) → ByteArray → Option Value
  | [], _ => none
  | x :: r, s => if x.1 = s then some x.2 else findV r s
theorem findV_none : ∀ {L : List (ByteArray × Value)} {s : ByteArray}, (∀ x ∈ L, x.1 ≠ s) → findV L s = none
  | [], _, _ => rfl
  | y :: r, s, h => by
    unfold findV
    rw [if_neg (h y (by simp))]
    exact findV_none fun x hx => h x (by simp [hx])
theorem findV_mem : ∀ {L : List (ByteArray × Value)} {s : ByteArray} {x : ByteArray × Value}, (L.map Prod.fst).Nodup → x ∈ L → x.1 = s → findV L s = some x.2
  | y :: r, s, x, hn, hx, hs => by
    unfold findV
    rw [List.map_cons, List.nodup_cons] at hn
    rcases List.mem_cons.1 hx with rfl | hx
    · rw [if_pos hs]
    · rw [if_neg (fun e => hn.1 (List.mem_map.2 ⟨x, hx, by rw [hs, e]⟩))]
      exact findV_mem hn.2 hx hs
theorem findV_eq_none : ∀ {L : List (ByteArray × Value)} {s : ByteArray}, findV L s = none → ∀ x ∈ L, x.1 ≠ s
  | y :: r, s, h, x, hx => by
    unfold findV at h
    split at h
    · cases h
    · rename_i hy
      rcases List.mem_cons.1 hx with rfl | hx
      · exact hy
      · exact findV_eq_none h x hx
theorem look_run {P : Program} {w : World} {t k e : TypeId} {b : Nat} {z : Value} {L : List (ByteArray × Value)} (hk : P.underlying k = some .string) (ht : P.underlying t = some (.map k e)) (hz : (zeroValue e).run P w = .ok z w) (h : MpS w b L) (s : ByteArray) (hs : s.size ≤ maxLen) (ok : Bool) :
    (Instr.lookup t (.map (some b)) (.string s) ok).run P w = .ok (match findV L s with | some v => if ok then .tuple #[v, .bool true] else v | none => if ok then .tuple #[z, .bool false] else z) w := by
  obtain ⟨es, clock, hb, hL⟩ := h.ex
  have K := string_law hk
  have hkey := keyOf_string_mk hk hs
  have hmem : ∀ x ∈ es.toList, ∃ y ∈ L, x.key = .string y.1 ∧ x.val = y.2 := fun x hx => by
    have : (x.key, x.val) ∈ es.toList.map (fun e => (e.key, e.val)) := List.mem_map.2 ⟨x, hx, rfl⟩
    rw [hL] at this
    obtain ⟨y, hy, he⟩ := List.mem_map.1 this
    simp only [Prod.mk.injEq] at he
    exact ⟨y, hy, he.1.symm, he.2.symm⟩
  have hF : ∀ e ∈ es.toList, ∃ l, keyOf P k e.key = some l := fun e he => by
    obtain ⟨x, hx, h1, _⟩ := hmem e he
    rw [h1]
    exact ⟨_, keyOf_string_mk hk (h.sz x hx)⟩
  rcases K.find w hkey es.toList hF with ⟨h1, h2⟩ | ⟨j, e0, h1, h2, h3⟩
  · have : findV L s = none := findV_none fun x hx hxs => by
      have hm : (Value.string x.1, x.2) ∈ L.map (fun x => (Value.string x.1, x.2)) := List.mem_map.2 ⟨x, hx, rfl⟩
      rw [← hL] at hm
      obtain ⟨y, hy, he⟩ := List.mem_map.1 hm
      simp only [Prod.mk.injEq] at he
      exact h2 y hy (by rw [he.1, hxs])
    rw [this]
    cases ok <;> simp [Instr.lookup, run_underlying ht, MapKept.run_getObj_map hb, K.check w _ hkey, h1, hz, Result.andThen]
  · obtain ⟨y, hy, hy1, hy2⟩ := hmem e0 (List.mem_of_getElem? h2)
    have : findV L s = some y.2 := findV_mem h.nd hy (by rw [hy1] at h3; cases h3; rfl)
    rw [this]
    cases ok <;> simp [Instr.lookup, run_underlying ht, MapKept.run_getObj_map hb, K.check w _ hkey, h1, hy2, Result.andThen]
/-- a list with a key's value put in -/
def putV : List (ByteArray × Value) → ByteArray → Value → List (ByteArray × Value)
  | [], s, v => [(s, v)]
  | x :: r, s, v => if x.1 = s then (s, v) :: r else x :: putV r s v
theorem putV_new : ∀ {L : List (ByteArray × Value)} {s : ByteArray} {v : Value}, findV L s = none → putV L s v = L ++ [(s, v)]
  | [], _, _, _ => rfl
  | x :: r, s, v, h => by
    unfold findV at h
    unfold putV
    split at h
    · cases h
    · rename_i hx
      rw [if_neg hx, putV_new h]
      rfl
theorem putV_keys : ∀ (L : List (ByteArray × Value)) (s : ByteArray) (v : Value), (putV L s v).map Prod.fst = if findV L s = none then L.map Prod.fst ++ [s] else L.map Prod.fst
  | [], _, _ => rfl
  | x :: r, s, v => by
    unfold putV findV
    by_cases hx : x.1 = s
    · rw [if_pos hx, if_pos hx]; simp [hx]
    · rw [if_neg hx, if_neg hx, List.map_cons, putV_keys r s v]
      split <;> simp
theorem findV_keys : ∀ {L : List (ByteArray × Value)} {s : ByteArray}, findV L s = none ↔ s ∉ L.map Prod.fst
  | [], s => by simp [findV]
  | x :: r, s => by
    unfold findV
    by_cases hx : x.1 = s
    · rw [if_pos hx]; simp [hx]
    · rw [if_neg hx, findV_keys (L := r)]
      simp only [List.map_cons, List.mem_cons, not_or]
      exact ⟨fun h => ⟨fun e => hx e.symm, h⟩, fun h => h.2⟩
theorem findV_put : ∀ (L : List (ByteArray × Value)) (s : ByteArray) (v : Value) (u : ByteArray), findV (putV L s v) u = if s = u then some v else findV L u
  | [], s, v, u => by
    unfold putV findV
    split
    · rfl
    · rfl
  | x :: r, s, v, u => by
    unfold putV
    by_cases hx : x.1 = s
    · rw [if_pos hx]
      unfold findV
      simp only
      by_cases hu : s = u
      · rw [if_pos hu, if_pos hu]
      · rw [if_neg hu, if_neg hu, if_neg (by rw [hx]; exact hu)]
    · rw [if_neg hx]
      show (if x.1 = u then some x.2 else findV (putV r s v) u) = _
      rw [findV_put r s v u]
      show _ = if s = u then some v else if x.1 = u then some x.2 else findV r u
      by_cases hu : s = u
      · rw [if_pos hu, if_pos hu, if_neg (by rw [← hu]; exact hx)]
      · rw [if_neg hu, if_neg hu]
theorem modify_map {es : Array MapEntry} {L : List (ByteArray × Value)} {s : ByteArray} {v : Value} {j : Nat} {e0 : MapEntry} (hL : es.toList.map (fun e => (e.key, e.val)) = L.map fun x => (Value.string x.1, x.2)) (hn : (L.map Prod.fst).Nodup) (h2 : es[j]? = some e0) (h3 : e0.key = .string s) :
    (es.modify j fun e => { e with key := .string s, val := v }).toList.map (fun e => (e.key, e.val)) = (putV L s v).map fun x => (Value.string x.1, x.2) := by
  have key : ∀ (l : List MapEntry) (L : List (ByteArray × Value)) (j : Nat), l.map (fun e => (e.key, e.val)) = L.map (fun x => (Value.string x.1, x.2)) → (L.map Prod.fst).Nodup → l[j]? = some e0 →
      (l.modify j fun e => { e with key := .string s, val := v }).map (fun e => (e.key, e.val)) = (putV L s v).map fun x => (Value.string x.1, x.2) := by
    intro l
    induction l with
    | nil => intro L j h _ hj; simp at hj
    | cons a l ih =>
      intro L j h hn hj
      cases L with
      | nil => simp at h
      | cons x L =>
        simp only [List.map_cons, List.cons.injEq, Prod.mk.injEq] at h
        obtain ⟨⟨ha, hv⟩, hr⟩ := h
        rw [List.map_cons, List.nodup_cons] at hn
        unfold putV
        cases j with
        | zero =>
          simp at hj
          subst hj
          rw [ha] at h3
          cases h3
          rw [if_pos rfl]
          simp [hr]
        | succ j =>
          have hj' : l[j]? = some e0 := by simpa using hj
          have hxs : x.1 ≠ s := fun e => by
            refine hn.1 ?_
            have hm : (e0.key, e0.val) ∈ l.map (fun e => (e.key, e.val)) := List.mem_map.2 ⟨e0, List.mem_of_getElem? hj', rfl⟩
            rw [hr] at hm
            obtain ⟨y, hy, he⟩ := List.mem_map.1 hm
            simp only [Prod.mk.injEq] at he
            rw [h3] at he
            obtain ⟨he1, _⟩ := he
            cases he1
            exact List.mem_map.2 ⟨y, hy, e.symm⟩
          rw [if_neg hxs]
          simp only [List.modify_succ_cons, List.map_cons, ha, hv]
          rw [ih L j hr hn.2 hj']
  have := key es.toList L j hL hn (by simpa using h2)
  rw [← this]
  congr 1
  simp
theorem put_run {P : Program} {w : World} {t k e : TypeId} {b : Nat} {L : List (ByteArray × Value)} (hk : P.underlying k = some .string) (ht : P.underlying t = some (.map k e)) (h : MpS w b L) (s : ByteArray) (hs : s.size ≤ maxLen) (v : Value) :
    ∃ w', (Instr.mapUpdate t (.map (some b)) (.string s) v).run P w = .ok () w' ∧ MpS w' b (putV L s v) ∧ w.grownBy w' (some b) := by
  obtain ⟨es, clock, hb, hL⟩ := h.ex
  have K := string_law hk
  have hkey := keyOf_string_mk hk hs
  have hmem : ∀ x ∈ es.toList, ∃ y ∈ L, x.key = .string y.1 ∧ x.val = y.2 := fun x hx => by
    have : (x.key, x.val) ∈ es.toList.map (fun e => (e.key, e.val)) := List.mem_map.2 ⟨x, hx, rfl⟩
    rw [hL] at this
    obtain ⟨y, hy, he⟩ := List.mem_map.1 this
    simp only [Prod.mk.injEq] at he
    exact ⟨y, hy, he.1.symm, he.2.symm⟩
  have hF : ∀ e ∈ es.toList, ∃ l, keyOf P k e.key = some l := fun e he => by
    obtain ⟨x, hx, h1, _⟩ := hmem e he
    rw [h1]
    exact ⟨_, keyOf_string_mk hk (h.sz x hx)⟩
  have hlt := h.lt
  have hg : ∀ o, w.grownBy (setBlock w b o) (some b) := fun o => ⟨rfl, rfl, rfl, by simp [setBlock], fun i _ hi => heap_setBlock_other hb o (fun e => hi (by rw [e]))⟩
  have hsz' : ∀ x ∈ putV L s v, x.1.size ≤ maxLen := by
    intro x hx
    have : x.1 ∈ (putV L s v).map Prod.fst := List.mem_map.2 ⟨x, hx, rfl⟩
    rw [putV_keys] at this
    split at this
    · rcases List.mem_append.1 this with hm | hm
      · obtain ⟨y, hy, he⟩ := List.mem_map.1 hm
        rw [← he]; exact h.sz y hy
      · rw [List.mem_singleton.1 hm]; exact hs
    · obtain ⟨y, hy, he⟩ := List.mem_map.1 this
      rw [← he]; exact h.sz y hy
  have hnd' : ((putV L s v).map Prod.fst).Nodup := by
    rw [putV_keys]
    split
    · rename_i hf
      rw [findV_keys] at hf
      refine List.nodup_append.2 ⟨h.nd, by simp, fun a ha c hc => ?_⟩
      rw [List.mem_singleton.1 hc]
      exact fun e => hf (e ▸ ha)
    · exact h.nd
  rcases K.find w hkey es.toList hF with ⟨h1, h2⟩ | ⟨j, e0, h1, h2, h3⟩
  · have hf : findV L s = none := findV_none fun x hx hxs => by
      have hm : (Value.string x.1, x.2) ∈ L.map (fun x => (Value.string x.1, x.2)) := List.mem_map.2 ⟨x, hx, rfl⟩
      rw [← hL] at hm
      obtain ⟨y, hy, he⟩ := List.mem_map.1 hm
      simp only [Prod.mk.injEq] at he
      exact h2 y hy (by rw [he.1, hxs])
    refine ⟨setBlock w b (.map (es.push { key := .string s, val := v, born := clock }) (clock + 1)), ?_, ⟨⟨_, _, heap_setBlock_same hb _, ?_⟩, hsz', hnd'⟩, hg _⟩
    · simp [Instr.mapUpdate, run_underlying ht, MapKept.run_getObj_map hb, K.check w _ hkey, h1, MapKept.run_setObj_map _ hb, Result.andThen, setBlock]
    · rw [putV_new hf]
      simp [hL]
  · have hj : es[j]? = some e0 := by simpa using h2
    refine ⟨setBlock w b (.map (es.modify j fun e => { e with key := .string s, val := v }) clock), ?_, ⟨⟨_, _, heap_setBlock_same hb _, modify_map hL h.nd hj h3⟩, hsz', hnd'⟩, hg _⟩
    have hst := K.stays w hkey
    simp [Instr.mapUpdate, run_underlying ht, MapKept.run_getObj_map hb, K.check w _ hkey, h1, hj, h3, hst, MapKept.run_setObj_map _ hb, Result.andThen, setBlock]
end Go.Proofs.YtiicjbnocpphdaaDoor.Ty
