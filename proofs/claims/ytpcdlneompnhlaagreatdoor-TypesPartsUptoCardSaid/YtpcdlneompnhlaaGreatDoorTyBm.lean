/- Maps keyed by texts, as lists: look-up, store, a new one. Conditions: none. · The looker of names and types in memory; plain: what it says of expressions. Conditions: none. · Walks of refuse, find, variable. Conditions: the looker lies in memory. -/
import Derived.Test.YtpcdlneompnhlaaGreatDoorGrAB
import Derived.StringKeys
import Derived.MapKept
import Derived.Maps.Own
import Derived.Maps.OwnOps
import Derived.ChangeMaps5
import Derived.Test.YtpcdlneompnhlaaGreatDoorTrK
namespace Go.Proofs.YtpcdlneompnhlaaGreatDoor.Ty
open Go Go.RowKit
open Go.Proofs.YtpcdlneompnhlaaGreatDoor.Lx Go.Proofs.YtpcdlneompnhlaaGreatDoor.Tr
open Go.WideMaps (string_law keyOf_string_mk)
open Go.WideShapes Go.MapKept
open Go.ChangeMaps (setBlock heap_setBlock_same heap_setBlock_other)

theorem blk_cell {W : World} {b : Nat} {vs : Array Value} {t : TypeId} {fr : Nat × Nat} (h : W.heap[b]? = some (.cells vs t fr)) {j : Nat} {u : Value} (hu : vs[j]? = some u) : W.cell? ⟨b, j, none⟩ = some u := by
  simp only [World.cell?, h]
  simpa using hu
theorem blk_free {W : World} {b : Nat} {vs : Array Value} {t : TypeId} (h : W.heap[b]? = some (.cells vs t (0, 0))) (j : Nat) : W.frozen? ⟨b, j, none⟩ = false := by
  simp [World.frozen?, h]
theorem cells_lt {w : World} {b : Nat} {o : Obj} (h : w.heap[b]? = some o) : b < w.heap.size := (Array.getElem?_eq_some_iff.1 h).1
theorem heap_set {w : World} {b : Nat} {vs : Array Value} {T : TypeId} {fr : Nat × Nat} (h : w.heap[b]? = some (.cells vs T fr)) (j : Nat) (v : Value) : (w.setCell ⟨b, j, none⟩ v).heap[b]? = some (.cells (vs.setIfInBounds j v) T fr) := by
  unfold World.setCell
  show (w.heap.modify b _)[b]? = _
  rw [Array.getElem?_modify, if_pos rfl, h]
  simp

/-- block b is a map that holds these, in their row -/
structure MpS (w : World) (b : Nat) (L : List (ByteArray × Value)) : Prop where
  ex : ∃ es k, w.heap[b]? = some (.map es k) ∧ es.toList.map (fun e => (e.key, e.val)) = L.map fun x => (Value.string x.1, x.2)
  sz : ∀ x ∈ L, x.1.size ≤ maxLen
  nd : (L.map Prod.fst).Nodup
theorem MpS.lt {w : World} {b : Nat} {L : List (ByteArray × Value)} (h : MpS w b L) : b < w.heap.size := by
  obtain ⟨es, k, h, _⟩ := h.ex
  exact (Array.getElem?_eq_some_iff.1 h).1
theorem MpS.keep {w w' : World} {b : Nat} {L : List (ByteArray × Value)} (h : MpS w b L) (hb : w'.heap[b]? = w.heap[b]?) : MpS w' b L := by
  obtain ⟨es, k, h1, h2⟩ := h.ex
  exact ⟨⟨es, k, hb.trans h1, h2⟩, h.sz, h.nd⟩
theorem MpS.below {w w' : World} {b B : Nat} {L : List (ByteArray × Value)} (h : MpS w b L) (hb : Below B w w') (hl : b < B) : MpS w' b L := h.keep (hb.block b hl)
/-- what a list says of a key -/
def findV : List (ByteArray × Value) → ByteArray → Option Value
  | [], _ => none
  | x :: r, s => if x.1 = s then some x.2 else findV r s
theorem findV_none : ∀ {L : List (ByteArray × Value)} {s : ByteArray}, (∀ x ∈ L, x.1 ≠ s) → findV L s = none
  | [], _, _ => rfl
  | y :: r, s, h => by
    unfold findV
    rw [if_neg (h y (by simp))]
    exact findV_none fun x hx => h x (by simp [hx])
theorem findV_mem : ∀ {L : List (ByteArray × Value)} {s : ByteArray} {x : ByteArray × Value}, (L.map Prod.fst).Nodup → x ∈ L → x.1 = s → findV L s = some x.2
  | y :: r, s, x, hn, hx, hs => by
    unfold findV
    rw [List.map_cons, List.nodup_cons] at hn
    rcases List.mem_cons.1 hx with rfl | hx
    · rw [if_pos hs]
    · rw [if_neg (fun e => hn.1 (List.mem_map.2 ⟨x, hx, by rw [hs, e]⟩))]
      exact findV_mem hn.2 hx hs
theorem findV_eq_none : ∀ {L : List (ByteArray × Value)} {s : ByteArray}, findV L s = none → ∀ x ∈ L, x.1 ≠ s
  | y :: r, s, h, x, hx => by
    unfold findV at h
    split at h
    · cases h
    · rename_i hy
      rcases List.mem_cons.1 hx with rfl | hx
      · exact hy
      · exact findV_eq_none h x hx
theorem look_run {P : Program} {w : World} {t k e : TypeId} {b : Nat} {z : Value} {L : List (ByteArray × Value)} (hk : P.underlying k = some .string) (ht : P.underlying t = some (.map k e)) (hz : (zeroValue e).run P w = .ok z w) (h : MpS w b L) (s : ByteArray) (hs : s.size ≤ maxLen) (ok : Bool) :
    (Instr.lookup t (.map (some b)) (.string s) ok).run P w = .ok (match findV L s with | some v => if ok then .tuple #[v, .bool true] else v | none => if ok then .tuple #[z, .bool false] else z) w := by
  obtain ⟨es, clock, hb, hL⟩ := h.ex
  have K := string_law hk
  have hkey := keyOf_string_mk hk hs
  have hmem : ∀ x ∈ es.toList, ∃ y ∈ L, x.key = .string y.1 ∧ x.val = y.2 := fun x hx => by
    have : (x.key, x.val) ∈ es.toList.map (fun e => (e.key, e.val)) := List.mem_map.2 ⟨x, hx, rfl⟩
    rw [hL] at this
    obtain ⟨y, hy, he⟩ := List.mem_map.1 this
    simp only [Prod.mk.injEq] at he
    exact ⟨y, hy, he.1.symm, he.2.symm⟩
  have hF : ∀ e ∈ es.toList, ∃ l, keyOf P k e.key = some l := fun e he => by
    obtain ⟨x, hx, h1, _⟩ := hmem e he
    rw [h1]
    exact ⟨_, keyOf_string_mk hk (h.sz x hx)⟩
  rcases K.find w hkey es.toList hF with ⟨h1, h2⟩ | ⟨j, e0, h1, h2, h3⟩
  · have : findV L s = none := findV_none fun x hx hxs => by
      have hm : (Value.string x.1, x.2) ∈ L.map (fun x => (Value.string x.1, x.2)) := List.mem_map.2 ⟨x, hx, rfl⟩
      rw [← hL] at hm
      obtain ⟨y, hy, he⟩ := List.mem_map.1 hm
      simp only [Prod.mk.injEq] at he
      exact h2 y hy (by rw [he.1, hxs])
    rw [this]
    cases ok <;> simp [Instr.lookup, run_underlying ht, MapKept.run_getObj_map hb, K.check w _ hkey, h1, hz, Result.andThen]
  · obtain ⟨y, hy, hy1, hy2⟩ := hmem e0 (List.mem_of_getElem? h2)
    have : findV L s = some y.2 := findV_mem h.nd hy (by rw [hy1] at h3; cases h3; rfl)
    rw [this]
    cases ok <;> simp [Instr.lookup, run_underlying ht, MapKept.run_getObj_map hb, K.check w _ hkey, h1, hy2, Result.andThen]
/-- a list with a key's value put in -/
def putV : List (ByteArray × Value) → ByteArray → Value → List (ByteArray × Value)
  | [], s, v => [(s, v)]
  | x :: r, s, v => if x.1 = s then (s, v) :: r else x :: putV r s v
theorem putV_new : ∀ {L : List (ByteArray × Value)} {s : ByteArray} {v : Value}, findV L s = none → putV L s v = L ++ [(s, v)]
  | [], _, _, _ => rfl
  | x :: r, s, v, h => by
    unfold findV at h
    unfold putV
    split at h
    · cases h
    · rename_i hx
      rw [if_neg hx, putV_new h]
      rfl
theorem putV_keys : ∀ (L : List (ByteArray × Value)) (s : ByteArray) (v : Value), (putV L s v).map Prod.fst = if findV L s = none then L.map Prod.fst ++ [s] else L.map Prod.fst
  | [], _, _ => rfl
  | x :: r, s, v => by
    unfold putV findV
    by_cases hx : x.1 = s
    · rw [if_pos hx, if_pos hx]; simp [hx]
    · rw [if_neg hx, if_neg hx, List.map_cons, putV_keys r s v]
      split <;> simp
theorem findV_keys : ∀ {L : List (ByteArray × Value)} {s : ByteArray}, findV L s = none ↔ s ∉ L.map Prod.fst
  | [], s => by simp [findV]
  | x :: r, s => by
    unfold findV
    by_cases hx : x.1 = s
    · rw [if_pos hx]; simp [hx]
    · rw [if_neg hx, findV_keys (L := r)]
      simp only [List.map_cons, List.mem_cons, not_or]
      exact ⟨fun h => ⟨fun e => hx e.symm, h⟩, fun h => h.2⟩
theorem findV_put : ∀ (L : List (ByteArray × Value)) (s : ByteArray) (v : Value) (u : ByteArray), findV (putV L s v) u = if s = u then some v else findV L u
  | [], s, v, u => by
    unfold putV findV
    split
    · rfl
    · rfl
  | x :: r, s, v, u => by
    unfold putV
    by_cases hx : x.1 = s
    · rw [if_pos hx]
      unfold findV
      simp only
      by_cases hu : s = u
      · rw [if_pos hu, if_pos hu]
      · rw [if_neg hu, if_neg hu, if_neg (by rw [hx]; exact hu)]
    · rw [if_neg hx]
      show (if x.1 = u then some x.2 else findV (putV r s v) u) = _
      rw [findV_put r s v u]
      show _ = if s = u then some v else if x.1 = u then some x.2 else findV r u
      by_cases hu : s = u
      · rw [if_pos hu, if_pos hu, if_neg (by rw [← hu]; exact hx)]
      · rw [if_neg hu, if_neg hu]
theorem modify_map {es : Array MapEntry} {L : List (ByteArray × Value)} {s : ByteArray} {v : Value} {j : Nat} {e0 : MapEntry} (hL : es.toList.map (fun e => (e.key, e.val)) = L.map fun x => (Value.string x.1, x.2)) (hn : (L.map Prod.fst).Nodup) (h2 : es[j]? = some e0) (h3 : e0.key = .string s) :
    (es.modify j fun e => { e with key := .string s, val := v }).toList.map (fun e => (e.key, e.val)) = (putV L s v).map fun x => (Value.string x.1, x.2) := by
  have key : ∀ (l : List MapEntry) (L : List (ByteArray × Value)) (j : Nat), l.map (fun e => (e.key, e.val)) = L.map (fun x => (Value.string x.1, x.2)) → (L.map Prod.fst).Nodup → l[j]? = some e0 →
      (l.modify j fun e => { e with key := .string s, val := v }).map (fun e => (e.key, e.val)) = (putV L s v).map fun x => (Value.string x.1, x.2) := by
    intro l
    induction l with
    | nil => intro L j h _ hj; simp at hj
    | cons a l ih =>
      intro L j h hn hj
      cases L with
      | nil => simp at h
      | cons x L =>
        simp only [List.map_cons, List.cons.injEq, Prod.mk.injEq] at h
        obtain ⟨⟨ha, hv⟩, hr⟩ := h
        rw [List.map_cons, List.nodup_cons] at hn
        unfold putV
        cases j with
        | zero =>
          simp at hj
          subst hj
          rw [ha] at h3
          cases h3
          rw [if_pos rfl]
          simp [hr]
        | succ j =>
          have hj' : l[j]? = some e0 := by simpa using hj
          have hxs : x.1 ≠ s := fun e => by
            refine hn.1 ?_
            have hm : (e0.key, e0.val) ∈ l.map (fun e => (e.key, e.val)) := List.mem_map.2 ⟨e0, List.mem_of_getElem? hj', rfl⟩
            rw [hr] at hm
            obtain ⟨y, hy, he⟩ := List.mem_map.1 hm
            simp only [Prod.mk.injEq] at he
            rw [h3] at he
            obtain ⟨he1, _⟩ := he
            cases he1
            exact List.mem_map.2 ⟨y, hy, e.symm⟩
          rw [if_neg hxs]
          simp only [List.modify_succ_cons, List.map_cons, ha, hv]
          rw [ih L j hr hn.2 hj']
  have := key es.toList L j hL hn (by simpa using h2)
  rw [← this]
  congr 1
  simp
theorem put_run {P : Program} {w : World} {t k e : TypeId} {b : Nat} {L : List (ByteArray × Value)} (hk : P.underlying k = some .string) (ht : P.underlying t = some (.map k e)) (h : MpS w b L) (s : ByteArray) (hs : s.size ≤ maxLen) (v : Value) :
    ∃ w', (Instr.mapUpdate t (.map (some b)) (.string s) v).run P w = .ok () w' ∧ MpS w' b (putV L s v) ∧ w.grownBy w' (some b) := by
  obtain ⟨es, clock, hb, hL⟩ := h.ex
  have K := string_law hk
  have hkey := keyOf_string_mk hk hs
  have hmem : ∀ x ∈ es.toList, ∃ y ∈ L, x.key = .string y.1 ∧ x.val = y.2 := fun x hx => by
    have : (x.key, x.val) ∈ es.toList.map (fun e => (e.key, e.val)) := List.mem_map.2 ⟨x, hx, rfl⟩
    rw [hL] at this
    obtain ⟨y, hy, he⟩ := List.mem_map.1 this
    simp only [Prod.mk.injEq] at he
    exact ⟨y, hy, he.1.symm, he.2.symm⟩
  have hF : ∀ e ∈ es.toList, ∃ l, keyOf P k e.key = some l := fun e he => by
    obtain ⟨x, hx, h1, _⟩ := hmem e he
    rw [h1]
    exact ⟨_, keyOf_string_mk hk (h.sz x hx)⟩
  have hlt := h.lt
  have hg : ∀ o, w.grownBy (setBlock w b o) (some b) := fun o => ⟨rfl, rfl, rfl, by simp [setBlock], fun i _ hi => heap_setBlock_other hb o (fun e => hi (by rw [e]))⟩
  have hsz' : ∀ x ∈ putV L s v, x.1.size ≤ maxLen := by
    intro x hx
    have : x.1 ∈ (putV L s v).map Prod.fst := List.mem_map.2 ⟨x, hx, rfl⟩
    rw [putV_keys] at this
    split at this
    · rcases List.mem_append.1 this with hm | hm
      · obtain ⟨y, hy, he⟩ := List.mem_map.1 hm
        rw [← he]; exact h.sz y hy
      · rw [List.mem_singleton.1 hm]; exact hs
    · obtain ⟨y, hy, he⟩ := List.mem_map.1 this
      rw [← he]; exact h.sz y hy
  have hnd' : ((putV L s v).map Prod.fst).Nodup := by
    rw [putV_keys]
    split
    · rename_i hf
      rw [findV_keys] at hf
      refine List.nodup_append.2 ⟨h.nd, by simp, fun a ha c hc => ?_⟩
      rw [List.mem_singleton.1 hc]
      exact fun e => hf (e ▸ ha)
    · exact h.nd
  rcases K.find w hkey es.toList hF with ⟨h1, h2⟩ | ⟨j, e0, h1, h2, h3⟩
  · have hf : findV L s = none := findV_none fun x hx hxs => by
      have hm : (Value.string x.1, x.2) ∈ L.map (fun x => (Value.string x.1, x.2)) := List.mem_map.2 ⟨x, hx, rfl⟩
      rw [← hL] at hm
      obtain ⟨y, hy, he⟩ := List.mem_map.1 hm
      simp only [Prod.mk.injEq] at he
      exact h2 y hy (by rw [he.1, hxs])
    refine ⟨setBlock w b (.map (es.push { key := .string s, val := v, born := clock }) (clock + 1)), ?_, ⟨⟨_, _, heap_setBlock_same hb _, ?_⟩, hsz', hnd'⟩, hg _⟩
    · simp [Instr.mapUpdate, run_underlying ht, MapKept.run_getObj_map hb, K.check w _ hkey, h1, MapKept.run_setObj_map _ hb, Result.andThen, setBlock]
    · rw [putV_new hf]
      simp [hL]
  · have hj : es[j]? = some e0 := by simpa using h2
    refine ⟨setBlock w b (.map (es.modify j fun e => { e with key := .string s, val := v }) clock), ?_, ⟨⟨_, _, heap_setBlock_same hb _, modify_map hL h.nd hj h3⟩, hsz', hnd'⟩, hg _⟩
    have hst := K.stays w hkey
    simp [Instr.mapUpdate, run_underlying ht, MapKept.run_getObj_map hb, K.check w _ hkey, h1, hj, h3, hst, MapKept.run_setObj_map _ hb, Result.andThen, setBlock]
end Go.Proofs.YtpcdlneompnhlaaGreatDoor.Ty

namespace Go.Proofs.YtpcdlneompnhlaaGreatDoor.Ty
open Go Go.RowKit
open Go.Proofs.YtpcdlneompnhlaaGreatDoor.Lx Go.Proofs.YtpcdlneompnhlaaGreatDoor.Tr

/-- what a list of names says of one -/
def findA {β : Type} : List (ByteArray × β) → ByteArray → Option β
  | [], _ => none
  | x :: r, s => if x.1 = s then some x.2 else findA r s
theorem findV_map {β : Type} (f : β → Value) : ∀ (L : List (ByteArray × β)) (s : ByteArray), findV (L.map fun x => (x.1, f x.2)) s = (findA L s).map f
  | [], _ => rfl
  | x :: r, s => by
    show (if x.1 = s then some (f x.2) else findV (r.map fun x => (x.1, f x.2)) s) = (if x.1 = s then some x.2 else findA r s).map f
    rw [findV_map f r s]
    split <;> rfl
theorem findA_mem {β : Type} : ∀ {L : List (ByteArray × β)} {s : ByteArray} {b : β}, findA L s = some b → (s, b) ∈ L
  | x :: r, s, b, h => by
    unfold findA at h
    split at h
    · rename_i hx
      cases h
      rw [← hx]; simp
    · exact List.mem_cons_of_mem _ (findA_mem h)

structure Lc where
  lb : Nat
  pa : Option Addr
  pcap : Nat
  ds : List De
  dm : Nat
  cb : Nat
  B : Nat
  D : List (ByteArray × Nat)
structure CRow where
  val : Value
  l : List Nat
structure Ls where
  pos : Nat
  db : Nat
  kb : Nat
  dec : List (ByteArray × Unit)
  kn : List (ByteArray × Int)
  calls : List CRow
  last : Bool
def fnV (n : Nat) : Value := .func (.func n) #[] #[]
/-- what each Kind of expressions, and of statements, asks -/
def exF (k : Nat) : Nat := if k = 3 then 123 else if k = 4 then 124 else if k = 2 ∨ k = 6 ∨ k = 16 ∨ k = 17 then 122 else if 12 ≤ k ∧ k ≤ 15 then 125 else 121
def stF (k : Nat) : Nat := if k = 1 then 126 else if k = 2 then 127 else if k = 3 then 128 else if k = 4 ∨ k = 5 then 129 else if k = 6 then 130 else if k = 7 then 131 else if k = 8 then 132 else 133
def exFs : List Value := .nilFunc :: (List.range 17).map fun k => fnV (exF (k + 1))
def stFs : List Value := .nilFunc :: (List.range 9).map fun k => fnV (stF (k + 1))
def lkVals (c : Lc) (s : Ls) : Array Value := ⟨[.slice c.pa c.ds.length c.pcap, .map (some c.dm)] ++ exFs ++ stFs ++ [.slice (some ⟨c.cb, 0, none⟩) c.ds.length c.ds.length, .int .i64 s.pos, .map (some s.db), .map (some s.kb), .bool s.last]⟩
structure Lk (c : Lc) (s : Ls) (w : World) : Prop where
  blk : w.heap[c.lb]? = some (.cells (lkVals c s) 127 (0, 0))
  mD : MpS w c.dm (c.D.map fun x => (x.1, .int .i64 x.2))
  md : MpS w s.db (s.dec.map fun x => (x.1, .agg #[]))
  mq : MpS w s.kb (s.kn.map fun x => (x.1, .int .u8 x.2))
  row : RowAt w (fun b => b < c.B) c.pa c.pcap c.ds.length (deCells c.ds)
  ins : De.InL w (fun b => b < c.B) c.ds
  dlt : ∀ x ∈ c.D, x.2 < c.ds.length
  cbl : w.heap[c.cb]? = some (.cells ⟨s.calls.map CRow.val⟩ 180 (0, 0))
  cln : s.calls.length = c.ds.length
  rows : ∀ (i : Nat) (r : CRow), s.calls[i]? = some r → w.ownsRow c.B 3 1 r.val r.l.length (r.l.map fun n : Nat => Value.int .i64 (n : Int)) ∧ (∀ n ∈ r.l, n < c.ds.length) ∧ ∀ b, r.val.ownBlock = some b → b ≠ c.lb ∧ b ≠ c.cb
  rone : ∀ (i j : Nat) (ri rj : CRow) (b : Nat), s.calls[i]? = some ri → s.calls[j]? = some rj → ri.val.ownBlock = some b → rj.val.ownBlock = some b → i = j
  rnd : ∀ r ∈ s.calls, r.l.Nodup
  few : c.ds.length ≤ 256
  hi : c.B ≤ c.lb ∧ c.B ≤ c.dm ∧ c.B ≤ c.cb ∧ c.B ≤ s.db ∧ c.B ≤ s.kb
  ne : c.dm ≠ s.db ∧ c.dm ≠ s.kb ∧ s.db ≠ s.kb ∧ c.lb ≠ c.cb
theorem own_lt {w : World} {base : Nat} {e : TypeId} {size n b : Nat} {v : Value} {xs : List Value} (h : w.ownsRow base e size v n xs) (hb : v.ownBlock = some b) : b < w.heap.size := by
  rcases h.2 with ⟨rfl, _⟩ | ⟨g, cap, cur, rfl, _, hg, _⟩
  · cases hb
  · cases hb
    exact (Array.getElem?_eq_some_iff.1 hg).1
theorem own_keep {w w' : World} {base : Nat} {e : TypeId} {size n : Nat} {v : Value} {xs : List Value} (h : w.ownsRow base e size v n xs) (hk : ∀ b, v.ownBlock = some b → w'.heap[b]? = w.heap[b]?) : w'.ownsRow base e size v n xs := by
  refine ⟨h.1, ?_⟩
  rcases h.2 with hn | ⟨g, cap, cur, rfl, hb, hg, rest⟩
  · exact .inl hn
  · exact .inr ⟨g, cap, cur, rfl, hb, (hk g rfl).trans hg, rest⟩
/-- all that was there stays -/
theorem Lk.ext {c : Lc} {s : Ls} {w w' : World} (h : Lk c s w) (hb : Below w.heap.size w w') : Lk c s w' where
  blk := (hb.block _ (Array.getElem?_eq_some_iff.1 h.blk).1).trans h.blk
  mD := h.mD.below hb h.mD.lt
  md := h.md.below hb h.md.lt
  mq := h.mq.below hb h.mq.lt
  row := h.row.below (Kps.of_below hb)
  ins := De.InL.below (Kps.of_below hb) h.ins
  dlt := h.dlt
  cbl := (hb.block _ (Array.getElem?_eq_some_iff.1 h.cbl).1).trans h.cbl
  cln := h.cln
  rows := fun i r hr => ⟨own_keep (h.rows i r hr).1 fun _ hb' => hb.block _ (own_lt (h.rows i r hr).1 hb'), (h.rows i r hr).2⟩
  rone := h.rone
  rnd := h.rnd
  few := h.few
  hi := h.hi
  ne := h.ne
theorem lk_cell {w : World} {b : Nat} {vs : Array Value} {t : TypeId} {fr : Nat × Nat} {k : Nat} {v : Value} (h : w.heap[b]? = some (.cells vs t fr)) (hv : vs[k]? = some v) : w.cell? ⟨b, k, none⟩ = some v := blk_cell h hv

/-! ### what is said of expressions -/
def Bd (α : Type) : Type := Except (Int × Int) α
def findK (ds : List De) (D : List (ByteArray × Nat)) (K : List (ByteArray × Int)) (nm : ByteArray) (kind at_ : Int) : Except (Int × Int) Nat :=
  match findA D nm with
  | none => match findA K nm with
    | none => .error (at_, 64)
    | some _ => .error (at_, 65)
  | some i => match ds[i]? with
    | some d => if d.kind = kind then .ok i else .error (at_, 65)
    | none => .error (at_, 65)
def varK (ds : List De) (D : List (ByteArray × Nat)) (K : List (ByteArray × Int)) (nm : ByteArray) (at_ : Int) : Except (Int × Int) Int :=
  match findA K nm with
  | some k => .ok k
  | none => match findK ds D K nm 1 at_ with
    | .error p => .error p
    | .ok _ => .ok 1
def posE : Ex → Int
  | .mk _ _ _ _ _ _ pos => pos
mutual
def exK (ds : List De) (D : List (ByteArray × Nat)) (K : List (ByteArray × Int)) : Ex → Except (Int × Int) Int
  | .mk k nm _ _ _ args pos =>
    if k = 3 then varK ds D K nm pos
    else if k = 4 then
      match findK ds D K nm 2 pos with
      | .error p => .error p
      | .ok _ => match wantK ds D K 1 args with
        | .error p => .error p
        | .ok _ => .ok 1
    else if k = 2 ∨ k = 6 ∨ k = 16 ∨ k = 17 then
      match wantK ds D K 2 args with
      | .error p => .error p
      | .ok _ => .ok 2
    else if 12 ≤ k ∧ k ≤ 15 then
      match wantK ds D K 1 args with
      | .error p => .error p
      | .ok _ => .ok 2
    else
      match wantK ds D K 1 args with
      | .error p => .error p
      | .ok _ => .ok 1
def wantK (ds : List De) (D : List (ByteArray × Nat)) (K : List (ByteArray × Int)) (t : Int) : List Ex → Except (Int × Int) Unit
  | [] => .ok ()
  | e :: r => match exK ds D K e with
    | .error p => .error p
    | .ok k => if k = t then wantK ds D K t r else .error (posE e, 65)
end
theorem exK_eq (ds : List De) (D : List (ByteArray × Nat)) (K : List (ByteArray × Int)) (k : Int) (nm : ByteArray) (n : Int) (a : Option Addr) (cap : Nat) (args : List Ex) (pos : Int) : exK ds D K (.mk k nm n a cap args pos) =
    if k = 3 then varK ds D K nm pos
    else if k = 4 then
      match findK ds D K nm 2 pos with
      | .error p => .error p
      | .ok _ => match wantK ds D K 1 args with
        | .error p => .error p
        | .ok _ => .ok 1
    else if k = 2 ∨ k = 6 ∨ k = 16 ∨ k = 17 then
      match wantK ds D K 2 args with
      | .error p => .error p
      | .ok _ => .ok 2
    else if 12 ≤ k ∧ k ≤ 15 then
      match wantK ds D K 1 args with
      | .error p => .error p
      | .ok _ => .ok 2
    else
      match wantK ds D K 1 args with
      | .error p => .error p
      | .ok _ => .ok 1 := by
  conv => lhs; unfold exK
theorem wantK_nil (ds : List De) (D : List (ByteArray × Nat)) (K : List (ByteArray × Int)) (t : Int) : wantK ds D K t [] = .ok () := by unfold wantK; rfl
theorem wantK_cons (ds : List De) (D : List (ByteArray × Nat)) (K : List (ByteArray × Int)) (t : Int) (e : Ex) (r : List Ex) : wantK ds D K t (e :: r) = match exK ds D K e with
    | .error p => .error p
    | .ok k => if k = t then wantK ds D K t r else .error (posE e, 65) := by
  conv => lhs; unfold wantK
/-- a fault that is thrown -/
def badT (at_ err : Int) : Ending := .panicked [{ v := .iface 114 (.agg #[.int .i64 at_, .int .i64 err]), recovered := false }]
/-- how a call ends that says something of a type -/
def PostK (w : World) (r : Except (Int × Int) Int) (e : Ending) (w' : World) : Prop := Below w.heap.size w w' ∧ match r with
  | .ok k => e = .returned (.int .u8 k)
  | .error p => e = badT p.1 p.2
def PostW (w : World) (r : Except (Int × Int) Unit) (e : Ending) (w' : World) : Prop := Below w.heap.size w w' ∧ match r with
  | .ok _ => e = .returned (.tuple #[])
  | .error p => e = badT p.1 p.2
end Go.Proofs.YtpcdlneompnhlaaGreatDoor.Ty

namespace Go.Proofs.YtpcdlneompnhlaaGreatDoor.Ty
open Go Go.RowKit
open Go.Proofs.YtpcdlneompnhlaaGreatDoor.Lx Go.Proofs.YtpcdlneompnhlaaGreatDoor.Tr

theorem refuse_c (at_ err : Int) (w : World) : Calls Tryz.prog 134 #[.int .i64 at_, .int .i64 err] w fun e w' => e = badT at_ err ∧ w' = w := by
  go_enter Tryz.func134, Tryz.ntmps134
  go_wp2_with fail
  exact ⟨rfl, rfl, rfl⟩
theorem zero_int (V : World) : (zeroValue 3).run Tryz.prog V = .ok (.int .i64 0) V := by simp [zeroValue, Tryz.t3]
theorem zero_kind (V : World) : (zeroValue 150).run Tryz.prog V = .ok (.int .u8 0) V := by simp [zeroValue, Tryz.t150]
theorem zero_unit (V : World) : (zeroValue 181).run Tryz.prog V = .ok (.agg #[]) V := by simp [zeroValue, Tryz.t181]
theorem look_D {c : Lc} {s : Ls} {w : World} (h : Lk c s w) (nm : ByteArray) (hn : nm.size ≤ maxLen) : (Instr.lookup 116 (.map (some c.dm)) (.string nm) true).run Tryz.prog w = .ok (match findA c.D nm with | some n => .tuple #[.int .i64 n, .bool true] | none => .tuple #[.int .i64 0, .bool false]) w := by
  have := look_run (k := 9) (e := 3) (t := 116) (by kernel_rfl) (by kernel_rfl) (zero_int w) h.mD nm hn true
  rw [findV_map (fun n : Nat => Value.int .i64 n)] at this
  rw [this]
  cases findA c.D nm <;> rfl
theorem look_K {c : Lc} {s : Ls} {w : World} (h : Lk c s w) (nm : ByteArray) (hn : nm.size ≤ maxLen) : (Instr.lookup 125 (.map (some s.kb)) (.string nm) true).run Tryz.prog w = .ok (match findA s.kn nm with | some n => .tuple #[.int .u8 n, .bool true] | none => .tuple #[.int .u8 0, .bool false]) w := by
  have := look_run (k := 9) (e := 150) (t := 125) (by kernel_rfl) (by kernel_rfl) (zero_kind w) h.mq nm hn true
  rw [findV_map (fun n : Int => Value.int .u8 n)] at this
  rw [this]
  cases findA s.kn nm <;> rfl
theorem de_cells {c : Lc} {s : Ls} {w : World} (h : Lk c s w) {i : Nat} {d : De} (hd : c.ds[i]? = some d) : ∃ b off, c.pa = some ⟨b, off, none⟩ ∧ b < c.B ∧ w.cell? ⟨b, off + i * 6, none⟩ = some (.int .u8 d.kind) ∧ w.cell? ⟨b, off + i * 6 + 1, none⟩ = some (.string d.name) ∧ w.cell? ⟨b, off + i * 6 + 2, none⟩ = some (.int .i64 d.n) ∧ w.cell? ⟨b, off + i * 6 + 3, none⟩ = some (.slice d.pa d.params.length d.pcap) ∧ w.cell? ⟨b, off + i * 6 + 4, none⟩ = some (.slice d.ba d.body.length d.bcap) ∧ w.cell? ⟨b, off + i * 6 + 5, none⟩ = some (.int .i64 d.pos) := by
  obtain ⟨b, off, ha, hb, hc⟩ := de_row h.row i d hd
  refine ⟨b, off, ha, hb, ?_, ?_, ?_, ?_, ?_, ?_⟩
  · have := hc 0 _ rfl; rwa [Nat.add_zero] at this
  · have := hc 1 _ rfl; rwa [← Nat.add_assoc] at this
  · have := hc 2 _ rfl; rwa [← Nat.add_assoc] at this
  · have := hc 3 _ rfl; rwa [← Nat.add_assoc] at this
  · have := hc 4 _ rfl; rwa [← Nat.add_assoc] at this
  · have := hc 5 _ rfl; rwa [← Nat.add_assoc] at this
theorem Lk.lim {c : Lc} {s : Ls} {w : World} (h : Lk c s w) : c.ds.length ≤ 9223372036854775807 := by
  have := h.row.le
  have := h.row.lim
  unfold maxLen at this
  omega

/-- how find ends -/
def PostF (w : World) (r : Except (Int × Int) Nat) (e : Ending) (w' : World) : Prop := w' = w ∧ match r with
  | .ok k => e = .returned (.int .i64 k)
  | .error p => e = badT p.1 p.2
set_option maxHeartbeats 2000000 in
set_option maxRecDepth 100000 in
theorem find_c {c : Lc} {s : Ls} {w : World} (h : Lk c s w) (nm : ByteArray) (hn : nm.size ≤ maxLen) (kind at_ : Int) :
    Calls Tryz.prog 164 #[.pointer (some ⟨c.lb, 0, none⟩), .string nm, .int .u8 kind, .int .i64 at_] w (PostF w (findK c.ds c.D s.kn nm kind at_)) := by
  generalize hr : findK c.ds c.D s.kn nm kind at_ = r
  have hl1 := look_D h nm hn
  have hl2 := look_K h nm hn
  have c0 : w.cell? ⟨c.lb, 0, none⟩ = some (.slice c.pa c.ds.length c.pcap) := lk_cell h.blk rfl
  have c1 : w.cell? ⟨c.lb, 1, none⟩ = some (.map (some c.dm)) := lk_cell h.blk rfl
  have c33 : w.cell? ⟨c.lb, 33, none⟩ = some (.map (some s.kb)) := lk_cell h.blk rfl
  have hR := Lib.hid (refuse_c at_)
  unfold findK at hr
  cases hD : findA c.D nm with
  | none =>
    rw [hD] at hl1 hr
    cases hK : findA s.kn nm with
    | none =>
      rw [hK] at hl2 hr
      simp only at hl1 hl2 hr
      replace hr := Lib.hid hr
      clear h hD hK
      go_enter Tryz.func164, Tryz.ntmps164
      go_wp2_with fail
      refine (hR.out _ _).mono ?_
      rintro e w' ⟨rfl, rfl⟩
      have hr' := hr.out
      subst hr'
      exact ⟨rfl, rfl, rfl⟩
    | some k =>
      rw [hK] at hl2 hr
      simp only at hl1 hl2 hr
      replace hr := Lib.hid hr
      clear h hD hK
      go_enter Tryz.func164, Tryz.ntmps164
      go_wp2_with fail
      refine (hR.out _ _).mono ?_
      rintro e w' ⟨rfl, rfl⟩
      have hr' := hr.out
      subst hr'
      exact ⟨rfl, rfl, rfl⟩
  | some i =>
    rw [hD] at hl1 hr
    simp only at hl1 hr
    have hi : i < c.ds.length := h.dlt _ (findA_mem hD)
    have hlim := h.lim
    obtain ⟨d, hd⟩ : ∃ d, c.ds[i]? = some d := ⟨_, List.getElem?_eq_getElem hi⟩
    rw [hd] at hr
    simp only at hr
    obtain ⟨b, off, ha, hb, d0, _⟩ := de_cells h hd
    rw [ha] at c0
    have hi0 : (0 : Int) ≤ (i : Int) := by omega
    have hi1 : (i : Int) < (c.ds.length : Int) := by omega
    generalize d.kind = dk at d0 hr
    cases hK : findA s.kn nm with
    | none =>
      rw [hK] at hl2
      simp only at hl2
      by_cases hk : dk = kind
      · rw [if_pos hk] at hr
        subst hk
        replace hr := Lib.hid hr
        clear h hD hd hb ha hK
        go_enter Tryz.func164, Tryz.ntmps164
        go_wp2_with fail
        go_ret
        have hr' := hr.out
        subst hr'
        exact ⟨rfl, rfl⟩
      · rw [if_neg hk] at hr
        replace hr := Lib.hid hr
        clear h hD hd hb ha hK
        go_enter Tryz.func164, Tryz.ntmps164
        go_wp2_with fail
        refine (hR.out _ _).mono ?_
        rintro e w' ⟨rfl, rfl⟩
        have hr' := hr.out
        subst hr'
        exact ⟨rfl, rfl, rfl⟩
    | some k =>
      rw [hK] at hl2
      simp only at hl2
      by_cases hk : dk = kind
      · rw [if_pos hk] at hr
        subst hk
        replace hr := Lib.hid hr
        clear h hD hd hb ha hK
        go_enter Tryz.func164, Tryz.ntmps164
        go_wp2_with fail
        go_ret
        have hr' := hr.out
        subst hr'
        exact ⟨rfl, rfl⟩
      · rw [if_neg hk] at hr
        replace hr := Lib.hid hr
        clear h hD hd hb ha hK
        go_enter Tryz.func164, Tryz.ntmps164
        go_wp2_with fail
        refine (hR.out _ _).mono ?_
        rintro e w' ⟨rfl, rfl⟩
        have hr' := hr.out
        subst hr'
        exact ⟨rfl, rfl, rfl⟩
/-- how variable ends -/
def PostV (w : World) (r : Except (Int × Int) Int) (e : Ending) (w' : World) : Prop := w' = w ∧ match r with
  | .ok k => e = .returned (.int .u8 k)
  | .error p => e = badT p.1 p.2
set_option maxHeartbeats 2000000 in
set_option maxRecDepth 100000 in
theorem variable_c {c : Lc} {s : Ls} {w : World} (h : Lk c s w) (nm : ByteArray) (hn : nm.size ≤ maxLen) (at_ : Int) :
    Calls Tryz.prog 163 #[.pointer (some ⟨c.lb, 0, none⟩), .string nm, .int .i64 at_] w (PostV w (varK c.ds c.D s.kn nm at_)) := by
  generalize hr : varK c.ds c.D s.kn nm at_ = r
  have hl2 := look_K h nm hn
  have hF := Lib.hid (find_c h nm hn 1 at_)
  have c33 : w.cell? ⟨c.lb, 33, none⟩ = some (.map (some s.kb)) := lk_cell h.blk rfl
  unfold varK at hr
  cases hK : findA s.kn nm with
  | some k =>
    rw [hK] at hl2 hr
    simp only at hl2 hr
    replace hr := Lib.hid hr
    clear h hK hF
    go_enter Tryz.func163, Tryz.ntmps163
    go_wp2_with fail
    go_ret
    have hr' := hr.out
    subst hr'
    exact ⟨rfl, rfl⟩
  | none =>
    rw [hK] at hl2 hr
    simp only at hl2 hr
    generalize findK c.ds c.D s.kn nm 1 at_ = q at hF hr
    replace hr := Lib.hid hr
    clear h hK
    go_enter Tryz.func163, Tryz.ntmps163
    go_wp2_with fail
    refine hF.out.mono ?_
    intro e w' hP
    cases q with
    | ok i =>
      obtain ⟨rfl, rfl⟩ := hP
      have hr' := hr.out
      simp only at hr'
      clear hr hF
      go_wp2_with fail
      go_ret
      subst hr'
      exact ⟨rfl, rfl⟩
    | error p =>
      obtain ⟨rfl, rfl⟩ := hP
      have hr' := hr.out
      simp only at hr'
      subst hr'
      exact ⟨rfl, rfl, rfl⟩
end Go.Proofs.YtpcdlneompnhlaaGreatDoor.Ty
