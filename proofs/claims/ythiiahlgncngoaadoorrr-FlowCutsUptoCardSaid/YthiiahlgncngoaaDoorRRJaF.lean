/- Maps keyed by texts, as lists: look-up, store, a new one. Conditions: none. -/
import Derived.StringKeys
import Derived.MapKept
import Derived.Maps.Own
import Derived.Maps.OwnOps
import Derived.ChangeMaps5
import Derived.Test.YthiiahlgncngoaaDoorRRJaE
import Derived.Maps.OwnIn
set_option maxHeartbeats 16000000
set_option maxRecDepth 100000
namespace Go.Proofs.YthiiahlgncngoaaDoorRR.Ty
open Go Go.RowKit
open Go.Proofs.YthiiahlgncngoaaDoorRR.Lx Go.Proofs.YthiiahlgncngoaaDoorRR.Tr
open Go.WideMaps (string_law keyOf_string_mk)
open Go.WideShapes Go.MapKept
open Go.ChangeMaps (setBlock heap_setBlock_same heap_setBlock_other)
theorem Qk {W : World} {b : Nat} {vs : Array Value} {t : TypeId} {fr : Nat × Nat} (h : W.heap[b]? = some (.cells vs t fr)) {j : Nat} {u : Value} (hu : vs[j]? = some u) : W.cell? ⟨b, j, none⟩ = some u := by
 simp only [World.cell?, h]
 simpa using hu
theorem Qd {W : World} {b : Nat} {vs : Array Value} {t : TypeId} (h : W.heap[b]? = some (.cells vs t (0, 0))) (j : Nat) : W.frozen? ⟨b, j, none⟩ = false := by
 simp [World.frozen?, h]
/-- block b is a map that holds these, in their row -/
structure MpS (w : World) (b : Nat) (L : List (ByteArray × Value)) : Prop where
 ex : ∃ es k, w.heap[b]? = some (.map es k) ∧ es.toList.map (fun e => (e.key, e.val)) = L.map fun x => (Value.string x.1, x.2)
 sz : ∀ x ∈ L, x.1.size ≤ maxLen
 nd : (L.map Prod.fst).Nodup
theorem MpS.lt {w : World} {b : Nat} {L : List (ByteArray × Value)} (h : MpS w b L) : b < w.heap.size := by
 obtain ⟨es, k, h, _⟩ := h.ex
 exact (Array.getElem?_eq_some_iff.1 h).1
theorem MpS.keep {w w' : World} {b : Nat} {L : List (ByteArray × Value)} (h : MpS w b L) (hb : w'.heap[b]? = w.heap[b]?) : MpS w' b L := by
 obtain ⟨es, k, h1, h2⟩ := h.ex
 exact ⟨⟨es, k, hb.trans h1, h2⟩, h.sz, h.nd⟩
theorem MpS.below {w w' : World} {b B : Nat} {L : List (ByteArray × Value)} (h : MpS w b L) (hb : Below B w w') (hl : b < B) : MpS w' b L := h.keep (hb.block b hl)
/-- what a list says of a key -/
def findV : List (ByteArray × Value) → ByteArray → Option Value
 | [], _ => none
 | x :: r, s => if x.1 = s then some x.2 else findV r s
theorem findV_none : ∀ {L : List (ByteArray × Value)} {s : ByteArray}, (∀ x ∈ L, x.1 ≠ s) → findV L s = none
 | [], _, _ => rfl
 | y :: r, s, h => by
   unfold findV
   rw [if_neg (h y (by simp))]
   exact findV_none fun x hx => h x (by simp [hx])
theorem findV_mem : ∀ {L : List (ByteArray × Value)} {s : ByteArray} {x : ByteArray × Value}, (L.map Prod.fst).Nodup → x ∈ L → x.1 = s → findV L s = some x.2
 | y :: r, s, x, hn, hx, hs => by
   unfold findV
   rw [List.map_cons, List.nodup_cons] at hn
   rcases List.mem_cons.1 hx with rfl | hx
   · rw [if_pos hs]
   · rw [if_neg (fun e => hn.1 (List.mem_map.2 ⟨x, hx, by rw [hs, e]⟩))]
     exact findV_mem hn.2 hx hs
theorem look_run {P : Program} {w : World} {t k e : TypeId} {b : Nat} {z : Value} {L : List (ByteArray × Value)} (hk : P.underlying k = some .string) (ht : P.underlying t = some (.map k e)) (hz : (zeroValue e).run P w = .ok z w) (h : MpS w b L) (s : ByteArray) (hs : s.size ≤ maxLen) (ok : Bool) :
 (Instr.lookup t (.map (some b)) (.string s) ok).run P w = .ok (match findV L s with | some v => if ok then .tuple #[v, .bool true] else v | none => if ok then .tuple #[z, .bool false] else z) w := by
 obtain ⟨es, clock, hb, hL⟩ := h.ex
 have K := string_law hk
 have hkey := keyOf_string_mk hk hs
 have hmem : ∀ x ∈ es.toList, ∃ y ∈ L, x.key = .string y.1 ∧ x.val = y.2 := fun x hx => by
  have : (x.key, x.val) ∈ es.toList.map (fun e => (e.key, e.val)) := List.mem_map.2 ⟨x, hx, rfl⟩
  rw [hL] at this
  obtain ⟨y, hy, he⟩ := List.mem_map.1 this
  simp only [Prod.mk.injEq] at he
  exact ⟨y, hy, he.1.symm, he.2.symm⟩
 have hF : ∀ e ∈ es.toList, ∃ l, keyOf P k e.key = some l := fun e he => by
  obtain ⟨x, hx, h1, _⟩ := hmem e he
  rw [h1]
  exact ⟨_, keyOf_string_mk hk (h.sz x hx)⟩
 rcases K.find w hkey es.toList hF with ⟨h1, h2⟩ | ⟨j, e0, h1, h2, h3⟩
 · have : findV L s = none := findV_none fun x hx hxs => by
    have hm : (Value.string x.1, x.2) ∈ L.map (fun x => (Value.string x.1, x.2)) := List.mem_map.2 ⟨x, hx, rfl⟩
    rw [← hL] at hm
    obtain ⟨y, hy, he⟩ := List.mem_map.1 hm
    simp only [Prod.mk.injEq] at he
    exact h2 y hy (by rw [he.1, hxs])
   rw [this]
   cases ok <;> simp [Instr.lookup, run_underlying ht, MapKept.run_getObj_map hb, K.check w _ hkey, h1, hz, Result.andThen]
 · obtain ⟨y, hy, hy1, hy2⟩ := hmem e0 (List.mem_of_getElem? h2)
   have : findV L s = some y.2 := findV_mem h.nd hy (by rw [hy1] at h3; cases h3; rfl)
   rw [this]
   cases ok <;> simp [Instr.lookup, run_underlying ht, MapKept.run_getObj_map hb, K.check w _ hkey, h1, hy2, Result.andThen]
/-- a list with a key's value put in -/
def putV : List (ByteArray × Value) → ByteArray → Value → List (ByteArray × Value)
 | [], s, v => [(s, v)]
 | x :: r, s, v => if x.1 = s then (s, v) :: r else x :: putV r s v
theorem putV_new : ∀ {L : List (ByteArray × Value)} {s : ByteArray} {v : Value}, findV L s = none → putV L s v = L ++ [(s, v)]
 | [], _, _, _ => rfl
 | x :: r, s, v, h => by
   unfold findV at h
   unfold putV
   split at h
   · cases h
   · rename_i hx
     rw [if_neg hx, putV_new h]
     rfl
theorem putV_keys : ∀ (L : List (ByteArray × Value)) (s : ByteArray) (v : Value), (putV L s v).map Prod.fst = if findV L s = none then L.map Prod.fst ++ [s] else L.map Prod.fst
 | [], _, _ => rfl
 | x :: r, s, v => by
   unfold putV findV
   by_cases hx : x.1 = s
   · rw [if_pos hx, if_pos hx]; simp [hx]
   · rw [if_neg hx, if_neg hx, List.map_cons, putV_keys r s v]
     split <;> simp
theorem findV_keys : ∀ {L : List (ByteArray × Value)} {s : ByteArray}, findV L s = none ↔ s ∉ L.map Prod.fst
 | [], s => by simp [findV]
 | x :: r, s => by
   unfold findV
   by_cases hx : x.1 = s
   · rw [if_pos hx]; simp [hx]
   · rw [if_neg hx, findV_keys (L := r)]
     simp only [List.map_cons, List.mem_cons, not_or]
     exact ⟨fun h => ⟨fun e => hx e.symm, h⟩, fun h => h.2⟩
theorem modify_map {es : Array MapEntry} {L : List (ByteArray × Value)} {s : ByteArray} {v : Value} {j : Nat} {e0 : MapEntry} (hL : es.toList.map (fun e => (e.key, e.val)) = L.map fun x => (Value.string x.1, x.2)) (hn : (L.map Prod.fst).Nodup) (h2 : es[j]? = some e0) (h3 : e0.key = .string s) :
 (es.modify j fun e => { e with key := .string s, val := v }).toList.map (fun e => (e.key, e.val)) = (putV L s v).map fun x => (Value.string x.1, x.2) := by
 have key : ∀ (l : List MapEntry) (L : List (ByteArray × Value)) (j : Nat), l.map (fun e => (e.key, e.val)) = L.map (fun x => (Value.string x.1, x.2)) → (L.map Prod.fst).Nodup → l[j]? = some e0 →
  (l.modify j fun e => { e with key := .string s, val := v }).map (fun e => (e.key, e.val)) = (putV L s v).map fun x => (Value.string x.1, x.2) := by
  intro l
  induction l with
  | nil => intro L j h _ hj; simp at hj
  | cons a l ih =>
    intro L j h hn hj
    cases L with
    | nil => simp at h
    | cons x L =>
      simp only [List.map_cons, List.cons.injEq, Prod.mk.injEq] at h
      obtain ⟨⟨ha, hv⟩, hr⟩ := h
      rw [List.map_cons, List.nodup_cons] at hn
      unfold putV
      cases j with
      | zero =>
        simp at hj
        subst hj
        rw [ha] at h3
        cases h3
        rw [if_pos rfl]
        simp [hr]
      | succ j =>
        have hj' : l[j]? = some e0 := by simpa using hj
        have hxs : x.1 ≠ s := fun e => by
         refine hn.1 ?_
         have hm : (e0.key, e0.val) ∈ l.map (fun e => (e.key, e.val)) := List.mem_map.2 ⟨e0, List.mem_of_getElem? hj', rfl⟩
         rw [hr] at hm
         obtain ⟨y, hy, he⟩ := List.mem_map.1 hm
         simp only [Prod.mk.injEq] at he
         rw [h3] at he
         obtain ⟨he1, _⟩ := he
         cases he1
         exact List.mem_map.2 ⟨y, hy, e.symm⟩
        rw [if_neg hxs]
        simp only [List.modify_succ_cons, List.map_cons, ha, hv]
        rw [ih L j hr hn.2 hj']
 have := key es.toList L j hL hn (by simpa using h2)
 rw [← this]
 congr 1
 simp
theorem put_run {P : Program} {w : World} {t k e : TypeId} {b : Nat} {L : List (ByteArray × Value)} (hk : P.underlying k = some .string) (ht : P.underlying t = some (.map k e)) (h : MpS w b L) (s : ByteArray) (hs : s.size ≤ maxLen) (v : Value) :
 ∃ w', (Instr.mapUpdate t (.map (some b)) (.string s) v).run P w = .ok () w' ∧ MpS w' b (putV L s v) ∧ w.grownBy w' (some b) := by
 obtain ⟨es, clock, hb, hL⟩ := h.ex
 have K := string_law hk
 have hkey := keyOf_string_mk hk hs
 have hmem : ∀ x ∈ es.toList, ∃ y ∈ L, x.key = .string y.1 ∧ x.val = y.2 := fun x hx => by
  have : (x.key, x.val) ∈ es.toList.map (fun e => (e.key, e.val)) := List.mem_map.2 ⟨x, hx, rfl⟩
  rw [hL] at this
  obtain ⟨y, hy, he⟩ := List.mem_map.1 this
  simp only [Prod.mk.injEq] at he
  exact ⟨y, hy, he.1.symm, he.2.symm⟩
 have hF : ∀ e ∈ es.toList, ∃ l, keyOf P k e.key = some l := fun e he => by
  obtain ⟨x, hx, h1, _⟩ := hmem e he
  rw [h1]
  exact ⟨_, keyOf_string_mk hk (h.sz x hx)⟩
 have hlt := h.lt
 have hg : ∀ o, w.grownBy (setBlock w b o) (some b) := fun o => ⟨rfl, rfl, rfl, by simp [setBlock], fun i _ hi => heap_setBlock_other hb o (fun e => hi (by rw [e]))⟩
 have hsz' : ∀ x ∈ putV L s v, x.1.size ≤ maxLen := by
  intro x hx
  have : x.1 ∈ (putV L s v).map Prod.fst := List.mem_map.2 ⟨x, hx, rfl⟩
  rw [putV_keys] at this
  split at this
  · rcases List.mem_append.1 this with hm | hm
    · obtain ⟨y, hy, he⟩ := List.mem_map.1 hm
      rw [← he]; exact h.sz y hy
    · rw [List.mem_singleton.1 hm]; exact hs
  · obtain ⟨y, hy, he⟩ := List.mem_map.1 this
    rw [← he]; exact h.sz y hy
 have hnd' : ((putV L s v).map Prod.fst).Nodup := by
  rw [putV_keys]
  split
  · rename_i hf
    rw [findV_keys] at hf
    refine List.nodup_append.2 ⟨h.nd, by simp, fun a ha c hc => ?_⟩
    rw [List.mem_singleton.1 hc]
    exact fun e => hf (e ▸ ha)
  · exact h.nd
 rcases K.find w hkey es.toList hF with ⟨h1, h2⟩ | ⟨j, e0, h1, h2, h3⟩
 · have hf : findV L s = none := findV_none fun x hx hxs => by
    have hm : (Value.string x.1, x.2) ∈ L.map (fun x => (Value.string x.1, x.2)) := List.mem_map.2 ⟨x, hx, rfl⟩
    rw [← hL] at hm
    obtain ⟨y, hy, he⟩ := List.mem_map.1 hm
    simp only [Prod.mk.injEq] at he
    exact h2 y hy (by rw [he.1, hxs])
   refine ⟨setBlock w b (.map (es.push { key := .string s, val := v, born := clock }) (clock + 1)), ?_, ⟨⟨_, _, heap_setBlock_same hb _, ?_⟩, hsz', hnd'⟩, hg _⟩
   · simp [Instr.mapUpdate, run_underlying ht, MapKept.run_getObj_map hb, K.check w _ hkey, h1, MapKept.run_setObj_map _ hb, Result.andThen, setBlock]
   · rw [putV_new hf]
     simp [hL]
 · have hj : es[j]? = some e0 := by simpa using h2
   refine ⟨setBlock w b (.map (es.modify j fun e => { e with key := .string s, val := v }) clock), ?_, ⟨⟨_, _, heap_setBlock_same hb _, modify_map hL h.nd hj h3⟩, hsz', hnd'⟩, hg _⟩
   have hst := K.stays w hkey
   simp [Instr.mapUpdate, run_underlying ht, MapKept.run_getObj_map hb, K.check w _ hkey, h1, hj, h3, hst, MapKept.run_setObj_map _ hb, Result.andThen, setBlock]
end Go.Proofs.YthiiahlgncngoaaDoorRR.Ty
namespace Go.Proofs.YthiiahlgncngoaaDoorRR.Cd
open Go Go.RowKit Go.Shelf
open Go.Proofs.YthiiahlgncngoaaDoorRR.Lx Go.Proofs.YthiiahlgncngoaaDoorRR.Tr Go.Proofs.YthiiahlgncngoaaDoorRR.Rg
attribute [local go_sem] Oper.semAt_some
theorem tname_any (s : ByteArray) (w : World) (hs : s.size ≤ maxLen) (hsg : SignsIn w) :
 Calls Tryd.prog 58 #[.string s] w fun e w' => e = .returned (.bool (nme s.data.toList)) ∧ Below w.heap.size w w' := by
 go_enter Tryd.func58, Tryd.ntmps58
 go_wp2_with fail
 refine (name_any s _ hs hsg).mono ?_
 rintro e w' ⟨rfl, hb⟩
 go_wp2_with fail
 go_ret
 exact ⟨rfl, hb⟩
theorem _root_.Go.Proofs.YthiiahlgncngoaaDoorRR.Lx.SignsIn.lt {w : World} (h : SignsIn w) : 1 < w.heap.size := by
 obtain ⟨t, fr, hg⟩ := h
 exact (Array.getElem?_eq_some_iff.1 hg).1
def nmB (s : ByteArray) : Bool := nme s.data.toList
def Zg (p : Pg) : Bool := decide ((Zn p).length ≤ 256) && nmsP nmB [] (Zn p)
theorem nmsP_cons (nm : ByteArray → Bool) (met : List ByteArray) (s : ByteArray) (r : List ByteArray) : nmsP nm met (s :: r) = (!(met.any fun t => decide (t = s)) && (nm s && nmsP nm (met ++ [s]) r)) := rfl
/-- the names that were met are fine -/
def Fine (pre : List ByteArray) : Prop := ∀ r, nmsP nmB [] (pre ++ r) = nmsP nmB pre r
theorem Fine.nil : Fine [] := fun _ => rfl
theorem Fine.snoc {pre : List ByteArray} {x : ByteArray} (h : Fine pre) (h1 : (pre.any fun t => decide (t = x)) = false) (h2 : nmB x = true) : Fine (pre ++ [x]) := fun r => by
 rw [List.append_assoc, h, List.singleton_append, nmsP_cons, h1, h2]; rfl
theorem Fine.bad {pre : List ByteArray} {x : ByteArray} (h : Fine pre) (hb : (pre.any fun t => decide (t = x)) = true ∨ nmB x = false) (r : List ByteArray) : nmsP nmB [] (pre ++ [x] ++ r) = false := by
 rw [List.append_assoc, h, List.singleton_append, nmsP_cons]
 rcases hb with hb | hb <;> simp [hb]
theorem namesP_len (p : Pg) : (Zn p).length = p.mems.length + (p.locks.length + p.funs.length) := by simp [Zn]
/-- the map of the names that were met -/
def metL (pre : List ByteArray) : List (ByteArray × Value) := pre.map fun s => (s, .agg #[])
theorem met_find (pre : List ByteArray) (x : ByteArray) : Ty.findV (metL pre) x = if (pre.any fun t => decide (t = x)) = true then some (.agg #[]) else none := by
 induction pre with
 | nil => rfl
 | cons a r ih =>
   show (if a = x then some (Value.agg #[]) else Ty.findV (metL r) x) = _
   rw [ih, List.any_cons]
   by_cases h : a = x
   · subst h; simp
   · rw [if_neg h, decide_eq_false h, Bool.false_or]
theorem met_put (pre : List ByteArray) (x : ByteArray) (h : (pre.any fun t => decide (t = x)) = false) : Ty.putV (metL pre) x (.agg #[]) = metL (pre ++ [x]) := by
 have : Ty.findV (metL pre) x = none := by rw [met_find, h]; rfl
 rw [Ty.putV_new this]
 unfold metL; rw [List.map_append]; rfl
theorem wpListIn_putS {F : Fence} {nF : Nat} {P : Program} (w : World) {ops : Array Oper} {rest : List Oper} {o : Oper} {a : Act} {Q : Exit → Act → World → Prop}
 (hg : o.guard = none) (m x v : Operand) (t : TypeId) (hop : o.op = Op.mapUpdate t m x v) (k e : TypeId) (hk : P.underlying k = some .string) (ht : P.underlying t = some (.map k e)) (b : Nat) (L : List (ByteArray × Value))
 (hm : a.eval m = .map (some b)) (h : Ty.MpS w b L) (s : ByteArray) (hs : s.size ≤ maxLen) (hx : a.eval x = .string s) (val : Value) (hv : a.eval v = val)
 (hK : ∀ w', Ty.MpS w' b (Ty.putV L s val) → w.grownBy w' (some b) → wpListIn F nF P ops Q rest (a.put o.dst undef) w') :
 wpListIn F nF P ops Q (o :: rest) a w := by
 refine wpListIn_plain hg fun K' hK' => ?_
 obtain ⟨w', hrun, r1, r2⟩ := Ty.put_run hk ht h s hs val
 unfold Oper.wpIn
 refine ⟨by simp [Oper.about, hop], ?_⟩
 rw [Oper.semAt_plain F _ _ (by rw [hop]; intro c hc'; cases hc')]
 simp [execOp, hop, hm, hx, hv, hrun, Result.andThen]
 exact hK' _ _ (hK w' r1 r2)
theorem zero_s (V : World) : (zeroValue 97).run Tryd.prog V = .ok (.agg #[]) V := by kernel_rfl
theorem look_met {W : World} {b : Nat} {pre : List ByteArray} (h : Ty.MpS W b (metL pre)) (x : ByteArray) (hx : x.size ≤ maxLen) : (Instr.lookup 93 (.map (some b)) (.string x) true).run Tryd.prog W = .ok (.tuple #[.agg #[], .bool (pre.any fun t => decide (t = x))]) W := by
 have := Ty.look_run (k := 9) (e := 97) (t := 93) (by kernel_rfl) (by kernel_rfl) (zero_s W) h x hx true
 rw [this, met_find]
 cases (pre.any fun t => decide (t = x)) <;> rfl
theorem mayNames_many (p : Pg) (w : World) (hsum : p.mems.length + p.locks.length + p.funs.length ≤ 4611686018427387904) (h : 256 < p.mems.length + p.locks.length + p.funs.length) :
 Calls Tryd.prog 30 #[p.val] w fun e w' => e = .returned (.bool (Zg p)) ∧ Below w.heap.size w w' := by
 have hm : Zg p = false := by unfold Zg; rw [namesP_len, decide_eq_false (by omega)]; rfl
 rw [hm]
 clear hm
 unfold Pg.val
 generalize p.mems.length = a1 at *
 generalize p.locks.length = a2 at *
 generalize p.funs.length = a3 at *
 have i1 : (a1 : Int) + (a2 : Int) ≤ 9223372036854775807 := by omega
 have i2 : (a1 : Int) + (a2 : Int) + (a3 : Int) ≤ 9223372036854775807 := by omega
 have i3 : (256 : Int) < (a1 : Int) + (a2 : Int) + (a3 : Int) := by omega
 go_enter Tryd.func30, Tryd.ntmps30
 go_wp2_with fail
 refine ⟨rfl, .bool false, by simp [results, Tryd.results30, go_sem, *], rfl, ?_⟩
 exact Zc _ _ _
theorem five (w : World) (o0 o1 o2 o3 o4 : Obj) (W : World) (h : ((((w.alloc o0).alloc o1).alloc o2).alloc o3).alloc o4 = W) :
 W.heap[w.heap.size + 1]? = some o1 ∧ W.heap[w.heap.size + 1 + 1]? = some o2 ∧ W.heap[w.heap.size + 1 + 1 + 1]? = some o3 ∧ W.heap[w.heap.size + 1 + 1 + 1 + 1]? = some o4 ∧ W.heap.size = w.heap.size + 5 ∧ Below w.heap.size w W := by
 subst h
 refine ⟨?_, ?_, ?_, ?_, ?_, ?_⟩
 · exact (Below.heap_alloc _ _ _ (by simp)).trans ((Below.heap_alloc _ _ _ (by simp)).trans ((Below.heap_alloc _ _ _ (by simp)).trans (Qt _ _ (by simp))))
 · exact (Below.heap_alloc _ _ _ (by simp)).trans ((Below.heap_alloc _ _ _ (by simp)).trans (Qt _ _ (by simp)))
 · exact (Below.heap_alloc _ _ _ (by simp)).trans (Qt _ _ (by simp))
 · exact Qt _ _ (by simp)
 · simp
 · exact ((Qs _ _ _ _).alloc (by simp; omega) _).alloc (by simp; omega) _
theorem cel_of {w W : World} {b : Nat} {v : Value} {t : TypeId} (h : W.heap[b]? = some (.cells #[v] t (0, 0))) : Cel w b v W := ⟨by simp [World.cell?, h], by simp [World.frozen?, h]⟩
theorem Q0 {W : World} {b : Nat} {vs : List Value} {t : TypeId} (h : W.heap[b]? = some (.cells ⟨vs⟩ t (0, 0))) : ∀ j u, vs[j]? = some u → W.cell? ⟨b, j, none⟩ = some u := fun j u hu => by
 simp only [World.cell?, h]
 simpa using hu
theorem kps_put {W V : World} {b : Nat} {L : List (ByteArray × Value)} (h : Ty.MpS W b L) (hg : W.grownBy V (some b)) : Kps (fun _ => True) W V := fun k o v _ hc => by
 obtain ⟨es, c, hb, _⟩ := h.ex
 have hk : k ≠ b := fun e => by
  subst e
  simp [World.cell?, hb] at hc
 exact (World.cell?_of_block (hg.block k (World.block_lt_of_cell? _ _ hc) (fun e => hk (Option.some.inj e)))).trans hc
theorem keeps_put {W V : World} {b B : Nat} (hb : b < B) (hg : W.grownBy V (some b)) : KeepsFrom B W V :=
 ⟨hg.size, fun k o hk ho _ => (hg.block k (Array.getElem?_eq_some_iff.1 ho).1 (fun e => by have := Option.some.inj e; omega)).trans ho⟩
theorem below_put1 {W V : World} {b B : Nat} (hb : B ≤ b) (hB : B ≤ W.heap.size) (hg : W.grownBy V (some b)) : Below B W V :=
 ⟨hg.os, hg.tape, hg.output, hg.size, fun i hi => hg.block i (by omega) (fun e => by have := Option.some.inj e; omega)⟩
theorem cel_put {w W V : World} {b r : Nat} {v : Value} (hr : r ≠ b) (hg : W.grownBy V (some b)) (h : Cel w r v W) : Cel w r v V :=
 have hl := World.block_lt_of_cell? _ _ h.cell
 have hh := hg.block r hl (fun e => hr (Option.some.inj e))
 ⟨(World.cell?_of_block hh).trans h.cell, by have := h.frozen; unfold World.frozen? at this ⊢; rw [hh]; exact this⟩
theorem mayNames_few (p : Pg) (w : World) (hp : Pg.In w (fun _ => True) p) (hsg : SignsIn w) (h : p.mems.length + p.locks.length + p.funs.length ≤ 256) :
 Calls Tryd.prog 30 #[p.val] w fun e w' => e = .returned (.bool (Zg p)) ∧ Below w.heap.size w w' := by
 have hm : Zg p = nmsP nmB [] (Zn p) := by unfold Zg; rw [namesP_len, decide_eq_true (by omega)]; rfl
 rw [hm]
 clear hm
 have hits := Lh (fun (V : World) (hb : Below w.heap.size w V) (bx l n : Nat) (J Jx : List ByteArray → World → Prop) (hbx : ∀ j u, p.vals[j]? = some u → V.cell? ⟨bx, j, none⟩ = some u) => allNames1_in l n bx p (fun _ => True) J Jx V trivial hbx (hp.mrow.below (Kps.of_below hb)) (hp.lrow.below (Kps.of_below hb)) (hp.frow.below (Kps.of_below hb)))
 have hsz : ∀ x ∈ Zn p, x.size ≤ maxLen := by
  intro x hx
  unfold Zn at hx
  rcases List.mem_append.1 hx with hx | hx
  · obtain ⟨m, hm, rfl⟩ := List.mem_map.1 hx
    exact (hp.mems m hm).name
  · rcases List.mem_append.1 hx with hx | hx
    · exact hp.locks x hx
    · obtain ⟨m, hm, rfl⟩ := List.mem_map.1 hx
      exact (hp.funs m hm).name
 have han := Lh (fun V => allNames_any p V)
 have htn := Lh (fun (s : ByteArray) (V : World) (hs : s.size ≤ maxLen) (hb : Below w.heap.size w V) => tname_any s V hs (hsg.below hsg.lt hb))
 have hsn := Lh hsz
 clear hp hsg hsz
 have i1 : (p.mems.length : Int) + (p.locks.length : Int) ≤ 9223372036854775807 := by omega
 have i2 : (p.mems.length : Int) + (p.locks.length : Int) + (p.funs.length : Int) ≤ 9223372036854775807 := by omega
 have i3 : (p.mems.length : Int) + (p.locks.length : Int) + (p.funs.length : Int) ≤ 256 := by omega
 have hmk := run_makeMap (P := Tryd.prog) 93
 refine (callsIn_wide (n := 2)).1 ?_
 refine callsIn_of_wp_marks Tryd.func30 rfl trivial ?_ rfl
 simp only [Tryd.ntmps30, List.size_toArray, List.length_cons, List.length_nil, Nat.reduceAdd, Nat.reduceSub, Array.replicate_succ, Array.replicate_zero, List.push_toArray, List.append_toArray, List.nil_append, List.cons_append]
 gi_wp2_with fail
 refine ⟨trivial, (callsIn_wide.2 (han.out _)).mono ?_⟩
 rintro e w1 ⟨rfl, rfl⟩
 gi_wp2_with fail
 obtain ⟨w5, hw5⟩ : ∃ w5, ((((w.alloc (.cells #[.slice p.ma p.mems.length p.mcap, .slice p.la p.locks.length p.lcap, .slice p.fa p.funs.length p.fcap] 26)).alloc (.cells #[.bool false] 4)).alloc (.map #[] 0)).alloc (.cells #[.map (some (w.heap.size + 1 + 1))] 93)).alloc (.cells ⟨p.vals⟩ 26) = w5 := ⟨_, rfl⟩
 rw [hw5]
 obtain ⟨g1, g2, g3, g4, hs5, hbw5⟩ := five _ _ _ _ _ _ _ hw5
 have k2 : Cel w (w.heap.size + 1) (.bool false) w5 := cel_of g1
 have k3 : w5.cell? ⟨w.heap.size + 1 + 1 + 1, 0, none⟩ = some (.map (some (w.heap.size + 1 + 1))) := (cel_of (w := w) g3).cell
 have hM : Ty.MpS w5 (w.heap.size + 1 + 1) (metL []) := ⟨⟨#[], 0, g2, rfl⟩, fun x hx => (by cases hx), List.nodup_nil⟩
 have hbx5 : ∀ j u, p.vals[j]? = some u → w5.cell? ⟨w.heap.size + 1 + 1 + 1 + 1, j, none⟩ = some u := Q0 g4
 clear g1 g2 g3 g4
 clear hw5 han hmk
 replace hbw5 := Lh hbw5
 refine range_lawB (α := ByteArray) rfl rfl (gf := 88) (lb := #[.pointer (some ⟨w.heap.size + 1 + 1 + 1 + 1, 0, none⟩)]) rfl trivial (enters_of Tryd.func88 (by kernel_rfl) rfl) (encs := fun x => #[.string x]) (fun _ => rfl) (fun x _ => x ∈ Zn p) (Kps (fun _ => True)) (fun xs => xs = Zn p) (fun pre => pre <+: Zn p) (Zn p).length
  (fun pre W => Fine pre ∧ Ty.MpS W (w.heap.size + 1 + 1) (metL pre) ∧ Cel w (w.heap.size + 1) (.bool false) W ∧ W.cell? ⟨w.heap.size + 1 + 1 + 1, 0, none⟩ = some (.map (some (w.heap.size + 1 + 1))) ∧ Below w.heap.size w W ∧ w5.heap.size ≤ W.heap.size)
  (fun pre W => (∀ r, nmsP nmB [] (pre ++ r) = false) ∧ Cel w (w.heap.size + 1) (.bool false) W ∧ Below w.heap.size w W ∧ w5.heap.size ≤ W.heap.size)
  (fun l J Jx W hsz hb hY hJb hJI hJ0 => hits.out W (hbw5.out.trans (hb.mono hbw5.out.size)) (w.heap.size + 1 + 1 + 1 + 1) l (2 - 1) J Jx (fun j u hu => Qe hb (hbx5 j u hu)) (fun m pre x W1 hx h hl => hY m pre x W1 h hx hl) hJb hJ0)
  (fun h k => h.trans k) (fun h => ceq_kps h.toCeq)
  ⟨fun pre W W' h hq hb => ⟨h.1, h.2.1.below hb (by omega), h.2.2.1.ceq hq.toCeq, (hq.cell _).trans h.2.2.2.1, h.2.2.2.2.1.trans (hb.mono (by omega)), by have := h.2.2.2.2.2; rw [hq.size]; exact this⟩, fun pre W W' h hs hb => ⟨h.1, h.2.1.below hb h.2.1.lt, h.2.2.1.below hb, Qe hb h.2.2.2.1, h.2.2.2.2.1.trans (hb.mono h.2.2.2.2.1.size), Nat.le_trans h.2.2.2.2.2 hb.size⟩⟩
  ⟨fun pre W W' h hq hb => ⟨h.1, h.2.1.ceq hq.toCeq, h.2.2.1.trans (hb.mono (by omega)), by have := h.2.2.2; rw [hq.size]; exact this⟩, fun pre W W' h hs hb => ⟨h.1, h.2.1.below hb, h.2.2.1.trans (hb.mono h.2.2.1.size), Nat.le_trans h.2.2.2 hb.size⟩⟩
  (fun _ _ h => h.2.2.2.2.2) ⟨Fine.nil, hM, k2, k3, hbw5.out, Nat.le_refl _⟩ ?round ?done ?stop
 case round =>
  rintro l m' pre x W ⟨hfine, hMp, hk2, hk3, hbW, hsz⟩ hx _
  gi_wp2
  refine ⟨keeps_below (Below.refl _ _), Kps.refl _ _, fun W2 hq hb => ?_⟩
  have hxs := hsn.out x hx
  have a2 := hk2.ceq hq.toCeq
  have e2 := a2.cell
  have f2 := a2.frozen
  have e3 := (hq.cell _).trans hk3
  have hMq := hMp.below hb (by omega)
  have hbW2 := Lh (hbW.trans (hb.mono (by omega)))
  have hsz2 : w5.heap.size ≤ W2.heap.size := by rw [hq.size]; exact hsz
  have hlk := look_met hMq x hxs
  have hbu := Lh (Qh W2 (.cells #[] 97))
  have hbv := Lh (hbW2.out.trans (hbu.out.mono hbW2.out.size))
  have hn := Lh (htn.out x _ hxs hbv.out)
  replace hfine := Lh hfine
  replace a2 := Lh a2
  replace hMq := Lh hMq
  clear hq hb hk2 hk3 hbx5 hits hMp htn hM k2 k3
  cases hmt : (pre.any fun t => decide (t = x))
  · rw [hmt] at hlk
    have hmt' := Lh hmt
    clear hmt
    cases hnm : nmB x
    · have hn2 := hn.out
      rw [show nme x.data.toList = false from hnm] at hn2
      replace hn2 := Lh hn2
      replace hnm := Lh hnm
      clear hn
      gi_wp2_with fail
      refine ⟨trivial, fun h => (by cases h), (CallsIn.inRound l (callsIn_wide.2 hn2.out)).mono ?_⟩
      rintro e W3 ⟨rfl, hb3⟩
      have hb4 := Lh (hbu.out.trans (hb3.mono hbu.out.size))
      have a3 := Lh (a2.out.below hb4.out)
      have e4 := a3.out.cell
      have f4 := a3.out.frozen
      have hs3 := hb4.out.size
      clear hb3 hn2
      gi_wp2_with fail
      exact ⟨(keeps_below hb4.out).trans ((KeepsOthers.setCell _ _ _).from _), fun r => hfine.out.bad (.inr hnm.out) r, a3.out.setS _, (hbW2.out.trans (hb4.out.mono hbW2.out.size)).setCell (by show w.heap.size ≤ w.heap.size + 1; omega) _, by simp [World.setCell]; omega⟩
    · have hn2 := hn.out
      rw [show nme x.data.toList = true from hnm] at hn2
      replace hn2 := Lh hn2
      replace hnm := Lh hnm
      clear hn
      gi_wp2_with fail
      refine ⟨trivial, fun h => (by cases h), (CallsIn.inRound l (callsIn_wide.2 hn2.out)).mono ?_⟩
      rintro e W3 ⟨rfl, hb3⟩
      have hb4 := Lh (hbu.out.trans (hb3.mono hbu.out.size))
      have a3 := Lh (a2.out.below hb4.out)
      have hM3 := Lh (hMq.out.below hb4.out hMq.out.lt)
      have e5 := Qe hb4.out e3
      have hs3 := hb4.out.size
      clear hb3 hn2
      gi_wp2_with (first | (gi_at_mapUpdate; refine wpListIn_putS _ rfl _ _ _ 93 rfl 9 97 (by kernel_rfl) (by kernel_rfl) (w.heap.size + 1 + 1) _ rfl hM3.out x hxs rfl (.agg #[]) rfl ?_; intro w4 hM4 hg4) | fail)
      rw [met_put _ _ hmt'.out] at hM4
      have hs4 := hg4.size
      exact ⟨(keeps_below hb4.out).trans (keeps_put (by omega) hg4), (Kps.of_below hb4.out).trans (kps_put hM3.out hg4), hfine.out.snoc hmt'.out hnm.out, hM4, cel_put (by omega) hg4 a3.out, kps_put hM3.out hg4 _ _ _ trivial e5, (hbW2.out.trans (hb4.out.mono hbW2.out.size)).trans (below_put1 (by omega) (by omega) hg4), by omega⟩
  · rw [hmt] at hlk
    have hmt' := Lh hmt
    have hs2 := hbu.out.size
    have hlw2 : w.heap.size + 1 < W2.heap.size := by omega
    have a3 := Lh (a2.out.below hbu.out)
    clear hmt hn
    gi_wp2_with fail
    refine ⟨trivial, ?_⟩
    gi_wp2_with fail
    exact ⟨((KeepsOthers.setCell _ _ _).from _).trans (keeps_below (Qh _ _)), fun r => hfine.out.bad (.inl hmt'.out) r, (a2.out.setS _).alloc _, (hbW2.out.setCell (by show w.heap.size ≤ w.heap.size + 1; omega) _).alloc (by simp [World.setCell]; omega) _, by simp [World.setCell]; omega⟩
 case done =>
  rintro D xs W hD rfl ⟨hfine, hMp, hk2, hk3, hbW, hsz⟩ hK
  have a1 := hk2.cell
  have a2 := hk2.frozen
  have hlw : w.heap.size + 1 < W.heap.size := World.block_lt_of_cell? _ _ a1
  gi_wp2
  have hK' : (W.setCell ⟨w.heap.size + 1, 0, none⟩ (.bool true)).heap[D]? = some (.deferred (some [])) := (Below.heap_setCell _ _ _ _ (by simp; omega)).trans hK
  refine ⟨by simp, .inl ⟨_, _, rfl, run_takeDeferred hK', ?_⟩⟩
  have hc5 := ((hk2.setS (.bool true)).ceq (ceq_deferred (d' := none) hK')).cell
  refine ⟨.bool true, ?_, by have := hfine []; rw [List.append_nil] at this; rw [this]; rfl, (hbW.setCell (by show w.heap.size ≤ w.heap.size + 1; omega) _).trans (below_put _ _ (by omega))⟩
  simp [results, Tryd.results30, go_sem, hc5]
 case stop =>
  rintro D pre W hD hpre ⟨hp, hk2, hbW, hsz⟩ hK
  gi_wp2
  refine ⟨by simp, .inl ⟨_, _, rfl, run_takeDeferred hK, ?_⟩⟩
  have hc5 := (hk2.ceq (ceq_deferred (d' := none) hK)).cell
  have hT : nmsP nmB [] (Zn p) = false := by
   obtain ⟨r, hr⟩ := hpre
   rw [← hr]; exact hp r
  refine ⟨.bool false, ?_, by rw [hT], hbW.trans (below_put _ _ (by omega))⟩
  simp [results, Tryd.results30, go_sem, hc5]
theorem mayNames_any (p : Pg) (w : World) (hp : Pg.In w (fun _ => True) p) (hsg : SignsIn w) (hsum : p.mems.length + p.locks.length + p.funs.length ≤ 4611686018427387904) :
 Calls Tryd.prog 30 #[p.val] w fun e w' => e = .returned (.bool (Zg p)) ∧ Below w.heap.size w w' := by
 by_cases h : p.mems.length + p.locks.length + p.funs.length ≤ 256
 · exact mayNames_few p w hp hsg h
 · exact mayNames_many p w hsum (by omega)
end Go.Proofs.YthiiahlgncngoaaDoorRR.Cd
