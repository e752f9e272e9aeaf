/- Walk of code.mayNames. Conditions: the program lies in memory; the signs of package lex lie in memory. -/
import Derived.Test.YtiicjbnocpphdaaDoorCdO
import Derived.Test.YtiicjbnocpphdaaDoorMpL
import Derived.Maps.OwnIn
namespace Go.Proofs.YtiicjbnocpphdaaDoor.Cd
open Go Go.RowKit Go.Shelf
open Go.Proofs.YtiicjbnocpphdaaDoor.Lx Go.Proofs.YtiicjbnocpphdaaDoor.Tr Go.Proofs.YtiicjbnocpphdaaDoor.Rg
attribute [local go_sem] Oper.semAt_some

set_option maxHeartbeats 400000 in
theorem tname_any (s : ByteArray) (w : World) (hs : s.size ≤ maxLen) (hsg : SignsIn w) :
    Calls Tryd.prog 50 #[.string s] w fun e w' => e = .returned (.bool (nme s.data.toList)) ∧ Below w.heap.size w w' := by
  go_enter Tryd.func50, Tryd.ntmps50
  go_wp2_with fail
  refine (name_any s _ hs hsg).mono ?_
  rintro e w' ⟨rfl, hb⟩
  go_wp2_with fail
  go_ret
  exact ⟨rfl, hb⟩
theorem _root_.Go.Proofs.YtiicjbnocpphdaaDoor.Lx.SignsIn.lt {w : World} (h : SignsIn w) : 1 < w.heap.size := by
  obtain ⟨t, fr, hg⟩ := h
  exact (Array.getElem?_eq_some_iff.1 hg).1
def nmB (s : ByteArray) : Bool := nme s.data.toList
def mayNamesP (p : Pg) : Bool := decide ((namesP p).length ≤ 256) && nmsP nmB [] (namesP p)
theorem nmsP_cons (nm : ByteArray → Bool) (met : List ByteArray) (s : ByteArray) (r : List ByteArray) : nmsP nm met (s :: r) = (!(met.any fun t => decide (t = s)) && (nm s && nmsP nm (met ++ [s]) r)) := rfl
/-- the names that were met are fine -/
def Fine (pre : List ByteArray) : Prop := ∀ r, nmsP nmB [] (pre ++ r) = nmsP nmB pre r
theorem Fine.nil : Fine [] := fun _ => rfl
theorem Fine.snoc {pre : List ByteArray} {x : ByteArray} (h : Fine pre) (h1 : (pre.any fun t => decide (t = x)) = false) (h2 : nmB x = true) : Fine (pre ++ [x]) := fun r => by
  rw [List.append_assoc, h, List.singleton_append, nmsP_cons, h1, h2]; rfl
theorem Fine.bad {pre : List ByteArray} {x : ByteArray} (h : Fine pre) (hb : (pre.any fun t => decide (t = x)) = true ∨ nmB x = false) (r : List ByteArray) : nmsP nmB [] (pre ++ [x] ++ r) = false := by
  rw [List.append_assoc, h, List.singleton_append, nmsP_cons]
  rcases hb with hb | hb <;> simp [hb]
theorem namesP_len (p : Pg) : (namesP p).length = p.mems.length + (p.locks.length + p.funs.length) := by simp [namesP]
/-- the map of the names that were met -/
def metL (pre : List ByteArray) : List (ByteArray × Value) := pre.map fun s => (s, .agg #[])
theorem met_find (pre : List ByteArray) (x : ByteArray) : Ty.findV (metL pre) x = if (pre.any fun t => decide (t = x)) = true then some (.agg #[]) else none := by
  induction pre with
  | nil => rfl
  | cons a r ih =>
    show (if a = x then some (Value.agg #[]) else Ty.findV (metL r) x) = _
    rw [ih, List.any_cons]
    by_cases h : a = x
    · subst h; simp
    · rw [if_neg h, decide_eq_false h, Bool.false_or]
theorem met_put (pre : List ByteArray) (x : ByteArray) (h : (pre.any fun t => decide (t = x)) = false) : Ty.putV (metL pre) x (.agg #[]) = metL (pre ++ [x]) := by
  have : Ty.findV (metL pre) x = none := by rw [met_find, h]; rfl
  rw [Ty.putV_new this]
  unfold metL; rw [List.map_append]; rfl
theorem wpListIn_putS {F : Fence} {nF : Nat} {P : Program} (w : World) {ops : Array Oper} {rest : List Oper} {o : Oper} {a : Act} {Q : Exit → Act → World → Prop}
    (hg : o.guard = none) (m x v : Operand) (t : TypeId) (hop : o.op = Op.mapUpdate t m x v) (k e : TypeId) (hk : P.underlying k = some .string) (ht : P.underlying t = some (.map k e)) (b : Nat) (L : List (ByteArray × Value))
    (hm : a.eval m = .map (some b)) (h : Ty.MpS w b L) (s : ByteArray) (hs : s.size ≤ maxLen) (hx : a.eval x = .string s) (val : Value) (hv : a.eval v = val)
    (hK : ∀ w', Ty.MpS w' b (Ty.putV L s val) → w.grownBy w' (some b) → wpListIn F nF P ops Q rest (a.put o.dst undef) w') :
    wpListIn F nF P ops Q (o :: rest) a w := by
  refine wpListIn_plain hg fun K' hK' => ?_
  obtain ⟨w', hrun, r1, r2⟩ := Ty.put_run hk ht h s hs val
  unfold Oper.wpIn
  refine ⟨by simp [Oper.about, hop], ?_⟩
  rw [Oper.semAt_plain F _ _ (by rw [hop]; intro c hc'; cases hc')]
  simp [execOp, hop, hm, hx, hv, hrun, Result.andThen]
  exact hK' _ _ (hK w' r1 r2)
theorem zero_s (V : World) : (zeroValue 81).run Tryd.prog V = .ok (.agg #[]) V := by kernel_rfl
theorem look_met {W : World} {b : Nat} {pre : List ByteArray} (h : Ty.MpS W b (metL pre)) (x : ByteArray) (hx : x.size ≤ maxLen) : (Instr.lookup 77 (.map (some b)) (.string x) true).run Tryd.prog W = .ok (.tuple #[.agg #[], .bool (pre.any fun t => decide (t = x))]) W := by
  have := Ty.look_run (k := 9) (e := 81) (t := 77) (by kernel_rfl) (by kernel_rfl) (zero_s W) h x hx true
  rw [this, met_find]
  cases (pre.any fun t => decide (t = x)) <;> rfl
set_option maxRecDepth 100000 in
set_option maxHeartbeats 4000000 in
theorem mayNames_many (p : Pg) (w : World) (hsum : p.mems.length + p.locks.length + p.funs.length ≤ 4611686018427387904) (h : 256 < p.mems.length + p.locks.length + p.funs.length) :
    Calls Tryd.prog 32 #[p.val] w fun e w' => e = .returned (.bool (mayNamesP p)) ∧ Below w.heap.size w w' := by
  have hm : mayNamesP p = false := by unfold mayNamesP; rw [namesP_len, decide_eq_false (by omega)]; rfl
  rw [hm]
  clear hm
  unfold Pg.val
  generalize p.mems.length = a1 at *
  generalize p.locks.length = a2 at *
  generalize p.funs.length = a3 at *
  have i1 : (a1 : Int) + (a2 : Int) ≤ 9223372036854775807 := by omega
  have i2 : (a1 : Int) + (a2 : Int) + (a3 : Int) ≤ 9223372036854775807 := by omega
  have i3 : (256 : Int) < (a1 : Int) + (a2 : Int) + (a3 : Int) := by omega
  go_enter Tryd.func32, Tryd.ntmps32
  go_wp2_with fail
  refine ⟨rfl, .bool false, by simp [results, Tryd.results32, go_sem, *], rfl, ?_⟩
  exact b_alloc2 _ _ _
theorem five (w : World) (o0 o1 o2 o3 o4 : Obj) (W : World) (h : ((((w.alloc o0).alloc o1).alloc o2).alloc o3).alloc o4 = W) :
    W.heap[w.heap.size + 1]? = some o1 ∧ W.heap[w.heap.size + 1 + 1]? = some o2 ∧ W.heap[w.heap.size + 1 + 1 + 1]? = some o3 ∧ W.heap[w.heap.size + 1 + 1 + 1 + 1]? = some o4 ∧ W.heap.size = w.heap.size + 5 ∧ Below w.heap.size w W := by
  subst h
  refine ⟨?_, ?_, ?_, ?_, ?_, ?_⟩
  · exact (Below.heap_alloc _ _ _ (by simp)).trans ((Below.heap_alloc _ _ _ (by simp)).trans ((Below.heap_alloc _ _ _ (by simp)).trans (blk_new _ _ (by simp))))
  · exact (Below.heap_alloc _ _ _ (by simp)).trans ((Below.heap_alloc _ _ _ (by simp)).trans (blk_new _ _ (by simp)))
  · exact (Below.heap_alloc _ _ _ (by simp)).trans (blk_new _ _ (by simp))
  · exact blk_new _ _ (by simp)
  · simp
  · exact ((b_alloc3 _ _ _ _).alloc (by simp; omega) _).alloc (by simp; omega) _
theorem cel_of {w W : World} {b : Nat} {v : Value} {t : TypeId} (h : W.heap[b]? = some (.cells #[v] t (0, 0))) : Cel w b v W := ⟨by simp [World.cell?, h], by simp [World.frozen?, h]⟩
theorem cells_of {W : World} {b : Nat} {vs : List Value} {t : TypeId} (h : W.heap[b]? = some (.cells ⟨vs⟩ t (0, 0))) : ∀ j u, vs[j]? = some u → W.cell? ⟨b, j, none⟩ = some u := fun j u hu => by
  simp only [World.cell?, h]
  simpa using hu
theorem kps_put {W V : World} {b : Nat} {L : List (ByteArray × Value)} (h : Ty.MpS W b L) (hg : W.grownBy V (some b)) : Kps (fun _ => True) W V := fun k o v _ hc => by
  obtain ⟨es, c, hb, _⟩ := h.ex
  have hk : k ≠ b := fun e => by
    subst e
    simp [World.cell?, hb] at hc
  exact (World.cell?_of_block (hg.block k (World.block_lt_of_cell? _ _ hc) (fun e => hk (Option.some.inj e)))).trans hc
theorem keeps_put {W V : World} {b B : Nat} (hb : b < B) (hg : W.grownBy V (some b)) : KeepsFrom B W V :=
  ⟨hg.size, fun k o hk ho _ => (hg.block k (Array.getElem?_eq_some_iff.1 ho).1 (fun e => by have := Option.some.inj e; omega)).trans ho⟩
theorem below_put1 {W V : World} {b B : Nat} (hb : B ≤ b) (hB : B ≤ W.heap.size) (hg : W.grownBy V (some b)) : Below B W V :=
  ⟨hg.os, hg.tape, hg.output, hg.size, fun i hi => hg.block i (by omega) (fun e => by have := Option.some.inj e; omega)⟩
theorem cel_put {w W V : World} {b r : Nat} {v : Value} (hr : r ≠ b) (hg : W.grownBy V (some b)) (h : Cel w r v W) : Cel w r v V :=
  have hl := World.block_lt_of_cell? _ _ h.cell
  have hh := hg.block r hl (fun e => hr (Option.some.inj e))
  ⟨(World.cell?_of_block hh).trans h.cell, by have := h.frozen; unfold World.frozen? at this ⊢; rw [hh]; exact this⟩
set_option maxRecDepth 100000 in
set_option maxHeartbeats 4000000 in
theorem mayNames_few (p : Pg) (w : World) (hp : Pg.In w (fun _ => True) p) (hsg : SignsIn w) (h : p.mems.length + p.locks.length + p.funs.length ≤ 256) :
    Calls Tryd.prog 32 #[p.val] w fun e w' => e = .returned (.bool (mayNamesP p)) ∧ Below w.heap.size w w' := by
  have hm : mayNamesP p = nmsP nmB [] (namesP p) := by unfold mayNamesP; rw [namesP_len, decide_eq_true (by omega)]; rfl
  rw [hm]
  clear hm
  have hits := Lib.hid (fun (V : World) (hb : Below w.heap.size w V) (bx l n : Nat) (J Jx : List ByteArray → World → Prop) (hbx : ∀ j u, p.vals[j]? = some u → V.cell? ⟨bx, j, none⟩ = some u) => allNames1_in l n bx p (fun _ => True) J Jx V trivial hbx (hp.mrow.below (Kps.of_below hb)) (hp.lrow.below (Kps.of_below hb)) (hp.frow.below (Kps.of_below hb)))
  have hsz : ∀ x ∈ namesP p, x.size ≤ maxLen := by
    intro x hx
    unfold namesP at hx
    rcases List.mem_append.1 hx with hx | hx
    · obtain ⟨m, hm, rfl⟩ := List.mem_map.1 hx
      exact (hp.mems m hm).name
    · rcases List.mem_append.1 hx with hx | hx
      · exact hp.locks x hx
      · obtain ⟨m, hm, rfl⟩ := List.mem_map.1 hx
        exact (hp.funs m hm).name
  have han := Lib.hid (fun V => allNames_any p V)
  have htn := Lib.hid (fun (s : ByteArray) (V : World) (hs : s.size ≤ maxLen) (hb : Below w.heap.size w V) => tname_any s V hs (hsg.below hsg.lt hb))
  have hsn := Lib.hid hsz
  clear hp hsg hsz
  have i1 : (p.mems.length : Int) + (p.locks.length : Int) ≤ 9223372036854775807 := by omega
  have i2 : (p.mems.length : Int) + (p.locks.length : Int) + (p.funs.length : Int) ≤ 9223372036854775807 := by omega
  have i3 : (p.mems.length : Int) + (p.locks.length : Int) + (p.funs.length : Int) ≤ 256 := by omega
  have hmk := run_makeMap (P := Tryd.prog) 77
  refine (callsIn_wide (n := 2)).1 ?_
  refine callsIn_of_wp_marks Tryd.func32 rfl trivial ?_ rfl
  simp only [Tryd.ntmps32, List.size_toArray, List.length_cons, List.length_nil, Nat.reduceAdd, Nat.reduceSub, Array.replicate_succ, Array.replicate_zero, List.push_toArray, List.append_toArray, List.nil_append, List.cons_append]
  gi_wp2_with fail
  refine ⟨trivial, (callsIn_wide.2 (han.out _)).mono ?_⟩
  rintro e w1 ⟨rfl, rfl⟩
  gi_wp2_with fail
  obtain ⟨w5, hw5⟩ : ∃ w5, ((((w.alloc (.cells #[.slice p.ma p.mems.length p.mcap, .slice p.la p.locks.length p.lcap, .slice p.fa p.funs.length p.fcap] 27)).alloc (.cells #[.bool false] 4)).alloc (.map #[] 0)).alloc (.cells #[.map (some (w.heap.size + 1 + 1))] 77)).alloc (.cells ⟨p.vals⟩ 27) = w5 := ⟨_, rfl⟩
  rw [hw5]
  obtain ⟨g1, g2, g3, g4, hs5, hbw5⟩ := five _ _ _ _ _ _ _ hw5
  have k2 : Cel w (w.heap.size + 1) (.bool false) w5 := cel_of g1
  have k3 : w5.cell? ⟨w.heap.size + 1 + 1 + 1, 0, none⟩ = some (.map (some (w.heap.size + 1 + 1))) := (cel_of (w := w) g3).cell
  have hM : Ty.MpS w5 (w.heap.size + 1 + 1) (metL []) := ⟨⟨#[], 0, g2, rfl⟩, fun x hx => (by cases hx), List.nodup_nil⟩
  have hbx5 : ∀ j u, p.vals[j]? = some u → w5.cell? ⟨w.heap.size + 1 + 1 + 1 + 1, j, none⟩ = some u := cells_of g4
  clear g1 g2 g3 g4
  clear hw5 han hmk
  replace hbw5 := Lib.hid hbw5
  refine range_lawB (α := ByteArray) rfl rfl (gf := 60) (lb := #[.pointer (some ⟨w.heap.size + 1 + 1 + 1 + 1, 0, none⟩)]) rfl trivial (enters_of Tryd.func60 (by kernel_rfl) rfl) (encs := fun x => #[.string x]) (fun _ => rfl) (fun x _ => x ∈ namesP p) (Kps (fun _ => True)) (fun xs => xs = namesP p) (fun pre => pre <+: namesP p) (namesP p).length
    (fun pre W => Fine pre ∧ Ty.MpS W (w.heap.size + 1 + 1) (metL pre) ∧ Cel w (w.heap.size + 1) (.bool false) W ∧ W.cell? ⟨w.heap.size + 1 + 1 + 1, 0, none⟩ = some (.map (some (w.heap.size + 1 + 1))) ∧ Below w.heap.size w W ∧ w5.heap.size ≤ W.heap.size)
    (fun pre W => (∀ r, nmsP nmB [] (pre ++ r) = false) ∧ Cel w (w.heap.size + 1) (.bool false) W ∧ Below w.heap.size w W ∧ w5.heap.size ≤ W.heap.size)
    (fun l J Jx W hsz hb hY hJb hJI hJ0 => hits.out W (hbw5.out.trans (hb.mono hbw5.out.size)) (w.heap.size + 1 + 1 + 1 + 1) l (2 - 1) J Jx (fun j u hu => below_in hb (hbx5 j u hu)) (fun m pre x W1 hx h hl => hY m pre x W1 h hx hl) hJb hJ0)
    (fun h k => h.trans k) (fun h => ceq_kps h.toCeq)
    ⟨fun pre W W' h hq hb => ⟨h.1, h.2.1.below hb (by omega), h.2.2.1.ceq hq.toCeq, (hq.cell _).trans h.2.2.2.1, h.2.2.2.2.1.trans (hb.mono (by omega)), by have := h.2.2.2.2.2; rw [hq.size]; exact this⟩, fun pre W W' h hs hb => ⟨h.1, h.2.1.below hb h.2.1.lt, h.2.2.1.below hb, below_in hb h.2.2.2.1, h.2.2.2.2.1.trans (hb.mono h.2.2.2.2.1.size), Nat.le_trans h.2.2.2.2.2 hb.size⟩⟩
    ⟨fun pre W W' h hq hb => ⟨h.1, h.2.1.ceq hq.toCeq, h.2.2.1.trans (hb.mono (by omega)), by have := h.2.2.2; rw [hq.size]; exact this⟩, fun pre W W' h hs hb => ⟨h.1, h.2.1.below hb, h.2.2.1.trans (hb.mono h.2.2.1.size), Nat.le_trans h.2.2.2 hb.size⟩⟩
    (fun _ _ h => h.2.2.2.2.2) ⟨Fine.nil, hM, k2, k3, hbw5.out, Nat.le_refl _⟩ ?round ?done ?stop
  case round =>
    rintro l m' pre x W ⟨hfine, hMp, hk2, hk3, hbW, hsz⟩ hx _
    gi_wp2
    refine ⟨keeps_below (Below.refl _ _), Kps.refl _ _, fun W2 hq hb => ?_⟩
    have hxs := hsn.out x hx
    have a2 := hk2.ceq hq.toCeq
    have e2 := a2.cell
    have f2 := a2.frozen
    have e3 := (hq.cell _).trans hk3
    have hMq := hMp.below hb (by omega)
    have hbW2 := Lib.hid (hbW.trans (hb.mono (by omega)))
    have hsz2 : w5.heap.size ≤ W2.heap.size := by rw [hq.size]; exact hsz
    have hlk := look_met hMq x hxs
    have hbu := Lib.hid (b_alloc W2 (.cells #[] 81))
    have hbv := Lib.hid (hbW2.out.trans (hbu.out.mono hbW2.out.size))
    have hn := Lib.hid (htn.out x _ hxs hbv.out)
    replace hfine := Lib.hid hfine
    replace a2 := Lib.hid a2
    replace hMq := Lib.hid hMq
    clear hq hb hk2 hk3 hbx5 hits hMp htn hM k2 k3
    cases hmt : (pre.any fun t => decide (t = x))
    · rw [hmt] at hlk
      have hmt' := Lib.hid hmt
      clear hmt
      cases hnm : nmB x
      · have hn2 := hn.out
        rw [show nme x.data.toList = false from hnm] at hn2
        replace hn2 := Lib.hid hn2
        replace hnm := Lib.hid hnm
        clear hn
        gi_wp2_with fail
        refine ⟨trivial, fun h => (by cases h), (CallsIn.inRound l (callsIn_wide.2 hn2.out)).mono ?_⟩
        rintro e W3 ⟨rfl, hb3⟩
        have hb4 := Lib.hid (hbu.out.trans (hb3.mono hbu.out.size))
        have a3 := Lib.hid (a2.out.below hb4.out)
        have e4 := a3.out.cell
        have f4 := a3.out.frozen
        have hs3 := hb4.out.size
        clear hb3 hn2
        gi_wp2_with fail
        exact ⟨(keeps_below hb4.out).trans ((KeepsOthers.setCell _ _ _).from _), fun r => hfine.out.bad (.inr hnm.out) r, a3.out.setS _, (hbW2.out.trans (hb4.out.mono hbW2.out.size)).setCell (by show w.heap.size ≤ w.heap.size + 1; omega) _, by simp [World.setCell]; omega⟩
      · have hn2 := hn.out
        rw [show nme x.data.toList = true from hnm] at hn2
        replace hn2 := Lib.hid hn2
        replace hnm := Lib.hid hnm
        clear hn
        gi_wp2_with fail
        refine ⟨trivial, fun h => (by cases h), (CallsIn.inRound l (callsIn_wide.2 hn2.out)).mono ?_⟩
        rintro e W3 ⟨rfl, hb3⟩
        have hb4 := Lib.hid (hbu.out.trans (hb3.mono hbu.out.size))
        have a3 := Lib.hid (a2.out.below hb4.out)
        have hM3 := Lib.hid (hMq.out.below hb4.out hMq.out.lt)
        have e5 := below_in hb4.out e3
        have hs3 := hb4.out.size
        clear hb3 hn2
        gi_wp2_with (first | (gi_at_mapUpdate; refine wpListIn_putS _ rfl _ _ _ 77 rfl 9 81 (by kernel_rfl) (by kernel_rfl) (w.heap.size + 1 + 1) _ rfl hM3.out x hxs rfl (.agg #[]) rfl ?_; intro w4 hM4 hg4) | fail)
        rw [met_put _ _ hmt'.out] at hM4
        have hs4 := hg4.size
        exact ⟨(keeps_below hb4.out).trans (keeps_put (by omega) hg4), (Kps.of_below hb4.out).trans (kps_put hM3.out hg4), hfine.out.snoc hmt'.out hnm.out, hM4, cel_put (by omega) hg4 a3.out, kps_put hM3.out hg4 _ _ _ trivial e5, (hbW2.out.trans (hb4.out.mono hbW2.out.size)).trans (below_put1 (by omega) (by omega) hg4), by omega⟩
    · rw [hmt] at hlk
      have hmt' := Lib.hid hmt
      have hs2 := hbu.out.size
      have hlw2 : w.heap.size + 1 < W2.heap.size := by omega
      have a3 := Lib.hid (a2.out.below hbu.out)
      clear hmt hn
      gi_wp2_with fail
      refine ⟨trivial, ?_⟩
      gi_wp2_with fail
      exact ⟨((KeepsOthers.setCell _ _ _).from _).trans (keeps_below (b_alloc _ _)), fun r => hfine.out.bad (.inl hmt'.out) r, (a2.out.setS _).alloc _, (hbW2.out.setCell (by show w.heap.size ≤ w.heap.size + 1; omega) _).alloc (by simp [World.setCell]; omega) _, by simp [World.setCell]; omega⟩
  case done =>
    rintro D xs W hD rfl ⟨hfine, hMp, hk2, hk3, hbW, hsz⟩ hK
    have a1 := hk2.cell
    have a2 := hk2.frozen
    have hlw : w.heap.size + 1 < W.heap.size := World.block_lt_of_cell? _ _ a1
    gi_wp2
    have hK' : (W.setCell ⟨w.heap.size + 1, 0, none⟩ (.bool true)).heap[D]? = some (.deferred (some [])) := (Below.heap_setCell _ _ _ _ (by simp; omega)).trans hK
    refine ⟨by simp, .inl ⟨_, _, rfl, run_takeDeferred hK', ?_⟩⟩
    have hc5 := ((hk2.setS (.bool true)).ceq (ceq_deferred (d' := none) hK')).cell
    refine ⟨.bool true, ?_, by have := hfine []; rw [List.append_nil] at this; rw [this]; rfl, (hbW.setCell (by show w.heap.size ≤ w.heap.size + 1; omega) _).trans (below_put _ _ (by omega))⟩
    simp [results, Tryd.results32, go_sem, hc5]
  case stop =>
    rintro D pre W hD hpre ⟨hp, hk2, hbW, hsz⟩ hK
    gi_wp2
    refine ⟨by simp, .inl ⟨_, _, rfl, run_takeDeferred hK, ?_⟩⟩
    have hc5 := (hk2.ceq (ceq_deferred (d' := none) hK)).cell
    have hT : nmsP nmB [] (namesP p) = false := by
      obtain ⟨r, hr⟩ := hpre
      rw [← hr]; exact hp r
    refine ⟨.bool false, ?_, by rw [hT], hbW.trans (below_put _ _ (by omega))⟩
    simp [results, Tryd.results32, go_sem, hc5]
theorem mayNames_any (p : Pg) (w : World) (hp : Pg.In w (fun _ => True) p) (hsg : SignsIn w) (hsum : p.mems.length + p.locks.length + p.funs.length ≤ 4611686018427387904) :
    Calls Tryd.prog 32 #[p.val] w fun e w' => e = .returned (.bool (mayNamesP p)) ∧ Below w.heap.size w w' := by
  by_cases h : p.mems.length + p.locks.length + p.funs.length ≤ 256
  · exact mayNames_few p w hp hsg h
  · exact mayNames_many p w hsum (by omega)
end Go.Proofs.YtiicjbnocpphdaaDoor.Cd
