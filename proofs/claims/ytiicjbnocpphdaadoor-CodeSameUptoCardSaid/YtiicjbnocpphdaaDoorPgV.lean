/- Arguments that read as programs of instructions lie in memory, and they and the names of their Funs are no larger than the reading. Conditions: none. -/
import Derived.Test.YtiicjbnocpphdaaDoorPgL
namespace Go.Proofs.YtiicjbnocpphdaaDoor.Cd
open Go Go.RowKit Go.ChangeShapes Go.WideShapes Go.ChangeAt Go.ChangeMaps
open Go.Proofs.YtiicjbnocpphdaaDoor.Lx Go.Proofs.YtiicjbnocpphdaaDoor.Tr

section
variable {H : Type} {enc : TypeId × Value → H} {w : World}
def Fn.sz2 (f : Fn) : Nat := f.name.size + (1 + (f.code.map fun i : Ins => i.args.length).sum)
set_option maxRecDepth 100000 in
theorem open_fnV (sp : Nat → Bool) (hd : Bool) (fuel : Nat) (cs : List Value) (x : DataW H × List MemPlace) (h : DataW.trod enc Tryd.prog w 0 sp hd fuel 42 cs = some x) :
    ∃ i : Fn, cs = i.vals ∧ Fn.In w (fun _ => True) i ∧ i.sz2 ≤ Rows.uptoBulk x.1 := by
  obtain ⟨xs, n, hn, rfl, hl, hxl, hf⟩ := DataW.trod_struct Tryd.underlying42 h
  obtain ⟨c0, c1, c2, c3, c4, rfl⟩ := fiveN (hl.trans cellsF)
  obtain ⟨x0, x1, x2, x3, x4, rfl⟩ := fiveN hxl
  have h0 := hf 0 _ rfl
  have h1 := hf 1 _ rfl
  have h2 := hf 2 _ rfl
  have h3 := hf 3 _ rfl
  have h4 := hf 4 _ rfl
  simp only [List.getElem?_cons_zero, List.getElem?_cons_succ] at h0 h1 h2 h3 h4
  obtain ⟨k0, e0, rfl, w0⟩ := DataW.trod_string Tryd.underlying9 h0
  obtain ⟨k1, e1, rfl⟩ := DataW.trod_bool Tryd.underlying4 h1
  obtain ⟨k2, e2, rfl, w2⟩ := DataW.trod_int Tryd.underlying3 h2
  obtain ⟨k3, e3, rfl, w3⟩ := DataW.trod_int Tryd.underlying3 h3
  obtain ⟨a, cap, l, e4, r4, i4, z4⟩ := open_rowU Ins.vals 6 Ins.vals_len (by omega) (Ins.In w (fun _ => True)) (fun i : Ins => i.args.length) Tryd.underlying40 cellsI h4 fun m _ cs x hx => open_insU sp hd m cs x hx
  obtain rfl := (List.cons.inj e0).1
  obtain rfl := (List.cons.inj e1).1
  obtain rfl := (List.cons.inj e2).1
  obtain rfl := (List.cons.inj e3).1
  obtain rfl := (List.cons.inj e4).1
  exact ⟨⟨k0, k1, k2, k3, a, cap, l⟩, rfl, ⟨w0, bounds_i64 w2, bounds_i64 w3, r4, fun y hy => (by obtain ⟨i, hi⟩ := List.mem_iff_getElem?.1 hy; exact i4 i y hi)⟩, by
    simp only [List.map_cons, List.map_nil, Rows.uptoBulk, bulkAll_sum, List.sum_cons, List.sum_nil]
    show k0.size + (1 + (l.map fun i : Ins => i.args.length).sum) ≤ _
    have hk : k0.data.toList.length = k0.size := (Lib.size_eq k0).symm
    omega⟩

set_option maxRecDepth 100000 in
theorem open_pgV (sp : Nat → Bool) (hd : Bool) (fuel : Nat) (cs : List Value) (x : DataW H × List MemPlace) (h : DataW.trod enc Tryd.prog w 0 sp hd fuel 27 cs = some x) :
    ∃ i : Pg, cs = i.vals ∧ Pg.In w (fun _ => True) i ∧ i.mems.length + i.locks.length + (i.funs.map Fn.sz2).sum ≤ Rows.uptoBulk x.1 := by
  obtain ⟨xs, n, hn, rfl, hl, hxl, hf⟩ := DataW.trod_struct Tryd.underlying27 h
  obtain ⟨c0, c1, c2, rfl⟩ := three (hl.trans cellsP)
  obtain ⟨x0, x1, x2, rfl⟩ := three hxl
  have h0 := hf 0 _ rfl
  have h1 := hf 1 _ rfl
  have h2 := hf 2 _ rfl
  simp only [List.getElem?_cons_zero, List.getElem?_cons_succ] at h0 h1 h2
  obtain ⟨a, cap, l, e0, r0, i0, z0⟩ := open_rowU Mm.vals 3 Mm.vals_len (by omega) Mm.In (fun _ => 1) Tryd.underlying23 cellsM h0 fun m _ cs x hx => (by
    obtain ⟨i, q1, q2⟩ := open_mm sp hd m cs x hx
    exact ⟨i, q1, q2, bulk_pos _⟩)
  obtain ⟨a1, cap1, l1, e1, r1, i1, z1⟩ := open_strsU sp hd _ _ _ h1
  obtain ⟨a2, cap2, l2, e2, r2, i2, z2⟩ := open_rowU Fn.vals 5 Fn.vals_len (by omega) (Fn.In w (fun _ => True)) Fn.sz2 Tryd.underlying25 cellsF h2 fun m _ cs x hx => open_fnV sp hd m cs x hx
  obtain rfl := (List.cons.inj e0).1
  obtain rfl := (List.cons.inj e1).1
  obtain rfl := (List.cons.inj e2).1
  exact ⟨⟨a, cap, l, a1, cap1, l1, a2, cap2, l2⟩, rfl, ⟨r0, fun y hy => (by obtain ⟨i, hi⟩ := List.mem_iff_getElem?.1 hy; exact i0 i y hi), r1, i1, r2, fun y hy => (by obtain ⟨i, hi⟩ := List.mem_iff_getElem?.1 hy; exact i2 i y hi)⟩, by
    have := len_le_sum (fun _ : Mm => 1) (fun _ => Nat.le_refl _) l
    simp only [List.map_cons, List.map_nil, Rows.uptoBulk, bulkAll_sum, List.sum_cons, List.sum_nil]
    show l.length + l1.length + (l2.map Fn.sz2).sum ≤ _
    omega⟩
end
theorem sml2_of {p : Pg} (h : p.mems.length + p.locks.length + (p.funs.map Fn.sz2).sum ≤ 1048576) : Sml p ∧ ∀ f ∈ p.funs, f.name.size ≤ 1048576 := by
  have h1 := len_le_sum Fn.sz2 (fun f => by unfold Fn.sz2; omega) p.funs
  refine ⟨⟨by omega, fun f hf i hi => ?_⟩, fun f hf => ?_⟩
  · have h2 := le_sum_mem Fn.sz2 p.funs f hf
    have h3 : i.args.length ≤ (f.code.map fun i : Ins => i.args.length).sum := le_sum_mem (fun i : Ins => i.args.length) f.code i hi
    have h4 : f.sz2 = f.name.size + (1 + (f.code.map fun i : Ins => i.args.length).sum) := rfl
    omega
  · have h2 := le_sum_mem Fn.sz2 p.funs f hf
    have h4 : f.sz2 = f.name.size + (1 + (f.code.map fun i : Ins => i.args.length).sum) := rfl
    omega
end Go.Proofs.YtiicjbnocpphdaaDoor.Cd
