/- Arguments that read as programs of instructions, as instructions, are such that lie in memory. Conditions: none. -/
import Derived.Test.YtiicjbnocpphdaaDoorPgM
import Derived.ProofKit
import Derived.OpenShut
import Derived.Deep.DeepHandedRow
import Derived.Lib.LaidTab
import Derived.Deep.Slices
namespace Go.Proofs.YtiicjbnocpphdaaDoor.Cd
open Go Go.RowKit Go.ChangeShapes Go.WideShapes Go.ChangeAt Go.ChangeMaps
open Go.Proofs.YtiicjbnocpphdaaDoor.Lx Go.Proofs.YtiicjbnocpphdaaDoor.Tr

theorem cells_atN {w : World} {base : Nat} {a : Addr} {n : Nat} {cs : List Value} (h : w.cells? base a n = some cs) : cs.length = n ∧ ∀ j u, cs[j]? = some u → w.cell? (a.add j) = some u := by
  unfold World.cells? at h
  split at h
  · have hl : cs.length = n := by simpa using Lib.mapM_length h
    refine ⟨hl, fun j u hu => ?_⟩
    have hj : j < n := by rw [← hl]; exact (List.getElem?_eq_some_iff.1 hu).1
    obtain ⟨b, hb, hf⟩ := Lib.mapM_at h j j (by simp [hj])
    rw [hf]
    rw [hb] at hu
    exact hu
  · cases h
theorem flat_lenN {α : Type} (f : α → List Value) (c : Nat) (hc : ∀ x, (f x).length = c) : ∀ l : List α, (l.flatMap f).length = l.length * c
  | [] => by simp
  | e :: r => by
    rw [List.flatMap_cons, List.length_append, hc, flat_lenN f c hc r, List.length_cons, Nat.succ_mul, Nat.add_comm]
theorem three {α : Type} {l : List α} (h : l.length = 3) : ∃ a b c, l = [a, b, c] := by
  match l, h with
  | [a, b, c], _ => exact ⟨a, b, c, rfl⟩
theorem fiveN {α : Type} {l : List α} (h : l.length = 5) : ∃ a b c d e, l = [a, b, c, d, e] := by
  match l, h with
  | [a, b, c, d, e], _ => exact ⟨a, b, c, d, e, rfl⟩
theorem sixN {α : Type} {l : List α} (h : l.length = 6) : ∃ a b c d e f, l = [a, b, c, d, e, f] := by
  match l, h with
  | [a, b, c, d, e, f], _ => exact ⟨a, b, c, d, e, f, rfl⟩

section
variable {H : Type} {enc : TypeId × Value → H} {w : World}

/-- a list that reads is a list of what its elements read as -/
theorem open_rowN {α : Type} [Inhabited α] {P : Program} (f : α → List Value) (c : Nat) (hc : ∀ x, (f x).length = c) (hc0 : 0 < c) (In : α → Prop) {sp : Nat → Bool} {hd : Bool} {t e : TypeId} (ht : P.underlying t = some (.slice e)) (hce : P.cellsOf e = c)
    {fuel : Nat} {cs : List Value} {x : DataW H × List MemPlace} (h : DataW.trod enc P w 0 sp hd fuel t cs = some x)
    (hel : ∀ m cs x, DataW.trod enc P w 0 sp hd m e cs = some x → ∃ a, cs = f a ∧ In a) :
    ∃ (a : Option Addr) (cap : Nat) (l : List α), cs = [.slice a l.length cap] ∧ RowAt w (fun _ => True) a cap l.length (l.flatMap f) ∧ ∀ y ∈ l, In y := by
  rcases DataW.trod_slice ht h with ⟨e3, rfl⟩ | ⟨a, len, cap, elems, rest, n', rfl, e3, rfl, hb, hle, hcap, hlen, hel', hsp, hns⟩
  · exact ⟨none, 0, [], e3, ⟨Nat.le_refl _, by decide, fun _ => rfl, fun j u hj => by simp at hj⟩, fun y hy => by cases hy⟩
  · rw [hce] at hel'
    have hall : ∀ i, i < len → ∃ y : α, ∃ cs', w.cells? 0 (a.add (i * c)) c = some cs' ∧ cs' = f y ∧ In y := by
      intro i hi
      have h5 := hel' i hi
      rw [List.getElem?_eq_getElem (by omega : i < elems.length)] at h5
      obtain ⟨cs', hcc, ht'⟩ := Option.bind_eq_some_iff.1 h5
      obtain ⟨y, h1, h2⟩ := hel _ _ _ ht'
      exact ⟨y, cs', hcc, h1, h2⟩
    obtain ⟨F, hF⟩ := Deep.choose_lt hall
    have hL : ((List.range len).map F).length = len := by simp
    have hget : ∀ i y, ((List.range len).map F)[i]? = some y → i < len ∧ y = F i := fun i y he => by
      have hi : i < len := by have := (List.getElem?_eq_some_iff.1 he).1; simpa using this
      refine ⟨hi, ?_⟩
      rw [List.getElem?_map, List.getElem?_range hi] at he
      exact (Option.some.inj he).symm
    refine ⟨some a, cap, (List.range len).map F, by rw [hL]; exact e3, ⟨by rw [hL]; exact hle, hcap, (fun h => by cases h), fun j u hj => ?_⟩, fun y hy => ?_⟩
    · have hjl : j < len * c := by
        have := (List.getElem?_eq_some_iff.1 hj).1
        rw [flat_lenN f c hc, hL] at this
        exact this
      have hi : j / c < len := by rw [Nat.div_lt_iff_lt_mul hc0]; exact hjl
      have hj' : j = j / c * c + j % c := by rw [Nat.mul_comm]; exact (Nat.div_add_mod j c).symm
      rw [hj', flat_at f c hc _ (j / c) (j % c) (F (j / c)) (by rw [List.getElem?_map, List.getElem?_range hi]; rfl) (Nat.mod_lt _ hc0)] at hj
      obtain ⟨cs', hcc, rfl, _⟩ := hF (j / c) hi
      have hcell := (cells_atN hcc).2 _ _ hj
      rw [Deep.add_add, ← hj'] at hcell
      obtain ⟨b, off, spot⟩ := a
      have hspot : spot = none := by
        obtain ⟨cs0, hc0', rfl, _⟩ := hF 0 (Nat.lt_of_le_of_lt (Nat.zero_le _) hi)
        obtain ⟨u0, hu0⟩ : ∃ u0, (f (F 0))[0]? = some u0 := ⟨_, List.getElem?_eq_getElem (by rw [hc]; exact hc0)⟩
        simpa [Addr.add] using World.cell?_spot ((cells_atN hc0').2 0 u0 hu0)
      subst hspot
      exact ⟨b, off, rfl, trivial, by rw [← Go.WideShapes.add_plain]; exact hcell⟩
    · obtain ⟨i, hi0⟩ := List.mem_iff_getElem?.1 hy
      obtain ⟨hi, rfl⟩ := hget i y hi0
      obtain ⟨_, _, _, h⟩ := hF i hi
      exact h
instance : Inhabited Ins := ⟨⟨0, 0, 0, 0, 0, none, 0, []⟩⟩
instance : Inhabited Mm := ⟨⟨⟨#[]⟩, 0, 0⟩⟩
instance : Inhabited Fn := ⟨⟨⟨#[]⟩, false, 0, 0, none, 0, []⟩⟩
theorem cellsI : Tryd.prog.cellsOf 31 = 6 := by kernel_rfl
theorem cellsF : Tryd.prog.cellsOf 42 = 5 := by kernel_rfl
theorem cellsM : Tryd.prog.cellsOf 50 = 3 := by kernel_rfl
theorem cellsP : Tryd.prog.cellsOf 27 = 3 := by kernel_rfl
theorem cells1i : Tryd.prog.cellsOf 3 = 1 := by kernel_rfl
theorem cells1s : Tryd.prog.cellsOf 9 = 1 := by kernel_rfl

theorem open_nums (sp : Nat → Bool) (hd : Bool) (fuel : Nat) (cs : List Value) (x : DataW H × List MemPlace) (h : DataW.trod enc Tryd.prog w 0 sp hd fuel 29 cs = some x) :
    ∃ (a : Option Addr) (cap : Nat) (l : List Int), cs = [.slice a l.length cap] ∧ RowAt w (fun _ => True) a cap l.length (numCells l) ∧ ∀ y ∈ l, I64 y := by
  obtain ⟨a, cap, l, h1, h2, h3⟩ := open_rowN (fun n : Int => [Value.int .i64 n]) 1 (fun _ => rfl) (by omega) I64 Tryd.underlying29 cells1i h fun m cs x hx => by
    obtain ⟨n, e, rfl, hw⟩ := DataW.trod_int Tryd.underlying3 hx
    exact ⟨n, e, bounds_i64 hw⟩
  refine ⟨a, cap, l, h1, ?_, h3⟩
  unfold numCells
  rw [List.map_eq_flatMap]
  exact h2
theorem open_strs (sp : Nat → Bool) (hd : Bool) (fuel : Nat) (cs : List Value) (x : DataW H × List MemPlace) (h : DataW.trod enc Tryd.prog w 0 sp hd fuel 24 cs = some x) :
    ∃ (a : Option Addr) (cap : Nat) (l : List ByteArray), cs = [.slice a l.length cap] ∧ RowAt w (fun _ => True) a cap l.length (strCells l) ∧ ∀ y ∈ l, y.size ≤ maxLen := by
  obtain ⟨a, cap, l, h1, h2, h3⟩ := open_rowN (fun n : ByteArray => [Value.string n]) 1 (fun _ => rfl) (by omega) (fun s => s.size ≤ maxLen) Tryd.underlying24 cells1s h fun m cs x hx => by
    obtain ⟨n, e, rfl, hw⟩ := DataW.trod_string Tryd.underlying9 hx
    exact ⟨n, e, hw⟩
  refine ⟨a, cap, l, h1, ?_, h3⟩
  unfold strCells
  rw [List.map_eq_flatMap]
  exact h2
set_option maxRecDepth 100000 in
theorem open_ins (sp : Nat → Bool) (hd : Bool) (fuel : Nat) (cs : List Value) (x : DataW H × List MemPlace) (h : DataW.trod enc Tryd.prog w 0 sp hd fuel 31 cs = some x) :
    ∃ i : Ins, cs = i.vals ∧ Ins.In w (fun _ => True) i := by
  obtain ⟨xs, n, hn, rfl, hl, hxl, hf⟩ := DataW.trod_struct Tryd.underlying31 h
  obtain ⟨c0, c1, c2, c3, c4, c5, rfl⟩ := sixN (hl.trans cellsI)
  obtain ⟨x0, x1, x2, x3, x4, x5, rfl⟩ := sixN hxl
  have h0 := hf 0 _ rfl
  have h1 := hf 1 _ rfl
  have h2 := hf 2 _ rfl
  have h3 := hf 3 _ rfl
  have h4 := hf 4 _ rfl
  have h5 := hf 5 _ rfl
  simp only [List.getElem?_cons_zero, List.getElem?_cons_succ] at h0 h1 h2 h3 h4 h5
  obtain ⟨k0, e0, rfl, w0⟩ := DataW.trod_int Tryd.underlying5 h0
  obtain ⟨k1, e1, rfl, w1⟩ := DataW.trod_int Tryd.underlying3 h1
  obtain ⟨k2, e2, rfl, w2⟩ := DataW.trod_int Tryd.underlying3 h2
  obtain ⟨k3, e3, rfl, w3⟩ := DataW.trod_int Tryd.underlying3 h3
  obtain ⟨k4, e4, rfl, w4⟩ := DataW.trod_int Tryd.underlying2 h4
  obtain ⟨a, cap, l, e5, r5, i5⟩ := open_nums sp hd _ _ _ h5
  obtain rfl := (List.cons.inj e0).1
  obtain rfl := (List.cons.inj e1).1
  obtain rfl := (List.cons.inj e2).1
  obtain rfl := (List.cons.inj e3).1
  obtain rfl := (List.cons.inj e4).1
  obtain rfl := (List.cons.inj e5).1
  exact ⟨⟨k0, k1, k2, k3, k4, a, cap, l⟩, rfl, ⟨bounds_u8 w0, bounds_i64 w1, bounds_i64 w2, bounds_i64 w3, bounds_i64 w4, r5, i5⟩⟩
set_option maxRecDepth 100000 in
theorem open_mm (sp : Nat → Bool) (hd : Bool) (fuel : Nat) (cs : List Value) (x : DataW H × List MemPlace) (h : DataW.trod enc Tryd.prog w 0 sp hd fuel 50 cs = some x) :
    ∃ i : Mm, cs = i.vals ∧ i.In := by
  obtain ⟨xs, n, hn, rfl, hl, hxl, hf⟩ := DataW.trod_struct Tryd.underlying50 h
  obtain ⟨c0, c1, c2, rfl⟩ := three (hl.trans cellsM)
  obtain ⟨x0, x1, x2, rfl⟩ := three hxl
  have h0 := hf 0 _ rfl
  have h1 := hf 1 _ rfl
  have h2 := hf 2 _ rfl
  simp only [List.getElem?_cons_zero, List.getElem?_cons_succ] at h0 h1 h2
  obtain ⟨k0, e0, rfl, w0⟩ := DataW.trod_string Tryd.underlying9 h0
  obtain ⟨k1, e1, rfl, w1⟩ := DataW.trod_int Tryd.underlying3 h1
  obtain ⟨k2, e2, rfl, w2⟩ := DataW.trod_int Tryd.underlying2 h2
  obtain rfl := (List.cons.inj e0).1
  obtain rfl := (List.cons.inj e1).1
  obtain rfl := (List.cons.inj e2).1
  exact ⟨⟨k0, k1, k2⟩, rfl, ⟨w0, bounds_i64 w1, bounds_i64 w2⟩⟩
set_option maxRecDepth 100000 in
theorem open_fn (sp : Nat → Bool) (hd : Bool) (fuel : Nat) (cs : List Value) (x : DataW H × List MemPlace) (h : DataW.trod enc Tryd.prog w 0 sp hd fuel 42 cs = some x) :
    ∃ i : Fn, cs = i.vals ∧ Fn.In w (fun _ => True) i := by
  obtain ⟨xs, n, hn, rfl, hl, hxl, hf⟩ := DataW.trod_struct Tryd.underlying42 h
  obtain ⟨c0, c1, c2, c3, c4, rfl⟩ := fiveN (hl.trans cellsF)
  obtain ⟨x0, x1, x2, x3, x4, rfl⟩ := fiveN hxl
  have h0 := hf 0 _ rfl
  have h1 := hf 1 _ rfl
  have h2 := hf 2 _ rfl
  have h3 := hf 3 _ rfl
  have h4 := hf 4 _ rfl
  simp only [List.getElem?_cons_zero, List.getElem?_cons_succ] at h0 h1 h2 h3 h4
  obtain ⟨k0, e0, rfl, w0⟩ := DataW.trod_string Tryd.underlying9 h0
  obtain ⟨k1, e1, rfl⟩ := DataW.trod_bool Tryd.underlying4 h1
  obtain ⟨k2, e2, rfl, w2⟩ := DataW.trod_int Tryd.underlying3 h2
  obtain ⟨k3, e3, rfl, w3⟩ := DataW.trod_int Tryd.underlying3 h3
  obtain ⟨a, cap, l, e4, r4, i4⟩ := open_rowN Ins.vals 6 Ins.vals_len (by omega) (Ins.In w (fun _ => True)) Tryd.underlying40 cellsI h4 fun m cs x hx => open_ins sp hd m cs x hx
  obtain rfl := (List.cons.inj e0).1
  obtain rfl := (List.cons.inj e1).1
  obtain rfl := (List.cons.inj e2).1
  obtain rfl := (List.cons.inj e3).1
  obtain rfl := (List.cons.inj e4).1
  exact ⟨⟨k0, k1, k2, k3, a, cap, l⟩, rfl, ⟨w0, bounds_i64 w2, bounds_i64 w3, r4, i4⟩⟩
set_option maxRecDepth 100000 in
theorem open_pg (sp : Nat → Bool) (hd : Bool) (fuel : Nat) (cs : List Value) (x : DataW H × List MemPlace) (h : DataW.trod enc Tryd.prog w 0 sp hd fuel 27 cs = some x) :
    ∃ i : Pg, cs = i.vals ∧ Pg.In w (fun _ => True) i := by
  obtain ⟨xs, n, hn, rfl, hl, hxl, hf⟩ := DataW.trod_struct Tryd.underlying27 h
  obtain ⟨c0, c1, c2, rfl⟩ := three (hl.trans cellsP)
  obtain ⟨x0, x1, x2, rfl⟩ := three hxl
  have h0 := hf 0 _ rfl
  have h1 := hf 1 _ rfl
  have h2 := hf 2 _ rfl
  simp only [List.getElem?_cons_zero, List.getElem?_cons_succ] at h0 h1 h2
  obtain ⟨a, cap, l, e0, r0, i0⟩ := open_rowN Mm.vals 3 Mm.vals_len (by omega) Mm.In Tryd.underlying23 cellsM h0 fun m cs x hx => open_mm sp hd m cs x hx
  obtain ⟨a1, cap1, l1, e1, r1, i1⟩ := open_strs sp hd _ _ _ h1
  obtain ⟨a2, cap2, l2, e2, r2, i2⟩ := open_rowN Fn.vals 5 Fn.vals_len (by omega) (Fn.In w (fun _ => True)) Tryd.underlying25 cellsF h2 fun m cs x hx => open_fn sp hd m cs x hx
  obtain rfl := (List.cons.inj e0).1
  obtain rfl := (List.cons.inj e1).1
  obtain rfl := (List.cons.inj e2).1
  exact ⟨⟨a, cap, l, a1, cap1, l1, a2, cap2, l2⟩, rfl, ⟨r0, i0, r1, i1, r2, i2⟩⟩
end
end Go.Proofs.YtiicjbnocpphdaaDoor.Cd
