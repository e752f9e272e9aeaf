/- Arguments that read as programs of instructions, as instructions, are such that lie in memory. Conditions: none. Arguments that read as programs of instructions lie in memory, and are no larger than the reading. Conditions: none. From readings to tables: where the listed variables read as the row lists them, memory holds them; a world for the witnesses. Conditions: none. -/
import Derived.OpenShut
import Derived.Deep.DeepHandedRow
import Derived.Deep.Slices
import Derived.Test.YthiiahlgncngoaaDoorRRRows
import Derived.Test.YthiiahlgncngoaaDoorRRJCgC
import Derived.Deep.RegionHeld
import Derived.Test.YthiiahlgncngoaaDoorRRCards
import Derived.Test.YthiiahlgncngoaaDoorRRTie
set_option maxHeartbeats 16000000
set_option maxRecDepth 100000
namespace Go.Proofs.YthiiahlgncngoaaDoorRR.Cd
open Go Go.RowKit Go.ChangeShapes Go.WideShapes Go.ChangeAt Go.ChangeMaps
open Go.Proofs.YthiiahlgncngoaaDoorRR.Lx Go.Proofs.YthiiahlgncngoaaDoorRR.Tr
theorem cells_atN {w : World} {base : Nat} {a : Addr} {n : Nat} {cs : List Value} (h : w.cells? base a n = some cs) : cs.length = n ∧ ∀ j u, cs[j]? = some u → w.cell? (a.add j) = some u := by
 unfold World.cells? at h
 split at h
 · have hl : cs.length = n := by simpa using Lib.mapM_length h
   refine ⟨hl, fun j u hu => ?_⟩
   have hj : j < n := by rw [← hl]; exact (List.getElem?_eq_some_iff.1 hu).1
   obtain ⟨b, hb, hf⟩ := Lib.mapM_at h j j (by simp [hj])
   rw [hf]
   rw [hb] at hu
   exact hu
 · cases h
theorem flat_lenN {α : Type} (f : α → List Value) (c : Nat) (hc : ∀ x, (f x).length = c) : ∀ l : List α, (l.flatMap f).length = l.length * c
 | [] => by simp
 | e :: r => by
   rw [List.flatMap_cons, List.length_append, hc, flat_lenN f c hc r, List.length_cons, Nat.succ_mul, Nat.add_comm]
theorem three {α : Type} {l : List α} (h : l.length = 3) : ∃ a b c, l = [a, b, c] := by
 match l, h with
 | [a, b, c], _ => exact ⟨a, b, c, rfl⟩
theorem fiveN {α : Type} {l : List α} (h : l.length = 5) : ∃ a b c d e, l = [a, b, c, d, e] := by
 match l, h with
 | [a, b, c, d, e], _ => exact ⟨a, b, c, d, e, rfl⟩
theorem sixN {α : Type} {l : List α} (h : l.length = 6) : ∃ a b c d e f, l = [a, b, c, d, e, f] := by
 match l, h with
 | [a, b, c, d, e, f], _ => exact ⟨a, b, c, d, e, f, rfl⟩
section
variable {H : Type} {enc : TypeId × Value → H} {w : World}
instance : Inhabited Ins := ⟨⟨0, 0, 0, 0, 0, none, 0, []⟩⟩
instance : Inhabited Mm := ⟨⟨⟨#[]⟩, 0, 0⟩⟩
instance : Inhabited Fn := ⟨⟨⟨#[]⟩, false, 0, 0, none, 0, []⟩⟩
theorem cellsI : Tryd.prog.cellsOf 44 = 6 := by kernel_rfl
theorem cellsF : Tryd.prog.cellsOf 50 = 5 := by kernel_rfl
theorem cellsM : Tryd.prog.cellsOf 57 = 3 := by kernel_rfl
theorem cellsP : Tryd.prog.cellsOf 26 = 3 := by kernel_rfl
theorem cells1i : Tryd.prog.cellsOf 3 = 1 := by kernel_rfl
theorem cells1s : Tryd.prog.cellsOf 9 = 1 := by kernel_rfl
theorem open_mm (sp : Nat → Bool) (hd : Bool) (fuel : Nat) (cs : List Value) (x : DataW H × List MemPlace) (h : DataW.trod enc Tryd.prog w 0 sp hd fuel 57 cs = some x) :
 ∃ i : Mm, cs = i.vals ∧ i.In := by
 obtain ⟨xs, n, hn, rfl, hl, hxl, hf⟩ := DataW.trod_struct Tryd.underlying57 h
 obtain ⟨c0, c1, c2, rfl⟩ := three (hl.trans cellsM)
 obtain ⟨x0, x1, x2, rfl⟩ := three hxl
 have h0 := hf 0 _ rfl
 have h1 := hf 1 _ rfl
 have h2 := hf 2 _ rfl
 simp only [List.getElem?_cons_zero, List.getElem?_cons_succ] at h0 h1 h2
 obtain ⟨k0, e0, rfl, w0⟩ := DataW.trod_string Tryd.underlying9 h0
 obtain ⟨k1, e1, rfl, w1⟩ := DataW.trod_int Tryd.underlying3 h1
 obtain ⟨k2, e2, rfl, w2⟩ := DataW.trod_int Tryd.underlying2 h2
 obtain rfl := (List.cons.inj e0).1
 obtain rfl := (List.cons.inj e1).1
 obtain rfl := (List.cons.inj e2).1
 exact ⟨⟨k0, k1, k2⟩, rfl, ⟨w0, bounds_i64 w1, bounds_i64 w2⟩⟩
end
end Go.Proofs.YthiiahlgncngoaaDoorRR.Cd
namespace Go.Proofs.YthiiahlgncngoaaDoorRR.Cd
open Go Go.RowKit Go.ChangeShapes Go.WideShapes Go.ChangeAt Go.ChangeMaps
open Go.Proofs.YthiiahlgncngoaaDoorRR.Lx Go.Proofs.YthiiahlgncngoaaDoorRR.Tr
theorem bulkAll_sum {H : Type} : ∀ l : List (DataW H), Rows.uptoBulkAll l = (l.map Rows.uptoBulk).sum
 | [] => rfl
 | d :: r => by
   rw [Rows.uptoBulkAll, bulkAll_sum r, List.map_cons, List.sum_cons]
theorem bulk_pos {H : Type} (d : DataW H) : 1 ≤ Rows.uptoBulk d := by
 cases d with
 | lit l => cases l <;> simp [Rows.uptoBulk]
 | nil => simp [Rows.uptoBulk]
 | ptr d => simp [Rows.uptoBulk]
 | slice a b => simp [Rows.uptoBulk]
 | agg p => simp [Rows.uptoBulk]
 | iface t d => simp [Rows.uptoBulk]
 | map e => simp [Rows.uptoBulk]
 | held h => simp [Rows.uptoBulk]
theorem le_sum_mem {α : Type} (f : α → Nat) : ∀ (l : List α) (x : α), x ∈ l → f x ≤ (l.map f).sum
 | [], _, h => by cases h
 | y :: r, x, h => by
   rw [List.map_cons, List.sum_cons]
   rcases List.mem_cons.1 h with rfl | h
   · omega
   · have := le_sum_mem f r x h
     omega
theorem len_le_sum {α : Type} (f : α → Nat) (hf : ∀ x, 1 ≤ f x) : ∀ (l : List α), l.length ≤ (l.map f).sum
 | [] => by simp
 | y :: r => by
   have := len_le_sum f hf r
   have := hf y
   simp only [List.map_cons, List.sum_cons, List.length_cons]
   omega
theorem sum_le {α : Type} (sz : α → Nat) : ∀ (l : List α) (ds : List Nat), l.length = ds.length → (∀ (i : Nat) (e : α) (d : Nat), l[i]? = some e → ds[i]? = some d → sz e ≤ d) → (l.map sz).sum ≤ ds.sum
 | [], _, _, _ => by simp
 | x :: r, [], hl, _ => by simp at hl
 | x :: r, d :: ds, hl, h => by
   have h0 := h 0 x d rfl rfl
   have h1 := sum_le sz r ds (by simpa using hl) fun i e d he hd => h (i + 1) e d (by simpa using he) (by simpa using hd)
   simp only [List.map_cons, List.sum_cons]
   omega
section
variable {H : Type} {enc : TypeId × Value → H} {w : World}
/-- a list that reads is a list of what its elements read as -/
theorem open_rowU {α : Type} [Inhabited α] {P : Program} (f : α → List Value) (c : Nat) (hc : ∀ x, (f x).length = c) (hc0 : 0 < c) (In : α → Prop) (sz : α → Nat) {sp : Nat → Bool} {hd : Bool} {t e : TypeId} (ht : P.underlying t = some (.slice e)) (hce : P.cellsOf e = c)
 {fuel : Nat} {cs : List Value} {x : DataW H × List MemPlace} (h : DataW.trod enc P w 0 sp hd fuel t cs = some x)
 (hel : ∀ m, m < fuel → ∀ cs x, DataW.trod enc P w 0 sp hd m e cs = some x → ∃ a, cs = f a ∧ In a ∧ sz a ≤ Rows.uptoBulk x.1) :
 ∃ (a : Option Addr) (cap : Nat) (l : List α), cs = [.slice a l.length cap] ∧ RowAt w (fun _ => True) a cap l.length (l.flatMap f) ∧ (∀ (i : Nat) (y : α), l[i]? = some y → In y) ∧ (l.map sz).sum + 1 ≤ Rows.uptoBulk x.1 := by
 rcases DataW.trod_slice ht h with ⟨e3, rfl⟩ | ⟨a, len, cap, elems, rest, n', rfl, e3, rfl, hb, hle, hcap, hlen, hel', hsp, hns⟩
 · refine ⟨none, 0, [], e3, ⟨Nat.le_refl _, by decide, fun _ => rfl, fun j u hj => by simp at hj⟩, fun i y hy => by simp at hy, ?_⟩
   simp [Rows.uptoBulk]
 · rw [hce] at hel'
   have hall : ∀ i, i < len → ∃ y : α, ∃ cs' d, w.cells? 0 (a.add (i * c)) c = some cs' ∧ elems[i]? = some d ∧ cs' = f y ∧ In y ∧ sz y ≤ Rows.uptoBulk d.1 := by
    intro i hi
    have h5 := hel' i hi
    rw [List.getElem?_eq_getElem (by omega : i < elems.length)] at h5
    obtain ⟨cs', hcc, ht'⟩ := Option.bind_eq_some_iff.1 h5
    obtain ⟨y, h1, h2, h3⟩ := hel n' (by omega) _ _ ht'
    exact ⟨y, cs', _, hcc, List.getElem?_eq_getElem (by omega), h1, h2, h3⟩
   obtain ⟨F, hF⟩ := Deep.choose_lt hall
   have hL : ((List.range len).map F).length = len := by simp
   have hget : ∀ i y, ((List.range len).map F)[i]? = some y → i < len ∧ y = F i := fun i y he => by
    have hi : i < len := by have := (List.getElem?_eq_some_iff.1 he).1; simpa using this
    refine ⟨hi, ?_⟩
    rw [List.getElem?_map, List.getElem?_range hi] at he
    exact (Option.some.inj he).symm
   refine ⟨some a, cap, (List.range len).map F, by rw [hL]; exact e3, ⟨by rw [hL]; exact hle, hcap, (fun h => by cases h), fun j u hj => ?_⟩, fun i y he => by
    obtain ⟨hi, rfl⟩ := hget i y he
    obtain ⟨_, _, _, _, _, h, _⟩ := hF i hi
    exact h, ?_⟩
   · have hjl : j < len * c := by
      have := (List.getElem?_eq_some_iff.1 hj).1
      rw [flat_lenN f c hc, hL] at this
      exact this
     have hi : j / c < len := by rw [Nat.div_lt_iff_lt_mul hc0]; exact hjl
     have hj' : j = j / c * c + j % c := by rw [Nat.mul_comm]; exact (Nat.div_add_mod j c).symm
     rw [hj', flat_at f c hc _ (j / c) (j % c) (F (j / c)) (by rw [List.getElem?_map, List.getElem?_range hi]; rfl) (Nat.mod_lt _ hc0)] at hj
     obtain ⟨cs', y, hcc, _, rfl, _, _⟩ := hF (j / c) hi
     have hcell := (cells_atN hcc).2 _ _ hj
     rw [Deep.add_add, ← hj'] at hcell
     obtain ⟨b, off, spot⟩ := a
     have hspot : spot = none := by
      obtain ⟨cs0, y0, hc0', _, rfl, _, _⟩ := hF 0 (Nat.lt_of_le_of_lt (Nat.zero_le _) hi)
      obtain ⟨u0, hu0⟩ : ∃ u0, (f (F 0))[0]? = some u0 := ⟨_, List.getElem?_eq_getElem (by rw [hc]; exact hc0)⟩
      simpa [Addr.add] using World.cell?_spot ((cells_atN hc0').2 0 u0 hu0)
     subst hspot
     exact ⟨b, off, rfl, trivial, by rw [← Go.WideShapes.add_plain]; exact hcell⟩
   · have hsz : (((List.range len).map F).map sz).sum ≤ ((elems.map (·.1)).map Rows.uptoBulk).sum := sum_le sz _ _ (by simp [hlen]) fun i y d he hd => by
      obtain ⟨hi, rfl⟩ := hget i y he
      obtain ⟨_, z, _, hy, _, _, hz⟩ := hF i hi
      rw [List.getElem?_map, List.getElem?_map, hy] at hd
      obtain rfl := Option.some.inj hd
      exact hz
     simp only [Rows.uptoBulk, bulkAll_sum]
     omega
def Fn.sz (f : Fn) : Nat := 1 + (f.code.map fun i : Ins => i.args.length).sum
theorem open_numsU (sp : Nat → Bool) (hd : Bool) (fuel : Nat) (cs : List Value) (x : DataW H × List MemPlace) (h : DataW.trod enc Tryd.prog w 0 sp hd fuel 40 cs = some x) :
 ∃ (a : Option Addr) (cap : Nat) (l : List Int), cs = [.slice a l.length cap] ∧ RowAt w (fun _ => True) a cap l.length (Qc l) ∧ (∀ y ∈ l, I64 y) ∧ l.length + 1 ≤ Rows.uptoBulk x.1 := by
 obtain ⟨a, cap, l, h1, h2, h3, h4⟩ := open_rowU (fun n : Int => [Value.int .i64 n]) 1 (fun _ => rfl) (by omega) I64 (fun _ => 1) Tryd.underlying40 cells1i h fun m _ cs x hx => by
  obtain ⟨n, e, rfl, hw⟩ := DataW.trod_int Tryd.underlying3 hx
  exact ⟨n, e, bounds_i64 hw, bulk_pos _⟩
 refine ⟨a, cap, l, h1, ?_, fun y hy => (by obtain ⟨i, hi⟩ := List.mem_iff_getElem?.1 hy; exact h3 i y hi), by have := len_le_sum (fun _ : Int => 1) (fun _ => Nat.le_refl _) l; omega⟩
 unfold Qc
 rw [List.map_eq_flatMap]
 exact h2
theorem open_strsU (sp : Nat → Bool) (hd : Bool) (fuel : Nat) (cs : List Value) (x : DataW H × List MemPlace) (h : DataW.trod enc Tryd.prog w 0 sp hd fuel 23 cs = some x) :
 ∃ (a : Option Addr) (cap : Nat) (l : List ByteArray), cs = [.slice a l.length cap] ∧ RowAt w (fun _ => True) a cap l.length (Ze l) ∧ (∀ y ∈ l, y.size ≤ maxLen) ∧ l.length + 1 ≤ Rows.uptoBulk x.1 := by
 obtain ⟨a, cap, l, h1, h2, h3, h4⟩ := open_rowU (fun n : ByteArray => [Value.string n]) 1 (fun _ => rfl) (by omega) (fun s => s.size ≤ maxLen) (fun _ => 1) Tryd.underlying23 cells1s h fun m _ cs x hx => by
  obtain ⟨n, e, rfl, hw⟩ := DataW.trod_string Tryd.underlying9 hx
  exact ⟨n, e, hw, bulk_pos _⟩
 refine ⟨a, cap, l, h1, ?_, fun y hy => (by obtain ⟨i, hi⟩ := List.mem_iff_getElem?.1 hy; exact h3 i y hi), by have := len_le_sum (fun _ : ByteArray => 1) (fun _ => Nat.le_refl _) l; omega⟩
 unfold Ze
 rw [List.map_eq_flatMap]
 exact h2
theorem open_insU (sp : Nat → Bool) (hd : Bool) (fuel : Nat) (cs : List Value) (x : DataW H × List MemPlace) (h : DataW.trod enc Tryd.prog w 0 sp hd fuel 44 cs = some x) :
 ∃ i : Ins, cs = i.vals ∧ Ins.In w (fun _ => True) i ∧ i.args.length ≤ Rows.uptoBulk x.1 := by
 obtain ⟨xs, n, hn, rfl, hl, hxl, hf⟩ := DataW.trod_struct Tryd.underlying44 h
 obtain ⟨c0, c1, c2, c3, c4, c5, rfl⟩ := sixN (hl.trans cellsI)
 obtain ⟨x0, x1, x2, x3, x4, x5, rfl⟩ := sixN hxl
 have h0 := hf 0 _ rfl
 have h1 := hf 1 _ rfl
 have h2 := hf 2 _ rfl
 have h3 := hf 3 _ rfl
 have h4 := hf 4 _ rfl
 have h5 := hf 5 _ rfl
 simp only [List.getElem?_cons_zero, List.getElem?_cons_succ] at h0 h1 h2 h3 h4 h5
 obtain ⟨k0, e0, rfl, w0⟩ := DataW.trod_int Tryd.underlying5 h0
 obtain ⟨k1, e1, rfl, w1⟩ := DataW.trod_int Tryd.underlying3 h1
 obtain ⟨k2, e2, rfl, w2⟩ := DataW.trod_int Tryd.underlying3 h2
 obtain ⟨k3, e3, rfl, w3⟩ := DataW.trod_int Tryd.underlying3 h3
 obtain ⟨k4, e4, rfl, w4⟩ := DataW.trod_int Tryd.underlying2 h4
 obtain ⟨a, cap, l, e5, r5, i5, z5⟩ := open_numsU sp hd _ _ _ h5
 obtain rfl := (List.cons.inj e0).1
 obtain rfl := (List.cons.inj e1).1
 obtain rfl := (List.cons.inj e2).1
 obtain rfl := (List.cons.inj e3).1
 obtain rfl := (List.cons.inj e4).1
 obtain rfl := (List.cons.inj e5).1
 exact ⟨⟨k0, k1, k2, k3, k4, a, cap, l⟩, rfl, ⟨bounds_u8 w0, bounds_i64 w1, bounds_i64 w2, bounds_i64 w3, bounds_i64 w4, r5, i5⟩, by
  simp only [List.map_cons, List.map_nil, Rows.uptoBulk, bulkAll_sum, List.sum_cons, List.sum_nil]
  show l.length ≤ _
  omega⟩
theorem open_fnU (sp : Nat → Bool) (hd : Bool) (fuel : Nat) (cs : List Value) (x : DataW H × List MemPlace) (h : DataW.trod enc Tryd.prog w 0 sp hd fuel 50 cs = some x) :
 ∃ i : Fn, cs = i.vals ∧ Fn.In w (fun _ => True) i ∧ i.sz ≤ Rows.uptoBulk x.1 := by
 obtain ⟨xs, n, hn, rfl, hl, hxl, hf⟩ := DataW.trod_struct Tryd.underlying50 h
 obtain ⟨c0, c1, c2, c3, c4, rfl⟩ := fiveN (hl.trans cellsF)
 obtain ⟨x0, x1, x2, x3, x4, rfl⟩ := fiveN hxl
 have h0 := hf 0 _ rfl
 have h1 := hf 1 _ rfl
 have h2 := hf 2 _ rfl
 have h3 := hf 3 _ rfl
 have h4 := hf 4 _ rfl
 simp only [List.getElem?_cons_zero, List.getElem?_cons_succ] at h0 h1 h2 h3 h4
 obtain ⟨k0, e0, rfl, w0⟩ := DataW.trod_string Tryd.underlying9 h0
 obtain ⟨k1, e1, rfl⟩ := DataW.trod_bool Tryd.underlying4 h1
 obtain ⟨k2, e2, rfl, w2⟩ := DataW.trod_int Tryd.underlying3 h2
 obtain ⟨k3, e3, rfl, w3⟩ := DataW.trod_int Tryd.underlying3 h3
 obtain ⟨a, cap, l, e4, r4, i4, z4⟩ := open_rowU Ins.vals 6 Ins.vals_len (by omega) (Ins.In w (fun _ => True)) (fun i : Ins => i.args.length) Tryd.underlying39 cellsI h4 fun m _ cs x hx => open_insU sp hd m cs x hx
 obtain rfl := (List.cons.inj e0).1
 obtain rfl := (List.cons.inj e1).1
 obtain rfl := (List.cons.inj e2).1
 obtain rfl := (List.cons.inj e3).1
 obtain rfl := (List.cons.inj e4).1
 exact ⟨⟨k0, k1, k2, k3, a, cap, l⟩, rfl, ⟨w0, bounds_i64 w2, bounds_i64 w3, r4, fun y hy => (by obtain ⟨i, hi⟩ := List.mem_iff_getElem?.1 hy; exact i4 i y hi)⟩, by
  simp only [List.map_cons, List.map_nil, Rows.uptoBulk, bulkAll_sum, List.sum_cons, List.sum_nil]
  show 1 + (l.map fun i : Ins => i.args.length).sum ≤ _
  omega⟩
theorem open_pgU (sp : Nat → Bool) (hd : Bool) (fuel : Nat) (cs : List Value) (x : DataW H × List MemPlace) (h : DataW.trod enc Tryd.prog w 0 sp hd fuel 26 cs = some x) :
 ∃ i : Pg, cs = i.vals ∧ Pg.In w (fun _ => True) i ∧ i.mems.length + i.locks.length + (i.funs.map Fn.sz).sum ≤ Rows.uptoBulk x.1 := by
 obtain ⟨xs, n, hn, rfl, hl, hxl, hf⟩ := DataW.trod_struct Tryd.underlying26 h
 obtain ⟨c0, c1, c2, rfl⟩ := three (hl.trans cellsP)
 obtain ⟨x0, x1, x2, rfl⟩ := three hxl
 have h0 := hf 0 _ rfl
 have h1 := hf 1 _ rfl
 have h2 := hf 2 _ rfl
 simp only [List.getElem?_cons_zero, List.getElem?_cons_succ] at h0 h1 h2
 obtain ⟨a, cap, l, e0, r0, i0, z0⟩ := open_rowU Mm.vals 3 Mm.vals_len (by omega) Mm.In (fun _ => 1) Tryd.underlying22 cellsM h0 fun m _ cs x hx => (by
  obtain ⟨i, q1, q2⟩ := open_mm sp hd m cs x hx
  exact ⟨i, q1, q2, bulk_pos _⟩)
 obtain ⟨a1, cap1, l1, e1, r1, i1, z1⟩ := open_strsU sp hd _ _ _ h1
 obtain ⟨a2, cap2, l2, e2, r2, i2, z2⟩ := open_rowU Fn.vals 5 Fn.vals_len (by omega) (Fn.In w (fun _ => True)) Fn.sz Tryd.underlying24 cellsF h2 fun m _ cs x hx => open_fnU sp hd m cs x hx
 obtain rfl := (List.cons.inj e0).1
 obtain rfl := (List.cons.inj e1).1
 obtain rfl := (List.cons.inj e2).1
 exact ⟨⟨a, cap, l, a1, cap1, l1, a2, cap2, l2⟩, rfl, ⟨r0, fun y hy => (by obtain ⟨i, hi⟩ := List.mem_iff_getElem?.1 hy; exact i0 i y hi), r1, i1, r2, fun y hy => (by obtain ⟨i, hi⟩ := List.mem_iff_getElem?.1 hy; exact i2 i y hi)⟩, by
  have := len_le_sum (fun _ : Mm => 1) (fun _ => Nat.le_refl _) l
  simp only [List.map_cons, List.map_nil, Rows.uptoBulk, bulkAll_sum, List.sum_cons, List.sum_nil]
  show l.length + l1.length + (l2.map Fn.sz).sum ≤ _
  omega⟩
end
theorem sml_of {p : Pg} (h : p.mems.length + p.locks.length + (p.funs.map Fn.sz).sum ≤ 1048576) : Sml p := by
 have h1 := len_le_sum Fn.sz (fun f => by unfold Fn.sz; omega) p.funs
 refine ⟨by omega, fun f hf i hi => ?_⟩
 have h2 := le_sum_mem Fn.sz p.funs f hf
 have h3 : i.args.length ≤ (f.code.map fun i : Ins => i.args.length).sum := le_sum_mem (fun i : Ins => i.args.length) f.code i hi
 have h4 : f.sz = 1 + (f.code.map fun i : Ins => i.args.length).sum := rfl
 omega
end Go.Proofs.YthiiahlgncngoaaDoorRR.Cd
namespace Go.Proofs.YthiiahlgncngoaaDoorRR.Cd
open Go Go.RowKit Go.ChangeShapes Go.WideShapes Go.ChangeAt
open Go.Proofs.YthiiahlgncngoaaDoorRR.Lx Go.Proofs.YthiiahlgncngoaaDoorRR.Tr
/-! ### Lists of literals -/
def litVal : Lit → Value
 | .bool b => .bool b
 | .int k n => .int k n
 | .string l => .string ⟨l.toArray⟩
 | _ => .bool false
theorem chunks {α : Type} (c : Nat) (g : α → List Value) : ∀ (rows : List α) (cs : List Value), cs.length = rows.length * c → (∀ i r, rows[i]? = some r → (cs.drop (i * c)).take c = g r) → cs = rows.flatMap g
 | [], cs, hl, _ => by
   have : cs.length = 0 := by simpa using hl
   rw [List.length_eq_zero_iff.1 this]; rfl
 | r :: rows, cs, hl, h => by
   have h0 := h 0 r rfl
   rw [Nat.zero_mul, List.drop_zero] at h0
   have hr := chunks c g rows (cs.drop c) (by rw [List.length_drop, hl, List.length_cons, Nat.succ_mul]; omega) (fun i r' hr' => by
    have := h (i + 1) r' (by simpa using hr')
    rw [List.drop_drop]
    rw [Nat.succ_mul] at this
    rw [show c + i * c = i * c + c by omega]
    exact this)
   rw [List.flatMap_cons, ← h0, ← hr, List.take_append_drop]
section
variable {H : Type} {enc : TypeId × Value → H} {P : Program} {w : World} {base : Nat} {sp : Nat → Bool} {held : Bool}
theorem cells_of_struct {t : TypeId} {fs : Array Field} {fuel : Nat} {cs : List Value} {ls : List Lit} {p : List MemPlace} (ht : P.underlying t = some (.struct fs)) (hct : P.cellsOf t = fs.size)
 (hfs : ∀ (i : Nat) (f : Field), fs[i]? = some f → f.offset = i ∧ P.cellsOf f.type = 1 ∧ (P.underlying f.type = some .bool ∨ (∃ k, P.underlying f.type = some (.int k)) ∨ P.underlying f.type = some .string))
 (h : DataW.trod enc P w base sp held fuel t cs = some (.agg (ls.map .lit), p)) : cs = ls.map litVal := by
 obtain ⟨xs, n, rfl, hx, hl, hxl, hf⟩ := DataW.trod_struct ht h
 have hxs : ls.map DataW.lit = xs.map (·.1) := by
  have := congrArg Prod.fst hx
  simpa using this
 have hll : ls.length = fs.size := by
  have := congrArg List.length hxs
  simp at this
  omega
 apply List.ext_getElem?
 intro i
 by_cases hi : i < fs.size
 · obtain ⟨h1, h2, h3⟩ := hfs i _ (Array.getElem?_eq_getElem hi)
   have h4 := hf i _ (Array.getElem?_eq_getElem hi)
   rw [h1, h2, List.getElem?_eq_getElem (by omega)] at h4
   have h5 : (ls.map DataW.lit)[i]? = (xs.map (·.1))[i]? := by rw [hxs]
   rw [List.getElem?_map, List.getElem?_map, List.getElem?_eq_getElem (by omega : i < ls.length), List.getElem?_eq_getElem (by omega : i < xs.length)] at h5
   simp only [Option.map_some, Option.some.injEq] at h5
   rw [List.getElem?_map, List.getElem?_eq_getElem (by omega : i < ls.length), Option.map_some]
   have hci : ∀ v, (cs.drop i).take 1 = [v] → cs[i]? = some v := fun v hv => by
    have := congrArg (·[0]?) hv
    simpa [List.getElem?_take, List.getElem?_drop] using this
   rcases h3 with h3 | ⟨k, h3⟩ | h3
   · obtain ⟨b, hb, hx2⟩ := DataW.trod_bool h3 h4
     rw [hx2] at h5
     rw [hci _ hb, DataW.lit.inj h5]
     rfl
   · obtain ⟨b, hb, hx2, _⟩ := DataW.trod_int h3 h4
     rw [hx2] at h5
     rw [hci _ hb, DataW.lit.inj h5]
     rfl
   · obtain ⟨b, hb, hx2, _⟩ := DataW.trod_string h3 h4
     rw [hx2] at h5
     rw [hci _ hb, DataW.lit.inj h5]
     rfl
 · rw [List.getElem?_eq_none (by omega), List.getElem?_eq_none (by simp; omega)]
theorem cells_of_structs {t e : TypeId} {fs : Array Field} {n fuel : Nat} {cs : List Value} {rows : List (List Lit)} {p : List MemPlace} (ht : P.underlying t = some (.array n e)) (he : P.underlying e = some (.struct fs)) (hce : P.cellsOf e = fs.size) (hct : P.cellsOf t = n * fs.size)
 (hfs : ∀ (i : Nat) (f : Field), fs[i]? = some f → f.offset = i ∧ P.cellsOf f.type = 1 ∧ (P.underlying f.type = some .bool ∨ (∃ k, P.underlying f.type = some (.int k)) ∨ P.underlying f.type = some .string))
 (h : DataW.trod enc P w base sp held fuel t cs = some (.agg (rows.map fun r => .agg (r.map .lit)), p)) : cs = rows.flatMap (·.map litVal) := by
 obtain ⟨xs, m, rfl, hx, hl, hxl, hf⟩ := DataW.trod_array ht h
 have hxs : (rows.map fun r => (DataW.agg (r.map .lit) : DataW H)) = xs.map (·.1) := by
  have := congrArg Prod.fst hx
  simpa using this
 have hll : rows.length = n := by
  have := congrArg List.length hxs
  simp at this
  omega
 refine chunks fs.size _ rows cs (by rw [hl, hct, hll]) fun i r hr => ?_
 have hi : i < n := by rw [← hll]; exact (List.getElem?_eq_some_iff.1 hr).1
 have h4 := hf i hi
 rw [hce, List.getElem?_eq_getElem (by omega : i < xs.length)] at h4
 have h5 : (rows.map fun r => (DataW.agg (r.map .lit) : DataW H))[i]? = (xs.map (·.1))[i]? := by rw [hxs]
 rw [List.getElem?_map, List.getElem?_map, hr, List.getElem?_eq_getElem (by omega : i < xs.length)] at h5
 simp only [Option.map_some, Option.some.injEq] at h5
 generalize xs[i] = y at h4 h5
 obtain ⟨y1, y2⟩ := y
 simp only at h5
 subst h5
 exact cells_of_struct he hce hfs h4
/-- an array of texts that reads as a list of texts holds them, cell for cell -/
theorem cells_of_texts {fuel : Nat} {t e : TypeId} {n : Nat} {cs : List Value} {zs : List (List UInt8)} {p : List MemPlace}
 (ht : P.underlying t = some (.array n e)) (he : P.underlying e = some .string) (hce : P.cellsOf e = 1) (hct : P.cellsOf t = n)
 (h : DataW.trod enc P w base sp held fuel t cs = some (.agg (zs.map fun z => .lit (.string z)), p)) : cs = zs.map fun z => Value.string ⟨z.toArray⟩ := by
 cases fuel with
 | zero => simp [DataW.trod] at h
 | succ fuel =>
   simp only [DataW.trod, ht, hce, hct, Nat.mul_one] at h
   split at h
   · rename_i hl
     obtain ⟨xs, hm, hx⟩ := Option.map_eq_some_iff.1 h
     have hxs : xs.map (·.1) = zs.map fun z => (DataW.lit (.string z) : DataW H) := by
      have := congrArg Prod.fst hx
      simpa using this
     have hxl : xs.length = n := by simpa using Lib.mapM_length hm
     have hzl : zs.length = n := by
      have := congrArg List.length hxs
      simp at this
      omega
     apply List.ext_getElem?
     intro i
     by_cases hi : i < n
     · obtain ⟨b, hb, hf⟩ := Lib.mapM_at hm i i (by simp [hi])
       obtain ⟨z, hc, rfl, _⟩ := DataW.trod_string he hf
       have h1 : cs[i]? = some (.string z) := by
        have := congrArg (·[0]?) hc
        simpa [List.getElem?_take, List.getElem?_drop] using this
       have h2 : (xs.map (·.1))[i]? = some (DataW.lit (.string z.data.toList) : DataW H) := by simp [hb]
       rw [hxs] at h2
       simp only [List.getElem?_map, Option.map_eq_some_iff, DataW.lit.injEq, Lit.string.injEq] at h2
       obtain ⟨z', hz', hz2⟩ := h2
       rw [h1, List.getElem?_map, hz', hz2]
       simp only [Option.map_some]
     · rw [List.getElem?_eq_none (by omega), List.getElem?_eq_none (by simp; omega)]
   · cases h
end
/-! ### The tables -/
theorem own : ownKnob Tryd.prog.godebug = none := by kernel_rfl
theorem gSig : Tryd.prog.globalNamed "bobbin/lex.signs" = some 1 := by kernel_rfl
theorem gSigType : (Tryd.prog.globals[1]?).map (·.type) = some 135 := by kernel_rfl
theorem gOp : Tryd.prog.globalNamed "bobbin/code.operations" = some 0 := by kernel_rfl
theorem gOpType : (Tryd.prog.globals[0]?).map (·.type) = some 128 := by kernel_rfl
theorem cell1_b : Tryd.prog.cellsOf 4 = 1 := by kernel_rfl
theorem cell1_s : Tryd.prog.cellsOf 9 = 1 := by kernel_rfl
theorem cell1_u : Tryd.prog.cellsOf 105 = 1 := by kernel_rfl
def opRows : List (List Lit) := (List.range 14).map fun (i : Nat) => [.bool (hasR (i : Int)), .bool (hasA (i : Int)), .bool (hasB (i : Int)), .bool (hasF (i : Int)), .int .u8 (numK (i : Int))]
theorem opRows_laid : (Rows.laid_bobbin_code_operations : DataW Unit) = .agg (opRows.map fun r => .agg (r.map .lit)) := by kernel_rfl
theorem opRows_vals : (opRows.flatMap (·.map litVal)) = opVals.toList := by kernel_rfl
/-- a variable's cells are its block's -/
theorem block_of {W : World} {n : String} {g : Nat} {cs : Array Value} {vs : Array Value} (hg : Tryd.prog.globalNamed n = some g) (hv : W.var? Tryd.prog n = some cs) (h : cs.toList = vs.toList) : ∃ t fr, W.heap[g]? = some (.cells vs t fr) := by
 unfold World.var? at hv
 rw [hg] at hv
 simp only [Option.bind_some] at hv
 cases hh : W.heap[g]? with
 | none => rw [hh] at hv; cases hv
 | some o =>
   rw [hh] at hv
   cases o with
   | cells c t fr =>
     have hc : c = cs := Option.some.inj hv
     exact ⟨t, fr, by rw [hc, Array.toList_inj.1 h]⟩
   | _ => cases hv
theorem tab_of {W : World} (h : ∃ t fr, W.heap[0]? = some (.cells opVals t fr)) : OpTab W := fun j v hv => by
 obtain ⟨t, fr, hg⟩ := h
 simp only [World.cell?, hg]
 simpa using hv
theorem ops_of {W : World} {fuel : Nat} {t : TypeId} {cs : Array Value} {p : List MemPlace} {sp : Nat → Bool} {hd : Bool} {enc : TypeId × Value → Unit} (ht : t = 128) (hv : W.var? Tryd.prog "bobbin/code.operations" = some cs) (h : DataW.trod enc Tryd.prog W 0 sp hd fuel t cs.toList = some (Rows.laid_bobbin_code_operations, p)) : OpTab W := by
 subst ht
 rw [opRows_laid] at h
 have e1 := (cells_of_structs Tryd.underlying128 Tryd.underlying107 (by kernel_rfl) (by kernel_rfl) (fun i f hf => by
  have hi : i < 5 := by simpa using (Array.getElem?_eq_some_iff.1 hf).1
  rcases (show i = 0 ∨ i = 1 ∨ i = 2 ∨ i = 3 ∨ i = 4 by omega) with rfl | rfl | rfl | rfl | rfl <;> (cases hf; first | exact ⟨rfl, cell1_b, Or.inl Tryd.underlying4⟩ | exact ⟨rfl, cell1_u, Or.inr (Or.inl ⟨_, Tryd.underlying105⟩)⟩)) h).trans opRows_vals
 exact tab_of (block_of gOp hv e1)
def laidRow2 : List (String × DataW Unit) := [("bobbin/lex.signs", Rows.laid_bobbin_lex_signs), ("bobbin/code.operations", Rows.laid_bobbin_code_operations)]
theorem two_of_laid {W : World} (h : laidMet Tryd.prog laidRow2 W) : OpTab W ∧ SignsIn W := by
 obtain ⟨ps, ⟨g0, t0, c0, f0, p0, q0, hg0, ht0, hv0, hd0, ⟨g1, t1, c1, f1, p1, q1, hg1, ht1, hv1, hd1, _, _⟩, _⟩, _⟩ := h
 obtain rfl := Option.some.inj (gSig.symm.trans hg0)
 obtain rfl := Option.some.inj (gSigType.symm.trans ht0)
 obtain rfl := Option.some.inj (gOp.symm.trans hg1)
 obtain rfl := Option.some.inj (gOpType.symm.trans ht1)
 have e0 := cells_of_texts (zs := signs) Tryd.underlying135 Tryd.underlying9 cell1_s (by kernel_rfl) hd0
 have s0 : SignsIn W := block_of gSig hv0 e0
 exact ⟨ops_of rfl hv1 hd1, s0⟩
def laidIn (vs : Array Value) : Obj → Obj
 | .cells _ t frozen => .cells vs t frozen
 | o => o
/-- A WORLD FOR THE WITNESS: the settled one, the lists holding what their initialisers lay. -/
noncomputable def laidWorld (os : Os) : World :=
 { World.holding Tryd.prog os ⟨#[], #[], []⟩ with
   heap := ((World.holding Tryd.prog os ⟨#[], #[], []⟩).heap.modify 1 (laidIn sgVals)).modify 0 (laidIn opVals) }
theorem laid_met2 (os : Os) (args : Array Value) : laidMet Tryd.prog laidRow2 ((laidWorld os).forCall (fun _ _ => 0) ⟨#[], args, []⟩).memory :=
 laidMet_of_run' 8 (by kernel_rfl) (by kernel_rfl)
end Go.Proofs.YthiiahlgncngoaaDoorRR.Cd
