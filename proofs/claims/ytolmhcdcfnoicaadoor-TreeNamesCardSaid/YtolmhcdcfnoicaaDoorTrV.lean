/- An argument that reads as an expression is one that lies in memory, no larger than the reading; and it reads on so in any world above. Conditions: none. -/
import Derived.Test.YtolmhcdcfnoicaaDoorTrU
namespace Go.Proofs.YtolmhcdcfnoicaaDoor.Tr
open Go Go.RowKit Go.ChangeShapes Go.WideShapes Go.ChangeAt
open Go.Proofs.YtolmhcdcfnoicaaDoor.Lx

instance : Inhabited Ex := ⟨.mk 0 ⟨#[]⟩ 0 none 0 [] 0⟩

theorem exIn_all {w : World} {S : Nat → Prop} : ∀ (l : List Ex), (∀ (i : Nat) (e : Ex), l[i]? = some e → Ex.In w S e) → Ex.InL w S l
  | [], _ => by unfold Ex.InL; trivial
  | x :: r, h => by
    unfold Ex.InL
    exact ⟨h 0 x rfl, exIn_all r fun i e he => h (i + 1) e (by simpa using he)⟩

theorem exSz_le : ∀ (l : List Ex) (ds : List Nat), l.length = ds.length → (∀ (i : Nat) (e : Ex) (d : Nat), l[i]? = some e → ds[i]? = some d → e.sz ≤ d) → Ex.szL l ≤ ds.sum
  | [], _, _, _ => by unfold Ex.szL; omega
  | x :: r, [], hl, _ => by simp at hl
  | x :: r, d :: ds, hl, h => by
    have h0 := h 0 x d rfl rfl
    have h1 := exSz_le r ds (by simpa using hl) fun i e d' he hd => h (i + 1) e d' (by simpa using he) (by simpa using hd)
    unfold Ex.szL
    rw [List.sum_cons]
    omega

theorem bulkAll_sum {H : Type} : ∀ l : List (DataW H), Rows.uptoBulkAll l = (l.map Rows.uptoBulk).sum
  | [] => rfl
  | d :: r => by
    rw [Rows.uptoBulkAll, bulkAll_sum r, List.map_cons, List.sum_cons]

theorem cells_at {w : World} {base : Nat} {a : Addr} {n : Nat} {cs : List Value} (h : w.cells? base a n = some cs) : cs.length = n ∧ ∀ j u, cs[j]? = some u → w.cell? (a.add j) = some u := by
  unfold World.cells? at h
  split at h
  · have hl : cs.length = n := by simpa using Lib.mapM_length h
    refine ⟨hl, fun j u hu => ?_⟩
    have hj : j < n := by rw [← hl]; exact (List.getElem?_eq_some_iff.1 hu).1
    obtain ⟨b, hb, hf⟩ := Lib.mapM_at h j j (by simp [hj])
    rw [hf]
    rw [hb] at hu
    exact hu
  · cases h

theorem exCells_len : ∀ l : List Ex, (exCells l).length = l.length * 5
  | [] => rfl
  | e :: r => by
    show (Ex.vals e ++ exCells r).length = _
    rw [List.length_append, Ex.vals_len, exCells_len r, List.length_cons]
    omega
theorem five {α : Type} {l : List α} (h : l.length = 5) : ∃ a b c d e, l = [a, b, c, d, e] := by
  match l, h with
  | [a, b, c, d, e], _ => exact ⟨a, b, c, d, e, rfl⟩

theorem cell1_k : Tryd.prog.cellsOf 5 = 1 := by kernel_rfl
theorem cell1_a : Tryd.prog.cellsOf 23 = 1 := by kernel_rfl
theorem cells5e : Tryd.prog.cellsOf 25 = 5 := by kernel_rfl

section
variable {H : Type} {enc : TypeId × Value → H} {w : World}

theorem open_ex (sp : Nat → Bool) (hd : Bool) : ∀ (fuel : Nat) (cs : List Value) (x : DataW H × List MemPlace), DataW.trod enc Tryd.prog w 0 sp hd fuel 25 cs = some x →
    ∃ e : Ex, cs = e.vals ∧ Ex.In w (fun _ => True) e ∧ e.sz ≤ Rows.uptoBulk x.1 := by
  intro fuel
  induction fuel using Nat.strongRecOn with
  | ind fuel ih =>
    intro cs x h
    obtain ⟨xs, n, rfl, rfl, hl, hxl, hf⟩ := DataW.trod_struct Tryd.underlying25 h
    obtain ⟨c0, c1, c2, c3, c4, rfl⟩ := five (hl.trans cells5e)
    obtain ⟨x0, x1, x2, x3, x4, rfl⟩ := five hxl
    have h0 := hf 0 _ rfl
    have h1 := hf 1 _ rfl
    have h2 := hf 2 _ rfl
    have h3 := hf 3 _ rfl
    have h4 := hf 4 _ rfl
    simp only [List.getElem?_cons_zero, List.getElem?_cons_succ] at h0 h1 h2 h3 h4
    obtain ⟨k, e0, rfl, w0⟩ := DataW.trod_int Tryd.underlying5 h0
    obtain ⟨s, e1, rfl, w1⟩ := DataW.trod_string Tryd.underlying9 h1
    obtain ⟨m, e2, rfl, w2⟩ := DataW.trod_int Tryd.underlying2 h2
    obtain ⟨q, e4, rfl, w4⟩ := DataW.trod_int Tryd.underlying3 h4
    obtain rfl := (List.cons.inj e0).1
    obtain rfl := (List.cons.inj e1).1
    obtain rfl := (List.cons.inj e2).1
    obtain rfl := (List.cons.inj e4).1
    have hk : U8 k := bounds_u8 w0
    have hm : I64 m := bounds_i64 w2
    have hq : I64 q := bounds_i64 w4
    rcases DataW.trod_slice Tryd.underlying23 h3 with ⟨e3, rfl⟩ | ⟨a, len, cap, elems, rest, n', rfl, e3, rfl, hb, hle, hcap, hlen, hel, hsp, hns⟩
    · obtain rfl := (List.cons.inj e3).1
      refine ⟨.mk k s m none 0 [] q, rfl, ?_, ?_⟩
      · unfold Ex.In Ex.InL
        exact ⟨hk, w1, hm, hq, ⟨Nat.le_refl _, by decide, fun _ => rfl, fun j u hj => by simp [exCells] at hj⟩, trivial⟩
      · unfold Ex.sz Ex.szL
        simp only [List.map_cons, List.map_nil, Rows.uptoBulk, Rows.uptoBulkAll]
        omega
    · obtain rfl := (List.cons.inj e3).1
      rw [cells5e] at hel
      have hall : ∀ i, i < len → ∃ e : Ex, ∃ cs' y, w.cells? 0 (a.add (i * 5)) 5 = some cs' ∧ elems[i]? = some y ∧ cs' = e.vals ∧ Ex.In w (fun _ => True) e ∧ e.sz ≤ Rows.uptoBulk y.1 := by
        intro i hi
        have h5 := hel i hi
        rw [List.getElem?_eq_getElem (by omega : i < elems.length)] at h5
        obtain ⟨cs', hc, ht⟩ := Option.bind_eq_some_iff.1 h5
        obtain ⟨e, he1, he2, he3⟩ := ih n' (by omega) _ _ ht
        exact ⟨e, cs', _, hc, List.getElem?_eq_getElem (by omega), he1, he2, he3⟩
      obtain ⟨F, hF⟩ := Deep.choose_lt hall
      have hL : ((List.range len).map F).length = len := by simp
      have hget : ∀ i e, ((List.range len).map F)[i]? = some e → i < len ∧ e = F i := fun i e he => by
        have hi : i < len := by have := (List.getElem?_eq_some_iff.1 he).1; simpa using this
        refine ⟨hi, ?_⟩
        rw [List.getElem?_map, List.getElem?_range hi] at he
        exact (Option.some.inj he).symm
      refine ⟨.mk k s m (some a) cap ((List.range len).map F) q, by
        show _ = [Value.int .u8 k, .string s, .int .i64 m, .slice (some a) ((List.range len).map F).length cap, .int .i64 q]
        rw [hL], ?_, ?_⟩
      · unfold Ex.In
        refine ⟨hk, w1, hm, hq, ⟨by rw [hL]; exact hle, hcap, (fun h => by cases h), fun j u hj => ?_⟩, exIn_all _ fun i e he => by
          obtain ⟨hi, rfl⟩ := hget i e he
          obtain ⟨_, _, _, _, _, h, _⟩ := hF i hi
          exact h⟩
        have hjl : j < len * 5 := by
          have := (List.getElem?_eq_some_iff.1 hj).1
          rw [exCells_len, hL] at this
          omega
        have hi : j / 5 < len := by omega
        have hj' : j = j / 5 * 5 + j % 5 := by omega
        rw [hj', exCells, flat_at Ex.vals 5 Ex.vals_len _ (j / 5) (j % 5) (F (j / 5)) (by rw [List.getElem?_map, List.getElem?_range hi]; rfl) (Nat.mod_lt _ (by omega))] at hj
        obtain ⟨cs', y, hc, _, rfl, _, _⟩ := hF (j / 5) hi
        have hcell := (cells_at hc).2 _ _ hj
        rw [Deep.add_add, ← hj'] at hcell
        obtain ⟨b, off, spot⟩ := a
        have hspot : spot = none := by
          obtain ⟨cs0, y0, hc0, _, rfl, _, _⟩ := hF 0 (by omega)
          obtain ⟨u0, hu0⟩ : ∃ u0, (F 0).vals[0]? = some u0 := ⟨_, List.getElem?_eq_getElem (by rw [Ex.vals_len]; omega)⟩
          simpa [Addr.add] using World.cell?_spot ((cells_at hc0).2 0 u0 hu0)
        subst hspot
        exact ⟨b, off, rfl, trivial, by rw [← Go.WideShapes.add_plain]; exact hcell⟩
      · have hsz : Ex.szL ((List.range len).map F) ≤ ((elems.map (·.1)).map Rows.uptoBulk).sum := exSz_le _ _ (by simp [hlen]) fun i e d he hd => by
          obtain ⟨hi, rfl⟩ := hget i e he
          obtain ⟨_, y, _, hy, _, _, hz⟩ := hF i hi
          rw [List.getElem?_map, List.getElem?_map, hy] at hd
          obtain rfl := Option.some.inj hd
          exact hz
        unfold Ex.sz
        simp only [List.map_cons, List.map_nil, Rows.uptoBulk, bulkAll_sum, List.sum_cons, List.sum_nil]
        omega
end
end Go.Proofs.YtolmhcdcfnoicaaDoor.Tr
