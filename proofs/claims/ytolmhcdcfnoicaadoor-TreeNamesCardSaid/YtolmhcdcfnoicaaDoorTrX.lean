/- Arguments that read as statements, as declarations, are such that lie in memory, no larger than the reading. Conditions: none. -/
import Derived.Test.YtolmhcdcfnoicaaDoorTrV
import Derived.Test.YtolmhcdcfnoicaaDoorTrT
namespace Go.Proofs.YtolmhcdcfnoicaaDoor.Tr
open Go Go.RowKit Go.ChangeShapes Go.WideShapes Go.ChangeAt Go.ChangeMaps
open Go.Proofs.YtolmhcdcfnoicaaDoor.Lx

instance : Inhabited St := ⟨.mk 0 ⟨#[]⟩ ⟨#[]⟩ false none 0 [] none 0 [] none 0 [] 0⟩
instance : Inhabited De := ⟨⟨0, ⟨#[]⟩, 0, none, 0, [], none, 0, [], 0⟩⟩
theorem six {α : Type} {l : List α} (h : l.length = 6) : ∃ a b c d e f, l = [a, b, c, d, e, f] := by
  match l, h with
  | [a, b, c, d, e, f], _ => exact ⟨a, b, c, d, e, f, rfl⟩
theorem eight {α : Type} {l : List α} (h : l.length = 8) : ∃ a b c d e f g i, l = [a, b, c, d, e, f, g, i] := by
  match l, h with
  | [a, b, c, d, e, f, g, i], _ => exact ⟨a, b, c, d, e, f, g, i, rfl⟩
theorem flat_len {α : Type} (f : α → List Value) (c : Nat) (hc : ∀ x, (f x).length = c) : ∀ l : List α, (l.flatMap f).length = l.length * c
  | [] => by simp
  | e :: r => by
    rw [List.flatMap_cons, List.length_append, hc, flat_len f c hc r, List.length_cons, Nat.succ_mul, Nat.add_comm]
theorem sum_le {α : Type} (sz : α → Nat) : ∀ (l : List α) (ds : List Nat), l.length = ds.length → (∀ (i : Nat) (e : α) (d : Nat), l[i]? = some e → ds[i]? = some d → sz e ≤ d) → (l.map sz).sum ≤ ds.sum
  | [], _, _, _ => by simp
  | x :: r, [], hl, _ => by simp at hl
  | x :: r, d :: ds, hl, h => by
    have h0 := h 0 x d rfl rfl
    have h1 := sum_le sz r ds (by simpa using hl) fun i e d he hd => h (i + 1) e d (by simpa using he) (by simpa using hd)
    simp only [List.map_cons, List.sum_cons]
    omega

section
variable {H : Type} {enc : TypeId × Value → H} {w : World}

/-- a list that reads is a list of what its elements read as -/
theorem open_row {α : Type} [Inhabited α] {P : Program} (f : α → List Value) (c : Nat) (hc : ∀ x, (f x).length = c) (hc0 : 0 < c) (In : α → Prop) (sz : α → Nat) {sp : Nat → Bool} {hd : Bool} {t e : TypeId} (ht : P.underlying t = some (.slice e)) (hce : P.cellsOf e = c)
    {fuel : Nat} {cs : List Value} {x : DataW H × List MemPlace} (h : DataW.trod enc P w 0 sp hd fuel t cs = some x)
    (hel : ∀ m, m < fuel → ∀ cs x, DataW.trod enc P w 0 sp hd m e cs = some x → ∃ a, cs = f a ∧ In a ∧ sz a ≤ Rows.uptoBulk x.1) :
    ∃ (a : Option Addr) (cap : Nat) (l : List α), cs = [.slice a l.length cap] ∧ RowAt w (fun _ => True) a cap l.length (l.flatMap f) ∧ (∀ (i : Nat) (y : α), l[i]? = some y → In y) ∧ (l.map sz).sum + 1 ≤ Rows.uptoBulk x.1 := by
  rcases DataW.trod_slice ht h with ⟨e3, rfl⟩ | ⟨a, len, cap, elems, rest, n', rfl, e3, rfl, hb, hle, hcap, hlen, hel', hsp, hns⟩
  · refine ⟨none, 0, [], e3, ⟨Nat.le_refl _, by decide, fun _ => rfl, fun j u hj => by simp at hj⟩, fun i y hy => by simp at hy, ?_⟩
    simp [Rows.uptoBulk]
  · rw [hce] at hel'
    have hall : ∀ i, i < len → ∃ y : α, ∃ cs' d, w.cells? 0 (a.add (i * c)) c = some cs' ∧ elems[i]? = some d ∧ cs' = f y ∧ In y ∧ sz y ≤ Rows.uptoBulk d.1 := by
      intro i hi
      have h5 := hel' i hi
      rw [List.getElem?_eq_getElem (by omega : i < elems.length)] at h5
      obtain ⟨cs', hcc, ht'⟩ := Option.bind_eq_some_iff.1 h5
      obtain ⟨y, h1, h2, h3⟩ := hel n' (by omega) _ _ ht'
      exact ⟨y, cs', _, hcc, List.getElem?_eq_getElem (by omega), h1, h2, h3⟩
    obtain ⟨F, hF⟩ := Deep.choose_lt hall
    have hL : ((List.range len).map F).length = len := by simp
    have hget : ∀ i y, ((List.range len).map F)[i]? = some y → i < len ∧ y = F i := fun i y he => by
      have hi : i < len := by have := (List.getElem?_eq_some_iff.1 he).1; simpa using this
      refine ⟨hi, ?_⟩
      rw [List.getElem?_map, List.getElem?_range hi] at he
      exact (Option.some.inj he).symm
    refine ⟨some a, cap, (List.range len).map F, by rw [hL]; exact e3, ⟨by rw [hL]; exact hle, hcap, (fun h => by cases h), fun j u hj => ?_⟩, fun i y he => by
      obtain ⟨hi, rfl⟩ := hget i y he
      obtain ⟨_, _, _, _, _, h, _⟩ := hF i hi
      exact h, ?_⟩
    · have hjl : j < len * c := by
        have := (List.getElem?_eq_some_iff.1 hj).1
        rw [flat_len f c hc, hL] at this
        exact this
      have hi : j / c < len := by rw [Nat.div_lt_iff_lt_mul hc0]; exact hjl
      have hj' : j = j / c * c + j % c := by rw [Nat.mul_comm]; exact (Nat.div_add_mod j c).symm
      rw [hj', flat_at f c hc _ (j / c) (j % c) (F (j / c)) (by rw [List.getElem?_map, List.getElem?_range hi]; rfl) (Nat.mod_lt _ hc0)] at hj
      obtain ⟨cs', y, hcc, _, rfl, _, _⟩ := hF (j / c) hi
      have hcell := (cells_at hcc).2 _ _ hj
      rw [Deep.add_add, ← hj'] at hcell
      obtain ⟨b, off, spot⟩ := a
      have hspot : spot = none := by
        obtain ⟨cs0, y0, hc0', _, rfl, _, _⟩ := hF 0 (Nat.lt_of_le_of_lt (Nat.zero_le _) hi)
        obtain ⟨u0, hu0⟩ : ∃ u0, (f (F 0))[0]? = some u0 := ⟨_, List.getElem?_eq_getElem (by rw [hc]; exact hc0)⟩
        simpa [Addr.add] using World.cell?_spot ((cells_at hc0').2 0 u0 hu0)
      subst hspot
      exact ⟨b, off, rfl, trivial, by rw [← Go.WideShapes.add_plain]; exact hcell⟩
    · have hsz : (((List.range len).map F).map sz).sum ≤ ((elems.map (·.1)).map Rows.uptoBulk).sum := sum_le sz _ _ (by simp [hlen]) fun i y d he hd => by
        obtain ⟨hi, rfl⟩ := hget i y he
        obtain ⟨_, z, _, hy, _, _, hz⟩ := hF i hi
        rw [List.getElem?_map, List.getElem?_map, hy] at hd
        obtain rfl := Option.some.inj hd
        exact hz
      simp only [Rows.uptoBulk, bulkAll_sum]
      omega

theorem stCells_eq (l : List St) : stCells l = l.flatMap St.vals := rfl
theorem exSz_sum : ∀ l : List Ex, Ex.szL l = (l.map Ex.sz).sum
  | [] => by unfold Ex.szL; rfl
  | e :: r => by unfold Ex.szL; rw [exSz_sum r]; simp
theorem stSz_sum : ∀ l : List St, St.szL l = (l.map St.sz).sum
  | [] => by unfold St.szL; rfl
  | e :: r => by unfold St.szL; rw [stSz_sum r]; simp
theorem stIn_all {w : World} {S : Nat → Prop} : ∀ (l : List St), (∀ (i : Nat) (e : St), l[i]? = some e → St.In w S e) → St.InL w S l
  | [], _ => by unfold St.InL; trivial
  | x :: r, h => by
    unfold St.InL
    exact ⟨h 0 x rfl, stIn_all r fun i e he => h (i + 1) e (by simpa using he)⟩
theorem cells8s : Tryd.prog.cellsOf 38 = 8 := by kernel_rfl
theorem cells6d : Tryd.prog.cellsOf 40 = 6 := by kernel_rfl
theorem cell1_bo : Tryd.prog.cellsOf 4 = 1 := by kernel_rfl
theorem cell1_st : Tryd.prog.cellsOf 9 = 1 := by kernel_rfl

theorem open_exL (sp : Nat → Bool) (hd : Bool) (fuel : Nat) (cs : List Value) (x : DataW H × List MemPlace) (h : DataW.trod enc Tryd.prog w 0 sp hd fuel 23 cs = some x) :
    ∃ (a : Option Addr) (cap : Nat) (l : List Ex), cs = [.slice a l.length cap] ∧ RowAt w (fun _ => True) a cap l.length (exCells l) ∧ Ex.InL w (fun _ => True) l ∧ Ex.szL l + 1 ≤ Rows.uptoBulk x.1 := by
  obtain ⟨a, cap, l, h1, h2, h3, h4⟩ := open_row Ex.vals 5 Ex.vals_len (by omega) (Ex.In w (fun _ => True)) Ex.sz Tryd.underlying23 cells5e h fun m _ cs x hx => open_ex sp hd m cs x hx
  exact ⟨a, cap, l, h1, h2, exIn_all l h3, by rw [exSz_sum]; exact h4⟩

theorem open_st (sp : Nat → Bool) (hd : Bool) : ∀ (fuel : Nat) (cs : List Value) (x : DataW H × List MemPlace), DataW.trod enc Tryd.prog w 0 sp hd fuel 38 cs = some x →
    ∃ e : St, cs = e.vals ∧ St.In w (fun _ => True) e ∧ e.sz ≤ Rows.uptoBulk x.1 := by
  intro fuel
  induction fuel using Nat.strongRecOn with
  | ind fuel ih =>
    intro cs x h
    obtain ⟨xs, n, hn, rfl, hl, hxl, hf⟩ := DataW.trod_struct Tryd.underlying38 h
    obtain ⟨c0, c1, c2, c3, c4, c5, c6, c7, rfl⟩ := eight (hl.trans cells8s)
    obtain ⟨x0, x1, x2, x3, x4, x5, x6, x7, rfl⟩ := eight hxl
    have h0 := hf 0 _ rfl
    have h1 := hf 1 _ rfl
    have h2 := hf 2 _ rfl
    have h3 := hf 3 _ rfl
    have h4 := hf 4 _ rfl
    have h5 := hf 5 _ rfl
    have h6 := hf 6 _ rfl
    have h7 := hf 7 _ rfl
    simp only [List.getElem?_cons_zero, List.getElem?_cons_succ] at h0 h1 h2 h3 h4 h5 h6 h7
    obtain ⟨k, e0, rfl, w0⟩ := DataW.trod_int Tryd.underlying5 h0
    obtain ⟨s, e1, rfl, w1⟩ := DataW.trod_string Tryd.underlying9 h1
    obtain ⟨s2, e2, rfl, w2⟩ := DataW.trod_string Tryd.underlying9 h2
    obtain ⟨nw, e3, rfl⟩ := DataW.trod_bool Tryd.underlying4 h3
    obtain ⟨q, e7, rfl, w7⟩ := DataW.trod_int Tryd.underlying3 h7
    obtain rfl := (List.cons.inj e0).1
    obtain rfl := (List.cons.inj e1).1
    obtain rfl := (List.cons.inj e2).1
    obtain rfl := (List.cons.inj e3).1
    obtain rfl := (List.cons.inj e7).1
    have hk : U8 k := bounds_u8 w0
    have hq : I64 q := bounds_i64 w7
    obtain ⟨a4, p4, l4, e4, r4, i4, z4⟩ := open_exL sp hd _ _ _ h4
    obtain ⟨a5, p5, l5, e5, r5, i5, z5⟩ := open_row St.vals 8 St.vals_len (by omega) (St.In w (fun _ => True)) St.sz Tryd.underlying36 cells8s h5 fun m hm cs x hx => ih m (by omega) cs x hx
    obtain ⟨a6, p6, l6, e6, r6, i6, z6⟩ := open_row St.vals 8 St.vals_len (by omega) (St.In w (fun _ => True)) St.sz Tryd.underlying36 cells8s h6 fun m hm cs x hx => ih m (by omega) cs x hx
    obtain rfl := (List.cons.inj e4).1
    obtain rfl := (List.cons.inj e5).1
    obtain rfl := (List.cons.inj e6).1
    refine ⟨.mk k s s2 nw a4 p4 l4 a5 p5 l5 a6 p6 l6 q, rfl, ?_, ?_⟩
    · unfold St.In
      exact ⟨hk, w1, w2, hq, r4, i4, r5, stIn_all _ i5, r6, stIn_all _ i6⟩
    · unfold St.sz
      rw [stSz_sum, stSz_sum]
      simp only [List.map_cons, List.map_nil, Rows.uptoBulk, bulkAll_sum, List.sum_cons, List.sum_nil]
      omega

theorem open_de (sp : Nat → Bool) (hd : Bool) (fuel : Nat) (cs : List Value) (x : DataW H × List MemPlace) (h : DataW.trod enc Tryd.prog w 0 sp hd fuel 40 cs = some x) :
    ∃ e : De, cs = e.vals ∧ De.In w (fun _ => True) e ∧ 1 + St.szL e.body ≤ Rows.uptoBulk x.1 := by
  obtain ⟨xs, n, hn, rfl, hl, hxl, hf⟩ := DataW.trod_struct Tryd.underlying40 h
  obtain ⟨c0, c1, c2, c3, c4, c5, rfl⟩ := six (hl.trans cells6d)
  obtain ⟨x0, x1, x2, x3, x4, x5, rfl⟩ := six hxl
  have h0 := hf 0 _ rfl
  have h1 := hf 1 _ rfl
  have h2 := hf 2 _ rfl
  have h3 := hf 3 _ rfl
  have h4 := hf 4 _ rfl
  have h5 := hf 5 _ rfl
  simp only [List.getElem?_cons_zero, List.getElem?_cons_succ] at h0 h1 h2 h3 h4 h5
  obtain ⟨k, e0, rfl, w0⟩ := DataW.trod_int Tryd.underlying5 h0
  obtain ⟨s, e1, rfl, w1⟩ := DataW.trod_string Tryd.underlying9 h1
  obtain ⟨m, e2, rfl, w2⟩ := DataW.trod_int Tryd.underlying2 h2
  obtain ⟨q, e5, rfl, w5⟩ := DataW.trod_int Tryd.underlying3 h5
  obtain rfl := (List.cons.inj e0).1
  obtain rfl := (List.cons.inj e1).1
  obtain rfl := (List.cons.inj e2).1
  obtain rfl := (List.cons.inj e5).1
  obtain ⟨a3, p3, l3, e3, r3, i3, z3⟩ := open_row (fun s : ByteArray => [Value.string s]) 1 (fun _ => rfl) (by omega) (fun s => s.size ≤ maxLen) (fun _ => 0) Tryd.underlying35 cell1_st h3 fun m hm cs x hx => by
    obtain ⟨s, e, rfl, w⟩ := DataW.trod_string Tryd.underlying9 hx
    exact ⟨s, e, w, Nat.zero_le _⟩
  obtain ⟨a4, p4, l4, e4, r4, i4, z4⟩ := open_row St.vals 8 St.vals_len (by omega) (St.In w (fun _ => True)) St.sz Tryd.underlying36 cells8s h4 fun m hm cs x hx => open_st sp hd m cs x hx
  obtain rfl := (List.cons.inj e3).1
  obtain rfl := (List.cons.inj e4).1
  refine ⟨⟨k, s, m, a3, p3, l3, a4, p4, l4, q⟩, rfl, ⟨bounds_u8 w0, w1, bounds_i64 w2, bounds_i64 w5, ?_, ?_, r4, stIn_all _ i4⟩, ?_⟩
  · have : strCells l3 = l3.flatMap fun s => [Value.string s] := by
      unfold strCells
      rw [List.map_eq_flatMap]
    rw [this]
    exact r3
  · intro p hp
    obtain ⟨i, hi⟩ := List.mem_iff_getElem?.1 hp
    exact i3 i p hi
  · rw [stSz_sum]
    simp only [List.map_cons, List.map_nil, Rows.uptoBulk, bulkAll_sum, List.sum_cons, List.sum_nil]
    omega

theorem deSz_sum : ∀ l : List De, De.szL l + l.length = (l.map fun d => 1 + St.szL d.body).sum
  | [] => by unfold De.szL; rfl
  | e :: r => by
    have := deSz_sum r
    unfold De.szL
    simp only [List.map_cons, List.sum_cons, List.length_cons]
    omega
theorem open_deL (sp : Nat → Bool) (hd : Bool) (fuel : Nat) (cs : List Value) (x : DataW H × List MemPlace) (h : DataW.trod enc Tryd.prog w 0 sp hd fuel 22 cs = some x) :
    ∃ (a : Option Addr) (cap : Nat) (l : List De), cs = [.slice a l.length cap] ∧ RowAt w (fun _ => True) a cap l.length (deCells l) ∧ De.InL w (fun _ => True) l ∧ De.szL l + l.length + 1 ≤ Rows.uptoBulk x.1 := by
  obtain ⟨a, cap, l, h1, h2, h3, h4⟩ := open_row De.vals 6 De.vals_len (by omega) (De.In w (fun _ => True)) (fun d => 1 + St.szL d.body) Tryd.underlying22 cells6d h fun m _ cs x hx => open_de sp hd m cs x hx
  refine ⟨a, cap, l, h1, h2, fun d hd => ?_, by rw [deSz_sum]; exact h4⟩
  obtain ⟨i, hi⟩ := List.mem_iff_getElem?.1 hd
  exact h3 i d hi
end

mutual
theorem ptsS_len (b o d) : ∀ e, (ptsS b o d e).length = e.sz
  | .mk k nm to nw ea ecap e ba bcap body la lcap els pos => by
    unfold ptsS St.sz
    rw [List.length_cons, List.length_append, List.length_append, ptsL_len, ptsSL_len _ _ _ body, ptsSL_len _ _ _ els]
    omega
theorem ptsSL_len (b o d) : ∀ l, (ptsSL b o d l).length = St.szL l
  | [] => by unfold ptsSL St.szL; rfl
  | e :: r => by
    unfold ptsSL St.szL
    rw [List.length_append, ptsS_len b o d e, ptsSL_len b (o + 8) d r]
end
theorem ptsD_len : ∀ l : List De, (ptsD l).length = De.szL l
  | [] => by unfold De.szL; rfl
  | e :: r => by
    unfold De.szL
    rw [← ptsD_len r, ← ptsSL_len (adB e.ba) (adO e.ba) 1 e.body]
    simp [ptsD]
end Go.Proofs.YtolmhcdcfnoicaaDoor.Tr
