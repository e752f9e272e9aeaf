/- Arguments that read as lists of globals, of steps, are such that lie in memory. Conditions: none. -/
import Derived.Test.YtnoilcchegmpfaaMeT0
import Derived.ProofKit
import Derived.OpenShut
import Derived.Deep.DeepHandedRow
import Derived.Lib.LaidTab
import Derived.Deep.Slices
namespace Go.Proofs.Ytnoilcchegmpfaa.Me
open Go Go.RowKit Go.ChangeShapes Go.WideShapes Go.ChangeAt Go.ChangeMaps

theorem cells_atN {w : World} {base : Nat} {a : Addr} {n : Nat} {cs : List Value} (h : w.cells? base a n = some cs) : cs.length = n ∧ ∀ j u, cs[j]? = some u → w.cell? (a.add j) = some u := by
  unfold World.cells? at h
  split at h
  · have hl : cs.length = n := by simpa using Lib.mapM_length h
    refine ⟨hl, fun j u hu => ?_⟩
    have hj : j < n := by rw [← hl]; exact (List.getElem?_eq_some_iff.1 hu).1
    obtain ⟨b, hb, hf⟩ := Lib.mapM_at h j j (by simp [hj])
    rw [hf]
    rw [hb] at hu
    exact hu
  · cases h
theorem flat_lenN {α : Type} (f : α → List Value) (c : Nat) (hc : ∀ x, (f x).length = c) : ∀ l : List α, (l.flatMap f).length = l.length * c
  | [] => by simp
  | e :: r => by
    rw [List.flatMap_cons, List.length_append, hc, flat_lenN f c hc r, List.length_cons, Nat.succ_mul, Nat.add_comm]
theorem three {α : Type} {l : List α} (h : l.length = 3) : ∃ a b c, l = [a, b, c] := by
  match l, h with
  | [a, b, c], _ => exact ⟨a, b, c, rfl⟩
theorem fourN {α : Type} {l : List α} (h : l.length = 4) : ∃ a b c d, l = [a, b, c, d] := by
  match l, h with
  | [a, b, c, d], _ => exact ⟨a, b, c, d, rfl⟩

section
variable {H : Type} {enc : TypeId × Value → H} {w : World}

/-- a list that reads is a list of what its elements read as -/
theorem open_rowN {α : Type} [Inhabited α] {P : Program} (f : α → List Value) (c : Nat) (hc : ∀ x, (f x).length = c) (hc0 : 0 < c) (In : α → Prop) {sp : Nat → Bool} {hd : Bool} {t e : TypeId} (ht : P.underlying t = some (.slice e)) (hce : P.cellsOf e = c)
    {fuel : Nat} {cs : List Value} {x : DataW H × List MemPlace} (h : DataW.trod enc P w 0 sp hd fuel t cs = some x)
    (hel : ∀ m cs x, DataW.trod enc P w 0 sp hd m e cs = some x → ∃ a, cs = f a ∧ In a) :
    ∃ (a : Option Addr) (cap : Nat) (l : List α), cs = [.slice a l.length cap] ∧ RowAt w (fun _ => True) a cap l.length (l.flatMap f) ∧ ∀ y ∈ l, In y := by
  rcases DataW.trod_slice ht h with ⟨e3, rfl⟩ | ⟨a, len, cap, elems, rest, n', rfl, e3, rfl, hb, hle, hcap, hlen, hel', hsp, hns⟩
  · exact ⟨none, 0, [], e3, ⟨Nat.le_refl _, by decide, fun _ => rfl, fun j u hj => by simp at hj⟩, fun y hy => by cases hy⟩
  · rw [hce] at hel'
    have hall : ∀ i, i < len → ∃ y : α, ∃ cs', w.cells? 0 (a.add (i * c)) c = some cs' ∧ cs' = f y ∧ In y := by
      intro i hi
      have h5 := hel' i hi
      rw [List.getElem?_eq_getElem (by omega : i < elems.length)] at h5
      obtain ⟨cs', hcc, ht'⟩ := Option.bind_eq_some_iff.1 h5
      obtain ⟨y, h1, h2⟩ := hel _ _ _ ht'
      exact ⟨y, cs', hcc, h1, h2⟩
    obtain ⟨F, hF⟩ := Deep.choose_lt hall
    have hL : ((List.range len).map F).length = len := by simp
    have hget : ∀ i y, ((List.range len).map F)[i]? = some y → i < len ∧ y = F i := fun i y he => by
      have hi : i < len := by have := (List.getElem?_eq_some_iff.1 he).1; simpa using this
      refine ⟨hi, ?_⟩
      rw [List.getElem?_map, List.getElem?_range hi] at he
      exact (Option.some.inj he).symm
    refine ⟨some a, cap, (List.range len).map F, by rw [hL]; exact e3, ⟨by rw [hL]; exact hle, hcap, (fun h => by cases h), fun j u hj => ?_⟩, fun y hy => ?_⟩
    · have hjl : j < len * c := by
        have := (List.getElem?_eq_some_iff.1 hj).1
        rw [flat_lenN f c hc, hL] at this
        exact this
      have hi : j / c < len := by rw [Nat.div_lt_iff_lt_mul hc0]; exact hjl
      have hj' : j = j / c * c + j % c := by rw [Nat.mul_comm]; exact (Nat.div_add_mod j c).symm
      rw [hj', flat_at f c hc _ (j / c) (j % c) (F (j / c)) (by rw [List.getElem?_map, List.getElem?_range hi]; rfl) (Nat.mod_lt _ hc0)] at hj
      obtain ⟨cs', hcc, rfl, _⟩ := hF (j / c) hi
      have hcell := (cells_atN hcc).2 _ _ hj
      rw [Deep.add_add, ← hj'] at hcell
      obtain ⟨b, off, spot⟩ := a
      have hspot : spot = none := by
        obtain ⟨cs0, hc0', rfl, _⟩ := hF 0 (Nat.lt_of_le_of_lt (Nat.zero_le _) hi)
        obtain ⟨u0, hu0⟩ : ∃ u0, (f (F 0))[0]? = some u0 := ⟨_, List.getElem?_eq_getElem (by rw [hc]; exact hc0)⟩
        simpa [Addr.add] using World.cell?_spot ((cells_atN hc0').2 0 u0 hu0)
      subst hspot
      exact ⟨b, off, rfl, trivial, by rw [← Go.WideShapes.add_plain]; exact hcell⟩
    · obtain ⟨i, hi0⟩ := List.mem_iff_getElem?.1 hy
      obtain ⟨hi, rfl⟩ := hget i y hi0
      obtain ⟨_, _, _, h⟩ := hF i hi
      exact h
instance : Inhabited Gm := ⟨⟨⟨#[]⟩, 0, 0⟩⟩
instance : Inhabited Sp := ⟨⟨0, 0, 0, 0⟩⟩
theorem cellsM : Try.prog.cellsOf 41 = 3 := by kernel_rfl
theorem cellsS : Try.prog.cellsOf 35 = 4 := by kernel_rfl
set_option maxRecDepth 100000 in
theorem open_gm (sp : Nat → Bool) (hd : Bool) (fuel : Nat) (cs : List Value) (x : DataW H × List MemPlace) (h : DataW.trod enc Try.prog w 0 sp hd fuel 41 cs = some x) :
    ∃ i : Gm, cs = i.vals ∧ i.In := by
  obtain ⟨xs, n, hn, rfl, hl, hxl, hf⟩ := DataW.trod_struct Try.underlying41 h
  obtain ⟨c0, c1, c2, rfl⟩ := three (hl.trans cellsM)
  obtain ⟨x0, x1, x2, rfl⟩ := three hxl
  have h0 := hf 0 _ rfl
  have h1 := hf 1 _ rfl
  have h2 := hf 2 _ rfl
  simp only [List.getElem?_cons_zero, List.getElem?_cons_succ] at h0 h1 h2
  obtain ⟨k0, e0, rfl, w0⟩ := DataW.trod_string Try.underlying9 h0
  obtain ⟨k1, e1, rfl, w1⟩ := DataW.trod_int Try.underlying3 h1
  obtain ⟨k2, e2, rfl, w2⟩ := DataW.trod_int Try.underlying2 h2
  obtain rfl := (List.cons.inj e0).1
  obtain rfl := (List.cons.inj e1).1
  obtain rfl := (List.cons.inj e2).1
  exact ⟨⟨k0, k1, k2⟩, rfl, ⟨w0, bounds_i64 w1, bounds_i64 w2⟩⟩
set_option maxRecDepth 100000 in
theorem open_sp (sp : Nat → Bool) (hd : Bool) (fuel : Nat) (cs : List Value) (x : DataW H × List MemPlace) (h : DataW.trod enc Try.prog w 0 sp hd fuel 35 cs = some x) :
    ∃ i : Sp, cs = i.vals ∧ i.In := by
  obtain ⟨xs, n, hn, rfl, hl, hxl, hf⟩ := DataW.trod_struct Try.underlying35 h
  obtain ⟨c0, c1, c2, c3, rfl⟩ := fourN (hl.trans cellsS)
  obtain ⟨x0, x1, x2, x3, rfl⟩ := fourN hxl
  have h0 := hf 0 _ rfl
  have h1 := hf 1 _ rfl
  have h2 := hf 2 _ rfl
  have h3 := hf 3 _ rfl
  simp only [List.getElem?_cons_zero, List.getElem?_cons_succ] at h0 h1 h2 h3
  obtain ⟨k0, e0, rfl, w0⟩ := DataW.trod_int Try.underlying5 h0
  obtain ⟨k1, e1, rfl, w1⟩ := DataW.trod_int Try.underlying3 h1
  obtain ⟨k2, e2, rfl, w2⟩ := DataW.trod_int Try.underlying3 h2
  obtain ⟨k3, e3, rfl, w3⟩ := DataW.trod_int Try.underlying2 h3
  obtain rfl := (List.cons.inj e0).1
  obtain rfl := (List.cons.inj e1).1
  obtain rfl := (List.cons.inj e2).1
  obtain rfl := (List.cons.inj e3).1
  exact ⟨⟨k0, k1, k2, k3⟩, rfl, ⟨bounds_u8 w0, bounds_i64 w1, bounds_i64 w2, bounds_i64 w3⟩⟩
theorem open_gms (sp : Nat → Bool) (hd : Bool) (fuel : Nat) (cs : List Value) (x : DataW H × List MemPlace) (h : DataW.trod enc Try.prog w 0 sp hd fuel 22 cs = some x) :
    ∃ (a : Option Addr) (cap : Nat) (l : List Gm), cs = [.slice a l.length cap] ∧ RowAt w (fun _ => True) a cap l.length (gmCells l) ∧ ∀ y ∈ l, y.In :=
  open_rowN Gm.vals 3 Gm.vals_len (by omega) Gm.In Try.underlying22 cellsM h fun m cs x hx => open_gm sp hd m cs x hx
theorem open_steps (sp : Nat → Bool) (hd : Bool) (fuel : Nat) (cs : List Value) (x : DataW H × List MemPlace) (h : DataW.trod enc Try.prog w 0 sp hd fuel 23 cs = some x) :
    ∃ (a : Option Addr) (cap : Nat) (l : List Sp), cs = [.slice a l.length cap] ∧ RowAt w (fun _ => True) a cap l.length (spCells l) ∧ ∀ y ∈ l, y.In :=
  open_rowN Sp.vals 4 Sp.vals_len (by omega) Sp.In Try.underlying23 cellsS h fun m cs x hx => open_sp sp hd m cs x hx
end
end Go.Proofs.Ytnoilcchegmpfaa.Me
