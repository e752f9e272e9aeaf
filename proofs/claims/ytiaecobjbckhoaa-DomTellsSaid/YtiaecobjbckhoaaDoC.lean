/- An argument that reads as lists of numbers is a graph in memory. Conditions: none. -/
import Derived.Test.YtiaecobjbckhoaaDoB
import Derived.ProofKit
import Derived.OpenShut
import Derived.Deep.DeepHandedRow
import Derived.Lib.LaidTab
import Derived.Deep.Slices
set_option linter.unusedVariables false
set_option linter.unusedSimpArgs false
namespace Go.Proofs.Ytiaecobjbckhoaa.Db
open Go Go.RowKit Go.ChangeShapes Go.WideShapes Go.ChangeAt Go.ChangeMaps

theorem cells_atN {w : World} {base : Nat} {a : Addr} {n : Nat} {cs : List Value} (h : w.cells? base a n = some cs) : cs.length = n ∧ ∀ j u, cs[j]? = some u → w.cell? (a.add j) = some u := by
  unfold World.cells? at h
  split at h
  · have hl : cs.length = n := by simpa using Lib.mapM_length h
    refine ⟨hl, fun j u hu => ?_⟩
    have hj : j < n := by rw [← hl]; exact (List.getElem?_eq_some_iff.1 hu).1
    obtain ⟨b, hb, hf⟩ := Lib.mapM_at h j j (by simp [hj])
    rw [hf]
    rw [hb] at hu
    exact hu
  · cases h
theorem flat_lenN {α : Type} (f : α → List Value) (c : Nat) (hc : ∀ x, (f x).length = c) : ∀ l : List α, (l.flatMap f).length = l.length * c
  | [] => by simp
  | e :: r => by
    rw [List.flatMap_cons, List.length_append, hc, flat_lenN f c hc r, List.length_cons, Nat.succ_mul, Nat.add_comm]
section
variable {H : Type} {enc : TypeId × Value → H} {w : World}

/-- a list that reads is a list of what its elements read as -/
theorem open_rowN {α : Type} [Inhabited α] {P : Program} (f : α → List Value) (c : Nat) (hc : ∀ x, (f x).length = c) (hc0 : 0 < c) (In : α → Prop) {sp : Nat → Bool} {hd : Bool} {t e : TypeId} (ht : P.underlying t = some (.slice e)) (hce : P.cellsOf e = c)
    {fuel : Nat} {cs : List Value} {x : DataW H × List MemPlace} (h : DataW.trod enc P w 0 sp hd fuel t cs = some x)
    (hel : ∀ m cs x, DataW.trod enc P w 0 sp hd m e cs = some x → ∃ a, cs = f a ∧ In a) :
    ∃ (a : Option Addr) (cap : Nat) (l : List α), cs = [.slice a l.length cap] ∧ RowAt w (fun _ => True) a cap l.length (l.flatMap f) ∧ ∀ y ∈ l, In y := by
  rcases DataW.trod_slice ht h with ⟨e3, rfl⟩ | ⟨a, len, cap, elems, rest, n', rfl, e3, rfl, hb, hle, hcap, hlen, hel', hsp, hns⟩
  · exact ⟨none, 0, [], e3, ⟨Nat.le_refl _, by decide, fun _ => rfl, fun j u hj => by simp at hj⟩, fun y hy => by cases hy⟩
  · rw [hce] at hel'
    have hall : ∀ i, i < len → ∃ y : α, ∃ cs', w.cells? 0 (a.add (i * c)) c = some cs' ∧ cs' = f y ∧ In y := by
      intro i hi
      have h5 := hel' i hi
      rw [List.getElem?_eq_getElem (by omega : i < elems.length)] at h5
      obtain ⟨cs', hcc, ht'⟩ := Option.bind_eq_some_iff.1 h5
      obtain ⟨y, h1, h2⟩ := hel _ _ _ ht'
      exact ⟨y, cs', hcc, h1, h2⟩
    obtain ⟨F, hF⟩ := Deep.choose_lt hall
    have hL : ((List.range len).map F).length = len := by simp
    have hget : ∀ i y, ((List.range len).map F)[i]? = some y → i < len ∧ y = F i := fun i y he => by
      have hi : i < len := by have := (List.getElem?_eq_some_iff.1 he).1; simpa using this
      refine ⟨hi, ?_⟩
      rw [List.getElem?_map, List.getElem?_range hi] at he
      exact (Option.some.inj he).symm
    refine ⟨some a, cap, (List.range len).map F, by rw [hL]; exact e3, ⟨by rw [hL]; exact hle, hcap, (fun h => by cases h), fun j u hj => ?_⟩, fun y hy => ?_⟩
    · have hjl : j < len * c := by
        have := (List.getElem?_eq_some_iff.1 hj).1
        rw [flat_lenN f c hc, hL] at this
        exact this
      have hi : j / c < len := by rw [Nat.div_lt_iff_lt_mul hc0]; exact hjl
      have hj' : j = j / c * c + j % c := by rw [Nat.mul_comm]; exact (Nat.div_add_mod j c).symm
      rw [hj', flat_at f c hc _ (j / c) (j % c) (F (j / c)) (by rw [List.getElem?_map, List.getElem?_range hi]; rfl) (Nat.mod_lt _ hc0)] at hj
      obtain ⟨cs', hcc, rfl, _⟩ := hF (j / c) hi
      have hcell := (cells_atN hcc).2 _ _ hj
      rw [Deep.add_add, ← hj'] at hcell
      obtain ⟨b, off, spot⟩ := a
      have hspot : spot = none := by
        obtain ⟨cs0, hc0', rfl, _⟩ := hF 0 (Nat.lt_of_le_of_lt (Nat.zero_le _) hi)
        obtain ⟨u0, hu0⟩ : ∃ u0, (f (F 0))[0]? = some u0 := ⟨_, List.getElem?_eq_getElem (by rw [hc]; exact hc0)⟩
        simpa [Addr.add] using World.cell?_spot ((cells_atN hc0').2 0 u0 hu0)
      subst hspot
      exact ⟨b, off, rfl, trivial, by rw [← Go.WideShapes.add_plain]; exact hcell⟩
    · obtain ⟨i, hi0⟩ := List.mem_iff_getElem?.1 hy
      obtain ⟨hi, rfl⟩ := hget i y hi0
      obtain ⟨_, _, _, h⟩ := hF i hi
      exact h
instance : Inhabited Tl := ⟨⟨none, 0, []⟩⟩
theorem one1 {α : Type} {l : List α} (h : l.length = 1) : ∃ a, l = [a] := by
  match l, h with
  | [a], _ => exact ⟨a, rfl⟩
theorem cellsI : Try.prog.cellsOf 3 = 1 := by kernel_rfl
theorem cellsL : Try.prog.cellsOf 33 = 1 := by kernel_rfl
theorem flat_num (l : List Int) : l.flatMap (fun x => [Value.int .i64 x]) = numCells l := by
  unfold numCells
  induction l with
  | nil => rfl
  | cons x r ih => rw [List.flatMap_cons, ih]; rfl
theorem open_num (sp : Nat → Bool) (hd : Bool) (fuel : Nat) (cs : List Value) (x : DataW H × List MemPlace) (h : DataW.trod enc Try.prog w 0 sp hd fuel 3 cs = some x) : ∃ k : Int, cs = [.int .i64 k] ∧ I64 k := by
  obtain ⟨k0, e0, rfl, w0⟩ := DataW.trod_int Try.underlying3 h
  exact ⟨k0, e0, bounds_i64 w0⟩
theorem open_nums (sp : Nat → Bool) (hd : Bool) (fuel : Nat) (cs : List Value) (x : DataW H × List MemPlace) (h : DataW.trod enc Try.prog w 0 sp hd fuel 33 cs = some x) :
    ∃ t : Tl, cs = t.vals ∧ RowAt w (fun _ => True) t.a t.cap t.l.length (numCells t.l) := by
  obtain ⟨a, cap, l, h1, h2, _⟩ := open_rowN (fun x : Int => [Value.int .i64 x]) 1 (fun _ => rfl) (by omega) I64 Try.underlying33 cellsI h fun m cs x hx => open_num sp hd m cs x hx
  rw [flat_num] at h2
  exact ⟨⟨a, cap, l⟩, h1, h2⟩
theorem open_to (sp : Nat → Bool) (hd : Bool) (fuel : Nat) (cs : List Value) (x : DataW H × List MemPlace) (h : DataW.trod enc Try.prog w 0 sp hd fuel 22 cs = some x) :
    ∃ (a : Option Addr) (cap : Nat) (T : List Tl), cs = [.slice a T.length cap] ∧ ToM w.heap.size a cap T w := by
  obtain ⟨a, cap, T, h1, h2, h3⟩ := open_rowN Tl.vals 1 Tl.vals_len (by omega) (fun t => RowAt w (fun _ => True) t.a t.cap t.l.length (numCells t.l)) Try.underlying22 cellsL h fun m cs x hx => open_nums sp hd m cs x hx
  exact ⟨a, cap, T, h1, row_lt h2, fun x hx => row_lt (h3 x hx)⟩
end
end Go.Proofs.Ytiaecobjbckhoaa.Db
