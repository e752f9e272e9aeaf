/- From readings to tables: where the listed variables read as the row lists them, memory holds them; a world for the witnesses. Conditions: none. -/
import Derived.Test.YtiicjbnocpphdaaDoorCdQ
import Derived.Test.YtiicjbnocpphdaaDoorPgO
import Derived.Deep.RegionHeld
import Derived.Test.YtiicjbnocpphdaaDoorCards
import Derived.Test.YtiicjbnocpphdaaDoorTie
import Derived.ProofKit
import Derived.OpenShut
import Derived.Deep.DeepHandedRow
import Derived.Lib.LaidTab
import Derived.Deep.Slices
namespace Go.Proofs.YtiicjbnocpphdaaDoor.Cd
open Go Go.RowKit Go.ChangeShapes Go.WideShapes Go.ChangeAt
open Go.Proofs.YtiicjbnocpphdaaDoor.Lx Go.Proofs.YtiicjbnocpphdaaDoor.Tr

/-! ### Lists of literals -/
def litVal : Lit → Value
  | .bool b => .bool b
  | .int k n => .int k n
  | .string l => .string ⟨l.toArray⟩
  | _ => .bool false

theorem chunks {α : Type} (c : Nat) (g : α → List Value) : ∀ (rows : List α) (cs : List Value), cs.length = rows.length * c → (∀ i r, rows[i]? = some r → (cs.drop (i * c)).take c = g r) → cs = rows.flatMap g
  | [], cs, hl, _ => by
    have : cs.length = 0 := by simpa using hl
    rw [List.length_eq_zero_iff.1 this]; rfl
  | r :: rows, cs, hl, h => by
    have h0 := h 0 r rfl
    rw [Nat.zero_mul, List.drop_zero] at h0
    have hr := chunks c g rows (cs.drop c) (by rw [List.length_drop, hl, List.length_cons, Nat.succ_mul]; omega) (fun i r' hr' => by
      have := h (i + 1) r' (by simpa using hr')
      rw [List.drop_drop]
      rw [Nat.succ_mul] at this
      rw [show c + i * c = i * c + c by omega]
      exact this)
    rw [List.flatMap_cons, ← h0, ← hr, List.take_append_drop]

section
variable {H : Type} {enc : TypeId × Value → H} {P : Program} {w : World} {base : Nat} {sp : Nat → Bool} {held : Bool}

theorem cells_of_struct {t : TypeId} {fs : Array Field} {fuel : Nat} {cs : List Value} {ls : List Lit} {p : List MemPlace} (ht : P.underlying t = some (.struct fs)) (hct : P.cellsOf t = fs.size)
    (hfs : ∀ (i : Nat) (f : Field), fs[i]? = some f → f.offset = i ∧ P.cellsOf f.type = 1 ∧ (P.underlying f.type = some .bool ∨ (∃ k, P.underlying f.type = some (.int k)) ∨ P.underlying f.type = some .string))
    (h : DataW.trod enc P w base sp held fuel t cs = some (.agg (ls.map .lit), p)) : cs = ls.map litVal := by
  obtain ⟨xs, n, rfl, hx, hl, hxl, hf⟩ := DataW.trod_struct ht h
  have hxs : ls.map DataW.lit = xs.map (·.1) := by
    have := congrArg Prod.fst hx
    simpa using this
  have hll : ls.length = fs.size := by
    have := congrArg List.length hxs
    simp at this
    omega
  apply List.ext_getElem?
  intro i
  by_cases hi : i < fs.size
  · obtain ⟨h1, h2, h3⟩ := hfs i _ (Array.getElem?_eq_getElem hi)
    have h4 := hf i _ (Array.getElem?_eq_getElem hi)
    rw [h1, h2, List.getElem?_eq_getElem (by omega)] at h4
    have h5 : (ls.map DataW.lit)[i]? = (xs.map (·.1))[i]? := by rw [hxs]
    rw [List.getElem?_map, List.getElem?_map, List.getElem?_eq_getElem (by omega : i < ls.length), List.getElem?_eq_getElem (by omega : i < xs.length)] at h5
    simp only [Option.map_some, Option.some.injEq] at h5
    rw [List.getElem?_map, List.getElem?_eq_getElem (by omega : i < ls.length), Option.map_some]
    have hci : ∀ v, (cs.drop i).take 1 = [v] → cs[i]? = some v := fun v hv => by
      have := congrArg (·[0]?) hv
      simpa [List.getElem?_take, List.getElem?_drop] using this
    rcases h3 with h3 | ⟨k, h3⟩ | h3
    · obtain ⟨b, hb, hx2⟩ := DataW.trod_bool h3 h4
      rw [hx2] at h5
      rw [hci _ hb, DataW.lit.inj h5]
      rfl
    · obtain ⟨b, hb, hx2, _⟩ := DataW.trod_int h3 h4
      rw [hx2] at h5
      rw [hci _ hb, DataW.lit.inj h5]
      rfl
    · obtain ⟨b, hb, hx2, _⟩ := DataW.trod_string h3 h4
      rw [hx2] at h5
      rw [hci _ hb, DataW.lit.inj h5]
      rfl
  · rw [List.getElem?_eq_none (by omega), List.getElem?_eq_none (by simp; omega)]

theorem cells_of_structs {t e : TypeId} {fs : Array Field} {n fuel : Nat} {cs : List Value} {rows : List (List Lit)} {p : List MemPlace} (ht : P.underlying t = some (.array n e)) (he : P.underlying e = some (.struct fs)) (hce : P.cellsOf e = fs.size) (hct : P.cellsOf t = n * fs.size)
    (hfs : ∀ (i : Nat) (f : Field), fs[i]? = some f → f.offset = i ∧ P.cellsOf f.type = 1 ∧ (P.underlying f.type = some .bool ∨ (∃ k, P.underlying f.type = some (.int k)) ∨ P.underlying f.type = some .string))
    (h : DataW.trod enc P w base sp held fuel t cs = some (.agg (rows.map fun r => .agg (r.map .lit)), p)) : cs = rows.flatMap (·.map litVal) := by
  obtain ⟨xs, m, rfl, hx, hl, hxl, hf⟩ := DataW.trod_array ht h
  have hxs : (rows.map fun r => (DataW.agg (r.map .lit) : DataW H)) = xs.map (·.1) := by
    have := congrArg Prod.fst hx
    simpa using this
  have hll : rows.length = n := by
    have := congrArg List.length hxs
    simp at this
    omega
  refine chunks fs.size _ rows cs (by rw [hl, hct, hll]) fun i r hr => ?_
  have hi : i < n := by rw [← hll]; exact (List.getElem?_eq_some_iff.1 hr).1
  have h4 := hf i hi
  rw [hce, List.getElem?_eq_getElem (by omega : i < xs.length)] at h4
  have h5 : (rows.map fun r => (DataW.agg (r.map .lit) : DataW H))[i]? = (xs.map (·.1))[i]? := by rw [hxs]
  rw [List.getElem?_map, List.getElem?_map, hr, List.getElem?_eq_getElem (by omega : i < xs.length)] at h5
  simp only [Option.map_some, Option.some.injEq] at h5
  generalize xs[i] = y at h4 h5
  obtain ⟨y1, y2⟩ := y
  simp only at h5
  subst h5
  exact cells_of_struct he hce hfs h4

/-- an array of texts that reads as a list of texts holds them, cell for cell -/
theorem cells_of_texts {fuel : Nat} {t e : TypeId} {n : Nat} {cs : List Value} {zs : List (List UInt8)} {p : List MemPlace}
    (ht : P.underlying t = some (.array n e)) (he : P.underlying e = some .string) (hce : P.cellsOf e = 1) (hct : P.cellsOf t = n)
    (h : DataW.trod enc P w base sp held fuel t cs = some (.agg (zs.map fun z => .lit (.string z)), p)) : cs = zs.map fun z => Value.string ⟨z.toArray⟩ := by
  cases fuel with
  | zero => simp [DataW.trod] at h
  | succ fuel =>
    simp only [DataW.trod, ht, hce, hct, Nat.mul_one] at h
    split at h
    · rename_i hl
      obtain ⟨xs, hm, hx⟩ := Option.map_eq_some_iff.1 h
      have hxs : xs.map (·.1) = zs.map fun z => (DataW.lit (.string z) : DataW H) := by
        have := congrArg Prod.fst hx
        simpa using this
      have hxl : xs.length = n := by simpa using Lib.mapM_length hm
      have hzl : zs.length = n := by
        have := congrArg List.length hxs
        simp at this
        omega
      apply List.ext_getElem?
      intro i
      by_cases hi : i < n
      · obtain ⟨b, hb, hf⟩ := Lib.mapM_at hm i i (by simp [hi])
        obtain ⟨z, hc, rfl, _⟩ := DataW.trod_string he hf
        have h1 : cs[i]? = some (.string z) := by
          have := congrArg (·[0]?) hc
          simpa [List.getElem?_take, List.getElem?_drop] using this
        have h2 : (xs.map (·.1))[i]? = some (DataW.lit (.string z.data.toList) : DataW H) := by simp [hb]
        rw [hxs] at h2
        simp only [List.getElem?_map, Option.map_eq_some_iff, DataW.lit.injEq, Lit.string.injEq] at h2
        obtain ⟨z', hz', hz2⟩ := h2
        rw [h1, List.getElem?_map, hz', hz2]
        simp only [Option.map_some]
      · rw [List.getElem?_eq_none (by omega), List.getElem?_eq_none (by simp; omega)]
    · cases h
end

/-! ### The tables -/
theorem own : ownKnob Tryd.prog.godebug = none := by kernel_rfl
theorem gSig : Tryd.prog.globalNamed "bobbin/lex.signs" = some 1 := by kernel_rfl
theorem gSigType : (Tryd.prog.globals[1]?).map (·.type) = some 91 := by kernel_rfl
theorem gOp : Tryd.prog.globalNamed "bobbin/code.operations" = some 0 := by kernel_rfl
theorem gOpType : (Tryd.prog.globals[0]?).map (·.type) = some 87 := by kernel_rfl
theorem cell1_b : Tryd.prog.cellsOf 4 = 1 := by kernel_rfl
theorem cell1_s : Tryd.prog.cellsOf 9 = 1 := by kernel_rfl
theorem cell1_u : Tryd.prog.cellsOf 70 = 1 := by kernel_rfl
def opRows : List (List Lit) := (List.range 14).map fun (i : Nat) => [.bool (hasR (i : Int)), .bool (hasA (i : Int)), .bool (hasB (i : Int)), .bool (hasF (i : Int)), .int .u8 (numK (i : Int))]
theorem opRows_laid : (Rows.laid_bobbin_code_operations : DataW Unit) = .agg (opRows.map fun r => .agg (r.map .lit)) := by kernel_rfl
theorem opRows_vals : (opRows.flatMap (·.map litVal)) = opVals.toList := by kernel_rfl

/-- a variable's cells are its block's -/
theorem block_of {W : World} {n : String} {g : Nat} {cs : Array Value} {vs : Array Value} (hg : Tryd.prog.globalNamed n = some g) (hv : W.var? Tryd.prog n = some cs) (h : cs.toList = vs.toList) : ∃ t fr, W.heap[g]? = some (.cells vs t fr) := by
  unfold World.var? at hv
  rw [hg] at hv
  simp only [Option.bind_some] at hv
  cases hh : W.heap[g]? with
  | none => rw [hh] at hv; cases hv
  | some o =>
    rw [hh] at hv
    cases o with
    | cells c t fr =>
      have hc : c = cs := Option.some.inj hv
      exact ⟨t, fr, by rw [hc, Array.toList_inj.1 h]⟩
    | _ => cases hv

theorem tab_of {W : World} (h : ∃ t fr, W.heap[0]? = some (.cells opVals t fr)) : OpTab W := fun j v hv => by
  obtain ⟨t, fr, hg⟩ := h
  simp only [World.cell?, hg]
  simpa using hv
theorem ops_of {W : World} {fuel : Nat} {t : TypeId} {cs : Array Value} {p : List MemPlace} {sp : Nat → Bool} {hd : Bool} {enc : TypeId × Value → Unit} (ht : t = 87) (hv : W.var? Tryd.prog "bobbin/code.operations" = some cs) (h : DataW.trod enc Tryd.prog W 0 sp hd fuel t cs.toList = some (Rows.laid_bobbin_code_operations, p)) : OpTab W := by
  subst ht
  rw [opRows_laid] at h
  have e1 := (cells_of_structs Tryd.underlying87 Tryd.underlying72 (by kernel_rfl) (by kernel_rfl) (fun i f hf => by
    have hi : i < 5 := by simpa using (Array.getElem?_eq_some_iff.1 hf).1
    rcases (show i = 0 ∨ i = 1 ∨ i = 2 ∨ i = 3 ∨ i = 4 by omega) with rfl | rfl | rfl | rfl | rfl <;> (cases hf; first | exact ⟨rfl, cell1_b, Or.inl Tryd.underlying4⟩ | exact ⟨rfl, cell1_u, Or.inr (Or.inl ⟨_, Tryd.underlying70⟩)⟩)) h).trans opRows_vals
  exact tab_of (block_of gOp hv e1)
def laidRow2 : List (String × DataW Unit) := [("bobbin/lex.signs", Rows.laid_bobbin_lex_signs), ("bobbin/code.operations", Rows.laid_bobbin_code_operations)]
def laidRow1 : List (String × DataW Unit) := [("bobbin/code.operations", Rows.laid_bobbin_code_operations)]
set_option maxRecDepth 100000 in
theorem two_of_laid {W : World} (h : laidMet Tryd.prog laidRow2 W) : OpTab W ∧ SignsIn W := by
  obtain ⟨ps, ⟨g0, t0, c0, f0, p0, q0, hg0, ht0, hv0, hd0, ⟨g1, t1, c1, f1, p1, q1, hg1, ht1, hv1, hd1, _, _⟩, _⟩, _⟩ := h
  obtain rfl := Option.some.inj (gSig.symm.trans hg0)
  obtain rfl := Option.some.inj (gSigType.symm.trans ht0)
  obtain rfl := Option.some.inj (gOp.symm.trans hg1)
  obtain rfl := Option.some.inj (gOpType.symm.trans ht1)
  have e0 := cells_of_texts (zs := signs) Tryd.underlying91 Tryd.underlying9 cell1_s (by kernel_rfl) hd0
  have s0 : SignsIn W := block_of gSig hv0 e0
  exact ⟨ops_of rfl hv1 hd1, s0⟩
set_option maxRecDepth 100000 in
theorem one_of_laid {W : World} (h : laidMet Tryd.prog laidRow1 W) : OpTab W := by
  obtain ⟨ps, ⟨g1, t1, c1, f1, p1, q1, hg1, ht1, hv1, hd1, _, _⟩, _⟩ := h
  obtain rfl := Option.some.inj (gOp.symm.trans hg1)
  obtain rfl := Option.some.inj (gOpType.symm.trans ht1)
  exact ops_of rfl hv1 hd1
def laidIn (vs : Array Value) : Obj → Obj
  | .cells _ t frozen => .cells vs t frozen
  | o => o
/-- A WORLD FOR THE WITNESS: the settled one, the lists holding what their initialisers lay. -/
noncomputable def laidWorld (os : Os) : World :=
  { World.holding Tryd.prog os ⟨#[], #[], []⟩ with
    heap := ((World.holding Tryd.prog os ⟨#[], #[], []⟩).heap.modify 1 (laidIn sgVals)).modify 0 (laidIn opVals) }
theorem laid_met2 (os : Os) (args : Array Value) : laidMet Tryd.prog laidRow2 ((laidWorld os).forCall (fun _ _ => 0) ⟨#[], args, []⟩).memory :=
  laidMet_of_run' 8 (by kernel_rfl) (by kernel_rfl)
theorem laid_met1 (os : Os) (args : Array Value) : laidMet Tryd.prog laidRow1 ((laidWorld os).forCall (fun _ _ => 0) ⟨#[], args, []⟩).memory :=
  laidMet_of_run' 8 (by kernel_rfl) (by kernel_rfl)
end Go.Proofs.YtiicjbnocpphdaaDoor.Cd
