/- From readings to tables: where the listed variables read as the row lists them, memory holds them. Conditions: none. -/
import Derived.Test.YtpcdlneompnhlaaGreatDoorGrAT
import Derived.Stop.LaidErr
import Derived.Test.YtpcdlneompnhlaaGreatDoorCards
import Derived.Test.YtpcdlneompnhlaaGreatDoorTie
import Derived.ProofKit
import Derived.OpenShut
import Derived.Deep.DeepHandedRow
import Derived.Lib.LaidTab
import Derived.Deep.Slices
namespace Go.Proofs.YtpcdlneompnhlaaGreatDoor.Pa
open Go Go.RowKit Go.ChangeShapes Go.WideShapes Go.ChangeAt
open Go.Proofs.YtpcdlneompnhlaaGreatDoor.Lx Go.Proofs.YtpcdlneompnhlaaGreatDoor.Tr

/-! ### Lists of literals -/
def litVal : Lit → Value
  | .bool b => .bool b
  | .int k n => .int k n
  | .string l => .string ⟨l.toArray⟩
  | _ => .bool false

theorem chunks {α : Type} (c : Nat) (g : α → List Value) : ∀ (rows : List α) (cs : List Value), cs.length = rows.length * c → (∀ i r, rows[i]? = some r → (cs.drop (i * c)).take c = g r) → cs = rows.flatMap g
  | [], cs, hl, _ => by
    have : cs.length = 0 := by simpa using hl
    rw [List.length_eq_zero_iff.1 this]; rfl
  | r :: rows, cs, hl, h => by
    have h0 := h 0 r rfl
    rw [Nat.zero_mul, List.drop_zero] at h0
    have hr := chunks c g rows (cs.drop c) (by rw [List.length_drop, hl, List.length_cons, Nat.succ_mul]; omega) (fun i r' hr' => by
      have := h (i + 1) r' (by simpa using hr')
      rw [List.drop_drop]
      rw [Nat.succ_mul] at this
      rw [show c + i * c = i * c + c by omega]
      exact this)
    rw [List.flatMap_cons, ← h0, ← hr, List.take_append_drop]

section
variable {H : Type} {enc : TypeId × Value → H} {P : Program} {w : World} {base : Nat} {sp : Nat → Bool} {held : Bool}

theorem cells_of_struct {t : TypeId} {fs : Array Field} {fuel : Nat} {cs : List Value} {ls : List Lit} {p : List MemPlace} (ht : P.underlying t = some (.struct fs)) (hct : P.cellsOf t = fs.size)
    (hfs : ∀ (i : Nat) (f : Field), fs[i]? = some f → f.offset = i ∧ P.cellsOf f.type = 1 ∧ (P.underlying f.type = some .bool ∨ (∃ k, P.underlying f.type = some (.int k)) ∨ P.underlying f.type = some .string))
    (h : DataW.trod enc P w base sp held fuel t cs = some (.agg (ls.map .lit), p)) : cs = ls.map litVal := by
  obtain ⟨xs, n, rfl, hx, hl, hxl, hf⟩ := DataW.trod_struct ht h
  have hxs : ls.map DataW.lit = xs.map (·.1) := by
    have := congrArg Prod.fst hx
    simpa using this
  have hll : ls.length = fs.size := by
    have := congrArg List.length hxs
    simp at this
    omega
  apply List.ext_getElem?
  intro i
  by_cases hi : i < fs.size
  · obtain ⟨h1, h2, h3⟩ := hfs i _ (Array.getElem?_eq_getElem hi)
    have h4 := hf i _ (Array.getElem?_eq_getElem hi)
    rw [h1, h2, List.getElem?_eq_getElem (by omega)] at h4
    have h5 : (ls.map DataW.lit)[i]? = (xs.map (·.1))[i]? := by rw [hxs]
    rw [List.getElem?_map, List.getElem?_map, List.getElem?_eq_getElem (by omega : i < ls.length), List.getElem?_eq_getElem (by omega : i < xs.length)] at h5
    simp only [Option.map_some, Option.some.injEq] at h5
    rw [List.getElem?_map, List.getElem?_eq_getElem (by omega : i < ls.length), Option.map_some]
    have hci : ∀ v, (cs.drop i).take 1 = [v] → cs[i]? = some v := fun v hv => by
      have := congrArg (·[0]?) hv
      simpa [List.getElem?_take, List.getElem?_drop] using this
    rcases h3 with h3 | ⟨k, h3⟩ | h3
    · obtain ⟨b, hb, hx2⟩ := DataW.trod_bool h3 h4
      rw [hx2] at h5
      rw [hci _ hb, DataW.lit.inj h5]
      rfl
    · obtain ⟨b, hb, hx2, _⟩ := DataW.trod_int h3 h4
      rw [hx2] at h5
      rw [hci _ hb, DataW.lit.inj h5]
      rfl
    · obtain ⟨b, hb, hx2, _⟩ := DataW.trod_string h3 h4
      rw [hx2] at h5
      rw [hci _ hb, DataW.lit.inj h5]
      rfl
  · rw [List.getElem?_eq_none (by omega), List.getElem?_eq_none (by simp; omega)]

theorem cells_of_structs {t e : TypeId} {fs : Array Field} {n fuel : Nat} {cs : List Value} {rows : List (List Lit)} {p : List MemPlace} (ht : P.underlying t = some (.array n e)) (he : P.underlying e = some (.struct fs)) (hce : P.cellsOf e = fs.size) (hct : P.cellsOf t = n * fs.size)
    (hfs : ∀ (i : Nat) (f : Field), fs[i]? = some f → f.offset = i ∧ P.cellsOf f.type = 1 ∧ (P.underlying f.type = some .bool ∨ (∃ k, P.underlying f.type = some (.int k)) ∨ P.underlying f.type = some .string))
    (h : DataW.trod enc P w base sp held fuel t cs = some (.agg (rows.map fun r => .agg (r.map .lit)), p)) : cs = rows.flatMap (·.map litVal) := by
  obtain ⟨xs, m, rfl, hx, hl, hxl, hf⟩ := DataW.trod_array ht h
  have hxs : (rows.map fun r => (DataW.agg (r.map .lit) : DataW H)) = xs.map (·.1) := by
    have := congrArg Prod.fst hx
    simpa using this
  have hll : rows.length = n := by
    have := congrArg List.length hxs
    simp at this
    omega
  refine chunks fs.size _ rows cs (by rw [hl, hct, hll]) fun i r hr => ?_
  have hi : i < n := by rw [← hll]; exact (List.getElem?_eq_some_iff.1 hr).1
  have h4 := hf i hi
  rw [hce, List.getElem?_eq_getElem (by omega : i < xs.length)] at h4
  have h5 : (rows.map fun r => (DataW.agg (r.map .lit) : DataW H))[i]? = (xs.map (·.1))[i]? := by rw [hxs]
  rw [List.getElem?_map, List.getElem?_map, hr, List.getElem?_eq_getElem (by omega : i < xs.length)] at h5
  simp only [Option.map_some, Option.some.injEq] at h5
  generalize xs[i] = y at h4 h5
  obtain ⟨y1, y2⟩ := y
  simp only at h5
  subst h5
  exact cells_of_struct he hce hfs h4

/-- an array of texts that reads as a list of texts holds them, cell for cell -/
theorem cells_of_texts {fuel : Nat} {t e : TypeId} {n : Nat} {cs : List Value} {zs : List (List UInt8)} {p : List MemPlace}
    (ht : P.underlying t = some (.array n e)) (he : P.underlying e = some .string) (hce : P.cellsOf e = 1) (hct : P.cellsOf t = n)
    (h : DataW.trod enc P w base sp held fuel t cs = some (.agg (zs.map fun z => .lit (.string z)), p)) : cs = zs.map fun z => Value.string ⟨z.toArray⟩ := by
  cases fuel with
  | zero => simp [DataW.trod] at h
  | succ fuel =>
    simp only [DataW.trod, ht, hce, hct, Nat.mul_one] at h
    split at h
    · rename_i hl
      obtain ⟨xs, hm, hx⟩ := Option.map_eq_some_iff.1 h
      have hxs : xs.map (·.1) = zs.map fun z => (DataW.lit (.string z) : DataW H) := by
        have := congrArg Prod.fst hx
        simpa using this
      have hxl : xs.length = n := by simpa using Lib.mapM_length hm
      have hzl : zs.length = n := by
        have := congrArg List.length hxs
        simp at this
        omega
      apply List.ext_getElem?
      intro i
      by_cases hi : i < n
      · obtain ⟨b, hb, hf⟩ := Lib.mapM_at hm i i (by simp [hi])
        obtain ⟨z, hc, rfl, _⟩ := DataW.trod_string he hf
        have h1 : cs[i]? = some (.string z) := by
          have := congrArg (·[0]?) hc
          simpa [List.getElem?_take, List.getElem?_drop] using this
        have h2 : (xs.map (·.1))[i]? = some (DataW.lit (.string z.data.toList) : DataW H) := by simp [hb]
        rw [hxs] at h2
        simp only [List.getElem?_map, Option.map_eq_some_iff, DataW.lit.injEq, Lit.string.injEq] at h2
        obtain ⟨z', hz', hz2⟩ := h2
        rw [h1, List.getElem?_map, hz', hz2]
        simp only [Option.map_some]
      · rw [List.getElem?_eq_none (by omega), List.getElem?_eq_none (by simp; omega)]
    · cases h
end

/-! ### The tables -/
theorem own : ownKnob Tryz.prog.godebug = none := by kernel_rfl
theorem gSig : Tryz.prog.globalNamed "bobbin/lex.signs" = some 0 := by kernel_rfl
theorem gSigType : (Tryz.prog.globals[0]?).map (·.type) = some 110 := by kernel_rfl
theorem gEx : Tryz.prog.globalNamed "bobbin/tree.exprKinds" = some 3 := by kernel_rfl
theorem gExType : (Tryz.prog.globals[3]?).map (·.type) = some 172 := by kernel_rfl
theorem gSt : Tryz.prog.globalNamed "bobbin/tree.stmtKinds" = some 2 := by kernel_rfl
theorem gStType : (Tryz.prog.globals[2]?).map (·.type) = some 167 := by kernel_rfl
theorem gDe : Tryz.prog.globalNamed "bobbin/tree.declKinds" = some 1 := by kernel_rfl
theorem gDeType : (Tryz.prog.globals[1]?).map (·.type) = some 137 := by kernel_rfl
theorem cell1_i : Tryz.prog.cellsOf 3 = 1 := by kernel_rfl
theorem cell1_l : Tryz.prog.cellsOf 2 = 1 := by kernel_rfl
theorem cell1_b : Tryz.prog.cellsOf 4 = 1 := by kernel_rfl
theorem cell1_s : Tryz.prog.cellsOf 9 = 1 := by kernel_rfl

def exRows : List (List Lit) := (List.range 18).map fun (i : Nat) => [.bool (exName (i : Int)), .int .i64 (exMost (i : Int)), .int .i64 (exArgs (i : Int))]
def stRows : List (List Lit) := (List.range 10).map fun (i : Nat) => [.bool (stName (i : Int)), .int .i64 (stLeast (i : Int)), .int .i64 (stMost (i : Int)), .bool (stBody (i : Int)), .bool (stOther (i : Int)), .bool (Tr.stTo (i : Int))]
def deRows : List (List Lit) := (List.range 6).map fun (i : Nat) => [.int .i64 (deLeast (i : Int)), .int .i64 (deMost (i : Int)), .int .i64 (deParams (i : Int)), .bool (deBody (i : Int))]
theorem exRows_laid : (Rows.laid_bobbin_tree_exprKinds : DataW Unit) = .agg (exRows.map fun r => .agg (r.map .lit)) := by kernel_rfl
theorem stRows_laid : (Rows.laid_bobbin_tree_stmtKinds : DataW Unit) = .agg (stRows.map fun r => .agg (r.map .lit)) := by kernel_rfl
theorem deRows_laid : (Rows.laid_bobbin_tree_declKinds : DataW Unit) = .agg (deRows.map fun r => .agg (r.map .lit)) := by kernel_rfl
theorem exRows_vals : (exRows.flatMap (·.map litVal)) = exVals.toList := by kernel_rfl
theorem stRows_vals : (stRows.flatMap (·.map litVal)) = stVals.toList := by kernel_rfl
theorem deRows_vals : (deRows.flatMap (·.map litVal)) = deVals.toList := by kernel_rfl

/-- a variable's cells are its block's -/
theorem block_of {W : World} {n : String} {g : Nat} {cs : Array Value} {vs : Array Value} (hg : Tryz.prog.globalNamed n = some g) (hv : W.var? Tryz.prog n = some cs) (h : cs.toList = vs.toList) : ∃ t fr, W.heap[g]? = some (.cells vs t fr) := by
  unfold World.var? at hv
  rw [hg] at hv
  simp only [Option.bind_some] at hv
  cases hh : W.heap[g]? with
  | none => rw [hh] at hv; cases hv
  | some o =>
    rw [hh] at hv
    cases o with
    | cells c t fr =>
      have hc : c = cs := Option.some.inj hv
      exact ⟨t, fr, by rw [hc, Array.toList_inj.1 h]⟩
    | _ => cases hv

theorem gOp : Tryz.prog.globalNamed "bobbin/parse.operators" = some 5 := by kernel_rfl
theorem gOpType : (Tryz.prog.globals[5]?).map (·.type) = some 206 := by kernel_rfl
def opRows : List (List Lit) := oprs.map fun o => [.string o.sign.data.toList, .int .u8 o.kind, .int .i64 o.binds, .bool o.turns]
theorem opRows_laid : (Rows.laid_bobbin_parse_operators : DataW Unit) = .agg (opRows.map fun r => .agg (r.map .lit)) := by kernel_rfl
theorem opRows_vals : (opRows.flatMap (·.map litVal)) = opVals.toList := by kernel_rfl
theorem cell1_u : Tryz.prog.cellsOf 5 = 1 := by kernel_rfl
theorem star_e : "*" ++ "errors.errorString" = "*errors.errorString" := by decide
theorem row_err (u : TypeId) (h : Tryz.prog.typeName? 3 u = some "*errors.errorString") : u = 212 :=
  typeName_ptr_named (nm := "errors.errorString") (by rw [star_e]; kernel_rfl) (by kernel_rfl) (by decide) u (by rw [star_e]; exact h)
theorem errAt_of {W : World} {g : Nat} {n : String} {v : Value} (hg : Tryz.prog.globalNamed n = some g) (hv : W.var? Tryz.prog n = some #[v]) (h : ∃ te pe, v = .iface te pe) : ErrAt W g := by
  unfold World.var? at hv
  rw [hg] at hv
  simp only [Option.bind_some] at hv
  cases hh : W.heap[g]? with
  | none => rw [hh] at hv; cases hv
  | some o =>
    rw [hh] at hv
    cases o with
    | cells c t fr =>
      have hc : c = #[v] := Option.some.inj hv
      subst hc
      exact ⟨v, blk_cell hh rfl, Or.inr h⟩
    | _ => cases hv
def laidRow : List (String × DataW Unit) := [("math/bits.deBruijn32tab", Rows.laid_math_bits_deBruijn32tab), ("math/bits.deBruijn64tab", Rows.laid_math_bits_deBruijn64tab), ("internal/strconv.uint64pow10", Rows.laid_internal_strconv_uint64pow10), ("strconv.ErrRange", Rows.laid_strconv_ErrRange), ("strconv.ErrSyntax", Rows.laid_strconv_ErrSyntax), ("bobbin/lex.signs", Rows.laid_bobbin_lex_signs), ("bobbin/tree.exprKinds", Rows.laid_bobbin_tree_exprKinds), ("bobbin/tree.stmtKinds", Rows.laid_bobbin_tree_stmtKinds), ("bobbin/tree.declKinds", Rows.laid_bobbin_tree_declKinds), ("bobbin/parse.operators", Rows.laid_bobbin_parse_operators)]

set_option maxRecDepth 100000 in
theorem all_of_laid {W : World} (h : laidMet Tryz.prog laidRow W) : All W := by
  obtain ⟨a0, t0, hv0, hc0, ht0, _⟩ := laid_sentinel (g := 7) h.tail.tail.tail (by kernel_rfl) (by kernel_rfl) Tryz.underlying186 row_err Tryz.underlying212 Tryz.underlying214 rfl rfl Tryz.underlying9 (by kernel_rfl) (by kernel_rfl)
  obtain ⟨a1, t1, hv1, hc1, ht1, _⟩ := laid_sentinel (g := 6) h.tail.tail.tail.tail (by kernel_rfl) (by kernel_rfl) Tryz.underlying186 row_err Tryz.underlying212 Tryz.underlying214 rfl rfl Tryz.underlying9 (by kernel_rfl) (by kernel_rfl)
  have hE0 : ErrAt W 7 := errAt_of (by kernel_rfl) hv0 ⟨_, _, rfl⟩
  have hE1 : ErrAt W 6 := errAt_of (by kernel_rfl) hv1 ⟨_, _, rfl⟩
  have h5 := h.tail.tail.tail.tail.tail
  clear hv0 hc0 ht0 hv1 hc1 ht1
  obtain ⟨ps, ⟨g0, t0, c0, f0, p0, q0, hg0, ht0, hv0, hd0, ⟨g1, t1, c1, f1, p1, q1, hg1, ht1, hv1, hd1, ⟨g2, t2, c2, f2, p2, q2, hg2, ht2, hv2, hd2, ⟨g3, t3, c3, f3, p3, q3, hg3, ht3, hv3, hd3, ⟨g4, t4, c4, f4, p4, q4, hg4, ht4, hv4, hd4, _, _⟩, _⟩, _⟩, _⟩, _⟩, _⟩ := h5
  obtain rfl := Option.some.inj (gSig.symm.trans hg0)
  obtain rfl := Option.some.inj (gSigType.symm.trans ht0)
  obtain rfl := Option.some.inj (gEx.symm.trans hg1)
  obtain rfl := Option.some.inj (gExType.symm.trans ht1)
  obtain rfl := Option.some.inj (gSt.symm.trans hg2)
  obtain rfl := Option.some.inj (gStType.symm.trans ht2)
  obtain rfl := Option.some.inj (gDe.symm.trans hg3)
  obtain rfl := Option.some.inj (gDeType.symm.trans ht3)
  obtain rfl := Option.some.inj (gOp.symm.trans hg4)
  obtain rfl := Option.some.inj (gOpType.symm.trans ht4)
  have e0 := cells_of_texts (zs := signs) Tryz.underlying110 Tryz.underlying9 cell1_s (by kernel_rfl) hd0
  rw [exRows_laid] at hd1
  rw [stRows_laid] at hd2
  rw [deRows_laid] at hd3
  rw [opRows_laid] at hd4
  have e1 := (cells_of_structs Tryz.underlying172 Tryz.underlying171 (by kernel_rfl) (by kernel_rfl) (fun i f hf => by
    have hi : i < 3 := by simpa using (Array.getElem?_eq_some_iff.1 hf).1
    rcases (show i = 0 ∨ i = 1 ∨ i = 2 by omega) with rfl | rfl | rfl <;> (cases hf; first | exact ⟨rfl, cell1_b, Or.inl Tryz.underlying4⟩ | exact ⟨rfl, cell1_i, Or.inr (Or.inl ⟨_, Tryz.underlying3⟩)⟩ | exact ⟨rfl, cell1_l, Or.inr (Or.inl ⟨_, Tryz.underlying2⟩)⟩)) hd1).trans exRows_vals
  have e2 := (cells_of_structs Tryz.underlying167 Tryz.underlying166 (by kernel_rfl) (by kernel_rfl) (fun i f hf => by
    have hi : i < 6 := by simpa using (Array.getElem?_eq_some_iff.1 hf).1
    rcases (show i = 0 ∨ i = 1 ∨ i = 2 ∨ i = 3 ∨ i = 4 ∨ i = 5 by omega) with rfl | rfl | rfl | rfl | rfl | rfl <;> (cases hf; first | exact ⟨rfl, cell1_b, Or.inl Tryz.underlying4⟩ | exact ⟨rfl, cell1_i, Or.inr (Or.inl ⟨_, Tryz.underlying3⟩)⟩ | exact ⟨rfl, cell1_l, Or.inr (Or.inl ⟨_, Tryz.underlying2⟩)⟩)) hd2).trans stRows_vals
  have e3 := (cells_of_structs Tryz.underlying137 Tryz.underlying136 (by kernel_rfl) (by kernel_rfl) (fun i f hf => by
    have hi : i < 4 := by simpa using (Array.getElem?_eq_some_iff.1 hf).1
    rcases (show i = 0 ∨ i = 1 ∨ i = 2 ∨ i = 3 by omega) with rfl | rfl | rfl | rfl <;> (cases hf; first | exact ⟨rfl, cell1_b, Or.inl Tryz.underlying4⟩ | exact ⟨rfl, cell1_i, Or.inr (Or.inl ⟨_, Tryz.underlying3⟩)⟩ | exact ⟨rfl, cell1_l, Or.inr (Or.inl ⟨_, Tryz.underlying2⟩)⟩)) hd3).trans deRows_vals
  have e4 := (cells_of_structs Tryz.underlying206 Tryz.underlying196 (by kernel_rfl) (by kernel_rfl) (fun i f hf => by
    have hi : i < 4 := by simpa using (Array.getElem?_eq_some_iff.1 hf).1
    rcases (show i = 0 ∨ i = 1 ∨ i = 2 ∨ i = 3 by omega) with rfl | rfl | rfl | rfl <;> (cases hf; first | exact ⟨rfl, cell1_b, Or.inl Tryz.underlying4⟩ | exact ⟨rfl, cell1_i, Or.inr (Or.inl ⟨_, Tryz.underlying3⟩)⟩ | exact ⟨rfl, cell1_u, Or.inr (Or.inl ⟨_, Tryz.underlying5⟩)⟩ | exact ⟨rfl, cell1_s, Or.inr (Or.inr Tryz.underlying9)⟩)) hd4).trans opRows_vals
  have s0 : SignsIn W := block_of gSig hv0 e0
  have s1 : ExTab W := block_of gEx hv1 e1
  have s2 : StTab W := block_of gSt hv2 e2
  have s3 : DeTab W := block_of gDe hv3 e3
  have s4 := block_of gOp hv4 e4
  exact ⟨⟨s0, hE1, hE0, s4⟩, ⟨⟨s0, s1, s2⟩, s3⟩⟩
end Go.Proofs.YtpcdlneompnhlaaGreatDoor.Pa
