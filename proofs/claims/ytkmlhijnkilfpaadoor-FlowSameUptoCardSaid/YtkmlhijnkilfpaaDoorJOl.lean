/- Rows of graphs of the call's own; a graph of another name, of a block less, is not the same. Conditions: none. The regions of FlowSame that draw their order: conditions on what each operation leaves. Conditions: none. FlowSame answers true. Conditions: both programs of blocks lie in memory; their lists are of bounded length; the packages' tables hold their lists. -/
import Derived.Test.YtkmlhijnkilfpaaDoorJOk
import Derived.Test.YtkmlhijnkilfpaaDoorJGrF
import Derived.Test.YtkmlhijnkilfpaaDoorJQvF
set_option linter.unusedVariables false
set_option linter.unusedSimpArgs false
namespace Go.Proofs.YtkmlhijnkilfpaaDoor.Fw
open Go Go.RowKit
open Go.Proofs.YtkmlhijnkilfpaaDoor.Lx Go.Proofs.YtkmlhijnkilfpaaDoor.Tr Go.Proofs.YtkmlhijnkilfpaaDoor.Cd

theorem gr_len (l : List Gr) : (grCells l).length = l.length * 5 := flat_lenM Gr.vals 5 Gr.vals_len l
theorem gr_ones (l : List Gr) : ∀ u ∈ grCells l, u.oneCell' = true := fun u hu => by
  unfold grCells at hu
  obtain ⟨x, _, hx⟩ := List.mem_flatMap.1 hu
  exact gr_one x u hx
theorem bk_ones (l : List Bk) : ∀ u ∈ bkCells l, u.oneCell' = true := fun u hu => by
  unfold bkCells at hu
  obtain ⟨x, _, hx⟩ := List.mem_flatMap.1 hu
  exact bk_one x u hx
theorem set_gr : ∀ (l : List Gr) (k j : Nat) (x x' : Gr) (v : Value), l[k]? = some x → j < 5 → x'.vals = x.vals.set j v → grCells (l.set k x') = (grCells l).set (k * 5 + j) v
  | [], k, _, _, _, _, h, _, _ => by simp at h
  | y :: r, 0, j, x, x', v, h, hj, he => by
    obtain rfl : y = x := by simpa using h
    show x'.vals ++ grCells r = (y.vals ++ grCells r).set (0 * 5 + j) v
    rw [List.set_append_left _ _ (by rw [Gr.vals_len]; omega), he, Nat.zero_mul, Nat.zero_add]
  | y :: r, k + 1, j, x, x', v, h, hj, he => by
    show y.vals ++ grCells (r.set k x') = (y.vals ++ grCells r).set ((k + 1) * 5 + j) v
    rw [List.set_append_right _ _ (by rw [Gr.vals_len]; omega), set_gr r k j x x' v (by simpa using h) hj he, Gr.vals_len, show (k + 1) * 5 + j - 5 = k * 5 + j by omega]
structure OwnG (B g cap : Nat) (l : List Gr) (W : World) : Prop where
  hB : B ≤ g
  ex : ∃ cur : Array Value, W.heap[g]? = some (.cells cur 37 (0, 0)) ∧ l.length ≤ cap ∧ cap ≤ maxLen ∧ cur.size = cap * 5 ∧ cur.toList.take (l.length * 5) = grCells l
theorem OwnG.of {B : Nat} {l : List Gr} {W : World} {v : Value} (h : W.ownsRow B 37 5 v l.length (grCells l)) (h0 : 0 < l.length) : ∃ g cap, v = .slice (some ⟨g, 0, none⟩) l.length cap ∧ OwnG B g cap l W := by
  rcases h.2 with ⟨rfl, h0'⟩ | ⟨g, cap, cur, rfl, hB, hg, h1, h2, h3, h4⟩
  · omega
  · exact ⟨g, cap, rfl, hB, cur, hg, h1, h2, h3, h4⟩
theorem OwnG.keep {B g cap : Nat} {l : List Gr} {W W' : World} (h : OwnG B g cap l W) (hb : Below W.heap.size W W') : OwnG B g cap l W' := by
  obtain ⟨hB, cur, hg, h1⟩ := h
  exact ⟨hB, cur, (hb.block g (Array.getElem?_eq_some_iff.1 hg).1).trans hg, h1⟩
theorem OwnG.lt {B g cap : Nat} {l : List Gr} {W : World} (h : OwnG B g cap l W) : g < W.heap.size := by
  obtain ⟨hB, cur, hg, h1⟩ := h
  exact (Array.getElem?_eq_some_iff.1 hg).1
theorem OwnG.row {B g cap : Nat} {l : List Gr} {W : World} (h : OwnG B g cap l W) : RowAt W (fun b => b = g) (some ⟨g, 0, none⟩) cap l.length (grCells l) := by
  obtain ⟨hB, cur, hg, h1, h2, h3, h4⟩ := h
  refine ⟨h1, h2, fun e => (by cases e), fun j u hu => ⟨g, 0, rfl, rfl, ?_⟩⟩
  have hj : j < l.length * 5 := by rw [← gr_len]; exact (List.getElem?_eq_some_iff.1 hu).1
  rw [← h4, List.getElem?_take, if_pos hj] at hu
  rw [Nat.zero_add]
  exact blk_cell hg (by simpa using hu)
theorem OwnG.get {B g cap : Nat} {l : List Gr} {W : World} (h : OwnG B g cap l W) {k : Nat} {e : Gr} (hx : l[k]? = some e) : GrC e g (k * 5) W := by
  obtain ⟨b, off, ha, _, c0, c1, c2, c3, c4⟩ := gr_row h.row k e hx
  cases ha
  simp only [Nat.zero_add] at c0 c1 c2 c3 c4
  exact ⟨c0, c1, c2, c3, c4⟩
theorem OwnG.free {B g cap : Nat} {l : List Gr} {W : World} (h : OwnG B g cap l W) (j : Nat) : W.frozen? ⟨g, j, none⟩ = false := by
  obtain ⟨hB, cur, hg, h1⟩ := h
  exact blk_free hg j
theorem OwnG.set {B g cap : Nat} {l : List Gr} {W : World} (h : OwnG B g cap l W) {k j : Nat} {x x' : Gr} {v : Value} (hx : l[k]? = some x) (hj : j < 5) (he : x'.vals = x.vals.set j v) : OwnG B g cap (l.set k x') (W.setCell ⟨g, k * 5 + j, none⟩ v) := by
  obtain ⟨hB, cur, hg, h1, h2, h3, h4⟩ := h
  refine ⟨hB, cur.setIfInBounds (k * 5 + j) v, heap_set1 hg _ _, by simpa using h1, h2, by simpa using h3, ?_⟩
  · rw [List.length_set, set_gr l k j x x' v hx hj he, ← h4, Array.toList_setIfInBounds, List.take_set]
theorem OwnG.grown {B g q cap : Nat} {l : List Gr} {W W' : World} (h : OwnG B g cap l W) (hg : W.grownBy W' (some q)) (hn : q ≠ g) : OwnG B g cap l W' := by
  have hl := h.lt
  obtain ⟨hB, cur, hh, hr⟩ := h
  exact ⟨hB, cur, (hg.block g hl (fun e => hn (Option.some.inj e).symm)).trans hh, hr⟩
/-! ### what is not the same -/
def nmX (u : Gr) : Gr := { u with name := u.name ++ ⟨#[120]⟩ }
def blX (u : Gr) (a : Option Addr) (c : Nat) : Gr := { u with ba := a, bcap := c, blocks := u.blocks.take (u.blocks.length - 1) }
theorem same_nm (u : Gr) : sameG u (nmX u) = false := by
  have h : decide (u.name = u.name ++ ⟨#[120]⟩) = false := decide_eq_false fun e => by
    have := congrArg ByteArray.size e
    rw [ByteArray.size_append] at this
    have h1 : (⟨#[120]⟩ : ByteArray).size = 1 := rfl
    omega
  unfold sameG nmX
  simp [h]
theorem same_bl (u : Gr) (a : Option Addr) (c : Nat) (h : 0 < u.blocks.length) : sameG u (blX u a c) = false := by
  have h1 : eqL sameB u.blocks (u.blocks.take (u.blocks.length - 1)) = false := by
    cases he : eqL sameB u.blocks (u.blocks.take (u.blocks.length - 1))
    · rfl
    · have := eqL_len he
      rw [List.length_take] at this
      omega
  unfold sameG blX
  simp [h1]
def setFm (f : Fm) (k : Nat) (y : Gr) (a : Option Addr) (c : Nat) : Fm := { f with fa := a, fcap := c, funs := f.funs.set k y }
theorem same_set {f : Fm} {k : Nat} {u y : Gr} {a : Option Addr} {c : Nat} (hu : f.funs[k]? = some u) (h : sameG u y = false) : sameFm f (setFm f k y a c) = false := by
  unfold sameFm setFm
  simp only
  rw [eqL_set sameG_refl f.funs k u y hu, h, Bool.and_false]
theorem set_in2 {f : Fm} {k q cap B : Nat} {y : Gr} {W : World} (hf : Fm.In W f) (ho : OwnG B q cap (f.funs.set k y) W) (hy : Gr.In W y) : Fm.In W (setFm f k y (some ⟨q, 0, none⟩) cap) := by
  refine ⟨hf.mrow, hf.mems, hf.lrow, hf.locks, ho.row.mono fun _ _ => trivial, fun z hz => ?_⟩
  have hz' : z ∈ f.funs.set k y := hz
  rcases List.mem_or_eq_of_mem_set hz' with h | h
  · exact hf.funs z h
  · rw [h]; exact hy
end Go.Proofs.YtkmlhijnkilfpaaDoor.Fw
set_option linter.unusedVariables false
set_option linter.unusedSimpArgs false
namespace Go.Proofs.YtkmlhijnkilfpaaDoor.Fw
open Go Go.RowKit
open Go.Proofs.YtkmlhijnkilfpaaDoor.Lx Go.Proofs.YtkmlhijnkilfpaaDoor.Tr Go.Proofs.YtkmlhijnkilfpaaDoor.Cd
open Go.Proofs.YtkmlhijnkilfpaaDoor.Vq Go.Proofs.YtkmlhijnkilfpaaDoor.Qr

def FmC (f : Fm) (b : Nat) (V : World) : Prop := V.cell? ⟨b, 0, none⟩ = some (.slice f.ma f.mems.length f.mcap) ∧ V.cell? ⟨b, 1, none⟩ = some (.slice f.la f.locks.length f.lcap) ∧ V.cell? ⟨b, 2, none⟩ = some (.slice f.fa f.funs.length f.fcap)
theorem ld_fm3 {b : Nat} {a1 a2 a3 : Option Addr} {n1 n2 n3 c1 c2 c3 : Nat} {V : World} (h : V.cell? ⟨b, 0, none⟩ = some (.slice a1 n1 c1) ∧ V.cell? ⟨b, 1, none⟩ = some (.slice a2 n2 c2) ∧ V.cell? ⟨b, 2, none⟩ = some (.slice a3 n3 c3)) : (Instr.loadAt 30 (.pointer (some ⟨b, 0, none⟩))).run Tryd.prog V = .ok (.agg #[.slice a1 n1 c1, .slice a2 n2 c2, .slice a3 n3 c3]) V := by
  obtain ⟨h0, h1, h2⟩ := h
  simp [go_sem, h0, h1, h2]
theorem ld_fm {f : Fm} {b : Nat} {V : World} (h : FmC f b V) : (Instr.loadAt 30 (.pointer (some ⟨b, 0, none⟩))).run Tryd.prog V = .ok (.agg #[.slice f.ma f.mems.length f.mcap, .slice f.la f.locks.length f.lcap, .slice f.fa f.funs.length f.fcap]) V := ld_fm3 h
theorem ld_gr5 {b o : Nat} {n : ByteArray} {t : Bool} {p r : Int} {a : Option Addr} {m c : Nat} {V : World} (h : V.cell? ⟨b, o, none⟩ = some (.string n) ∧ V.cell? ⟨b, o + 1, none⟩ = some (.bool t) ∧ V.cell? ⟨b, o + 2, none⟩ = some (.int .i64 p) ∧ V.cell? ⟨b, o + 3, none⟩ = some (.int .i64 r) ∧ V.cell? ⟨b, o + 4, none⟩ = some (.slice a m c)) : (Instr.loadAt 37 (.pointer (some ⟨b, o, none⟩))).run Tryd.prog V = .ok (.agg #[.string n, .bool t, .int .i64 p, .int .i64 r, .slice a m c]) V := by
  obtain ⟨h0, h1, h2, h3, h4⟩ := h
  simp [go_sem, h0, h1, h2, h3, h4]
theorem run_neb {a : Act} {o : Oper} {t2 : TypeId} {x y : Operand} {b : Bool} {w : World} (ho : o.op = .binOp .neq 4 x y t2) (hx : a.eval x = .bool b) (hy : a.eval y = .bool b) : (execOp a.eval o).run Tryd.prog w = .ok (.value (.bool false)) w := by
  unfold execOp
  rw [ho]
  simp only [hx, hy]
  cases b <;> simp [go_sem, Tryd.underlying4]
def rse (B : Nat) (f g : Fm) (bb : Bool) : List (Value → World → Prop) :=
  [VK (.agg #[.slice f.ma f.mems.length f.mcap, .slice f.la f.locks.length f.lcap, .slice f.fa f.funs.length f.fcap]), VK (.agg #[.slice f.ma f.mems.length f.mcap, .slice f.la f.locks.length f.lcap, .slice f.fa f.funs.length f.fcap]), VK (.bool true), VK (.bool false), VK (.bool false), VK (.agg #[.slice f.ma f.mems.length f.mcap, .slice f.la f.locks.length f.lcap, .slice f.fa f.funs.length f.fcap]), VK (.agg #[.slice g.ma g.mems.length g.mcap, .slice g.la g.locks.length g.lcap, .slice g.fa g.funs.length g.fcap]), VK (.bool bb), VK (.agg #[.slice g.ma g.mems.length g.mcap, .slice g.la g.locks.length g.lcap, .slice g.fa g.funs.length g.fcap]), VK (.agg #[.slice f.ma f.mems.length f.mcap, .slice f.la f.locks.length f.lcap, .slice f.fa f.funs.length f.fcap]), VK (.bool bb), VK (.bool false), VK (.bool false)]
theorem rse_mono {B : Nat} {f g : Fm} {bb : Bool} : MonoL (rse B f g bb) := ⟨VK.mono, VK.mono, VK.mono, VK.mono, VK.mono, VK.mono, VK.mono, VK.mono, VK.mono, VK.mono, VK.mono, VK.mono, VK.mono, trivial⟩
def rsn (k B xb b1 off1 xq xcap : Nat) (f : Fm) (u : Gr) (nn : ByteArray) : List (Value → World → Prop) :=
  [VK (.agg #[.slice f.ma f.mems.length f.mcap, .slice f.la f.locks.length f.lcap, .slice f.fa f.funs.length f.fcap]), VK (.agg #[.slice f.ma f.mems.length f.mcap, .slice f.la f.locks.length f.lcap, .slice (some ⟨xq, 0, none⟩) f.funs.length xcap]), VK (.bool false), VK (.bool false), VK (.pointer (some ⟨B, 2, none⟩)), VK (.slice (some ⟨b1, off1, none⟩) f.funs.length f.fcap), VK (.int .i64 k), VK (.pointer (some ⟨b1, off1 + k * 5, none⟩)), VK (.agg #[.string u.name, .bool u.thread, .int .i64 u.params, .int .i64 u.regs, .slice u.ba u.blocks.length u.bcap]), VK (.pointer (some ⟨xb, 2, none⟩)), VK (.slice (some ⟨xq, 0, none⟩) f.funs.length xcap), VK (.int .i64 k), VK (.pointer (some ⟨xq, 0 + k * 5, none⟩)), VK (.agg #[.string nn, .bool u.thread, .int .i64 u.params, .int .i64 u.regs, .slice u.ba u.blocks.length u.bcap]), VK (.bool false), VK (.bool false), VK (.bool false), VK (.pointer (some ⟨B, 2, none⟩)), VK (.slice (some ⟨b1, off1, none⟩) f.funs.length f.fcap), VK (.int .i64 k), VK (.pointer (some ⟨b1, off1 + k * 5, none⟩)), VK (.agg #[.string u.name, .bool u.thread, .int .i64 u.params, .int .i64 u.regs, .slice u.ba u.blocks.length u.bcap]), VK (.pointer (some ⟨B, 2, none⟩)), VK (.slice (some ⟨b1, off1, none⟩) f.funs.length f.fcap), VK (.int .i64 k), VK (.pointer (some ⟨b1, off1 + k * 5, none⟩)), VK (.agg #[.string u.name, .bool u.thread, .int .i64 u.params, .int .i64 u.regs, .slice u.ba u.blocks.length u.bcap]), VK (.bool true), VK (.bool false), VK (.bool false)]
theorem rsn_mono {k B xb b1 off1 xq xcap : Nat} {f : Fm} {u : Gr} {nn : ByteArray} : MonoL (rsn k B xb b1 off1 xq xcap f u nn) := ⟨VK.mono, VK.mono, VK.mono, VK.mono, VK.mono, VK.mono, VK.mono, VK.mono, VK.mono, VK.mono, VK.mono, VK.mono, VK.mono, VK.mono, VK.mono, VK.mono, VK.mono, VK.mono, VK.mono, VK.mono, VK.mono, VK.mono, VK.mono, VK.mono, VK.mono, VK.mono, VK.mono, VK.mono, VK.mono, VK.mono, trivial⟩
end Go.Proofs.YtkmlhijnkilfpaaDoor.Fw
set_option linter.unusedSimpArgs false
set_option linter.unusedVariables false
namespace Go.Proofs.YtkmlhijnkilfpaaDoor.Fw
open Go Go.RowKit
open Go.Proofs.YtkmlhijnkilfpaaDoor.Lx Go.Proofs.YtkmlhijnkilfpaaDoor.Tr Go.Proofs.YtkmlhijnkilfpaaDoor.Cd
open Go.Proofs.YtkmlhijnkilfpaaDoor.Vq Go.Proofs.YtkmlhijnkilfpaaDoor.Qr
open Go.Proofs.YtkmlhijnkilfpaaDoor.Qg (run_call1 run_call2)

theorem u_wrap (n : Int) : ∃ m : Nat, IntKind.u64.wrap n = (m : Int) ∧ m < 18446744073709551616 := by
  have h : IntKind.u64.wrap n = n % 18446744073709551616 := rfl
  exact ⟨(n % 18446744073709551616).toNat, by rw [h]; omega, by omega⟩
set_option maxHeartbeats 8000000 in
set_option maxRecDepth 100000 in
theorem flowSame_long (f g : Fm) (n : Int) (w : World) (hT : OpTab w) (hsg : SignsIn w) (hA : 20 < (f.funs.length : Int) ∨ 20 < (g.funs.length : Int)) :
    Calls Tryd.prog 5 #[.agg ⟨f.vals⟩, .agg ⟨g.vals⟩, .int .i64 n] w fun e w' => e = .returned (.bool true) ∧ Below w.heap.size w w' := by
  have hwk := Lib.hid (fun V (hv : Below w.heap.size w V) => works_c V (hT.keep hv) (hsg.below hsg.lt hv))
  have hst := Lib.hid (b_alloc2 w (.cells #[.slice f.ma f.mems.length f.mcap, .slice f.la f.locks.length f.lcap, .slice f.fa f.funs.length f.fcap] 30) (.cells #[.slice g.ma g.mems.length g.mcap, .slice g.la g.locks.length g.lcap, .slice g.fa g.funs.length g.fcap] 30))
  have hb2 := blk_new (w.alloc (.cells #[.slice f.ma f.mems.length f.mcap, .slice f.la f.locks.length f.lcap, .slice f.fa f.funs.length f.fcap] 30)) (.cells #[.slice g.ma g.mems.length g.mcap, .slice g.la g.locks.length g.lcap, .slice g.fa g.funs.length g.fcap] 30) (b := w.heap.size + 1) (by simp)
  have hc : Hid (∀ V, Below ((w.alloc (.cells #[.slice f.ma f.mems.length f.mcap, .slice f.la f.locks.length f.lcap, .slice f.fa f.funs.length f.fcap] 30)).alloc (.cells #[.slice g.ma g.mems.length g.mcap, .slice g.la g.locks.length g.lcap, .slice g.fa g.funs.length g.fcap] 30)).heap.size ((w.alloc (.cells #[.slice f.ma f.mems.length f.mcap, .slice f.la f.locks.length f.lcap, .slice f.fa f.funs.length f.fcap] 30)).alloc (.cells #[.slice g.ma g.mems.length g.mcap, .slice g.la g.locks.length g.lcap, .slice g.fa g.funs.length g.fcap] 30)) V → FmC f w.heap.size V ∧ FmC g (w.heap.size + 1) V) := Lib.hid (fun V hv => by
    obtain ⟨a0, a1, a2⟩ := box3 w f
    exact ⟨⟨below_in hv (below_in (b_alloc _ _) a0), below_in hv (below_in (b_alloc _ _) a1), below_in hv (below_in (b_alloc _ _) a2)⟩, below_in hv (blk_cell hb2 rfl), below_in hv (blk_cell hb2 rfl), below_in hv (blk_cell hb2 rfl)⟩)
  clear hT hsg hb2
  have hv1 : Value.agg ⟨f.vals⟩ = .agg #[.slice f.ma f.mems.length f.mcap, .slice f.la f.locks.length f.lcap, .slice f.fa f.funs.length f.fcap] := rfl
  have hv2 : Value.agg ⟨g.vals⟩ = .agg #[.slice g.ma g.mems.length g.mcap, .slice g.la g.locks.length g.lcap, .slice g.fa g.funs.length g.fcap] := rfl
  rw [hv1, hv2]
  clear hv1 hv2
  by_cases h1 : 20 < (f.funs.length : Int)
  · go_enter Tryd.func5, Tryd.ntmps5
    go_wp2_with fail
    refine (hwk.out _ hst.out).mono ?_
    rintro e w1 ⟨rfl, hb1⟩
    have g1 := Lib.hid (hst.out.trans (hb1.mono hst.out.size))
    obtain ⟨⟨a0, a1, a2⟩, ⟨e0, e1, e2⟩⟩ := hc.out w1 hb1
    clear hb1 hc
    go_wp2_with fail
    refine (hwk.out _ g1.out).mono ?_
    rintro e w2 ⟨rfl, hb2⟩
    have g2 := Lib.hid (g1.out.trans (hb2.mono g1.out.size))
    clear hb2 hwk
    go_wp2_with fail
    go_ret
    exact ⟨rfl, g2.out⟩
  · have h2 : 20 < (g.funs.length : Int) := by omega
    go_enter Tryd.func5, Tryd.ntmps5
    go_wp2_with fail
    refine (hwk.out _ hst.out).mono ?_
    rintro e w1 ⟨rfl, hb1⟩
    have g1 := Lib.hid (hst.out.trans (hb1.mono hst.out.size))
    obtain ⟨⟨a0, a1, a2⟩, ⟨e0, e1, e2⟩⟩ := hc.out w1 hb1
    clear hb1 hc
    go_wp2_with fail
    refine (hwk.out _ g1.out).mono ?_
    rintro e w2 ⟨rfl, hb2⟩
    have g2 := Lib.hid (g1.out.trans (hb2.mono g1.out.size))
    clear hb2 hwk
    go_wp2_with fail
    go_ret
    exact ⟨rfl, g2.out⟩
end Go.Proofs.YtkmlhijnkilfpaaDoor.Fw
