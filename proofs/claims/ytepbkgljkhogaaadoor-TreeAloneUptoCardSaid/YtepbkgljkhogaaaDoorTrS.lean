/- Walk of the statement TreeAlone's function. Conditions: the package's tables hold their lists; the expression has at most 1048576 parts. -/
import Derived.Test.YtepbkgljkhogaaaDoorTrT
import Derived.Deep.RegionLawGrows
import Derived.Deep.RegionHeld3
import Derived.Deep.DeepCutAuto
import Derived.IntWalk
import Derived.Deep.DrawnRows
namespace Go.Proofs.YtepbkgljkhogaaaDoor.Tr
open Go Go.RowKit
open Go.Proofs.YtepbkgljkhogaaaDoor.Lx
theorem info40 : (Tryd.prog.info? 40).map (fun i => (i.zero, i.size, i.bytes)) = some (some (.agg #[.int .u8 0, .string ⟨#[]⟩, .int .i64 0, .slice none 0 0, .slice none 0 0, .int .i64 0]), 6, 88) := by kernel_rfl

theorem dOne_in (c : UInt8) (k : Int) (hk : 0 ≤ k ∧ k ≤ 255) (b1 b2 : Nat) (e : Ex) (W : World) (hin : Ex.In W (fun _ => True) e) (h2 : RowAt W (fun _ => True) (some ⟨b2, 0, none⟩) 1 1 (exCells [e])) (h1 : RowAt W (fun _ => True) (some ⟨b1, 0, none⟩) 1 1 (stCells [sOne k b2 e])) : De.In W (fun _ => True) (dOne c k b1 b2 e) := by
  refine ⟨u8_of _ (by unfold dOne; simp only; omega), ?_, i64_of _ (by unfold dOne; simp only; omega), i64_of _ (by unfold dOne; simp only; omega), rowAt_nil _, by simp [dOne], h1, ?_⟩
  · show (1 : Nat) ≤ maxLen
    unfold maxLen; omega
  · unfold dOne; simp only
    unfold St.InL St.InL sOne St.In Ex.InL Ex.InL St.InL
    exact ⟨⟨u8_of _ hk, by unfold maxLen; decide, by unfold maxLen; decide, i64_of _ (by omega), h2, ⟨hin, trivial⟩, rowAt_nil _, trivial, rowAt_nil _, trivial⟩, trivial⟩
/-- a thread of one statement of one expression, laid anew -/
theorem thread_laid (c : UInt8) (k : Int) (hk : 0 ≤ k ∧ k ≤ 255) (e : Ex) (V W : World) (hW : ((V.alloc (.cells ⟨e.vals⟩ 25)).alloc (.cells ⟨(sOne k V.heap.size e).vals⟩ 38)).alloc (.cells ⟨(dOne c k (V.heap.size + 1) V.heap.size e).vals⟩ 40) = W) (hin : Ex.In V (fun _ => True) e) :
    W.heap.size = V.heap.size + 3 ∧ Below V.heap.size V W ∧ De.In W (fun _ => True) (dOne c k (V.heap.size + 1) V.heap.size e) ∧ ∀ j u, (dOne c k (V.heap.size + 1) V.heap.size e).vals[j]? = some u → W.cell? ⟨V.heap.size + 2, j, none⟩ = some u := by
  obtain ⟨v1, hv1⟩ : ∃ W, V.alloc (.cells ⟨e.vals⟩ 25) = W := ⟨_, rfl⟩
  rw [hv1] at hW
  have hb1 : Below V.heap.size V v1 := by rw [← hv1]; exact (Below.refl _ _).alloc (Nat.le_refl _) _
  have hs1 : v1.heap.size = V.heap.size + 1 := by rw [← hv1]; simp
  have hn1 : v1.heap[V.heap.size]? = some (.cells ⟨e.vals⟩ 25 (0, 0)) := by rw [← hv1]; exact World.alloc_heap_new _ _
  obtain ⟨v2, hv2⟩ : ∃ W, v1.alloc (.cells ⟨(sOne k V.heap.size e).vals⟩ 38) = W := ⟨_, rfl⟩
  rw [hv2] at hW
  have hb2 : Below v1.heap.size v1 v2 := by rw [← hv2]; exact (Below.refl _ _).alloc (Nat.le_refl _) _
  have hs2 : v2.heap.size = V.heap.size + 2 := by rw [← hv2]; simp; omega
  have hn2 : v2.heap[V.heap.size + 1]? = some (.cells ⟨(sOne k V.heap.size e).vals⟩ 38 (0, 0)) := by rw [← hv2, ← hs1]; exact World.alloc_heap_new _ _
  have hb3 : Below v2.heap.size v2 W := by rw [← hW]; exact (Below.refl _ _).alloc (Nat.le_refl _) _
  have hs3 : W.heap.size = V.heap.size + 3 := by rw [← hW]; simp; omega
  have hn3 : W.heap[V.heap.size + 2]? = some (.cells ⟨(dOne c k (V.heap.size + 1) V.heap.size e).vals⟩ 40 (0, 0)) := by rw [← hW, ← hs2]; exact World.alloc_heap_new _ _
  clear hv1 hv2 hW
  replace hn1 := (hb3.block _ (by omega)).trans ((hb2.block _ (by omega)).trans hn1)
  replace hn2 := (hb3.block _ (by omega)).trans hn2
  have hbb : Below V.heap.size V W := (hb1.trans (hb2.mono (by omega))).trans (hb3.mono (by omega))
  refine ⟨hs3, hbb, ?_, fun j u hu => ?_⟩
  · exact dOne_in c k hk _ _ e W (Ex.In.below (Kps.of_below hbb) _ hin) (rowAt_block hn1 1 (by omega) (exCells [e]) (by simp [exCells])) (rowAt_block hn2 1 (by omega) (stCells [sOne k V.heap.size e]) (by simp [stCells]))
  · simp only [World.cell?, hn3]
    simpa using hu
theorem cell_drew (W : World) (a : Addr) : W.drew.cell? a = W.cell? a := rfl
theorem World.drew_size' (W : World) : W.drew.heap.size = W.heap.size := rfl
theorem new_cell {W : World} {vs : Array Value} {t : TypeId} {b j : Nat} {u : Value} (hu : vs[j]? = some u) (hb : W.heap.size = b) : (W.alloc (.cells vs t)).cell? ⟨b, j, none⟩ = some u := by
  subst hb
  have h : (W.alloc (.cells vs t)).heap[W.heap.size]? = some (.cells vs t (0, 0)) := World.alloc_heap_new W _
  have key : ∀ (V : World) (B : Nat), V.heap[B]? = some (.cells vs t (0, 0)) → V.cell? ⟨B, j, none⟩ = some u := fun V B hB => by simp only [World.cell?, hB]; simpa using hu
  exact key _ _ h
theorem own_form {W : World} {B n : Nat} {v : Value} {xs : List Value} (h : W.ownsRow B 40 6 v (n + 1) xs) : ∃ g cap, v = .slice (some ⟨g, 0, none⟩) (n + 1) cap ∧ B ≤ g ∧ g < W.heap.size := by
  obtain ⟨_, h0 | ⟨g, cap, cur, hv, hB, hg, _⟩⟩ := h
  · exact absurd h0.2 (by omega)
  · exact ⟨g, cap, hv, hB, (Array.getElem?_eq_some_iff.1 hg).1⟩
theorem add_zero (b j : Nat) : (⟨b, 0, none⟩ : Addr).add j = ⟨b, j, none⟩ := by
  unfold Addr.add
  by_cases h : j = 0
  · rw [if_pos h, h]
  · rw [if_neg h, Nat.zero_add]
theorem step_append_grow1 {P : Program} {ops : Array Oper} {o : Oper} {a : Act} {w : World} {K : Act → World → Prop} {Q : Exit → Act → World → Prop} {E : Prop}
    (hg : o.guard = none) (s x y : Operand) (t : TypeId) (hop : o.op = Op.call { callee := Callee.builtin Builtin.append, args := #[s, x], argTypes := #[t, t] })
    (e : TypeId) (i : TypeInfo) (z : Value) (h1 : P.underlying t = some (.slice e)) (h2 : P.info? e = some i) (h3 : i.zero = some z) (h4 : i.size = 6) (h5 : i.bytes = 88) (h6 : z.cells.size = 6)
    (ad0 : Addr) (hs : a.eval s = .slice (some ad0) 0 0) (b : Nat) (hx : a.eval x = .slice (some ⟨b, 0, none⟩) 1 1) (vs : Array Value) (hy : a.eval y = .agg vs) (hl : vs.size = 6)
    (hc : ∀ j u, vs[j]? = some u → w.cell? ⟨b, j, none⟩ = some u) (h1c : ∀ u ∈ vs.toList, u.oneCell' = true)
    (hK : ∀ v' w', w'.ownsRow w.heap.size e 6 v' (0 + 1) ([] ++ vs.toList) → Below w.heap.size w w' → K (a.put o.dst v') w') :
    if Region.wanted o (yielded ops a.tmps) = true then Oper.wp P o a w K Q else E :=
  have _ := hy
  step_append_grows hg s x t hop e i z 6 88 h1 h2 h3 h4 h5 h6 (by omega) (some ad0) 0 0 [] hs (fun h => by cases h) rfl (fun _ _ j u hu => by simp at hu) ⟨b, 0, none⟩ 1 1 vs.toList hx (by simpa using hl)
    (fun j u hu => by rw [add_zero]; exact hc j u (by simpa using hu)) h1c (by omega) (by unfold maxLen; omega) (by omega) (fun v' w' hown hgrow => hK v' w' hown ⟨hgrow.os, hgrow.tape, hgrow.output, hgrow.size, fun k hk => hgrow.block k hk (by simp)⟩)
theorem step_append_own1 {P : Program} {ops : Array Oper} {o : Oper} {a : Act} {w : World} {K : Act → World → Prop} {Q : Exit → Act → World → Prop} {E : Prop}
    (hg : o.guard = none) (s x y : Operand) (t : TypeId) (hop : o.op = Op.call { callee := Callee.builtin Builtin.append, args := #[s, x], argTypes := #[t, t] })
    (e : TypeId) (i : TypeInfo) (z : Value) (h1 : P.underlying t = some (.slice e)) (h2 : P.info? e = some i) (h3 : i.zero = some z) (h4 : i.size = 6) (h5 : i.bytes = 88) (h6 : z.cells.size = 6)
    (base : Nat) (n : Nat) (v : Value) (xs : List Value) (hs : a.eval s = v) (hown : w.ownsRow base e 6 v n xs) (b : Nat) (hx : a.eval x = .slice (some ⟨b, 0, none⟩) 1 1) (vs : Array Value) (hy : a.eval y = .agg vs) (hl : vs.size = 6)
    (hc : ∀ j u, vs[j]? = some u → w.cell? ⟨b, j, none⟩ = some u) (h1c : ∀ u ∈ vs.toList, u.oneCell' = true) (hn : n ≤ 4) (hbase : base ≤ w.heap.size)
    (hK : ∀ v' w', w'.ownsRow base e 6 v' (n + 1) (xs ++ vs.toList) → w.grownBy w' v.ownBlock → K (a.put o.dst v') w') :
    if Region.wanted o (yielded ops a.tmps) = true then Oper.wp P o a w K Q else E := by
  have _ := hy
  rw [if_pos (by simp [Region.wanted, hg])]
  exact wp_append_own w s x t hop base e i z 6 88 h1 h2 h3 h4 h5 h6 (by omega) v n xs hs hown ⟨b, 0, none⟩ 1 1 vs.toList hx (by simpa using hl)
    (fun j u hu => by rw [add_zero]; exact hc j u (by simpa using hu)) h1c (by unfold maxLen; omega) (by omega) hbase (fun v' w' h2 h3 _ => hK v' w' h2 h3)
theorem own_row {W : World} {B n g cap : Nat} {xs : List Value} (h : W.ownsRow B 40 6 (.slice (some ⟨g, 0, none⟩) n cap) n xs) : RowAt W (fun _ => True) (some ⟨g, 0, none⟩) cap n xs := by
  have hc := h.cells (g := g) rfl
  obtain ⟨_, h0 | ⟨g', cap', cur, hv, _, _, h1, h2, _⟩⟩ := h
  · cases h0.1
  · cases hv
    exact ⟨h1, h2, fun h => (by cases h), fun j u hu => ⟨g, 0, rfl, trivial, by have := hc j u hu; rw [add_zero] at this; rw [Nat.zero_add]; exact this⟩⟩
theorem rowAt_cells {W : World} {b : Nat} {xs : List Value} (n : Nat) (hn : n ≤ 4) (h : ∀ j u, xs[j]? = some u → W.cell? ⟨b, j, none⟩ = some u) : RowAt W (fun _ => True) (some ⟨b, 0, none⟩) n n xs :=
  ⟨Nat.le_refl _, by unfold maxLen; omega, fun h => (by cases h), fun j u hu => ⟨b, 0, rfl, trivial, by rw [Nat.zero_add]; exact h j u hu⟩⟩
/-- two threads lie in a list of the call's own -/
def Tw (w3 : World) (b1 b2 : Nat) (e : Ex) (v y : Value) (W : World) : Prop :=
  ∃ B b3 b4, y = .slice (some ⟨b4, 0, none⟩) 1 1 ∧ W.ownsRow B 40 6 v 2 (deCells [dOne 116 7 b1 b2 e, dOne 117 9 b3 b4 e]) ∧ (∀ j u, (sOne 9 b4 e).vals[j]? = some u → W.cell? ⟨b3, j, none⟩ = some u) ∧ (∀ j u, e.vals[j]? = some u → W.cell? ⟨b4, j, none⟩ = some u) ∧ Below w3.heap.size w3 W

attribute [local go_sem ↓] Go.wp_at_zero Go.wp_at_succ
set_option linter.unusedSimpArgs false in
set_option maxHeartbeats 40000000 in
set_option maxRecDepth 100000 in
theorem alone_any (e : Ex) (w : World) (hin : Ex.In w (fun _ => True) e) (hsz : e.sz ≤ 1048576) (ht : TabsD w) :
    Calls Tryd.prog 7 #[.agg ⟨e.vals⟩] w fun x w' => x = .returned (.bool true) ∧ Below w.heap.size w w' := by
  have hx := fun V (h : Below w.heap.size w V) => expr_any e.sz e V (Nat.le_refl _) (by omega) (Ex.In.below (Kps.of_below h) _ hin)
  have hi := fun V (h : Below w.heap.size w V) => And.intro (Ex.In.below (Kps.of_below (S := fun _ => True) h) _ hin) (ht.below h)
  obtain ⟨e', he⟩ : ∃ e', e = e' := ⟨_, rfl⟩
  obtain ⟨ek, enm, en, ea, ecap, eargs, epos⟩ := e
  replace hx := Lib.hid hx
  replace hi := Lib.hid hi
  show Calls Tryd.prog 7 #[.agg #[.int .u8 ek, .string enm, .int .i64 en, .slice ea eargs.length ecap, .int .i64 epos]] w _
  replace he := Lib.hid he
  clear hin ht
  go_enter Tryd.func7, Tryd.ntmps7
  go_wp2_with fail
  have hb0 : Below w.heap.size w (w.alloc (.cells #[.int .u8 ek, .string enm, .int .i64 en, .slice ea eargs.length ecap, .int .i64 epos] 25)) := (Below.refl _ _).alloc (Nat.le_refl _) _
  refine (hx.out _ hb0).mono ?_
  rintro x V1 ⟨⟨v, rfl, hv0, hv1⟩, hb⟩
  have hb1 : Below w.heap.size w V1 := hb0.trans (hb.mono (by simp))
  have x0 := below_in hb (show (w.alloc (.cells #[.int .u8 ek, .string enm, .int .i64 en, .slice ea eargs.length ecap, .int .i64 epos] 25)).cell? ⟨w.heap.size, 0, none⟩ = some (.int .u8 ek) by go_simp)
  have x1 := below_in hb (show (w.alloc (.cells #[.int .u8 ek, .string enm, .int .i64 en, .slice ea eargs.length ecap, .int .i64 epos] 25)).cell? ⟨w.heap.size, 1, none⟩ = some (.string enm) by go_simp)
  have x2 := below_in hb (show (w.alloc (.cells #[.int .u8 ek, .string enm, .int .i64 en, .slice ea eargs.length ecap, .int .i64 epos] 25)).cell? ⟨w.heap.size, 2, none⟩ = some (.int .i64 en) by go_simp)
  have x3 := below_in hb (show (w.alloc (.cells #[.int .u8 ek, .string enm, .int .i64 en, .slice ea eargs.length ecap, .int .i64 epos] 25)).cell? ⟨w.heap.size, 3, none⟩ = some (.slice ea eargs.length ecap) by go_simp)
  have x4 := below_in hb (show (w.alloc (.cells #[.int .u8 ek, .string enm, .int .i64 en, .slice ea eargs.length ecap, .int .i64 epos] 25)).cell? ⟨w.heap.size, 4, none⟩ = some (.int .i64 epos) by go_simp)
  replace hb1 := Lib.hid hb1
  clear hb0 hb
  by_cases hv : 2000 < v
  · go_wp2_with fail
    refine (awake_any _ (hi.out _ hb1.out).2).mono ?_
    rintro x V2 ⟨rfl, hb2⟩
    go_wp2_with fail
    go_ret
    exact ⟨rfl, hb1.out.trans (hb2.mono hb1.out.size)⟩
  · go_wp2_with fail
    refine (awake_any _ (hi.out _ hb1.out).2).mono ?_
    rintro x V2 ⟨rfl, hb2⟩
    have hB2 := hb1.out.trans (hb2.mono hb1.out.size)
    replace x0 := below_in hb2 x0
    replace x1 := below_in hb2 x1
    replace x2 := below_in hb2 x2
    replace x3 := below_in hb2 x3
    replace x4 := below_in hb2 x4
    replace hB2 := Lib.hid hB2
    clear hb2
    go_wp2_with fail
    obtain ⟨w3, hw3⟩ : ∃ W, ((V2.alloc (.cells #[.int .u8 ek, .string enm, .int .i64 en, .slice ea eargs.length ecap, .int .i64 epos] 25)).alloc (.cells #[.int .u8 7, .string ⟨#[]⟩, .string ⟨#[]⟩, .bool false, .slice (some ⟨V2.heap.size, 0, none⟩) 1 1, .slice none 0 0, .slice none 0 0, .int .i64 0] 38)).alloc (.cells #[.int .u8 5, .string ⟨#[116]⟩, .int .i64 0, .slice none 0 0, .slice (some ⟨V2.heap.size + 1, 0, none⟩) 1 1, .int .i64 0] 40) = W := ⟨_, rfl⟩
    obtain ⟨hs3, hb3, hT, hc3⟩ := thread_laid 116 7 (by omega) (.mk ek enm en ea ecap eargs epos) V2 w3 hw3 (hi.out _ hB2.out).1
    rw [hw3]
    obtain ⟨p, hp⟩ : ∃ p, V2.heap.size = p := ⟨_, rfl⟩
    have hB3 : Below w.heap.size w w3 := hB2.out.trans (hb3.mono hB2.out.size)
    replace x0 := below_in hb3 x0
    replace x1 := below_in hb3 x1
    replace x2 := below_in hb3 x2
    replace x3 := below_in hb3 x3
    replace x4 := below_in hb3 x4
    have hwp : w.heap.size ≤ V2.heap.size := hB2.out.size
    clear hb3 hw3
    rw [hp] at hs3 hT hc3 hwp ⊢
    clear hp
    have d0 := hc3 0 _ rfl
    have d1 := hc3 1 _ rfl
    have d2 := hc3 2 _ rfl
    have d3 := hc3 3 _ rfl
    have d4 := hc3 4 _ rfl
    have d5 := hc3 5 _ rfl
    have hc3a : Hid (∀ j u, (#[Value.int .u8 5, .string ⟨#[116]⟩, .int .i64 0, .slice none 0 0, .slice (some ⟨p + 1, 0, none⟩) 1 1, .int .i64 0] : Array Value)[j]? = some u → w3.cell? ⟨p + 1 + 1, j, none⟩ = some u) := Lib.hid (fun j u hu => hc3 j u (by simpa [dOne, De.vals] using hu))
    replace hc3 := Lib.hid hc3
    replace hT := Lib.hid hT
    replace hB3 := Lib.hid hB3
    clear hB2
    have xo0 := fun o => below_in ((Below.refl _ _).alloc (Nat.le_refl _) o) x0
    have xo1 := fun o => below_in ((Below.refl _ _).alloc (Nat.le_refl _) o) x1
    have xo2 := fun o => below_in ((Below.refl _ _).alloc (Nat.le_refl _) o) x2
    have xo3 := fun o => below_in ((Below.refl _ _).alloc (Nat.le_refl _) o) x3
    have xo4 := fun o => below_in ((Below.refl _ _).alloc (Nat.le_refl _) o) x4
    obtain ⟨i0, hi0, hz0, hz1, hz2⟩ := info_parts info40
    go_cut [4, 25] (fun v y wx => Tw w3 (p + 1) p (.mk ek enm en ea ecap eargs epos) v y wx)
    case first =>
      go_region_law (first
        | (refine step_append_grow1 rfl (.tmp 21) (.tmp 22) (.tmp 19) 22 rfl 40 i0 _ Tryd.underlying22 hi0 hz0 hz1 hz2 rfl _ rfl _ rfl _ rfl rfl (by (intro j u hu; repeat (first | exact new_cell hu (by first | (simp; done) | (simp; omega) | omega) | exact hc3a.out j u hu | refine below_in ((Below.refl _ _).alloc (Nat.le_refl _) _) ?_ | refine below_in hw1.out ?_ | rw [cell_drew]))) (by simp [Value.oneCell']) ?_; intro v1 w1 hown1 hw1; obtain ⟨g1, k1, rfl, hg1, hg2⟩ := own_form hown1; have hz1' := hw1.size; simp only [World.size_alloc, World.drew_size'] at hg1 hz1'; replace hw1 := Lib.hid hw1; have y0 : w1.cell? ⟨w.heap.size, 0, none⟩ = some (.int .u8 ek) := (by refine below_in hw1.out ?_; repeat (first | exact x0 | refine below_in ((Below.refl _ _).alloc (Nat.le_refl _) _) ?_ | rw [cell_drew])); have y1 : w1.cell? ⟨w.heap.size, 1, none⟩ = some (.string enm) := (by refine below_in hw1.out ?_; repeat (first | exact x1 | refine below_in ((Below.refl _ _).alloc (Nat.le_refl _) _) ?_ | rw [cell_drew])); have y2 : w1.cell? ⟨w.heap.size, 2, none⟩ = some (.int .i64 en) := (by refine below_in hw1.out ?_; repeat (first | exact x2 | refine below_in ((Below.refl _ _).alloc (Nat.le_refl _) _) ?_ | rw [cell_drew])); have y3 : w1.cell? ⟨w.heap.size, 3, none⟩ = some (.slice ea eargs.length ecap) := (by refine below_in hw1.out ?_; repeat (first | exact x3 | refine below_in ((Below.refl _ _).alloc (Nat.le_refl _) _) ?_ | rw [cell_drew])); have y4 : w1.cell? ⟨w.heap.size, 4, none⟩ = some (.int .i64 epos) := (by refine below_in hw1.out ?_; repeat (first | exact x4 | refine below_in ((Below.refl _ _).alloc (Nat.le_refl _) _) ?_ | rw [cell_drew])))
        | (refine step_append_own1 rfl (.tmp 23) (.tmp 29) (.tmp 28) 22 rfl 40 i0 _ Tryd.underlying22 hi0 hz0 hz1 hz2 rfl _ 1 _ _ rfl (by first | exact hown1 | exact hown1.alloc _ | exact (hown1.alloc _).alloc _ | exact ((hown1.alloc _).alloc _).alloc _) _ rfl _ rfl rfl (by (intro j u hu; repeat (first | exact new_cell hu (by first | (simp; done) | (simp; omega) | omega) | exact hc3a.out j u hu | refine below_in ((Below.refl _ _).alloc (Nat.le_refl _) _) ?_ | refine below_in hw1.out ?_ | rw [cell_drew]))) (by simp [Value.oneCell']) (by omega) (by simp; omega) ?_; intro v2 w2 hown2 hw2; replace hw2 := Lib.hid hw2))
      all_goals
        go_wp2_with fail
        go_meet
        refine ⟨_, _, _, rfl, hown2, ?_, ?_, ?_⟩
        · intro j u hu
          refine hw2.out.cell ?_ (fun h => by have h' := Option.some.inj h; simp only at h'; omega)
          repeat (first | exact new_cell (by simpa [sOne, St.vals, Ex.vals] using hu) (by first | (simp; done) | (simp; omega) | omega) | refine below_in ((Below.refl _ _).alloc (Nat.le_refl _) _) ?_ | rw [cell_drew] | refine below_in hw1.out ?_)
        · intro j u hu
          refine hw2.out.cell ?_ (fun h => by have h' := Option.some.inj h; simp only at h'; omega)
          repeat (first | exact new_cell (by simpa [sOne, St.vals, Ex.vals] using hu) (by first | (simp; done) | (simp; omega) | omega) | refine below_in ((Below.refl _ _).alloc (Nat.le_refl _) _) ?_ | rw [cell_drew] | refine below_in hw1.out ?_)
        · refine Below.grown ?_ hw2.out (by first | (simp; done) | (simp; omega) | omega) (fun k hk => by have h' := Option.some.inj hk; simp only at h'; omega)
          repeat (first | exact Below.refl _ _ | refine Below.alloc ?_ (by first | (simp; done) | (simp; omega) | omega) _ | refine Below.drew ?_ | refine Below.trans ?_ (hw1.out.mono (by first | (simp; done) | (simp; omega) | omega)))
    case rest =>
      obtain ⟨B, b3, b4, rfl, hown, hsc, hxc, hbc⟩ := hcut
      obtain ⟨g, cap, rfl, _, _⟩ := own_form hown
      have hrT := own_row hown
      have hin3 := (hi.out _ hB3.out).1
      have hTc := De.In.below (Kps.of_below hbc) hT.out
      have hUc := dOne_in 117 9 (by omega) b3 b4 (.mk ek enm en ea ecap eargs epos) wc (Ex.In.below (Kps.of_below hbc) _ hin3) (rowAt_cells 1 (by omega) (by simpa [exCells] using hxc)) (rowAt_cells 1 (by omega) (by simpa [stCells] using hsc))
      have hrL := (rowAt_cells (W := w3) (b := p + 2) (xs := deCells [dOne 116 7 (p + 1) p (.mk ek enm en ea ecap eargs epos)]) 1 (by omega) (by simpa [deCells] using hc3.out)).below (Kps.of_below hbc)
      have hiL : De.InL wc (fun _ => True) [dOne 116 7 (p + 1) p (.mk ek enm en ea ecap eargs epos)] := fun d hd => by rw [List.mem_singleton.1 hd]; exact hTc
      have hiT : De.InL wc (fun _ => True) [dOne 116 7 (p + 1) p (.mk ek enm en ea ecap eargs epos), dOne 117 9 b3 b4 (.mk ek enm en ea ecap eargs epos)] := fun d hd => by
        rcases List.mem_cons.1 hd with rfl | hd
        · exact hTc
        · rw [List.mem_singleton.1 hd]; exact hUc
      have hBc : Below w.heap.size w wc := hB3.out.trans (hbc.mono hB3.out.size)
      have htc := (hi.out _ hBc).2
      have hec := (hi.out _ hBc).1
      replace x0 := below_in hbc x0
      replace x1 := below_in hbc x1
      replace x2 := below_in hbc x2
      replace x3 := below_in hbc x3
      replace x4 := below_in hbc x4
      have cS1 : ∀ V, Below wc.heap.size wc V → Calls Tryd.prog 15 #[.slice (some ⟨p + 1 + 1, 0, none⟩) 1 1] V fun x w' => x = .returned (.int .i64 (2 + ((Ex.mk ek enm en ea ecap eargs epos).sz : Int))) ∧ Below V.heap.size V w' := fun V h => by
        have hc := callsIn_wide.1 (size_in 1 [dOne 116 7 (p + 1) p (.mk ek enm en ea ecap eargs epos)] (some ⟨p + 2, 0, none⟩) 1 V (hrL.below (Kps.of_below h)) (De.InL.below (Kps.of_below h) hiL) (by rw [szL_one]; omega) (by simp) (by rw [len_one]; omega))
        rw [len_one, show (([dOne 116 7 (p + 1) p (.mk ek enm en ea ecap eargs epos)].length : Int) + ((1 + (Ex.mk ek enm en ea ecap eargs epos).sz : Nat) : Int)) = 2 + ((Ex.mk ek enm en ea ecap eargs epos).sz : Int) by simp; omega] at hc
        exact hc
      have cD1 : ∀ V, Below wc.heap.size wc V → Calls Tryd.prog 13 #[.slice (some ⟨p + 1 + 1, 0, none⟩) 1 1] V fun x w' => x = .returned (.int .i64 (kOne (.mk ek enm en ea ecap eargs epos))) ∧ Below V.heap.size V w' := fun V h => by
        have hc := callsIn_wide.1 (depth_in 1 [dOne 116 7 (p + 1) p (.mk ek enm en ea ecap eargs epos)] (some ⟨p + 2, 0, none⟩) 1 V (hrL.below (Kps.of_below h)) (De.InL.below (Kps.of_below h) hiL) (by rw [szL_one]; omega))
        rw [deep_one] at hc
        exact hc
      have cM1 : ∀ V, Below wc.heap.size wc V → Calls Tryd.prog 11 #[.slice (some ⟨p + 1 + 1, 0, none⟩) 1 1] V fun x w' => x = .returned (.bool (mayE (.mk ek enm en ea ecap eargs epos) && decide (kOne (.mk ek enm en ea ecap eargs epos) ≤ 60))) ∧ Below V.heap.size V w' := fun V h => by
        have hc := mayP_any [dOne 116 7 (p + 1) p (.mk ek enm en ea ecap eargs epos)] (some ⟨p + 2, 0, none⟩) 1 V (hrL.below (Kps.of_below h)) (De.InL.below (Kps.of_below h) hiL) (by rw [szL_one]; omega) (htc.below h)
        rw [may_one 116 (by rfl) 7 (.inl rfl)] at hc
        exact hc
      have cM2 : ∀ V, Below wc.heap.size wc V → Calls Tryd.prog 11 #[.slice (some ⟨g, 0, none⟩) 2 cap] V fun x w' => x = .returned (.bool (mayE (.mk ek enm en ea ecap eargs epos) && decide (kOne (.mk ek enm en ea ecap eargs epos) ≤ 60))) ∧ Below V.heap.size V w' := fun V h => by
        have hc := mayP_any [dOne 116 7 (p + 1) p (.mk ek enm en ea ecap eargs epos), dOne 117 9 b3 b4 (.mk ek enm en ea ecap eargs epos)] (some ⟨g, 0, none⟩) cap V (hrT.below (Kps.of_below h)) (De.InL.below (Kps.of_below h) hiT) (by rw [szL_two]; omega) (htc.below h)
        rw [may_two 116 117 (by rfl) (by rfl) 7 9 (.inl rfl) (.inr rfl), may_one 116 (by rfl) 7 (.inl rfl)] at hc
        exact hc
      have cS2 : ∀ V, Below wc.heap.size wc V → Calls Tryd.prog 15 #[.slice (some ⟨g, 0, none⟩) 2 cap] V fun x w' => x = .returned (.int .i64 (2 * (2 + ((Ex.mk ek enm en ea ecap eargs epos).sz : Int)))) ∧ Below V.heap.size V w' := fun V h => by
        have hc := callsIn_wide.1 (size_in 1 [dOne 116 7 (p + 1) p (.mk ek enm en ea ecap eargs epos), dOne 117 9 b3 b4 (.mk ek enm en ea ecap eargs epos)] (some ⟨g, 0, none⟩) cap V (hrT.below (Kps.of_below h)) (De.InL.below (Kps.of_below h) hiT) (by rw [szL_two]; omega) (by simp) (by rw [len_two]; omega))
        rw [len_two, show (([dOne 116 7 (p + 1) p (.mk ek enm en ea ecap eargs epos), dOne 117 9 b3 b4 (.mk ek enm en ea ecap eargs epos)].length : Int) + ((2 + 2 * (Ex.mk ek enm en ea ecap eargs epos).sz : Nat) : Int)) = 2 * (2 + ((Ex.mk ek enm en ea ecap eargs epos).sz : Int)) by simp; omega] at hc
        exact hc
      have cD2 : ∀ V, Below wc.heap.size wc V → Calls Tryd.prog 13 #[.slice (some ⟨g, 0, none⟩) 2 cap] V fun x w' => x = .returned (.int .i64 (kOne (.mk ek enm en ea ecap eargs epos))) ∧ Below V.heap.size V w' := fun V h => by
        have hc := callsIn_wide.1 (depth_in 1 [dOne 116 7 (p + 1) p (.mk ek enm en ea ecap eargs epos), dOne 117 9 b3 b4 (.mk ek enm en ea ecap eargs epos)] (some ⟨g, 0, none⟩) cap V (hrT.below (Kps.of_below h)) (De.InL.below (Kps.of_below h) hiT) (by rw [szL_two]; omega))
        rw [deep_two] at hc
        exact hc
      have cME : ∀ V, Below wc.heap.size wc V → Calls Tryd.prog 19 #[.agg #[.int .u8 ek, .string enm, .int .i64 en, .slice ea eargs.length ecap, .int .i64 epos]] V fun x w' => x = .returned (.bool (mayE (.mk ek enm en ea ecap eargs epos))) ∧ Below V.heap.size V w' := fun V h =>
        mayE_any (.mk ek enm en ea ecap eargs epos) V (Ex.In.below (Kps.of_below h) _ hec) (by omega) (htc.below h).toTabs
      have cSE : ∀ V, Below wc.heap.size wc V → Calls Tryd.prog 21 #[.agg #[.int .u8 ek, .string enm, .int .i64 en, .slice ea eargs.length ecap, .int .i64 epos], .agg #[.int .u8 ek, .string enm, .int .i64 en, .slice ea eargs.length ecap, .int .i64 epos]] V fun x w' => x = .returned (.bool true) ∧ Below V.heap.size V w' := fun V h => by
        have hc := sameE_any (Ex.mk ek enm en ea ecap eargs epos).sz (.mk ek enm en ea ecap eargs epos) (.mk ek enm en ea ecap eargs epos) V (Nat.le_refl _) (Ex.In.below (Kps.of_below h) _ hec) (Ex.In.below (Kps.of_below h) _ hec)
        rw [sameE_self] at hc
        exact hc
      have hk2 := kOne_two (.mk ek enm en ea ecap eargs epos)
      have hsp := sz_pos (.mk ek enm en ea ecap eargs epos)
      replace hBc := Lib.hid hBc
      clear hown hsc hxc hrT hrL hiL hiT hTc hUc hin3 htc hec hT hc3 hc3a d0 d1 d2 d3 d4 d5 xo0 xo1 xo2 xo3 xo4 hbc hi0 hz0 hz1 hz2 hi hx he hv1
      generalize mayE (.mk ek enm en ea ecap eargs epos) = f at *
      generalize kOne (.mk ek enm en ea ecap eargs epos) = kk at *
      generalize (Ex.mk ek enm en ea ecap eargs epos).sz = sz at *
      have hnn : 2 < 2 + (sz : Int) := by omega
      have uw : IntKind.i64.wrap (2 * (2 + (sz : Int))) = 2 * (2 + (sz : Int)) := IntWalk.i64_in _ (by omega)
      generalize 2 + (sz : Int) = nn at *
      obtain ⟨m, hm⟩ : ∃ m, (f && decide (kk ≤ 60)) = m := ⟨_, rfl⟩
      simp only [hm] at cM1 cM2
      replace hm := Lib.hid hm
      replace cS1 := Lib.hid cS1
      replace cD1 := Lib.hid cD1
      replace cM1 := Lib.hid cM1
      replace cM2 := Lib.hid cM2
      replace cS2 := Lib.hid cS2
      replace cD2 := Lib.hid cD2
      replace cME := Lib.hid cME
      replace cSE := Lib.hid cSE
      go_wp2_with fail
      refine (cS1.out _ (Below.refl _ _)).mono ?_
      rintro x V5 ⟨rfl, hb5⟩
      go_wp2_with fail
      refine (cD1.out _ hb5).mono ?_
      rintro x V6 ⟨rfl, hb6⟩
      have hb56 : Below wc.heap.size wc V6 := hb5.trans (hb6.mono hb5.size)
      replace x0 := below_in hb56 x0
      replace x1 := below_in hb56 x1
      replace x2 := below_in hb56 x2
      replace x3 := below_in hb56 x3
      replace x4 := below_in hb56 x4
      clear hb5 hb6
      go_wp2_with fail
      have cM1' : ∀ V, (Below wc.heap.size wc V ∧ V.cell? ⟨w.heap.size, 0, none⟩ = some (.int .u8 ek) ∧ V.cell? ⟨w.heap.size, 1, none⟩ = some (.string enm) ∧ V.cell? ⟨w.heap.size, 2, none⟩ = some (.int .i64 en) ∧ V.cell? ⟨w.heap.size, 3, none⟩ = some (.slice ea eargs.length ecap) ∧ V.cell? ⟨w.heap.size, 4, none⟩ = some (.int .i64 epos)) → Calls Tryd.prog 11 #[.slice (some ⟨p + 1 + 1, 0, none⟩) 1 1] V fun x w' => x = .returned (.bool m) ∧ (Below wc.heap.size wc w' ∧ w'.cell? ⟨w.heap.size, 0, none⟩ = some (.int .u8 ek) ∧ w'.cell? ⟨w.heap.size, 1, none⟩ = some (.string enm) ∧ w'.cell? ⟨w.heap.size, 2, none⟩ = some (.int .i64 en) ∧ w'.cell? ⟨w.heap.size, 3, none⟩ = some (.slice ea eargs.length ecap) ∧ w'.cell? ⟨w.heap.size, 4, none⟩ = some (.int .i64 epos)) := fun V h0 => (cM1.out V h0.1).mono (fun x w' h => ⟨h.1, h0.1.trans (h.2.mono h0.1.size), below_in h.2 h0.2.1, below_in h.2 h0.2.2.1, below_in h.2 h0.2.2.2.1, below_in h.2 h0.2.2.2.2.1, below_in h.2 h0.2.2.2.2.2⟩)
      replace cM1' := Lib.hid cM1'
      have cM2' : ∀ V, (Below wc.heap.size wc V ∧ V.cell? ⟨w.heap.size, 0, none⟩ = some (.int .u8 ek) ∧ V.cell? ⟨w.heap.size, 1, none⟩ = some (.string enm) ∧ V.cell? ⟨w.heap.size, 2, none⟩ = some (.int .i64 en) ∧ V.cell? ⟨w.heap.size, 3, none⟩ = some (.slice ea eargs.length ecap) ∧ V.cell? ⟨w.heap.size, 4, none⟩ = some (.int .i64 epos)) → Calls Tryd.prog 11 #[.slice (some ⟨g, 0, none⟩) 2 cap] V fun x w' => x = .returned (.bool m) ∧ (Below wc.heap.size wc w' ∧ w'.cell? ⟨w.heap.size, 0, none⟩ = some (.int .u8 ek) ∧ w'.cell? ⟨w.heap.size, 1, none⟩ = some (.string enm) ∧ w'.cell? ⟨w.heap.size, 2, none⟩ = some (.int .i64 en) ∧ w'.cell? ⟨w.heap.size, 3, none⟩ = some (.slice ea eargs.length ecap) ∧ w'.cell? ⟨w.heap.size, 4, none⟩ = some (.int .i64 epos)) := fun V h0 => (cM2.out V h0.1).mono (fun x w' h => ⟨h.1, h0.1.trans (h.2.mono h0.1.size), below_in h.2 h0.2.1, below_in h.2 h0.2.2.1, below_in h.2 h0.2.2.2.1, below_in h.2 h0.2.2.2.2.1, below_in h.2 h0.2.2.2.2.2⟩)
      replace cM2' := Lib.hid cM2'
      have cME' : ∀ V, (Below wc.heap.size wc V ∧ V.cell? ⟨w.heap.size, 0, none⟩ = some (.int .u8 ek) ∧ V.cell? ⟨w.heap.size, 1, none⟩ = some (.string enm) ∧ V.cell? ⟨w.heap.size, 2, none⟩ = some (.int .i64 en) ∧ V.cell? ⟨w.heap.size, 3, none⟩ = some (.slice ea eargs.length ecap) ∧ V.cell? ⟨w.heap.size, 4, none⟩ = some (.int .i64 epos)) → Calls Tryd.prog 19 #[.agg #[.int .u8 ek, .string enm, .int .i64 en, .slice ea eargs.length ecap, .int .i64 epos]] V fun x w' => x = .returned (.bool f) ∧ (Below wc.heap.size wc w' ∧ w'.cell? ⟨w.heap.size, 0, none⟩ = some (.int .u8 ek) ∧ w'.cell? ⟨w.heap.size, 1, none⟩ = some (.string enm) ∧ w'.cell? ⟨w.heap.size, 2, none⟩ = some (.int .i64 en) ∧ w'.cell? ⟨w.heap.size, 3, none⟩ = some (.slice ea eargs.length ecap) ∧ w'.cell? ⟨w.heap.size, 4, none⟩ = some (.int .i64 epos)) := fun V h0 => (cME.out V h0.1).mono (fun x w' h => ⟨h.1, h0.1.trans (h.2.mono h0.1.size), below_in h.2 h0.2.1, below_in h.2 h0.2.2.1, below_in h.2 h0.2.2.2.1, below_in h.2 h0.2.2.2.2.1, below_in h.2 h0.2.2.2.2.2⟩)
      replace cME' := Lib.hid cME'
      have cS2' : ∀ V, (Below wc.heap.size wc V ∧ V.cell? ⟨w.heap.size, 0, none⟩ = some (.int .u8 ek) ∧ V.cell? ⟨w.heap.size, 1, none⟩ = some (.string enm) ∧ V.cell? ⟨w.heap.size, 2, none⟩ = some (.int .i64 en) ∧ V.cell? ⟨w.heap.size, 3, none⟩ = some (.slice ea eargs.length ecap) ∧ V.cell? ⟨w.heap.size, 4, none⟩ = some (.int .i64 epos)) → Calls Tryd.prog 15 #[.slice (some ⟨g, 0, none⟩) 2 cap] V fun x w' => x = .returned (.int .i64 (2 * nn)) ∧ (Below wc.heap.size wc w' ∧ w'.cell? ⟨w.heap.size, 0, none⟩ = some (.int .u8 ek) ∧ w'.cell? ⟨w.heap.size, 1, none⟩ = some (.string enm) ∧ w'.cell? ⟨w.heap.size, 2, none⟩ = some (.int .i64 en) ∧ w'.cell? ⟨w.heap.size, 3, none⟩ = some (.slice ea eargs.length ecap) ∧ w'.cell? ⟨w.heap.size, 4, none⟩ = some (.int .i64 epos)) := fun V h0 => (cS2.out V h0.1).mono (fun x w' h => ⟨h.1, h0.1.trans (h.2.mono h0.1.size), below_in h.2 h0.2.1, below_in h.2 h0.2.2.1, below_in h.2 h0.2.2.2.1, below_in h.2 h0.2.2.2.2.1, below_in h.2 h0.2.2.2.2.2⟩)
      replace cS2' := Lib.hid cS2'
      have cD2' : ∀ V, (Below wc.heap.size wc V ∧ V.cell? ⟨w.heap.size, 0, none⟩ = some (.int .u8 ek) ∧ V.cell? ⟨w.heap.size, 1, none⟩ = some (.string enm) ∧ V.cell? ⟨w.heap.size, 2, none⟩ = some (.int .i64 en) ∧ V.cell? ⟨w.heap.size, 3, none⟩ = some (.slice ea eargs.length ecap) ∧ V.cell? ⟨w.heap.size, 4, none⟩ = some (.int .i64 epos)) → Calls Tryd.prog 13 #[.slice (some ⟨g, 0, none⟩) 2 cap] V fun x w' => x = .returned (.int .i64 kk) ∧ (Below wc.heap.size wc w' ∧ w'.cell? ⟨w.heap.size, 0, none⟩ = some (.int .u8 ek) ∧ w'.cell? ⟨w.heap.size, 1, none⟩ = some (.string enm) ∧ w'.cell? ⟨w.heap.size, 2, none⟩ = some (.int .i64 en) ∧ w'.cell? ⟨w.heap.size, 3, none⟩ = some (.slice ea eargs.length ecap) ∧ w'.cell? ⟨w.heap.size, 4, none⟩ = some (.int .i64 epos)) := fun V h0 => (cD2.out V h0.1).mono (fun x w' h => ⟨h.1, h0.1.trans (h.2.mono h0.1.size), below_in h.2 h0.2.1, below_in h.2 h0.2.2.1, below_in h.2 h0.2.2.2.1, below_in h.2 h0.2.2.2.2.1, below_in h.2 h0.2.2.2.2.2⟩)
      replace cD2' := Lib.hid cD2'
      have cSE' : ∀ V, (Below wc.heap.size wc V ∧ V.cell? ⟨w.heap.size, 0, none⟩ = some (.int .u8 ek) ∧ V.cell? ⟨w.heap.size, 1, none⟩ = some (.string enm) ∧ V.cell? ⟨w.heap.size, 2, none⟩ = some (.int .i64 en) ∧ V.cell? ⟨w.heap.size, 3, none⟩ = some (.slice ea eargs.length ecap) ∧ V.cell? ⟨w.heap.size, 4, none⟩ = some (.int .i64 epos)) → Calls Tryd.prog 21 #[.agg #[.int .u8 ek, .string enm, .int .i64 en, .slice ea eargs.length ecap, .int .i64 epos], .agg #[.int .u8 ek, .string enm, .int .i64 en, .slice ea eargs.length ecap, .int .i64 epos]] V fun x w' => x = .returned (.bool true) ∧ (Below wc.heap.size wc w' ∧ w'.cell? ⟨w.heap.size, 0, none⟩ = some (.int .u8 ek) ∧ w'.cell? ⟨w.heap.size, 1, none⟩ = some (.string enm) ∧ w'.cell? ⟨w.heap.size, 2, none⟩ = some (.int .i64 en) ∧ w'.cell? ⟨w.heap.size, 3, none⟩ = some (.slice ea eargs.length ecap) ∧ w'.cell? ⟨w.heap.size, 4, none⟩ = some (.int .i64 epos)) := fun V h0 => (cSE.out V h0.1).mono (fun x w' h => ⟨h.1, h0.1.trans (h.2.mono h0.1.size), below_in h.2 h0.2.1, below_in h.2 h0.2.2.1, below_in h.2 h0.2.2.2.1, below_in h.2 h0.2.2.2.2.1, below_in h.2 h0.2.2.2.2.2⟩)
      replace cSE' := Lib.hid cSE'
      clear cS1 cD1
      have hS6 : Below wc.heap.size wc V6 ∧ V6.cell? ⟨w.heap.size, 0, none⟩ = some (.int .u8 ek) ∧ V6.cell? ⟨w.heap.size, 1, none⟩ = some (.string enm) ∧ V6.cell? ⟨w.heap.size, 2, none⟩ = some (.int .i64 en) ∧ V6.cell? ⟨w.heap.size, 3, none⟩ = some (.slice ea eargs.length ecap) ∧ V6.cell? ⟨w.heap.size, 4, none⟩ = some (.int .i64 epos) := ⟨hb56, x0, x1, x2, x3, x4⟩
      have hS : Below wc.heap.size wc V6.drew ∧ V6.drew.cell? ⟨w.heap.size, 0, none⟩ = some (.int .u8 ek) ∧ V6.drew.cell? ⟨w.heap.size, 1, none⟩ = some (.string enm) ∧ V6.drew.cell? ⟨w.heap.size, 2, none⟩ = some (.int .i64 en) ∧ V6.drew.cell? ⟨w.heap.size, 3, none⟩ = some (.slice ea eargs.length ecap) ∧ V6.drew.cell? ⟨w.heap.size, 4, none⟩ = some (.int .i64 epos) := ⟨hS6.1.drew, hS6.2⟩
      clear hb56 x0 x1 x2 x3 x4 hS6
      have hbx : Hid (∀ V, (Below wc.heap.size wc V ∧ V.cell? ⟨w.heap.size, 0, none⟩ = some (.int .u8 ek) ∧ V.cell? ⟨w.heap.size, 1, none⟩ = some (.string enm) ∧ V.cell? ⟨w.heap.size, 2, none⟩ = some (.int .i64 en) ∧ V.cell? ⟨w.heap.size, 3, none⟩ = some (.slice ea eargs.length ecap) ∧ V.cell? ⟨w.heap.size, 4, none⟩ = some (.int .i64 epos)) → Below w.heap.size w V) := Lib.hid (fun V h => hBc.out.trans (h.1.mono hBc.out.size))
      obtain ⟨xb, x0, x1, x2, x3, x4⟩ := id hS
      have hk1 : 1 < kk := by omega
      cases f
      · obtain rfl : m = false := by have := hm.out; simpa using this.symm
        clear hm
        refine wp_region_noPanic ?_
        refine wp_region_held_drew (S := (fun V => Below wc.heap.size wc V ∧ V.cell? ⟨w.heap.size, 0, none⟩ = some (.int .u8 ek) ∧ V.cell? ⟨w.heap.size, 1, none⟩ = some (.string enm) ∧ V.cell? ⟨w.heap.size, 2, none⟩ = some (.int .i64 en) ∧ V.cell? ⟨w.heap.size, 3, none⟩ = some (.slice ea eargs.length ecap) ∧ V.cell? ⟨w.heap.size, 4, none⟩ = some (.int .i64 epos))) (by kernel_rfl) hS (fun hHeld => ?_)
        refine' wpAnyH_take (i := 0) (oi := _) (v := _) rfl (by kernel_rfl) (by kernel_rfl) (by kernel_rfl) (fun _ _ _ h => h) (Or.inl ⟨by rfl, ?hy1⟩) (by assumption) ?rest1
        case hy1 => (intro w hSw; (try dsimp only at hSw); go_simp; all_goals (with_reducible rfl))
        try simp only [Act.put, List.getElem_toArray, List.getElem_cons_zero, List.getElem_cons_succ, List.setIfInBounds_toArray, List.set_cons_zero, List.set_cons_succ]
        refine' wpAnyH_take (i := 2) (oi := _) (v := _) rfl (by kernel_rfl) (by kernel_rfl) (by kernel_rfl) (fun _ _ _ h => h) (Or.inl ⟨by rfl, ?hy2⟩) (by assumption) ?rest2
        case hy2 => (intro w hSw; (try dsimp only at hSw); go_simp; all_goals (with_reducible rfl))
        try simp only [Act.put, List.getElem_toArray, List.getElem_cons_zero, List.getElem_cons_succ, List.setIfInBounds_toArray, List.set_cons_zero, List.set_cons_succ]
        refine wpAnyH_ready (rs := [1]) (by kernel_rfl) (by simp) ?_
        refine AllReadyH.cons (o := _) rfl (fun K hK => ?_) AllReadyH.nil
        go_simp
        go_at_call 11
        with_reducible refine (cM1'.out _ hS).mono ?_
        rintro x w' ⟨rfl, hS⟩
        obtain ⟨xb, x0, x1, x2, x3, x4⟩ := id hS
        go_wp2_with fail
        refine hK.out _ _ hS (fun hHeld => ?_)
        clear hK K
        try simp only [Act.put, List.getElem_toArray, List.getElem_cons_zero, List.getElem_cons_succ, List.setIfInBounds_toArray, List.set_cons_zero, List.set_cons_succ]
        refine wpAnyH_ready (rs := [3]) (by kernel_rfl) (by simp) ?_
        refine AllReadyH.cons (o := _) rfl (fun K hK => ?_) AllReadyH.nil
        go_simp
        go_at_call 19
        with_reducible refine (cME'.out _ hS).mono ?_
        rintro x w' ⟨rfl, hS⟩
        obtain ⟨xb, x0, x1, x2, x3, x4⟩ := id hS
        go_wp2_with fail
        refine hK.out _ _ hS (fun hHeld => ?_)
        clear hK K
        try simp only [Act.put, List.getElem_toArray, List.getElem_cons_zero, List.getElem_cons_succ, List.setIfInBounds_toArray, List.set_cons_zero, List.set_cons_succ]
        refine' wpAnyH_take (i := 4) (oi := _) (v := _) rfl (by kernel_rfl) (by kernel_rfl) (by kernel_rfl) (fun _ _ _ h => h) (Or.inl ⟨by rfl, ?hy3⟩) (by assumption) ?rest3
        case hy3 => (intro w hSw; (try dsimp only at hSw); go_simp; all_goals (with_reducible rfl))
        try simp only [Act.put, List.getElem_toArray, List.getElem_cons_zero, List.getElem_cons_succ, List.setIfInBounds_toArray, List.set_cons_zero, List.set_cons_succ]
        refine' wpAnyH_take (i := 5) (oi := _) (v := _) rfl (by kernel_rfl) (by kernel_rfl) (by kernel_rfl) (fun _ _ _ h => h) (Or.inr ⟨by rfl, rfl⟩) (by assumption) ?rest4
        try simp only [Act.put, List.getElem_toArray, List.getElem_cons_zero, List.getElem_cons_succ, List.setIfInBounds_toArray, List.set_cons_zero, List.set_cons_succ]
        refine' wpAnyH_take (i := 6) (oi := _) (v := _) rfl (by kernel_rfl) (by kernel_rfl) (by kernel_rfl) (fun _ _ _ h => h) (Or.inr ⟨by rfl, rfl⟩) (by assumption) ?rest5
        try simp only [Act.put, List.getElem_toArray, List.getElem_cons_zero, List.getElem_cons_succ, List.setIfInBounds_toArray, List.set_cons_zero, List.set_cons_succ]
        refine' wpAnyH_take (i := 7) (oi := _) (v := _) rfl (by kernel_rfl) (by kernel_rfl) (by kernel_rfl) (fun _ _ _ h => h) (Or.inl ⟨by rfl, ?hy6⟩) (by assumption) ?rest6
        case hy6 => (intro w hSw; (try dsimp only at hSw); go_simp; all_goals (with_reducible rfl))
        try simp only [Act.put, List.getElem_toArray, List.getElem_cons_zero, List.getElem_cons_succ, List.setIfInBounds_toArray, List.set_cons_zero, List.set_cons_succ]
        refine' wpAnyH_take (i := 8) (oi := _) (v := _) rfl (by kernel_rfl) (by kernel_rfl) (by kernel_rfl) (fun _ _ _ h => h) (Or.inl ⟨by rfl, ?hy7⟩) (by assumption) ?rest7
        case hy7 => (intro w hSw; (try dsimp only at hSw); go_simp; all_goals (with_reducible rfl))
        try simp only [Act.put, List.getElem_toArray, List.getElem_cons_zero, List.getElem_cons_succ, List.setIfInBounds_toArray, List.set_cons_zero, List.set_cons_succ]
        refine' wpAnyH_take (i := 9) (oi := _) (v := _) rfl (by kernel_rfl) (by kernel_rfl) (by kernel_rfl) (fun _ _ _ h => h) (Or.inl ⟨by rfl, ?hy8⟩) (by assumption) ?rest8
        case hy8 => (intro w hSw; (try dsimp only at hSw); go_simp; all_goals (with_reducible rfl))
        try simp only [Act.put, List.getElem_toArray, List.getElem_cons_zero, List.getElem_cons_succ, List.setIfInBounds_toArray, List.set_cons_zero, List.set_cons_succ]
        refine' wpAnyH_take (i := 10) (oi := _) (v := _) rfl (by kernel_rfl) (by kernel_rfl) (by kernel_rfl) (fun _ _ _ h => h) (Or.inl ⟨by rfl, ?hy9⟩) (by assumption) ?rest9
        case hy9 => (intro w hSw; (try dsimp only at hSw); go_simp; all_goals (with_reducible rfl))
        try simp only [Act.put, List.getElem_toArray, List.getElem_cons_zero, List.getElem_cons_succ, List.setIfInBounds_toArray, List.set_cons_zero, List.set_cons_succ]
        refine' wpAnyH_take (i := 12) (oi := _) (v := _) rfl (by kernel_rfl) (by kernel_rfl) (by kernel_rfl) (fun _ _ _ h => h) (Or.inl ⟨by rfl, ?hy10⟩) (by assumption) ?rest10
        case hy10 => (intro w hSw; (try dsimp only at hSw); go_simp; all_goals (with_reducible rfl))
        try simp only [Act.put, List.getElem_toArray, List.getElem_cons_zero, List.getElem_cons_succ, List.setIfInBounds_toArray, List.set_cons_zero, List.set_cons_succ]
        refine wpAnyH_ready (rs := [11]) (by kernel_rfl) (by simp) ?_
        refine AllReadyH.cons (o := _) rfl (fun K hK => ?_) AllReadyH.nil
        go_simp
        go_at_call 11
        with_reducible refine (cM2'.out _ hS).mono ?_
        rintro x w' ⟨rfl, hS⟩
        obtain ⟨xb, x0, x1, x2, x3, x4⟩ := id hS
        go_wp2_with fail
        refine hK.out _ _ hS (fun hHeld => ?_)
        clear hK K
        try simp only [Act.put, List.getElem_toArray, List.getElem_cons_zero, List.getElem_cons_succ, List.setIfInBounds_toArray, List.set_cons_zero, List.set_cons_succ]
        refine wpAnyH_ready (rs := [13]) (by kernel_rfl) (by simp) ?_
        refine AllReadyH.cons (o := _) rfl (fun K hK => ?_) AllReadyH.nil
        go_simp
        go_at_call 11
        with_reducible refine (cM1'.out _ hS).mono ?_
        rintro x w' ⟨rfl, hS⟩
        obtain ⟨xb, x0, x1, x2, x3, x4⟩ := id hS
        go_wp2_with fail
        refine hK.out _ _ hS (fun hHeld => ?_)
        clear hK K
        try simp only [Act.put, List.getElem_toArray, List.getElem_cons_zero, List.getElem_cons_succ, List.setIfInBounds_toArray, List.set_cons_zero, List.set_cons_succ]
        refine' wpAnyH_take (i := 14) (oi := _) (v := _) rfl (by kernel_rfl) (by kernel_rfl) (by kernel_rfl) (fun _ _ _ h => h) (Or.inl ⟨by rfl, ?hy11⟩) (by assumption) ?rest11
        case hy11 => (intro w hSw; (try dsimp only at hSw); go_simp; all_goals (with_reducible rfl))
        try simp only [Act.put, List.getElem_toArray, List.getElem_cons_zero, List.getElem_cons_succ, List.setIfInBounds_toArray, List.set_cons_zero, List.set_cons_succ]
        refine' wpAnyH_take (i := 15) (oi := _) (v := _) rfl (by kernel_rfl) (by kernel_rfl) (by kernel_rfl) (fun _ _ _ h => h) (Or.inl ⟨by rfl, ?hy12⟩) (by assumption) ?rest12
        case hy12 => (intro w hSw; (try dsimp only at hSw); go_simp; all_goals (with_reducible rfl))
        try simp only [Act.put, List.getElem_toArray, List.getElem_cons_zero, List.getElem_cons_succ, List.setIfInBounds_toArray, List.set_cons_zero, List.set_cons_succ]
        refine' wpAnyH_take (i := 16) (oi := _) (v := _) rfl (by kernel_rfl) (by kernel_rfl) (by kernel_rfl) (fun _ _ _ h => h) (Or.inl ⟨by rfl, ?hy13⟩) (by assumption) ?rest13
        case hy13 => (intro w hSw; (try dsimp only at hSw); go_simp; all_goals (with_reducible rfl))
        try simp only [Act.put, List.getElem_toArray, List.getElem_cons_zero, List.getElem_cons_succ, List.setIfInBounds_toArray, List.set_cons_zero, List.set_cons_succ]
        refine' wpAnyH_take (i := 17) (oi := _) (v := _) rfl (by kernel_rfl) (by kernel_rfl) (by kernel_rfl) (fun _ _ _ h => h) (Or.inl ⟨by rfl, ?hy14⟩) (by assumption) ?rest14
        case hy14 => (intro w hSw; (try dsimp only at hSw); go_simp; all_goals (with_reducible rfl))
        try simp only [Act.put, List.getElem_toArray, List.getElem_cons_zero, List.getElem_cons_succ, List.setIfInBounds_toArray, List.set_cons_zero, List.set_cons_succ]
        refine' wpAnyH_take (i := 19) (oi := _) (v := _) rfl (by kernel_rfl) (by kernel_rfl) (by kernel_rfl) (fun _ _ _ h => h) (Or.inl ⟨by rfl, ?hy15⟩) (by assumption) ?rest15
        case hy15 => (intro w hSw; (try dsimp only at hSw); go_simp; all_goals (with_reducible rfl))
        try simp only [Act.put, List.getElem_toArray, List.getElem_cons_zero, List.getElem_cons_succ, List.setIfInBounds_toArray, List.set_cons_zero, List.set_cons_succ]
        refine' wpAnyH_take (i := 20) (oi := _) (v := _) rfl (by kernel_rfl) (by kernel_rfl) (by kernel_rfl) (fun _ _ _ h => h) (Or.inl ⟨by rfl, ?hy16⟩) (by assumption) ?rest16
        case hy16 => (intro w hSw; (try dsimp only at hSw); go_simp; all_goals (with_reducible rfl))
        try simp only [Act.put, List.getElem_toArray, List.getElem_cons_zero, List.getElem_cons_succ, List.setIfInBounds_toArray, List.set_cons_zero, List.set_cons_succ]
        refine wpAnyH_ready (rs := [18]) (by kernel_rfl) (by simp) ?_
        refine AllReadyH.cons (o := _) rfl (fun K hK => ?_) AllReadyH.nil
        go_simp
        go_at_call 15
        with_reducible refine (cS2'.out _ hS).mono ?_
        rintro x w' ⟨rfl, hS⟩
        obtain ⟨xb, x0, x1, x2, x3, x4⟩ := id hS
        go_wp2_with fail
        refine hK.out _ _ hS (fun hHeld => ?_)
        clear hK K
        try simp only [Act.put, List.getElem_toArray, List.getElem_cons_zero, List.getElem_cons_succ, List.setIfInBounds_toArray, List.set_cons_zero, List.set_cons_succ]
        refine' wpAnyH_take (i := 21) (oi := _) (v := _) rfl (by kernel_rfl) (by kernel_rfl) (by kernel_rfl) (fun _ _ _ h => h) (Or.inl ⟨by rfl, ?hy17⟩) (by assumption) ?rest17
        case hy17 => (intro w hSw; (try dsimp only at hSw); go_simp; all_goals (with_reducible rfl))
        try simp only [Act.put, List.getElem_toArray, List.getElem_cons_zero, List.getElem_cons_succ, List.setIfInBounds_toArray, List.set_cons_zero, List.set_cons_succ]
        refine' wpAnyH_take (i := 22) (oi := _) (v := _) rfl (by kernel_rfl) (by kernel_rfl) (by kernel_rfl) (fun _ _ _ h => h) (Or.inl ⟨by rfl, ?hy18⟩) (by assumption) ?rest18
        case hy18 => (intro w hSw; (try dsimp only at hSw); go_simp; all_goals (with_reducible rfl))
        try simp only [Act.put, List.getElem_toArray, List.getElem_cons_zero, List.getElem_cons_succ, List.setIfInBounds_toArray, List.set_cons_zero, List.set_cons_succ]
        refine' wpAnyH_take (i := 23) (oi := _) (v := _) rfl (by kernel_rfl) (by kernel_rfl) (by kernel_rfl) (fun _ _ _ h => h) (Or.inl ⟨by rfl, ?hy19⟩) (by assumption) ?rest19
        case hy19 => (intro w hSw; (try dsimp only at hSw); go_simp; all_goals (with_reducible rfl))
        try simp only [Act.put, List.getElem_toArray, List.getElem_cons_zero, List.getElem_cons_succ, List.setIfInBounds_toArray, List.set_cons_zero, List.set_cons_succ]
        refine' wpAnyH_take (i := 24) (oi := _) (v := _) rfl (by kernel_rfl) (by kernel_rfl) (by kernel_rfl) (fun _ _ _ h => h) (Or.inl ⟨by rfl, ?hy20⟩) (by assumption) ?rest20
        case hy20 => (intro w hSw; (try dsimp only at hSw); go_simp; all_goals (with_reducible rfl))
        try simp only [Act.put, List.getElem_toArray, List.getElem_cons_zero, List.getElem_cons_succ, List.setIfInBounds_toArray, List.set_cons_zero, List.set_cons_succ]
        refine' wpAnyH_take (i := 26) (oi := _) (v := _) rfl (by kernel_rfl) (by kernel_rfl) (by kernel_rfl) (fun _ _ _ h => h) (Or.inl ⟨by rfl, ?hy21⟩) (by assumption) ?rest21
        case hy21 => (intro w hSw; (try dsimp only at hSw); go_simp; all_goals (with_reducible rfl))
        try simp only [Act.put, List.getElem_toArray, List.getElem_cons_zero, List.getElem_cons_succ, List.setIfInBounds_toArray, List.set_cons_zero, List.set_cons_succ]
        refine wpAnyH_ready (rs := [25]) (by kernel_rfl) (by simp) ?_
        refine AllReadyH.cons (o := _) rfl (fun K hK => ?_) AllReadyH.nil
        go_simp
        go_at_call 13
        with_reducible refine (cD2'.out _ hS).mono ?_
        rintro x w' ⟨rfl, hS⟩
        obtain ⟨xb, x0, x1, x2, x3, x4⟩ := id hS
        go_wp2_with fail
        refine hK.out _ _ hS (fun hHeld => ?_)
        clear hK K
        try simp only [Act.put, List.getElem_toArray, List.getElem_cons_zero, List.getElem_cons_succ, List.setIfInBounds_toArray, List.set_cons_zero, List.set_cons_succ]
        refine' wpAnyH_take (i := 27) (oi := _) (v := _) rfl (by kernel_rfl) (by kernel_rfl) (by kernel_rfl) (fun _ _ _ h => h) (Or.inl ⟨by rfl, ?hy22⟩) (by assumption) ?rest22
        case hy22 => (intro w hSw; (try dsimp only at hSw); go_simp; all_goals (with_reducible rfl))
        try simp only [Act.put, List.getElem_toArray, List.getElem_cons_zero, List.getElem_cons_succ, List.setIfInBounds_toArray, List.set_cons_zero, List.set_cons_succ]
        refine' wpAnyH_take (i := 28) (oi := _) (v := _) rfl (by kernel_rfl) (by kernel_rfl) (by kernel_rfl) (fun _ _ _ h => h) (Or.inl ⟨by rfl, ?hy23⟩) (by assumption) ?rest23
        case hy23 => (intro w hSw; (try dsimp only at hSw); go_simp; all_goals (with_reducible rfl))
        try simp only [Act.put, List.getElem_toArray, List.getElem_cons_zero, List.getElem_cons_succ, List.setIfInBounds_toArray, List.set_cons_zero, List.set_cons_succ]
        refine' wpAnyH_take (i := 29) (oi := _) (v := _) rfl (by kernel_rfl) (by kernel_rfl) (by kernel_rfl) (fun _ _ _ h => h) (Or.inl ⟨by rfl, ?hy24⟩) (by assumption) ?rest24
        case hy24 => (intro w hSw; (try dsimp only at hSw); go_simp; all_goals (with_reducible rfl))
        try simp only [Act.put, List.getElem_toArray, List.getElem_cons_zero, List.getElem_cons_succ, List.setIfInBounds_toArray, List.set_cons_zero, List.set_cons_succ]
        refine' wpAnyH_take (i := 30) (oi := _) (v := _) rfl (by kernel_rfl) (by kernel_rfl) (by kernel_rfl) (fun _ _ _ h => h) (Or.inl ⟨by rfl, ?hy25⟩) (by assumption) ?rest25
        case hy25 => (intro w hSw; (try dsimp only at hSw); go_simp; all_goals (with_reducible rfl))
        try simp only [Act.put, List.getElem_toArray, List.getElem_cons_zero, List.getElem_cons_succ, List.setIfInBounds_toArray, List.set_cons_zero, List.set_cons_succ]
        refine' wpAnyH_take (i := 31) (oi := _) (v := _) rfl (by kernel_rfl) (by kernel_rfl) (by kernel_rfl) (fun _ _ _ h => h) (Or.inl ⟨by rfl, ?hy26⟩) (by assumption) ?rest26
        case hy26 => (intro w hSw; (try dsimp only at hSw); go_simp; all_goals (with_reducible rfl))
        try simp only [Act.put, List.getElem_toArray, List.getElem_cons_zero, List.getElem_cons_succ, List.setIfInBounds_toArray, List.set_cons_zero, List.set_cons_succ]
        refine' wpAnyH_take (i := 32) (oi := _) (v := _) rfl (by kernel_rfl) (by kernel_rfl) (by kernel_rfl) (fun _ _ _ h => h) (Or.inl ⟨by rfl, ?hy27⟩) (by assumption) ?rest27
        case hy27 => (intro w hSw; (try dsimp only at hSw); go_simp; all_goals (with_reducible rfl))
        try simp only [Act.put, List.getElem_toArray, List.getElem_cons_zero, List.getElem_cons_succ, List.setIfInBounds_toArray, List.set_cons_zero, List.set_cons_succ]
        refine' wpAnyH_take (i := 33) (oi := _) (v := _) rfl (by kernel_rfl) (by kernel_rfl) (by kernel_rfl) (fun _ _ _ h => h) (Or.inl ⟨by rfl, ?hy28⟩) (by assumption) ?rest28
        case hy28 => (intro w hSw; (try dsimp only at hSw); go_simp; all_goals (with_reducible rfl))
        try simp only [Act.put, List.getElem_toArray, List.getElem_cons_zero, List.getElem_cons_succ, List.setIfInBounds_toArray, List.set_cons_zero, List.set_cons_succ]
        refine' wpAnyH_take (i := 34) (oi := _) (v := _) rfl (by kernel_rfl) (by kernel_rfl) (by kernel_rfl) (fun _ _ _ h => h) (Or.inl ⟨by rfl, ?hy29⟩) (by assumption) ?rest29
        case hy29 => (intro w hSw; (try dsimp only at hSw); go_simp; all_goals (with_reducible rfl))
        try simp only [Act.put, List.getElem_toArray, List.getElem_cons_zero, List.getElem_cons_succ, List.setIfInBounds_toArray, List.set_cons_zero, List.set_cons_succ]
        refine' wpAnyH_take (i := 35) (oi := _) (v := _) rfl (by kernel_rfl) (by kernel_rfl) (by kernel_rfl) (fun _ _ _ h => h) (Or.inl ⟨by rfl, ?hy30⟩) (by assumption) ?rest30
        case hy30 => (intro w hSw; (try dsimp only at hSw); go_simp; all_goals (with_reducible rfl))
        try simp only [Act.put, List.getElem_toArray, List.getElem_cons_zero, List.getElem_cons_succ, List.setIfInBounds_toArray, List.set_cons_zero, List.set_cons_succ]
        refine' wpAnyH_take (i := 36) (oi := _) (v := _) rfl (by kernel_rfl) (by kernel_rfl) (by kernel_rfl) (fun _ _ _ h => h) (Or.inl ⟨by rfl, ?hy31⟩) (by assumption) ?rest31
        case hy31 => (intro w hSw; (try dsimp only at hSw); go_simp; all_goals (with_reducible rfl))
        try simp only [Act.put, List.getElem_toArray, List.getElem_cons_zero, List.getElem_cons_succ, List.setIfInBounds_toArray, List.set_cons_zero, List.set_cons_succ]
        refine' wpAnyH_take (i := 37) (oi := _) (v := _) rfl (by kernel_rfl) (by kernel_rfl) (by kernel_rfl) (fun _ _ _ h => h) (Or.inl ⟨by rfl, ?hy32⟩) (by assumption) ?rest32
        case hy32 => (intro w hSw; (try dsimp only at hSw); go_simp; all_goals (with_reducible rfl))
        try simp only [Act.put, List.getElem_toArray, List.getElem_cons_zero, List.getElem_cons_succ, List.setIfInBounds_toArray, List.set_cons_zero, List.set_cons_succ]
        refine' wpAnyH_take (i := 38) (oi := _) (v := _) rfl (by kernel_rfl) (by kernel_rfl) (by kernel_rfl) (fun _ _ _ h => h) (Or.inl ⟨by rfl, ?hy33⟩) (by assumption) ?rest33
        case hy33 => (intro w hSw; (try dsimp only at hSw); go_simp; all_goals (with_reducible rfl))
        try simp only [Act.put, List.getElem_toArray, List.getElem_cons_zero, List.getElem_cons_succ, List.setIfInBounds_toArray, List.set_cons_zero, List.set_cons_succ]
        refine' wpAnyH_take (i := 39) (oi := _) (v := _) rfl (by kernel_rfl) (by kernel_rfl) (by kernel_rfl) (fun _ _ _ h => h) (Or.inl ⟨by rfl, ?hy34⟩) (by assumption) ?rest34
        case hy34 => (intro w hSw; (try dsimp only at hSw); go_simp; all_goals (with_reducible rfl))
        try simp only [Act.put, List.getElem_toArray, List.getElem_cons_zero, List.getElem_cons_succ, List.setIfInBounds_toArray, List.set_cons_zero, List.set_cons_succ]
        refine wpAnyH_ready (rs := [40]) (by kernel_rfl) (by simp) ?_
        refine AllReadyH.cons (o := _) rfl (fun K hK => ?_) AllReadyH.nil
        go_simp
        go_at_call 21
        with_reducible refine (cSE'.out _ hS).mono ?_
        rintro x w' ⟨rfl, hS⟩
        obtain ⟨xb, x0, x1, x2, x3, x4⟩ := id hS
        go_wp2_with fail
        refine hK.out _ _ hS (fun hHeld => ?_)
        clear hK K
        try simp only [Act.put, List.getElem_toArray, List.getElem_cons_zero, List.getElem_cons_succ, List.setIfInBounds_toArray, List.set_cons_zero, List.set_cons_succ]
        refine' wpAnyH_take (i := 41) (oi := _) (v := _) rfl (by kernel_rfl) (by kernel_rfl) (by kernel_rfl) (fun _ _ _ h => h) (Or.inl ⟨by rfl, ?hy35⟩) (by assumption) ?rest35
        case hy35 => (intro w hSw; (try dsimp only at hSw); go_simp; all_goals (with_reducible rfl))
        try simp only [Act.put, List.getElem_toArray, List.getElem_cons_zero, List.getElem_cons_succ, List.setIfInBounds_toArray, List.set_cons_zero, List.set_cons_succ]
        refine' wpAnyH_take (i := 42) (oi := _) (v := _) rfl (by kernel_rfl) (by kernel_rfl) (by kernel_rfl) (fun _ _ _ h => h) (Or.inl ⟨by rfl, ?hy36⟩) (by assumption) ?rest36
        case hy36 => (intro w hSw; (try dsimp only at hSw); go_simp; all_goals (with_reducible rfl))
        try simp only [Act.put, List.getElem_toArray, List.getElem_cons_zero, List.getElem_cons_succ, List.setIfInBounds_toArray, List.set_cons_zero, List.set_cons_succ]
        refine wpAnyH_done (by kernel_rfl) ?_ _
        refine NoPanic.normal ?_
        all_goals
          go_wp2_with fail
          go_ret
          exact ⟨rfl, hbx.out _ hS⟩
      · cases m
        · have hk6 : ¬ kk ≤ 60 := by have := hm.out; simpa using this
          have hk7 : decide (kk ≤ 60) = false := decide_eq_false hk6
          clear hm
          first | (go_region_held3 (fun V => Below wc.heap.size wc V ∧ V.cell? ⟨w.heap.size, 0, none⟩ = some (.int .u8 ek) ∧ V.cell? ⟨w.heap.size, 1, none⟩ = some (.string enm) ∧ V.cell? ⟨w.heap.size, 2, none⟩ = some (.int .i64 en) ∧ V.cell? ⟨w.heap.size, 3, none⟩ = some (.slice ea eargs.length ecap) ∧ V.cell? ⟨w.heap.size, 4, none⟩ = some (.int .i64 epos)) (first | exact hS | exact hS.out | assumption | (refine ⟨?_, ?_, ?_, ?_, ?_, ?_⟩ <;> assumption)) (first | (go_at_call 11; with_reducible refine (cM1'.out _ ?_).mono ?_; (first | exact hS | exact hS.out | (refine ⟨?_, ?_, ?_, ?_, ?_, ?_⟩ <;> assumption) | assumption); (rintro x w' ⟨rfl, hS⟩)) | (go_at_call 11; with_reducible refine (cM2'.out _ ?_).mono ?_; (first | exact hS | exact hS.out | (refine ⟨?_, ?_, ?_, ?_, ?_, ?_⟩ <;> assumption) | assumption); (rintro x w' ⟨rfl, hS⟩)) | (go_at_call 19; with_reducible refine (cME'.out _ ?_).mono ?_; (first | exact hS | exact hS.out | (refine ⟨?_, ?_, ?_, ?_, ?_, ?_⟩ <;> assumption) | assumption); (rintro x w' ⟨rfl, hS⟩)) | (go_at_call 15; with_reducible refine (cS2'.out _ ?_).mono ?_; (first | exact hS | exact hS.out | (refine ⟨?_, ?_, ?_, ?_, ?_, ?_⟩ <;> assumption) | assumption); (rintro x w' ⟨rfl, hS⟩)) | (go_at_call 13; with_reducible refine (cD2'.out _ ?_).mono ?_; (first | exact hS | exact hS.out | (refine ⟨?_, ?_, ?_, ?_, ?_, ?_⟩ <;> assumption) | assumption); (rintro x w' ⟨rfl, hS⟩)) | (go_at_call 21; with_reducible refine (cSE'.out _ ?_).mono ?_; (first | exact hS | exact hS.out | (refine ⟨?_, ?_, ?_, ?_, ?_, ?_⟩ <;> assumption) | assumption); (rintro x w' ⟨rfl, hS⟩)))) | fail
          all_goals
            go_wp2_with fail
            go_ret
            first | exact ⟨rfl, hbx.out _ hS⟩ | exact ⟨rfl, hbx.out _ (by assumption)⟩ | exact ⟨rfl, hbx.out _ ⟨by assumption, by assumption, by assumption, by assumption, by assumption, by assumption⟩⟩
        · have hk6 : kk ≤ 60 := by have := hm.out; simpa using this
          clear hm
          first | (go_region_held3 (fun V => Below wc.heap.size wc V ∧ V.cell? ⟨w.heap.size, 0, none⟩ = some (.int .u8 ek) ∧ V.cell? ⟨w.heap.size, 1, none⟩ = some (.string enm) ∧ V.cell? ⟨w.heap.size, 2, none⟩ = some (.int .i64 en) ∧ V.cell? ⟨w.heap.size, 3, none⟩ = some (.slice ea eargs.length ecap) ∧ V.cell? ⟨w.heap.size, 4, none⟩ = some (.int .i64 epos)) (first | exact hS | exact hS.out | assumption | (refine ⟨?_, ?_, ?_, ?_, ?_, ?_⟩ <;> assumption)) (first | (go_at_call 11; with_reducible refine (cM1'.out _ ?_).mono ?_; (first | exact hS | exact hS.out | (refine ⟨?_, ?_, ?_, ?_, ?_, ?_⟩ <;> assumption) | assumption); (rintro x w' ⟨rfl, hS⟩)) | (go_at_call 11; with_reducible refine (cM2'.out _ ?_).mono ?_; (first | exact hS | exact hS.out | (refine ⟨?_, ?_, ?_, ?_, ?_, ?_⟩ <;> assumption) | assumption); (rintro x w' ⟨rfl, hS⟩)) | (go_at_call 19; with_reducible refine (cME'.out _ ?_).mono ?_; (first | exact hS | exact hS.out | (refine ⟨?_, ?_, ?_, ?_, ?_, ?_⟩ <;> assumption) | assumption); (rintro x w' ⟨rfl, hS⟩)) | (go_at_call 15; with_reducible refine (cS2'.out _ ?_).mono ?_; (first | exact hS | exact hS.out | (refine ⟨?_, ?_, ?_, ?_, ?_, ?_⟩ <;> assumption) | assumption); (rintro x w' ⟨rfl, hS⟩)) | (go_at_call 13; with_reducible refine (cD2'.out _ ?_).mono ?_; (first | exact hS | exact hS.out | (refine ⟨?_, ?_, ?_, ?_, ?_, ?_⟩ <;> assumption) | assumption); (rintro x w' ⟨rfl, hS⟩)) | (go_at_call 21; with_reducible refine (cSE'.out _ ?_).mono ?_; (first | exact hS | exact hS.out | (refine ⟨?_, ?_, ?_, ?_, ?_, ?_⟩ <;> assumption) | assumption); (rintro x w' ⟨rfl, hS⟩)))) | fail
          all_goals
            go_wp2_with fail
            go_ret
            first | exact ⟨rfl, hbx.out _ hS⟩ | exact ⟨rfl, hbx.out _ (by assumption)⟩ | exact ⟨rfl, hbx.out _ ⟨by assumption, by assumption, by assumption, by assumption, by assumption, by assumption⟩⟩
end Go.Proofs.YtepbkgljkhogaaaDoor.Tr
