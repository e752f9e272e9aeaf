/- Rows of graphs of the call's own; a graph of another name, of a block less, is not the same. Conditions: none. -/
import Derived.Test.YthiiahlgncngoaaDoorRRJOk
import Derived.Test.YthiiahlgncngoaaDoorRRJGrF
import Derived.Test.YthiiahlgncngoaaDoorRRJM12
set_option maxHeartbeats 16000000
set_option maxRecDepth 100000
set_option linter.unusedVariables false
set_option linter.unusedSimpArgs false
namespace Go.Proofs.YthiiahlgncngoaaDoorRR.Fw
open Go Go.RowKit
open Go.Proofs.YthiiahlgncngoaaDoorRR.Lx Go.Proofs.YthiiahlgncngoaaDoorRR.Tr Go.Proofs.YthiiahlgncngoaaDoorRR.Cd
structure OwnG (B g cap : Nat) (l : List Gr) (W : World) : Prop where
 hB : B ≤ g
 ex : ∃ cur : Array Value, W.heap[g]? = some (.cells cur 37 (0, 0)) ∧ l.length ≤ cap ∧ cap ≤ maxLen ∧ cur.size = cap * 5 ∧ cur.toList.take (l.length * 5) = Xb l
/-! ### what is not the same -/
end Go.Proofs.YthiiahlgncngoaaDoorRR.Fw
set_option linter.unusedVariables false
set_option linter.unusedSimpArgs false
namespace Go.Proofs.YthiiahlgncngoaaDoorRR.Fw
open Go Go.RowKit
open Go.Proofs.YthiiahlgncngoaaDoorRR.Lx Go.Proofs.YthiiahlgncngoaaDoorRR.Tr Go.Proofs.YthiiahlgncngoaaDoorRR.Cd
open Go.Proofs.YthiiahlgncngoaaDoorRR.Vq Go.Proofs.YthiiahlgncngoaaDoorRR.Qr Go.Proofs.YthiiahlgncngoaaDoorRR.QrT Go.Proofs.YthiiahlgncngoaaDoorRR.QrP
theorem fl_g4 {V : World} {b o : Nat} : (Instr.fieldAt 37 (.pointer (some ⟨b, o, none⟩)) 4).run Tryd.prog V = .ok (.pointer (some ⟨b, o + 4, none⟩)) V := by go_simp
theorem below_both {W W' : World} {g : Nat} {cur : Array Value} {T : TypeId} (hg : W.heap[g]? = some (.cells cur T (0, 0))) (h : Below W.heap.size W W') (o : Nat) (v : Value) : Below (W.setCell ⟨g, o, none⟩ v).heap.size (W.setCell ⟨g, o, none⟩ v) (W'.setCell ⟨g, o, none⟩ v) := by
 have hs : (W.setCell ⟨g, o, none⟩ v).heap.size = W.heap.size := by simp [World.setCell]
 have hs' : (W'.setCell ⟨g, o, none⟩ v).heap.size = W'.heap.size := by simp [World.setCell]
 have hgl := (Array.getElem?_eq_some_iff.1 hg).1
 have hg' := (h.block g hgl).trans hg
 refine ⟨h.os, h.tape, h.output, by rw [hs, hs']; exact h.size, fun q hq => ?_⟩
 rw [hs] at hq
 by_cases e : q = g
 · subst e
   rw [Qy hg, Qy hg']
 · rw [(Q9 W' g o v).block q (Nat.lt_of_lt_of_le hq h.size) (fun e' => e (Option.some.inj e')), (Q9 W g o v).block q hq (fun e' => e (Option.some.inj e'))]
   exact h.block q hq
theorem Xx {P : Program} {a : Act} {o : Oper} {x : Operand} {b k : Nat} {w : World} (ho : o.op = .nilCheck x) (hx : a.eval x = .pointer (some ⟨b, k, none⟩)) : (execOp a.eval o).run P w = .ok (.value (.pointer (some ⟨b, k, none⟩))) w := by
 unfold execOp
 simp [ho, hx]
theorem fl_c1 {V : World} {b o : Nat} : (Instr.fieldAt 42 (.pointer (some ⟨b, o, none⟩)) 1).run Tryd.prog V = .ok (.pointer (some ⟨b, o + 1, none⟩)) V := by go_simp
theorem fl_c3 {V : World} {b o : Nat} : (Instr.fieldAt 42 (.pointer (some ⟨b, o, none⟩)) 3).run Tryd.prog V = .ok (.pointer (some ⟨b, o + 3, none⟩)) V := by go_simp
theorem ld_ins0 {V : World} {b o : Nat} {a : Option Addr} {n c : Nat} (h : V.cell? ⟨b, o, none⟩ = some (.slice a n c)) : (Instr.loadAt 39 (.pointer (some ⟨b, o, none⟩))).run Tryd.prog V = .ok (.slice a n c) V := by go_simp
theorem ld_int0 {V : World} {b o : Nat} {a : Option Addr} {n c : Nat} (h : V.cell? ⟨b, o, none⟩ = some (.slice a n c)) : (Instr.loadAt 40 (.pointer (some ⟨b, o, none⟩))).run Tryd.prog V = .ok (.slice a n c) V := by go_simp
theorem ld_insV {V : World} {q : Nat} {x : Ins} (h : V.heap[q]? = some (.cells ⟨x.vals⟩ 44 (0, 0))) : (Instr.loadAt 44 (.pointer (some ⟨q, 0, none⟩))).run Tryd.prog V = .ok (.agg ⟨x.vals⟩) V := by
 have h0 := Qk h (j := 0) rfl
 have h1 := Qk h (j := 1) rfl
 have h2 := Qk h (j := 2) rfl
 have h3 := Qk h (j := 3) rfl
 have h4 := Qk h (j := 4) rfl
 have h5 := Qk h (j := 5) rfl
 simp [go_sem, h0, h1, h2, h3, h4, h5, Ins.vals]
theorem mk_ins1 (V : World) (x : Ins) : (Instr.buildSlice 39 1 #[(0, .agg ⟨x.vals⟩)]).run Tryd.prog V = .ok (.slice (some ⟨V.heap.size, 0, none⟩) 1 1) (V.alloc (.cells ⟨x.vals⟩ 44)) := by kernel_rfl
theorem mk_int1 (V : World) (t : Int) : (Instr.buildSlice 40 1 #[(0, .int .i64 t)]).run Tryd.prog V = .ok (.slice (some ⟨V.heap.size, 0, none⟩) 1 1) (V.alloc (.cells #[.int .i64 t] 3)) := by kernel_rfl
theorem ins_ones (x : Ins) : ∀ u ∈ x.vals, u.oneCell' = true := fun u hu => by
 unfold Ins.vals at hu
 simp only [List.mem_cons, List.not_mem_nil, or_false] at hu
 rcases hu with rfl | rfl | rfl | rfl | rfl | rfl <;> rfl
/-- one element is appended to a row of the call's own -/
theorem p_app1 {a : Act} {o : Oper} {s x : Operand} {B q n size bytes : Nat} {t e : TypeId} {i0 : TypeInfo} {z0 fv : Value} {xs news : List Value} {w : World} {K : Act → World → Prop} {Q : Exit → Act → World → Prop}
 (ho : o.op = .call { callee := .builtin .append, args := #[s, x], argTypes := #[t, t] }) (ht : Tryd.prog.underlying t = some (.slice e)) (hi0 : Tryd.prog.info? e = some i0) (hz0 : i0.zero = some z0) (hz1 : i0.size = size) (hz2 : i0.bytes = bytes) (hz3 : z0.cells.size = size) (hsz : 0 < size)
 (hs : a.eval s = fv) (hx : a.eval x = .slice (some ⟨q, 0, none⟩) 1 1) (hown : w.ownsRow B e size fv n xs) (hl : news.length = size) (hq : w.heap[q]? = some (.cells ⟨news⟩ e (0, 0))) (h1 : ∀ u ∈ news, u.oneCell' = true)
 (hn : n + 1 ≤ 1048577) (hby : bytes ≤ 128) (hB : B ≤ w.heap.size) (h : ∀ v' w', w'.ownsRow B e size v' (n + 1) (xs ++ news) → w.grownBy w' fv.ownBlock → (v'.ownBlock = fv.ownBlock ∨ v'.ownBlock = some w.heap.size) → K (a.put o.dst v') w') : o.wp Tryd.prog a w K Q := by
 obtain ⟨v', w', hr, h2, h3, h4, h5⟩ := run_append_own_at (P := Tryd.prog) w B t o.type e i0 z0 size bytes ht hi0 hz0 hz1 hz2 hz3 hsz fv n xs hown ⟨q, 0, none⟩ 1 1 news (by omega) (fun j u hu => by
  rw [Go.WideShapes.add_plain, Nat.zero_add]
  exact Qk hq (by simpa using hu)) h1 (by unfold maxLen; omega) (Nat.le_trans (Nat.mul_le_mul hn hby) (by omega)) hB
 unfold Oper.wp execOp
 simp only [ho, resolve, invoke, builtin, Sem.run_bind, Sem.run_pure, Result.andThen_ok, List.map_toArray, List.map_cons, List.map_nil, hs, hx, hr]
 exact h _ _ h2 h3 h5
theorem ix_intS {V : World} {b n cap k : Nat} (h : k + 1 < n) : (Instr.indexAt 40 (.slice (some ⟨b, 0, none⟩) n cap) (.int .i64 ((k : Int) + 1))).run Tryd.prog V = .ok (.pointer (some ⟨b, k + 1, none⟩)) V := by
 have h1 : (0 : Int) ≤ (k : Int) + 1 := by omega
 have h2 : (k : Int) + 1 < (n : Int) := by omega
 have h3 : ((k : Int) + 1).toNat = k + 1 := by omega
 go_simp
theorem ix_intN {V : World} {b n cap k : Nat} (h : k < n) : (Instr.indexAt 40 (.slice (some ⟨b, 0, none⟩) n cap) (.int .i64 (k : Int))).run Tryd.prog V = .ok (.pointer (some ⟨b, k, none⟩)) V := by
 have h2 : (k : Int) < (n : Int) := by omega
 go_simp
theorem ld_intV {V : World} {b o : Nat} {t : Int} (h : V.cell? ⟨b, o, none⟩ = some (.int .i64 t)) : (Instr.loadAt 3 (.pointer (some ⟨b, o, none⟩))).run Tryd.prog V = .ok (.int .i64 t) V := by go_simp
theorem one_int (y : Int) : ∀ u ∈ [Value.int .i64 y], u.oneCell' = true := fun u hu => by
 rw [List.mem_singleton] at hu
 rw [hu]; rfl
/-- a slice is stored -/
theorem wp_storeI {a : Act} {o : Oper} {x y : Operand} {b k : Nat} {v v0 : Value} {w : World} {K : Act → World → Prop} {Q : Exit → Act → World → Prop} (ho : o.op = .store 39 x y) (hd : o.dst = none) (hx : a.eval x = .pointer (some ⟨b, k, none⟩)) (hy : a.eval y = v) (hv : ∃ p n c, v = .slice p n c) (hc : w.cell? ⟨b, k, none⟩ = some v0) (hf : w.frozen? ⟨b, k, none⟩ = false) (h : K a (w.setCell ⟨b, k, none⟩ v)) : o.wp Tryd.prog a w K Q := by
 obtain ⟨p, n, c, rfl⟩ := hv
 unfold Oper.wp execOp
 simp only [ho]
 rw [hx, hy]
 simp [go_sem, hc, hf, hd, Act.put]
 exact h
theorem wp_storeN {a : Act} {o : Oper} {x y : Operand} {b k : Nat} {v v0 : Value} {w : World} {K : Act → World → Prop} {Q : Exit → Act → World → Prop} (ho : o.op = .store 40 x y) (hd : o.dst = none) (hx : a.eval x = .pointer (some ⟨b, k, none⟩)) (hy : a.eval y = v) (hv : ∃ p n c, v = .slice p n c) (hc : w.cell? ⟨b, k, none⟩ = some v0) (hf : w.frozen? ⟨b, k, none⟩ = false) (h : K a (w.setCell ⟨b, k, none⟩ v)) : o.wp Tryd.prog a w K Q := by
 obtain ⟨p, n, c, rfl⟩ := hv
 unfold Oper.wp execOp
 simp only [ho]
 rw [hx, hy]
 simp [go_sem, hc, hf, hd, Act.put]
 exact h
/-- the class of worlds of a region that appends -/
structure C9 (B g gm h q len : Nat) (w : World) (bs : List Bk) (z : Ins) (fm : Nat → Bool) (fn : Nat → Int) (t : Bool) (V : World) : Prop where
 below : Below w.heap.size w V
 box : V.heap[q]? = some (.cells ⟨z.vals⟩ 44 (0, 0))
 mks : MkB gm len fm V
 nb : InB h len fn V
 own : OwnB g bs V
 ct : t = false → CtI B g bs V
theorem C9.keep {B g gm h q len : Nat} {w : World} {bs : List Bk} {z : Ins} {fm : Nat → Bool} {fn : Nat → Int} {t : Bool} {V W : World} (c : C9 B g gm h q len w bs z fm fn t V) (hb : Below V.heap.size V W) : C9 B g gm h q len w bs z fm fn t W :=
 ⟨c.below.trans (hb.mono c.below.size), (hb.block _ (Array.getElem?_eq_some_iff.1 c.box).1).trans c.box, c.mks.keep hb, c.nb.keep hb, c.own.keep hb, fun e => (c.ct e).keep hb⟩
theorem C9.app {B g gm h q len : Nat} {w : World} {bs : List Bk} {z : Ins} {fm : Nat → Bool} {fn : Nat → Int} {V W : World} {row : Option Nat} (c : C9 B g gm h q len w bs z fm fn false V) (hgr : V.grownBy W row) (hr : ∀ k, row = some k → B ≤ k ∧ k ≠ q) (h1 : gm < B) (h2 : h < B) (h3 : w.heap.size ≤ B) (h4 : g < B) : C9 B g gm h q len w bs z fm fn true W :=
 ⟨c.below.grown hgr c.below.size (fun k e => Nat.le_trans h3 (hr k e).1), (hgr.block q (Array.getElem?_eq_some_iff.1 c.box).1 (fun e => (hr q e.symm).2 rfl)).trans c.box, c.mks.grown hgr (fun e => by have := (hr gm e).1; omega), c.nb.grown hgr (fun e => by have := (hr h e).1; omega), Xg c.own hgr (fun e => by have := (hr g e).1; omega), fun e => by cases e⟩
theorem C9.put {B g gm h q len : Nat} {w : World} {bs bs' : List Bk} {z : Ins} {fm : Nat → Bool} {fn : Nat → Int} {t : Bool} {V : World} {o : Nat} {v : Value} (c : C9 B g gm h q len w bs z fm fn t V) (hct : CtI B g bs' (V.setCell ⟨g, o, none⟩ v)) (h1 : w.heap.size ≤ g) : C9 B g gm h q len w bs' z fm fn false (V.setCell ⟨g, o, none⟩ v) := by
 have hg := Q9 V g o v
 have key : ∀ {k : Nat} {cur : Array Value} {T : TypeId}, V.heap[k]? = some (.cells cur T (0, 0)) → T ≠ 42 → k ≠ g := fun hk hT e => by
  subst e
  rw [c.own.ex] at hk
  injection hk with hk
  injection hk with _ h2 _
  exact hT h2.symm
 exact ⟨c.below.setCell (p := ⟨g, o, none⟩) h1 v, (hg.block q (Array.getElem?_eq_some_iff.1 c.box).1 (fun e => key c.box (by decide) (Option.some.inj e))).trans c.box, c.mks.grown hg (fun e => key c.mks.ex (by decide) (Option.some.inj e).symm), c.nb.grown hg (fun e => key c.nb.ex (by decide) (Option.some.inj e).symm), hct.own, fun _ => hct⟩
theorem toL_end {l : List Ins} {n : Nat} {x : Ins} (hn : n < l.length) (hx : l[n]? = some x) (he : enN l (posN l n) = n + 1) : toL l (posN l n) = goL x ((posN l n : Int) + 1) (blkL l) := by
 unfold toL
 rw [he, seg_grow (stN_pos hn) hx]
 have : Z9 (seg l (stN l (posN l n)) n ++ [x]) = x := by unfold Z9; rw [List.getLast?_append]; rfl
 rw [this]
theorem info_ins1 : ∃ i z, Tryd.prog.info? 44 = some i ∧ i.zero = some z ∧ i.size = 6 ∧ i.bytes = 64 ∧ z.cells.size = 6 := info_ins6
theorem gl_op (x : Ins) : glP x = if x.op = 11 ∨ x.op = 12 then (x.n, true) else (0, false) := by
 unfold glP numK
 by_cases h1 : x.op = 11
 · simp [h1]
 · by_cases h2 : x.op = 12
   · simp [h2]
   · rw [if_neg (by omega : ¬ (x.op = 11 ∨ x.op = 12))]
     repeat' split
     all_goals first
      | rfl
      | (rename_i h; simp at h)
      | omega
theorem mk_end {l : List Ins} {n : Nat} {x : Ins} (hx : l[n]? = some x) (he : Xr x.op = true) : mkD l (n + 1) = true := by
 have hs : l = l.take (n + 1) ++ l.drop (n + 1) := (List.take_append_drop _ _).symm
 unfold mkD
 rw [hs, mkF_app, mkF_take hx, he]
 simp
theorem mk_goal {l : List Ins} {n g : Nat} {x : Ins} (hx : l[n]? = some x) (hg : glP x = ((g : Int), true)) : mkD l g = true := by
 have hs : l = l.take (n + 1) ++ l.drop (n + 1) := (List.take_append_drop _ _).symm
 unfold mkD
 rw [hs, mkF_app, mkF_take hx, hg]
 simp
theorem last_not {l : List Ins} {n : Nat} {x : Ins} (hlast : Zv l = 11 ∨ Zv l = 13) (hx : l[n]? = some x) (h1 : x.op ≠ 11) (h2 : x.op ≠ 13) : n + 1 < l.length := by
 have hn := (List.getElem?_eq_some_iff.1 hx).1
 refine Nat.lt_of_le_of_ne (by omega) fun e => ?_
 have : Z9 l = x := lastI_at (by rw [show l.length - 1 = n by omega]; exact hx)
 rw [← lastI_op, this] at hlast
 omega
def VSI (z : Ins) (v : Value) (V : World) : Prop := ∃ q, v = .slice (some ⟨q, 0, none⟩) 1 1 ∧ V.heap[q]? = some (.cells ⟨z.vals⟩ 44 (0, 0))
theorem VSI.mono {z : Ins} : Mono (VSI z) := fun _ _ _ hb ⟨q, h, h1⟩ => ⟨q, h, (hb.block q (Array.getElem?_eq_some_iff.1 h1).1).trans h1⟩
def VSN (y : Int) (v : Value) (V : World) : Prop := ∃ q, v = .slice (some ⟨q, 0, none⟩) 1 1 ∧ V.heap[q]? = some (.cells ⟨[.int .i64 y]⟩ 3 (0, 0))
theorem VSN.mono {y : Int} : Mono (VSN y) := fun _ _ _ hb ⟨q, h, h1⟩ => ⟨q, h, (hb.block q (Array.getElem?_eq_some_iff.1 h1).1).trans h1⟩
def VApI (B g : Nat) (bs : List Bk) (j : Nat) (x : Bk) (z : Ins) (v : Value) (W : World) : Prop := ∃ a c, v = .slice a (x.code.length + 1) c ∧ OwnB g bs W ∧ CtI B g (bs.set j { x with ca := a, ccap := c, code := x.code ++ [z] }) (W.setCell ⟨g, j * 4 + 1, none⟩ v)
theorem VApI.mono {B g : Nat} {bs : List Bk} {j : Nat} {x : Bk} {z : Ins} : Mono (VApI B g bs j x z) := fun v w w' hb ⟨a, c, h, h1, h2⟩ => ⟨a, c, h, h1.keep hb, h2.keep (below_both h1.ex hb _ _)⟩
def VApT (B g : Nat) (bs : List Bk) (j : Nat) (x : Bk) (y : Int) (v : Value) (W : World) : Prop := ∃ a c, v = .slice a (x.tt.length + 1) c ∧ OwnB g bs W ∧ CtI B g (bs.set j { x with ta := a, tcap := c, tt := x.tt ++ [y] }) (W.setCell ⟨g, j * 4 + 3, none⟩ v)
theorem VApT.mono {B g : Nat} {bs : List Bk} {j : Nat} {x : Bk} {y : Int} : Mono (VApT B g bs j x y) := fun v w w' hb ⟨a, c, h, h1, h2⟩ => ⟨a, c, h, h1.keep hb, h2.keep (below_both h1.ex hb _ _)⟩
def rcA (B g j : Nat) (bs : List Bk) (x : Bk) (z : Ins) (t : Bool) : List (Value → World → Prop) :=
 [VK (.pointer (some ⟨g, j * 4, none⟩)), VK (.pointer (some ⟨g, j * 4, none⟩)), VK (.pointer (some ⟨g, j * 4, none⟩)), VK (.pointer (some ⟨g, j * 4 + 1, none⟩)), VK (cdV x), VK (.agg ⟨z.vals⟩), if t then VT else VSI z, if t then VApI B g bs j x z else VF, VK (.pointer (some ⟨g, j * 4, none⟩)), VK (.pointer (some ⟨g, j * 4 + 1, none⟩))]
theorem rcA_mono {B g j : Nat} {bs : List Bk} {x : Bk} {z : Ins} {t : Bool} : MonoL (rcA B g j bs x z t) := by
 cases t
 · exact ⟨VK.mono, VK.mono, VK.mono, VK.mono, VK.mono, VK.mono, VSI.mono, VF.mono, VK.mono, VK.mono, trivial⟩
 · exact ⟨VK.mono, VK.mono, VK.mono, VK.mono, VK.mono, VK.mono, VT.mono, VApI.mono, VK.mono, VK.mono, trivial⟩
theorem rcA_on {B g j : Nat} {bs : List Bk} {x : Bk} {z : Ins} : ∀ (i : Nat) (v : Value) (w w' : World), i ≠ 7 → (rcA B g j bs x z false).getD i VT v w → (rcA B g j bs x z true).getD i VT v w'
 | 0, _, _, _, _, h => h
 | 1, _, _, _, _, h => h
 | 2, _, _, _, _, h => h
 | 3, _, _, _, _, h => h
 | 4, _, _, _, _, h => h
 | 5, _, _, _, _, h => h
 | 6, _, _, _, _, _ => trivial
 | 7, _, _, _, h, _ => absurd rfl h
 | 8, _, _, _, _, h => h
 | 9, _, _, _, _, h => h
 | _ + 10, _, _, _, _, _ => trivial
def rcB (B g j h len n : Nat) (bs : List Bk) (x : Bk) (y : Int) (t : Bool) : List (Value → World → Prop) :=
 [VK (.pointer (some ⟨g, j * 4, none⟩)), VK (.pointer (some ⟨g, j * 4, none⟩)), VK (.pointer (some ⟨g, j * 4, none⟩)), VK (.pointer (some ⟨g, j * 4 + 3, none⟩)), VK (toV x), VK (.slice (some ⟨h, 0, none⟩) len len), VK (.int .i64 n), VK (.int .i64 ((n : Int) + 1)), VK (.pointer (some ⟨h, n + 1, none⟩)), VK (.int .i64 y), if t then VT else VSN y, if t then VApT B g bs j x y else VF, VK (.pointer (some ⟨g, j * 4, none⟩)), VK (.pointer (some ⟨g, j * 4 + 3, none⟩))]
theorem rcB_mono {B g j h len n : Nat} {bs : List Bk} {x : Bk} {y : Int} {t : Bool} : MonoL (rcB B g j h len n bs x y t) := by
 cases t
 · exact ⟨VK.mono, VK.mono, VK.mono, VK.mono, VK.mono, VK.mono, VK.mono, VK.mono, VK.mono, VK.mono, VSN.mono, VF.mono, VK.mono, VK.mono, trivial⟩
 · exact ⟨VK.mono, VK.mono, VK.mono, VK.mono, VK.mono, VK.mono, VK.mono, VK.mono, VK.mono, VK.mono, VT.mono, VApT.mono, VK.mono, VK.mono, trivial⟩
theorem rcB_on {B g j h len n : Nat} {bs : List Bk} {x : Bk} {y : Int} : ∀ (i : Nat) (v : Value) (w w' : World), i ≠ 11 → (rcB B g j h len n bs x y false).getD i VT v w → (rcB B g j h len n bs x y true).getD i VT v w'
 | 0, _, _, _, _, h => h
 | 1, _, _, _, _, h => h
 | 2, _, _, _, _, h => h
 | 3, _, _, _, _, h => h
 | 4, _, _, _, _, h => h
 | 5, _, _, _, _, h => h
 | 6, _, _, _, _, h => h
 | 7, _, _, _, _, h => h
 | 8, _, _, _, _, h => h
 | 9, _, _, _, _, h => h
 | 10, _, _, _, _, _ => trivial
 | 11, _, _, _, h, _ => absurd rfl h
 | 12, _, _, _, _, h => h
 | 13, _, _, _, _, h => h
 | _ + 14, _, _, _, _, _ => trivial
def rcC (B g j h len n : Nat) (bs : List Bk) (x : Bk) (y : Int) (t : Bool) : List (Value → World → Prop) :=
 [VK (.pointer (some ⟨g, j * 4, none⟩)), VK (.pointer (some ⟨g, j * 4, none⟩)), VK (.pointer (some ⟨g, j * 4, none⟩)), VK (.pointer (some ⟨g, j * 4 + 3, none⟩)), VK (toV x), VK (.slice (some ⟨h, 0, none⟩) len len), VK (.int .i64 n), VK (.pointer (some ⟨h, n, none⟩)), VK (.int .i64 y), if t then VT else VSN y, if t then VApT B g bs j x y else VF, VK (.pointer (some ⟨g, j * 4, none⟩)), VK (.pointer (some ⟨g, j * 4 + 3, none⟩))]
theorem rcC_mono {B g j h len n : Nat} {bs : List Bk} {x : Bk} {y : Int} {t : Bool} : MonoL (rcC B g j h len n bs x y t) := by
 cases t
 · exact ⟨VK.mono, VK.mono, VK.mono, VK.mono, VK.mono, VK.mono, VK.mono, VK.mono, VK.mono, VSN.mono, VF.mono, VK.mono, VK.mono, trivial⟩
 · exact ⟨VK.mono, VK.mono, VK.mono, VK.mono, VK.mono, VK.mono, VK.mono, VK.mono, VK.mono, VT.mono, VApT.mono, VK.mono, VK.mono, trivial⟩
theorem rcC_on {B g j h len n : Nat} {bs : List Bk} {x : Bk} {y : Int} : ∀ (i : Nat) (v : Value) (w w' : World), i ≠ 10 → (rcC B g j h len n bs x y false).getD i VT v w → (rcC B g j h len n bs x y true).getD i VT v w'
 | 0, _, _, _, _, h => h
 | 1, _, _, _, _, h => h
 | 2, _, _, _, _, h => h
 | 3, _, _, _, _, h => h
 | 4, _, _, _, _, h => h
 | 5, _, _, _, _, h => h
 | 6, _, _, _, _, h => h
 | 7, _, _, _, _, h => h
 | 8, _, _, _, _, h => h
 | 9, _, _, _, _, _ => trivial
 | 10, _, _, _, h, _ => absurd rfl h
 | 11, _, _, _, _, h => h
 | 12, _, _, _, _, h => h
 | _ + 13, _, _, _, _, _ => trivial
end Go.Proofs.YthiiahlgncngoaaDoorRR.Fw
set_option linter.unusedVariables false
set_option linter.unusedSimpArgs false
namespace Go.Proofs.YthiiahlgncngoaaDoorRR.Fw
open Go Go.RowKit
open Go.Proofs.YthiiahlgncngoaaDoorRR.Lx Go.Proofs.YthiiahlgncngoaaDoorRR.Tr Go.Proofs.YthiiahlgncngoaaDoorRR.Cd
theorem CtP.one {l : List Ins} {n : Nat} {bs : List Bk} {x x' : Bk} {i : Ins} {a ta : Option Addr} {c tcap : Nat} {T : List Int} (h : CtP l n bs) (hn : n < l.length) (hi : l[n]? = some i) (hx : bs[posN l n]? = some x)
 (he : x' = { x with ca := a, ccap := c, code := x.code ++ [Zs i], ta := ta, tcap := tcap, tt := T }) (hT : (if enN l (posN l n) ≤ n + 1 then toL l (posN l n) else []) = T) : CtP l (n + 1) (bs.set (posN l n) x') := by
 subst he
 rw [← hT]
 exact h.step hn hi hx
theorem CtP.tt_old {l : List Ins} {n : Nat} {bs : List Bk} {x : Bk} (h : CtP l n bs) (hn : n < l.length) (hx : bs[posN l n]? = some x) : x.tt = [] := by
 obtain ⟨_, _, _, h4⟩ := h.row _ x hx
 obtain ⟨e1, _⟩ := enN_pos hn
 rw [h4, if_neg (by omega)]
theorem CtP.code_le {l : List Ins} {n : Nat} {bs : List Bk} {x : Bk} (h : CtP l n bs) {j : Nat} (hx : bs[j]? = some x) : x.code.length ≤ l.length := by
 obtain ⟨h1, _⟩ := h.row _ x hx
 rw [h1]
 unfold seg
 simp only [List.length_take, List.length_drop, List.length_map]
 omega
theorem tt_end {l : List Ins} {n : Nat} {x : Ins} (hn : n < l.length) (hx : l[n]? = some x) (hm : mkD l (n + 1) = true) : (if enN l (posN l n) ≤ n + 1 then toL l (posN l n) else []) = goL x ((posN l n : Int) + 1) (blkL l) := by
 have he := (enN_pos hn).2.2 (.inr hm)
 rw [if_pos (by omega), toL_end hn hx he]
theorem tt_not {l : List Ins} {n : Nat} (hn : n + 1 < l.length) (hm : mkD l (n + 1) = false) : (if enN l (posN l n) ≤ n + 1 then toL l (posN l n) else []) = [] := by
 obtain ⟨e1, e2⟩ := enN_pos (show n < l.length by omega)
 refine if_neg fun h => ?_
 rcases e2.1 (by omega) with h | h
 · omega
 · rw [hm] at h; cases h
theorem tt_jump {l : List Ins} {n g : Nat} {x : Ins} (hn : n < l.length) (hx : l[n]? = some x) (ho : x.op = 11) (hg : glP x = ((g : Int), true)) (hgl : g < l.length) : (if enN l (posN l n) ≤ n + 1 then toL l (posN l n) else []) = [] ++ [(posN l g : Int)] := by
 rw [tt_end hn hx (mk_end hx (by rw [ho]; rfl))]
 unfold goL
 rw [if_pos (.inl ho), hg, if_pos rfl]
 rw [Int.toNat_natCast, blk_pos hgl (mk_goal hx hg)]
theorem tt_branch {l : List Ins} {n g : Nat} {x : Ins} (hn : n < l.length) (hx : l[n]? = some x) (ho : x.op = 12) (hg : glP x = ((g : Int), true)) (hgl : g < l.length) : (if enN l (posN l n) ≤ n + 1 then toL l (posN l n) else []) = ([] ++ [(posN l n : Int) + 1]) ++ [(posN l g : Int)] := by
 rw [tt_end hn hx (mk_end hx (by rw [ho]; rfl))]
 unfold goL
 rw [if_neg (show ¬ (x.op = 11 ∨ x.op = 13) by omega), hg, if_pos rfl]
 rw [Int.toNat_natCast, blk_pos hgl (mk_goal hx hg)]
 rfl
theorem tt_ret {l : List Ins} {n : Nat} {x : Ins} (hn : n < l.length) (hx : l[n]? = some x) (ho : x.op = 13) : (if enN l (posN l n) ≤ n + 1 then toL l (posN l n) else []) = [] := by
 rw [tt_end hn hx (mk_end hx (by rw [ho]; rfl))]
 unfold goL
 rw [if_pos (.inr ho), gl_op, if_neg (show ¬ (x.op = 11 ∨ x.op = 12) by omega)]
 rfl
theorem tt_next {l : List Ins} {n : Nat} {x : Ins} (hn : n < l.length) (hx : l[n]? = some x) (h1 : x.op ≠ 11) (h2 : x.op ≠ 12) (h3 : x.op ≠ 13) (hm : mkD l (n + 1) = true) : (if enN l (posN l n) ≤ n + 1 then toL l (posN l n) else []) = [] ++ [(posN l n : Int) + 1] := by
 rw [tt_end hn hx hm]
 unfold goL
 rw [if_neg (show ¬ (x.op = 11 ∨ x.op = 13) by omega), gl_op, if_neg (show ¬ (x.op = 11 ∨ x.op = 12) by omega)]
 rfl
theorem bare_goes {x : Ins} {g : Int} (h : glP x = (g, true)) : (Zs x).vals = [.int .u8 x.op, .int .i64 x.r, .int .i64 x.a, .int .i64 x.b, .int .i64 0, .slice x.aa x.args.length x.acap] := by
 unfold Zs Ins.vals
 rw [h]
 rfl
theorem bare_not {x : Ins} {g : Int} (h : glP x = (g, false)) : Zs x = x := by
 unfold Zs
 rw [h]
 rfl
end Go.Proofs.YthiiahlgncngoaaDoorRR.Fw
