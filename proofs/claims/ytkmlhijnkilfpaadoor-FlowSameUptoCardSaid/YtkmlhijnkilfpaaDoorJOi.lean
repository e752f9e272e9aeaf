/- What Of's parts leave: conditions on values, and what they outlive; what a program that may be has. Conditions: none. Walk of Of, where the program may not be. Conditions: the program lies in memory, its lists are of bounded length; the packages' tables hold their lists. -/
import Derived.Test.YtkmlhijnkilfpaaDoorJOwQ
import Derived.Test.YtkmlhijnkilfpaaDoorJOa
import Derived.Test.YtkmlhijnkilfpaaDoorJaM
import Derived.Maps.AppendAt
set_option linter.unusedVariables false
set_option linter.unusedSimpArgs false
namespace Go.Proofs.YtkmlhijnkilfpaaDoor.Fw
open Go Go.RowKit
open Go.Proofs.YtkmlhijnkilfpaaDoor.Lx Go.Proofs.YtkmlhijnkilfpaaDoor.Tr Go.Proofs.YtkmlhijnkilfpaaDoor.Cd
open Go.Proofs.YtkmlhijnkilfpaaDoor.Vq Go.Proofs.YtkmlhijnkilfpaaDoor.Qr Go.Proofs.YtkmlhijnkilfpaaDoor.QrT Go.Proofs.YtkmlhijnkilfpaaDoor.QrP

theorem fun_ok {p : Pg} (h : mayP p = true) {f : Cd.Fn} (hf : f ∈ p.funs) : 0 < f.code.length ∧ f.code.length ≤ 16384 ∧ (∀ y ∈ f.code, y.args.length ≤ 1048576) ∧ (∀ y ∈ f.code, (glP y).2 = true → 0 ≤ (glP y).1 ∧ (glP y).1 < (f.code.length : Int)) ∧ (lastOp f.code = 11 ∨ lastOp f.code = 13) := by
  obtain ⟨_, _, _, h4, h5⟩ := mayP_parts h
  have h6 := List.all_eq_true.1 h5 f hf
  unfold codeP at h6
  simp only [Bool.and_eq_true, decide_eq_true_eq, Bool.or_eq_true] at h6
  obtain ⟨⟨⟨k1, k2⟩, k3⟩, k4⟩ := h6
  have hm : ∀ y ∈ f.code, numP p f y = true := fun y hy => by
    have := List.all_eq_true.1 k3 y hy
    unfold mayF at this
    simp only [Bool.and_eq_true] at this
    exact this.2.1.2
  refine ⟨by omega, k2, fun y hy => ?_, fun y hy hg => ?_, k4⟩
  · have h7 := hm y hy
    unfold numP at h7
    simp only [Bool.and_eq_true, decide_eq_true_eq] at h7
    have h8 : (fitP p f y).2 ≤ 8 := by
      unfold fitP
      repeat' split
      all_goals first
        | (show (0 : Int) ≤ 8; omega)
        | skip
      all_goals
        rename_i g hgm hgt
        have h9 := List.all_eq_true.1 h4 g (List.mem_of_getElem? hgm)
        unfold headP at h9
        simp only [Bool.and_eq_true, decide_eq_true_eq] at h9
        have := h9.1.1.2
        rw [if_neg hgt] at this
        exact this
    omega
  · have h7 := hm y hy
    unfold glP at hg ⊢
    by_cases e : numK y.op = 7
    · rw [if_pos e]
      unfold numP fitP at h7
      simp only [e] at h7
      simp [inP] at h7
      exact h7.1
    · rw [if_neg e] at hg; cases hg
theorem GrQ.keep {B : Nat} {l : List Ins} {ba : Option Addr} {bcap : Nat} {L : List Bk} {W V : World} (h : GrQ B l ba bcap L W) (hb : Below W.heap.size W V) : GrQ B l ba bcap L V := by
  obtain ⟨g, g2, bs, m, a7, c7, fa, fc, h1, h2, h3, h4, h5, h6, h7, h8⟩ := h
  exact ⟨g, g2, bs, m, a7, c7, fa, fc, h1, h2.keep hb, h3.keep hb, h4, h5.keep hb, h6, h7, fun k hk => own_below (h8 k hk) hb⟩
theorem GrQ.grown {B q : Nat} {l : List Ins} {ba : Option Addr} {bcap : Nat} {L : List Bk} {W V : World} {cur : Array Value} {T : TypeId} (h : GrQ B l ba bcap L W) (hg : W.grownBy V (some q)) (hq : W.heap[q]? = some (.cells cur T (0, 0))) (h1 : T ≠ 44) (h2 : T ≠ 3) (h3 : T ≠ 42) : GrQ B l ba bcap L V := by
  obtain ⟨g, g2, bs, m, a7, c7, fa, fc, k1, k2, k3, k4, k5, k6, k7, k8⟩ := h
  exact ⟨g, g2, bs, m, a7, c7, fa, fc, k1, k2.grown hg hq h1 h2, k3.grownT hg hq h2, k4, k5.grown hg (k5.ne hq h3), k6, k7, fun k hk => own_grown (k8 k hk) hg (own_ty (k8 k hk) hq h2)⟩
theorem GrQ.low {B B' : Nat} {l : List Ins} {ba : Option Addr} {bcap : Nat} {L : List Bk} {W : World} (h : GrQ B l ba bcap L W) (hB : B' ≤ B) : GrQ B' l ba bcap L W := by
  obtain ⟨g, g2, bs, m, a7, c7, fa, fc, h1, h2, h3⟩ := h
  exact ⟨g, g2, bs, m, a7, c7, fa, fc, h1, h2.low hB, h3⟩
/-- a Fun's blocks -/
structure GrO (B : Nat) (f : Cd.Fn) (x : Gr) (W : World) : Prop where
  name : x.name = f.name
  thread : x.thread = f.thread
  params : x.params = f.params
  regs : x.regs = f.regs
  q : GrQ B f.code x.ba x.bcap x.blocks W
theorem GrO.keep {B : Nat} {f : Cd.Fn} {x : Gr} {W V : World} (h : GrO B f x W) (hb : Below W.heap.size W V) : GrO B f x V := ⟨h.name, h.thread, h.params, h.regs, h.q.keep hb⟩
theorem GrO.grown {B q : Nat} {f : Cd.Fn} {x : Gr} {W V : World} {cur : Array Value} {T : TypeId} (h : GrO B f x W) (hg : W.grownBy V (some q)) (hq : W.heap[q]? = some (.cells cur T (0, 0))) (h1 : T ≠ 44) (h2 : T ≠ 3) (h3 : T ≠ 42) : GrO B f x V :=
  ⟨h.name, h.thread, h.params, h.regs, h.q.grown hg hq h1 h2 h3⟩
/-- the program of blocks so far, but for the row of its graphs -/
structure OfD (B q4 : Nat) (p : Pg) (mv sv fv : Value) (L : List Gr) (V : World) : Prop where
  t4 : V.heap[q4]? = some (.cells #[mv, sv, fv] 30 (0, 0))
  mrow : V.ownsRow B 56 3 mv p.mems.length (mmCells p.mems)
  srow : V.ownsRow B 9 1 sv p.locks.length (strCells p.locks)
  grs : ∀ (j : Nat) (f : Cd.Fn) (g : Gr), p.funs[j]? = some f → L[j]? = some g → GrO B f g V
theorem OfD.keep {B q4 : Nat} {p : Pg} {mv sv fv : Value} {L : List Gr} {V W : World} (h : OfD B q4 p mv sv fv L V) (hb : Below V.heap.size V W) : OfD B q4 p mv sv fv L W :=
  ⟨(hb.block _ (Array.getElem?_eq_some_iff.1 h.t4).1).trans h.t4, own_below h.mrow hb, own_below h.srow hb, fun j f g h1 h2 => (h.grs j f g h1 h2).keep hb⟩
theorem grown_none {V W : World} (h : V.grownBy W none) : Below V.heap.size V W := ⟨h.os, h.tape, h.output, h.size, fun q hq => h.block q hq (fun e => by cases e)⟩
/-- a row of graphs grows -/
theorem OfD.app {B q4 : Nat} {p : Pg} {mv sv fv : Value} {L : List Gr} {V W : World} {n : Nat} {xs : List Value} (h : OfD B q4 p mv sv fv L V) (hf : V.ownsRow B 37 5 fv n xs) (hg : V.grownBy W fv.ownBlock) : OfD B q4 p mv sv fv L W := by
  rcases hf.2 with ⟨rfl, _⟩ | ⟨q, cap, cur, rfl, _, hq, _⟩
  · exact h.keep (grown_none hg)
  · replace hg : V.grownBy W (some q) := hg
    refine ⟨(hg.block _ (Array.getElem?_eq_some_iff.1 h.t4).1 (fun e => ?_)).trans h.t4, own_grown h.mrow hg (own_ty h.mrow hq (by decide)), own_grown h.srow hg (own_ty h.srow hq (by decide)), fun j f g h1 h2 => (h.grs j f g h1 h2).grown hg hq (by decide) (by decide) (by decide)⟩
    have e' := Option.some.inj e
    subst e'
    have := h.t4
    rw [hq] at this
    injection this with this
    injection this with _ e2 _
    exact absurd e2 (by decide)
theorem GrO.app {B : Nat} {f : Cd.Fn} {x : Gr} {fv : Value} {V W : World} {n : Nat} {xs : List Value} (h : GrO B f x V) (hf : V.ownsRow B 37 5 fv n xs) (hg : V.grownBy W fv.ownBlock) : GrO B f x W := by
  rcases hf.2 with ⟨rfl, _⟩ | ⟨q, cap, cur, rfl, _, hq, _⟩
  · exact h.keep (grown_none hg)
  · exact h.grown hg hq (by decide) (by decide) (by decide)
/-- a graph more is told of -/
theorem OfD.step {B q4 k : Nat} {p : Pg} {mv sv fv fv' : Value} {L : List Gr} {V : World} {f : Cd.Fn} {x : Gr} (h : OfD B q4 p mv sv fv L V) (hL : L.length = k) (hf : p.funs[k]? = some f) (hx : GrO B f x V) : OfD B q4 p mv sv fv' (L ++ [x]) (V.setCell ⟨q4, 2, none⟩ fv') := by
  have hg := grown_set V q4 2 fv'
  refine ⟨by have := heap_set1 h.t4 2 fv'; simpa using this, own_grown h.mrow hg (own_ty h.mrow h.t4 (by decide)), own_grown h.srow hg (own_ty h.srow h.t4 (by decide)), fun j f' g h1 h2 => ?_⟩
  by_cases e : j < L.length
  · rw [List.getElem?_append_left e] at h2
    exact (h.grs j f' g h1 h2).grown hg h.t4 (by decide) (by decide) (by decide)
  · rw [List.getElem?_append_right (by omega)] at h2
    have hj : j = k := by
      have := (List.getElem?_eq_some_iff.1 h2).1
      simp at this
      omega
    subst hj
    rw [hL, Nat.sub_self] at h2
    cases h2
    rw [hf] at h1
    cases h1
    exact hx.grown hg h.t4 (by decide) (by decide) (by decide)
/-! ### region 3 -/
def VOwM (B : Nat) (l : List Mm) (v : Value) (V : World) : Prop := V.ownsRow B 56 3 v l.length (mmCells l)
theorem VOwM.mono {B : Nat} {l : List Mm} : Mono (VOwM B l) := fun _ _ _ hb h => own_below h hb
def VOwS (B : Nat) (l : List ByteArray) (v : Value) (V : World) : Prop := V.ownsRow B 9 1 v l.length (strCells l)
theorem VOwS.mono {B : Nat} {l : List ByteArray} : Mono (VOwS B l) := fun _ _ _ hb h => own_below h hb
def VFo (B : Nat) (p : Pg) (v : Value) (V : World) : Prop := ∃ a b, v = .agg #[a, b, .slice none 0 0] ∧ VOwM B p.mems a V ∧ VOwS B p.locks b V
theorem VFo.mono {B : Nat} {p : Pg} : Mono (VFo B p) := fun _ _ _ hb ⟨a, b, h, h1, h2⟩ => ⟨a, b, h, VOwM.mono _ _ _ hb h1, VOwS.mono _ _ _ hb h2⟩
abbrev fm0 : Array Value := #[.slice none 0 0, .slice none 0 0, .slice none 0 0]
def VAf (B : Nat) (v : Value) (V : World) : Prop := ∃ q, v = .pointer (some ⟨q, 0, none⟩) ∧ B ≤ q ∧ V.heap[q]? = some (.cells fm0 30 (0, 0))
theorem VAf.mono {B : Nat} : Mono (VAf B) := fun _ _ _ hb ⟨b, h, h1, h2⟩ => ⟨b, h, h1, (hb.block b (Array.getElem?_eq_some_iff.1 h2).1).trans h2⟩
def raF3 (B B1 bx : Nat) (p : Pg) : List (Value → World → Prop) :=
  [VK (.pointer (some ⟨bx, 0, none⟩)), VK (.slice p.ma p.mems.length p.mcap), VOwM B p.mems, VK (.pointer (some ⟨bx, 1, none⟩)), VK (.slice p.la p.locks.length p.lcap), VOwS B p.locks, VFo B p, VAf B1]
theorem raF3_mono {B B1 bx : Nat} {p : Pg} : MonoL (raF3 B B1 bx p) := ⟨VK.mono, VK.mono, VOwM.mono, VK.mono, VK.mono, VOwS.mono, VFo.mono, VAf.mono, trivial⟩
theorem fl_q0 {V : World} {b : Nat} : (Instr.fieldAt 26 (.pointer (some ⟨b, 0, none⟩)) 0).run Tryd.prog V = .ok (.pointer (some ⟨b, 0, none⟩)) V := by go_simp
theorem fl_q1 {V : World} {b : Nat} : (Instr.fieldAt 26 (.pointer (some ⟨b, 0, none⟩)) 1).run Tryd.prog V = .ok (.pointer (some ⟨b, 1, none⟩)) V := by go_simp
theorem fl_o2 {V : World} {b : Nat} : (Instr.fieldAt 30 (.pointer (some ⟨b, 0, none⟩)) 2).run Tryd.prog V = .ok (.pointer (some ⟨b, 2, none⟩)) V := by go_simp
theorem al_form (V : World) : (Instr.alloc 30 true (.tuple #[])).run Tryd.prog V = .ok (.pointer (some ⟨V.heap.size, 0, none⟩)) (V.alloc (.cells fm0 30)) := by go_simp
theorem b_form {V : World} (a b : Option Addr) (n m c d : Nat) : (Instr.build 30 #[(0, .slice a n c), (1, .slice b m d)]).run Tryd.prog V = .ok (.agg #[.slice a n c, .slice b m d, .slice none 0 0]) V := by kernel_rfl
/-! ### region 7 -/
def VGr (B : Nat) (f : Cd.Fn) (v : Value) (V : World) : Prop := ∃ x, v = .agg ⟨x.vals⟩ ∧ GrO B f x V
theorem VGr.mono {B : Nat} {f : Cd.Fn} : Mono (VGr B f) := fun _ _ _ hb ⟨x, h, h1⟩ => ⟨x, h, h1.keep hb⟩
def VGp (v : Value) (_ : World) : Prop := ∃ x : Gr, v = .agg ⟨x.vals⟩
theorem VGp.mono : Mono VGp := fun _ _ _ _ h => h
def VSl (B : Nat) (f : Cd.Fn) (v : Value) (V : World) : Prop := ∃ x q, v = .slice (some ⟨q, 0, none⟩) 1 1 ∧ V.heap[q]? = some (.cells ⟨x.vals⟩ 37 (0, 0)) ∧ GrO B f x V
theorem VSl.mono {B : Nat} {f : Cd.Fn} : Mono (VSl B f) := fun _ _ _ hb ⟨x, q, h, h1, h2⟩ => ⟨x, q, h, (hb.block q (Array.getElem?_eq_some_iff.1 h1).1).trans h1, h2.keep hb⟩
def VAp (B : Nat) (f : Cd.Fn) (L : List Gr) (v : Value) (V : World) : Prop := ∃ x, V.ownsRow B 37 5 v (L.length + 1) (grCells L ++ x.vals) ∧ GrO B f x V
theorem VAp.mono {B : Nat} {f : Cd.Fn} {L : List Gr} : Mono (VAp B f L) := fun _ _ _ hb ⟨x, h, h1⟩ => ⟨x, own_below h hb, h1.keep hb⟩
def raF7 (B q4 : Nat) (f : Cd.Fn) (fv : Value) (L : List Gr) (t : Bool) : List (Value → World → Prop) :=
  [VK (.pointer (some ⟨q4, 2, none⟩)), VK fv, VK (.agg ⟨f.vals⟩), if t then VGp else VGr B f, if t then VT else VSl B f, if t then VAp B f L else VF, VK (.pointer (some ⟨q4, 2, none⟩))]
theorem raF7_mono {B q4 : Nat} {f : Cd.Fn} {fv : Value} {L : List Gr} {t : Bool} : MonoL (raF7 B q4 f fv L t) := by
  cases t
  · exact ⟨VK.mono, VK.mono, VK.mono, VGr.mono, VSl.mono, VF.mono, VK.mono, trivial⟩
  · exact ⟨VK.mono, VK.mono, VK.mono, VGp.mono, VT.mono, VAp.mono, VK.mono, trivial⟩
theorem raF7_on {B q4 : Nat} {f : Cd.Fn} {fv : Value} {L : List Gr} : ∀ (i : Nat) (v : Value) (w w' : World), i ≠ 5 → (raF7 B q4 f fv L false).getD i VT v w → (raF7 B q4 f fv L true).getD i VT v w'
  | 0, _, _, _, _, h => h
  | 1, _, _, _, _, h => h
  | 2, _, _, _, _, h => h
  | 3, _, _, _, _, ⟨x, h, _⟩ => ⟨x, h⟩
  | 4, _, _, _, _, _ => trivial
  | 5, _, _, _, h, _ => absurd rfl h
  | 6, _, _, _, _, h => h
  | _ + 7, _, _, _, _, _ => trivial
theorem mk_gr1 (V : World) (n : ByteArray) (h : Bool) (c d : Int) (e : Option Addr) (k j : Nat) : (Instr.buildSlice 28 1 #[(0, .agg #[.string n, .bool h, .int .i64 c, .int .i64 d, .slice e k j])]).run Tryd.prog V = .ok (.slice (some ⟨V.heap.size, 0, none⟩) 1 1) (V.alloc (.cells #[.string n, .bool h, .int .i64 c, .int .i64 d, .slice e k j] 37)) := by kernel_rfl
set_option maxRecDepth 100000 in
theorem info_gr5 : ∃ i z, Tryd.prog.info? 37 = some i ∧ i.zero = some z ∧ i.size = 5 ∧ i.bytes = 64 ∧ z.cells.size = 5 := ⟨_, _, rfl, rfl, rfl, rfl, rfl⟩
theorem gr_one (x : Gr) : ∀ u ∈ x.vals, u.oneCell' = true := fun u hu => by
  unfold Gr.vals at hu
  simp only [List.mem_cons, List.not_mem_nil, or_false] at hu
  rcases hu with rfl | rfl | rfl | rfl | rfl <;> rfl
/-- a graph is appended to a row of the call's own -/
theorem p_app {a : Act} {o : Oper} {s x : Operand} {B q : Nat} {fv : Value} {L : List Gr} {y : Gr} {w : World} {K : Act → World → Prop} {Q : Exit → Act → World → Prop}
    (ho : o.op = .call { callee := .builtin .append, args := #[s, x], argTypes := #[28, 28] }) (hs : a.eval s = fv) (hx : a.eval x = .slice (some ⟨q, 0, none⟩) 1 1) (hown : w.ownsRow B 37 5 fv L.length (grCells L)) (hq : w.heap[q]? = some (.cells ⟨y.vals⟩ 37 (0, 0)))
    (hn : L.length ≤ 1099511627776) (hB : B ≤ w.heap.size) (h : ∀ v' w', w'.ownsRow B 37 5 v' (L.length + 1) (grCells L ++ y.vals) → w.grownBy w' fv.ownBlock → K (a.put o.dst v') w') : o.wp Tryd.prog a w K Q := by
  obtain ⟨i0, z0, hi0, hz0, hz1, hz2, hz3⟩ := info_gr5
  obtain ⟨v', w', hr, h2, h3, h4, h5⟩ := run_append_own_at (P := Tryd.prog) w B 28 o.type 37 i0 z0 5 64 Tryd.underlying28 hi0 hz0 hz1 hz2 hz3 (by decide) fv L.length (grCells L) hown ⟨q, 0, none⟩ 1 1 y.vals rfl (fun j u hu => by
    rw [Go.WideShapes.add_plain, Nat.zero_add]
    exact blk_cell hq (by simpa using hu)) (gr_one y) (by unfold maxLen; omega) (by omega) hB
  unfold Oper.wp execOp
  simp only [ho, resolve, invoke, builtin, Sem.run_bind, Sem.run_pure, Result.andThen_ok, List.map_toArray, List.map_cons, List.map_nil, hs, hx, hr]
  exact h _ _ h2 h3
end Go.Proofs.YtkmlhijnkilfpaaDoor.Fw
set_option linter.unusedVariables false
set_option linter.unusedSimpArgs false
namespace Go.Proofs.YtkmlhijnkilfpaaDoor.Fw
open Go Go.RowKit
open Go.Proofs.YtkmlhijnkilfpaaDoor.Lx Go.Proofs.YtkmlhijnkilfpaaDoor.Tr Go.Proofs.YtkmlhijnkilfpaaDoor.Cd
theorem results_two {P : Program} {fn : Func} {p s : Tmp} {ty : TypeId} (h : fn.results = #[.cell p ty, .tmp s]) (tmps : Array Value) (w : World) (g : Nat) (t : TypeId) (cs : Array Value) (fr : Nat × Nat) (d : TypeDesc) (v : Value)
    (hp : tmps.getD p undef = .pointer (some ⟨g, 0, none⟩)) (hg : w.heap[g]? = some (.cells cs t fr))
    (hu : P.underlying ty = some d) (hd : (match d with | .struct _ | .array _ _ => true | _ => false) = true) (hi : (P.info? ty).map (·.size) = some cs.size) (hs : tmps.getD s undef = v) :
    (results fn tmps).run P w = .ok (.tuple #[.agg cs, v]) w := by
  have hp' : tmps[p]?.getD undef = .pointer (some ⟨g, 0, none⟩) := by simpa using hp
  have hs' : tmps[s]?.getD undef = v := by simpa using hs
  simp [results, h, hp', hs', asAddr, run_loadVar_row w g t ty cs fr d hg hu hd hi]
theorem heap_set3 {W : World} {g : Nat} {a0 b0 c0 : Value} {T : TypeId} {fr : Nat × Nat} (h : W.heap[g]? = some (.cells #[a0, b0, c0] T fr)) (a b c : Value) :
    (((W.setCell ⟨g, 0, none⟩ a).setCell ⟨g, 1, none⟩ b).setCell ⟨g, 2, none⟩ c).heap[g]? = some (.cells #[a, b, c] T fr) := by
  have := heap_set1 (heap_set1 (heap_set1 h 0 a) 1 b) 2 c
  simpa using this
theorem grown3 (V : World) (q : Nat) (a b c : Value) : V.grownBy (((V.setCell ⟨q, 0, none⟩ a).setCell ⟨q, 1, none⟩ b).setCell ⟨q, 2, none⟩ c) (some q) :=
  (World.grownBy.trans (grown_set V q 0 a) (grown_set _ q 1 b)).trans (grown_set _ q 2 c)
theorem below3 {B q : Nat} {W V : World} (h : Below B W V) (hq : B ≤ q) (a b c : Value) : Below B W (((V.setCell ⟨q, 0, none⟩ a).setCell ⟨q, 1, none⟩ b).setCell ⟨q, 2, none⟩ c) :=
  ((h.setCell (p := ⟨q, 0, none⟩) hq _).setCell (p := ⟨q, 1, none⟩) hq _).setCell (p := ⟨q, 2, none⟩) hq _
end Go.Proofs.YtkmlhijnkilfpaaDoor.Fw
