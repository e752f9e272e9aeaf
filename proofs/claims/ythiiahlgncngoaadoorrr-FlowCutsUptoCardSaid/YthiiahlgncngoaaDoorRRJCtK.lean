/- What a statement's writing over leaves of what Of made: rows of instructions, numbers and texts change, each keeps its length. Conditions: none. -/
import Derived.Test.YthiiahlgncngoaaDoorRRJCtH
set_option maxHeartbeats 16000000
set_option maxRecDepth 100000
set_option linter.unusedVariables false
set_option linter.unusedSimpArgs false
namespace Go.Proofs.YthiiahlgncngoaaDoorRR.Fw
open Go Go.RowKit
open Go.Proofs.YthiiahlgncngoaaDoorRR.Lx Go.Proofs.YthiiahlgncngoaaDoorRR.Tr Go.Proofs.YthiiahlgncngoaaDoorRR.Cd
/-- a world in which rows of instructions, numbers and texts from a block on were written over -/
structure Chg (B : Nat) (W V : World) : Prop where
 below : Below B W V
 size : W.heap.size ≤ V.heap.size
 keep : ∀ (q : Nat) (cur : Array Value) (T : TypeId), W.heap[q]? = some (.cells cur T (0, 0)) → T ≠ 44 → T ≠ 3 → T ≠ 9 → V.heap[q]? = some (.cells cur T (0, 0))
 num : ∀ (q : Nat) (cur : Array Value) (T : TypeId), W.heap[q]? = some (.cells cur T (0, 0)) → T = 3 ∨ T = 9 → ∃ cur' : Array Value, V.heap[q]? = some (.cells cur' T (0, 0)) ∧ cur'.size = cur.size
 ins : ∀ (q : Nat) (cur : Array Value), W.heap[q]? = some (.cells cur 44 (0, 0)) → ∃ cur' : Array Value, V.heap[q]? = some (.cells cur' 44 (0, 0)) ∧ cur'.size = cur.size ∧ ∀ (j : Nat) (a : Option Addr) (n c : Nat), cur[j]? = some (.slice a n c) → cur'[j]? = some (.slice a n c) ∨ cur'[j]? = some (.slice none 0 0)
theorem Chg.refl (B : Nat) (W : World) : Chg B W W :=
 ⟨Below.refl _ _, Nat.le_refl _, fun q cur T h _ _ _ => h, fun q cur T h _ => ⟨cur, h, rfl⟩, fun q cur h => ⟨cur, h, rfl, fun j a n c hj => .inl hj⟩⟩
theorem Chg.next {B : Nat} {W V V' : World} (h : Chg B W V) (hB : B ≤ V.heap.size) (hb : Below V.heap.size V V') : Chg B W V' := by
 have hk : ∀ {q : Nat} {o : Obj}, V.heap[q]? = some o → V'.heap[q]? = some o := fun hq => (hb.block _ (Array.getElem?_eq_some_iff.1 hq).1).trans hq
 refine ⟨h.below.trans (hb.mono hB), Nat.le_trans h.size hb.size, fun q cur T hq h1 h2 h3 => hk (h.keep q cur T hq h1 h2 h3), fun q cur T hq hT => ?_, fun q cur hq => ?_⟩
 · obtain ⟨c', h1, h2⟩ := h.num q cur T hq hT
   exact ⟨c', hk h1, h2⟩
 · obtain ⟨c', h1, h2⟩ := h.ins q cur hq
   exact ⟨c', hk h1, h2⟩
theorem Xf {V : World} {q o k : Nat} {v : Value} {x : Obj} (h : V.heap[k]? = some x) (hne : k ≠ q) : (V.setCell ⟨q, o, none⟩ v).heap[k]? = some x :=
 ((Q9 V q o v).block k (Array.getElem?_eq_some_iff.1 h).1 (fun e => hne (Option.some.inj e))).trans h
theorem cells_eq {W : World} {q : Nat} {c c' : Array Value} {T T' : TypeId} (h : W.heap[q]? = some (.cells c T (0, 0))) (h' : W.heap[q]? = some (.cells c' T' (0, 0))) : c = c' ∧ T = T' := by
 rw [h] at h'
 injection h' with h'
 injection h' with h1 h2 _
 exact ⟨h1, h2⟩
/-- a number, or a text, is written over -/
theorem Chg.setNum {B q o : Nat} {W V : World} {cur : Array Value} {T : TypeId} {v : Value} (h : Chg B W V) (hq : W.heap[q]? = some (.cells cur T (0, 0))) (hT : T = 3 ∨ T = 9) (hB : B ≤ q) : Chg B W (V.setCell ⟨q, o, none⟩ v) := by
 refine ⟨h.below.setCell (p := ⟨q, o, none⟩) hB v, by have := h.size; simpa [World.setCell] using this, fun k c T' hk h1 h2 h3 => ?_, fun k c T' hk hT' => ?_, fun k c hk => ?_⟩
 · refine Xf (h.keep k c T' hk h1 h2 h3) fun e => ?_
   subst e
   obtain ⟨_, rfl⟩ := cells_eq hq hk
   rcases hT with rfl | rfl
   · exact h2 rfl
   · exact h3 rfl
 · obtain ⟨c', k1, k2⟩ := h.num k c T' hk hT'
   by_cases e : k = q
   · subst e
     exact ⟨_, Qy k1 o v, by simp [k2]⟩
   · exact ⟨c', Xf k1 e, k2⟩
 · obtain ⟨c', k1, k2⟩ := h.ins k c hk
   refine ⟨c', Xf k1 fun e => ?_, k2⟩
   subst e
   obtain ⟨_, rfl⟩ := cells_eq hq hk
   rcases hT with hT | hT <;> exact absurd hT (by decide)
/-- a part of an instruction is written over -/
theorem Chg.setIns {B q o : Nat} {W V : World} {cur : Array Value} {v : Value} (h : Chg B W V) (hq : W.heap[q]? = some (.cells cur 44 (0, 0))) (hB : B ≤ q) (hv : v = .slice none 0 0 ∨ ∀ (a : Option Addr) (n c : Nat), cur[o]? ≠ some (.slice a n c)) : Chg B W (V.setCell ⟨q, o, none⟩ v) := by
 refine ⟨h.below.setCell (p := ⟨q, o, none⟩) hB v, by have := h.size; simpa [World.setCell] using this, fun k c T' hk h1 h2 h3 => ?_, fun k c T' hk hT' => ?_, fun k c hk => ?_⟩
 · refine Xf (h.keep k c T' hk h1 h2 h3) fun e => ?_
   subst e
   obtain ⟨_, rfl⟩ := cells_eq hq hk
   exact h1 rfl
 · obtain ⟨c', k1, k2⟩ := h.num k c T' hk hT'
   refine ⟨c', Xf k1 fun e => ?_, k2⟩
   subst e
   obtain ⟨_, rfl⟩ := cells_eq hq hk
   rcases hT' with hT | hT <;> exact absurd hT (by decide)
 · obtain ⟨c', k1, k2, k3⟩ := h.ins k c hk
   by_cases e : k = q
   · subst e
     obtain ⟨rfl, _⟩ := cells_eq hq hk
     refine ⟨_, Qy k1 o v, by simp [k2], fun j a n c hj => ?_⟩
     by_cases ej : o = j
     · subst ej
       rcases hv with rfl | hv
       · right
         have hjl : o < c'.size := by rw [k2]; exact (Array.getElem?_eq_some_iff.1 hj).1
         simp [hjl]
       · exact absurd hj (hv a n c)
     · rw [Array.getElem?_setIfInBounds_ne ej]
       exact k3 j a n c hj
   · exact ⟨c', Xf k1 e, k2, k3⟩
theorem Chg.cell {B q o : Nat} {W V : World} {cur : Array Value} {T : TypeId} (h : Chg B W V) (hq : W.heap[q]? = some (.cells cur T (0, 0))) (ho : o < cur.size) : (∃ u, V.cell? ⟨q, o, none⟩ = some u) ∧ V.frozen? ⟨q, o, none⟩ = false ∧ q < V.heap.size := by
 have key : ∃ c' : Array Value, V.heap[q]? = some (.cells c' T (0, 0)) ∧ c'.size = cur.size := by
  by_cases h1 : T = 44
  · subst h1
    obtain ⟨c', k1, k2, _⟩ := h.ins q cur hq
    exact ⟨c', k1, k2⟩
  · by_cases h2 : T = 3 ∨ T = 9
    · exact h.num q cur T hq h2
    · exact ⟨cur, h.keep q cur T hq h1 (fun e => h2 (.inl e)) (fun e => h2 (.inr e)), rfl⟩
 obtain ⟨c', k1, k2⟩ := key
 exact ⟨⟨c'[o]'(by omega), Qk k1 (by simp [show o < c'.size by omega])⟩, Qd k1 o, (Array.getElem?_eq_some_iff.1 k1).1⟩
/-- an instruction's Args are what they were, or none -/
theorem Chg.args {B q o n c : Nat} {a : Option Addr} {W V : World} {cur : Array Value} (h : Chg B W V) (hq : W.heap[q]? = some (.cells cur 44 (0, 0))) (ho : cur[o]? = some (.slice a n c)) : V.cell? ⟨q, o, none⟩ = some (.slice a n c) ∨ V.cell? ⟨q, o, none⟩ = some (.slice none 0 0) := by
 obtain ⟨c', k1, _, k3⟩ := h.ins q cur hq
 exact (k3 o a n c ho).imp (fun hj => Qk k1 hj) (fun hj => Qk k1 hj)
/-- a row of numbers of one's own, in its block -/
theorem row_blk {W : World} {B : Nat} {e : TypeId} {n c : Nat} {a : Option Addr} {xs : List Value} (h : W.ownsRow B e 1 (.slice a n c) n xs) {k : Nat} (hk : k < n) : ∃ q cur, a = some ⟨q, 0, none⟩ ∧ B ≤ q ∧ W.heap[q]? = some (.cells cur e (0, 0)) ∧ k < cur.size := by
 rcases h.2 with ⟨_, hv⟩ | ⟨g, cap, cur, hv, hB, hg, h1, h2, h3⟩
 · omega
 · cases hv
   exact ⟨g, cur, rfl, hB, hg, by have := h3.1; omega⟩
/-- a block whose instructions, Args and To lie in rows from a block on -/
structure WrB (B : Nat) (x : Bk) (W : World) : Prop where
 code : ∀ (k : Nat) (y : Ins), x.code[k]? = some y → ∃ q off cur, x.ca = some ⟨q, off, none⟩ ∧ B ≤ q ∧ W.heap[q]? = some (.cells cur 44 (0, 0)) ∧ (∀ (j : Nat) (u : Value), y.vals[j]? = some u → cur[off + k * 6 + j]? = some u) ∧ W.ownsRow B 3 1 (.slice y.aa y.args.length y.acap) y.args.length (Qc y.args)
 to : W.ownsRow B 3 1 (toV x) x.tt.length (Qc x.tt)
theorem ins_at {m : List Ins} {k j : Nat} {y : Ins} {u : Value} (hy : m[k]? = some y) (hu : y.vals[j]? = some u) : (Q8 m)[k * 6 + j]? = some u := by
 induction m generalizing k with
 | nil => simp at hy
 | cons a m ih =>
   have e : Q8 (a :: m) = a.vals ++ Q8 m := rfl
   have hl : a.vals.length = 6 := rfl
   rw [e]
   cases k with
   | zero =>
     cases hy
     have hj : j < 6 := by have := (List.getElem?_eq_some_iff.1 hu).1; rw [hl] at this; exact this
     rw [Nat.zero_mul, Nat.zero_add, List.getElem?_append_left (by omega)]
     exact hu
   | succ k =>
     rw [List.getElem?_append_right (by omega), hl, show (k + 1) * 6 + j - 6 = k * 6 + j by omega]
     exact ih hy
theorem GrQ.wr {B : Nat} {l : List Ins} {ba : Option Addr} {bcap : Nat} {L : List Bk} {W : World} (h : GrQ B l ba bcap L W) (h0 : 0 < l.length) : ∀ x ∈ L, WrB B x W := by
 obtain ⟨g, g2, bs, m, a7, c7, fa, fc, k1, k2, k3, k4, k5, k6, k7, k8⟩ := h
 intro x hx
 obtain ⟨i, hi⟩ := List.mem_iff_getElem?.1 hx
 rw [k7] at hi
 have hil : i < (stay bs).length := by have := (List.getElem?_eq_some_iff.1 hi).1; rw [Xi] at this; exact this
 obtain ⟨z, hz⟩ : ∃ z, (stay bs)[i]? = some z := ⟨_, List.getElem?_eq_getElem hil⟩
 rw [X9 hz, if_pos hil] at hi
 cases hi
 have htr := k3.rows i z hz
 rw [old_at hz] at htr
 obtain ⟨b, y, h1, h2, h3, h4, rfl⟩ := stay_of hz
 obtain ⟨c1, c2, c3, _⟩ := k1.row b y h2
 refine ⟨fun k u hu => ?_, Xc htr ?_⟩
 · have hu' : y.code[k]? = some u := hu
   rw [c1] at hu'
   obtain ⟨s1, s2⟩ := seg_get hu'
   obtain ⟨a1, a2, _⟩ := k2.args _ u s1
   have hml := (List.getElem?_eq_some_iff.1 s1).1
   rcases k2.row.2 with ⟨_, e⟩ | ⟨q, cap, cur, hv, hB, hg, e1, e2, e3, e4⟩
   · omega
   · cases hv
     refine ⟨q, stN l b * 6, cur, ?_, hB, hg, fun j v hj => ?_, a2⟩
     · show y.ca = _
       rw [c2, if_neg (by omega)]
       show some ((⟨q, 0, none⟩ : Addr).add (stN l b * 6)) = _
       rw [Go.WideShapes.add_plain, Nat.zero_add]
     · have h5 := ins_at s1 hj
       have hj6 : j < 6 := (List.getElem?_eq_some_iff.1 hj).1
       rw [← e4, List.getElem?_take, if_pos (by omega)] at h5
       rw [show stN l b * 6 + k * 6 + j = (stN l b + k) * 6 + j by omega]
       simpa using h5
 · have := k2.le (by rw [k1.mlen]; exact h0)
   omega
theorem eqL_trans {α : Type} {f : α → α → Bool} (hf : ∀ x y z, f x y = true → f y z = true → f x z = true) : ∀ {l m n : List α}, eqL f l m = true → eqL f m n = true → eqL f l n = true
 | [], [], [], _, _ => rfl
 | [], [], _ :: _, _, h => by cases h
 | [], _ :: _, _, h, _ => by cases h
 | _ :: _, [], _, h, _ => by cases h
 | _ :: _, _ :: _, [], _, h => by cases h
 | x :: l, y :: m, z :: n, h1, h2 => by
   simp only [eqL, Bool.and_eq_true] at h1 h2 ⊢
   exact ⟨hf x y z h1.1 h2.1, eqL_trans hf h1.2 h2.2⟩
theorem sameI_trans (a b c : Ins) (h1 : Zi a b = true) (h2 : Zi b c = true) : Zi a c = true := by
 simp only [Zi, Bool.and_eq_true, decide_eq_true_eq] at h1 h2 ⊢
 simp_all
theorem sameH_trans (a b c : Ph) (h1 : sameH a b = true) (h2 : sameH b c = true) : sameH a c = true := by
 simp only [sameH, Bool.and_eq_true, decide_eq_true_eq] at h1 h2 ⊢
 simp_all
theorem sameB_trans (a b c : Bk) (h1 : Zz a b = true) (h2 : Zz b c = true) : Zz a c = true := by
 obtain ⟨a1, a2, a3, a4⟩ := X7 h1
 obtain ⟨b1, b2, b3, b4⟩ := X7 h2
 exact sameB_mk (eqL_trans sameH_trans a1 b1) (eqL_trans sameI_trans a2 b2) (a3.trans b3) (a4.trans b4)
/-- what both make of a Fun is the same -/
theorem gr_same {B : Nat} {f : Cd.Fn} {x y : Gr} {W V : World} (h : GrO B f x W) (h' : GdO f y V) : Xp x y = true := by
 have hb : eqL Zz x.blocks y.blocks = true := eqL_trans sameB_trans h.q.same (by rw [eqL_symm sameB_symm]; exact h'.q.same)
 simp [Xp, h.name, h'.name, h.thread, h'.thread, h.params, h'.params, h.regs, h'.regs, hb]
/-- what both make of a program is the same -/
theorem of_same {B B' : Nat} {p : Pg} {x y : Fm} {W V : World} (h : FmO B p x W) (h' : FdO B' p y V) : sameFm x y = true := by
 have h1 : eqL sameM x.mems y.mems = true := by rw [h.mems, h'.mems.1]; exact eqL_refl (fun i _ => sameM_refl i)
 have h2 : eqL (fun x y : ByteArray => decide (x = y)) x.locks y.locks = true := by rw [h.locks, h'.locks.1]; exact eqL_refl (fun i _ => by simp)
 have h3 : eqL Xp x.funs y.funs = true := eqL_of (by rw [h.len, h'.len]) fun i a b ha hb => by
  have hi : i < p.funs.length := by rw [← h.len]; exact (List.getElem?_eq_some_iff.1 ha).1
  exact gr_same (h.grs i _ a (List.getElem?_eq_getElem hi) ha) (h'.grs i _ b (List.getElem?_eq_getElem hi) hb)
 simp [sameFm, h1, h2, h3]
/-- what Of made lies in memory -/
theorem FmO.in {B : Nat} {p : Pg} {x : Fm} {W w : World} (h : FmO B p x W) (hp : Pg.In w Tt p) (hm : mayP p = true) : Fm.In W x := by
 refine ⟨Z1 h.mrow, by rw [h.mems]; exact hp.mems, Z1 h.srow, by rw [h.locks]; exact hp.locks, Z1 h.frow, fun g hg => ?_⟩
 obtain ⟨i, hi⟩ := List.mem_iff_getElem?.1 hg
 have hl : i < p.funs.length := by rw [← h.len]; exact (List.getElem?_eq_some_iff.1 hi).1
 have hf : p.funs[i]? = some p.funs[i] := List.getElem?_eq_getElem hl
 have hfm := List.mem_of_getElem? hf
 obtain ⟨k1, k2, k3, k4, k5⟩ := fun_ok hm hfm
 have hgr := h.grs i _ g hf hi
 have hfi := hp.funs _ hfm
 obtain ⟨m1, m2, _⟩ := hgr.q.mem k1 k2 k5
 exact ⟨by rw [hgr.name]; exact hfi.name, by rw [hgr.params]; exact hfi.params, by rw [hgr.regs]; exact hfi.regs, m1, m2⟩
/-- what the document's Of made lies in memory -/
theorem FdO.in {B : Nat} {p : Pg} {x : Fm} {W : World} (h : FdO B p x W) (hp : Pg.In W Tt p) (hm : mayP p = true) : Fm.In W x := by
 obtain ⟨e1, e2, e3⟩ := h.mems
 obtain ⟨e4, e5, e6⟩ := h.locks
 refine ⟨by rw [e1, e2, e3]; exact hp.mrow, by rw [e1]; exact hp.mems, by rw [e4, e5, e6]; exact hp.lrow, by rw [e4]; exact hp.locks, Z1 h.frow, fun g hg => ?_⟩
 obtain ⟨i, hi⟩ := List.mem_iff_getElem?.1 hg
 have hl : i < p.funs.length := by rw [← h.len]; exact (List.getElem?_eq_some_iff.1 hi).1
 have hf : p.funs[i]? = some p.funs[i] := List.getElem?_eq_getElem hl
 have hfm := List.mem_of_getElem? hf
 obtain ⟨k1, k2, k3, k4, k5⟩ := fun_ok hm hfm
 have hgr := h.grs i _ g hf hi
 have hfi := hp.funs _ hfm
 obtain ⟨m1, m2⟩ := hgr.q.in k5 (hfi.code)
 exact ⟨by rw [hgr.name]; exact hfi.name, by rw [hgr.params]; exact hfi.params, by rw [hgr.regs]; exact hfi.regs, m1, m2⟩
/-- each block that Of made may be written over -/
theorem FmO.wr {B : Nat} {p : Pg} {x : Fm} {W : World} (h : FmO B p x W) (hm : mayP p = true) : ∀ g ∈ x.funs, ∀ b ∈ g.blocks, WrB B b W := fun g hg => by
 obtain ⟨i, hi⟩ := List.mem_iff_getElem?.1 hg
 have hl : i < p.funs.length := by rw [← h.len]; exact (List.getElem?_eq_some_iff.1 hi).1
 have hf : p.funs[i]? = some p.funs[i] := List.getElem?_eq_getElem hl
 exact (h.grs i _ g hf hi).q.wr (fun_ok hm (List.mem_of_getElem? hf)).1
end Go.Proofs.YthiiahlgncngoaaDoorRR.Fw
