/- Three rows in a block of fields, each of which gets one element more, in whatever order. Conditions: none. -/
import Derived.Test.YtiaecobjbckhoaaDbD
import Derived.Test.YtiaecobjbckhoaaDbE
set_option linter.unusedVariables false
set_option linter.unusedSimpArgs false
namespace Go.Proofs.Ytiaecobjbckhoaa.Db
open Go Go.RowKit
open Go.WideShapes Go.MapKept
open Go.Proofs.Ytiaecobjbckhoaa.Qr Go.Proofs.Ytiaecobjbckhoaa.Vq Go.Proofs.Ytiaecobjbckhoaa.QrS

def Apt (u v : Value) : Prop := ∀ q, u.ownBlock = some q → v.ownBlock ≠ some q
theorem Apt.symm {u v : Value} (h : Apt u v) : Apt v u := fun q hq he => h q he hq
def Nw (B : Nat) (s : Value) (x : Int) (w : World) : Prop := ∃ g, s = .slice (some ⟨g, 0, none⟩) 1 1 ∧ w.heap[g]? = some (.cells #[.int .i64 x] 3 (0, 0)) ∧ B ≤ g
theorem Nw.keep {B : Nat} {s : Value} {x : Int} {w w' : World} (h : Nw B s x w) (hb : Below w.heap.size w w') : Nw B s x w' := by
  obtain ⟨g, h1, h2, h3⟩ := h
  exact ⟨g, h1, (hb.block g (Array.getElem?_eq_some_iff.1 h2).1).trans h2, h3⟩
theorem Nw.grown {B : Nat} {s : Value} {x : Int} {w w' : World} {v : Value} (h : Nw B s x w) (hg : w.grownBy w' v.ownBlock) (hv : ∀ q, v.ownBlock = some q → q < B) : Nw B s x w' := by
  obtain ⟨g, h1, h2, h3⟩ := h
  exact ⟨g, h1, (hg.block g (Array.getElem?_eq_some_iff.1 h2).1 (fun e => by have := hv g e.symm; omega)).trans h2, h3⟩
theorem own_gr {W W' : World} {B : Nat} {u : Value} {e : TypeId} {c : Nat} {v : Value} {n : Nat} {xs : List Value} (h : W.ownsRow B e c v n xs) (hg : W.grownBy W' u.ownBlock) (ha : Apt u v) : W'.ownsRow B e c v n xs :=
  World.ownsRow.kept h hg (by
    by_cases hn : v.ownBlock = none
    · exact .inl hn
    · refine .inr fun he => ?_
      cases hq : v.ownBlock with
      | none => exact hn hq
      | some q => rw [hq] at he; exact ha q he.symm hq)
theorem fr_grown {S : Nat → Prop} {W0 W W' : World} {v : Value} (h : Fr S W0 W) (hg : W.grownBy W' v.ownBlock) (hv : ∀ q, v.ownBlock = some q → S q) : Fr S W0 W' :=
  h.trans ⟨hg.os, hg.tape, hg.output, hg.size, fun i hi hn => hg.block i hi (fun e => hn (hv i e.symm))⟩
theorem apt_new {W : World} {B : Nat} {u v v' : Value} {e : TypeId} {c n : Nat} {xs : List Value} (ha : Apt u v) (ho : W.ownsRow B e c v n xs) (hl : v'.ownBlock = u.ownBlock ∨ v'.ownBlock = some W.heap.size) : Apt v' v := by
  intro q hq he
  rcases hl with h | h
  · exact ha q (by rw [← h]; exact hq) he
  · rw [h] at hq
    cases hq
    have := (ho.lt _ he).2
    omega
structure CC (B wb : Nat) (W0 : World) (vm vo vl : Value) (lm lo ll : List Int) (x1 x2 x3 : Int) (n1 : Bool) (s1 : Value) (a1 : Bool) (v1 : Value) (t1 : Bool) (n2 : Bool) (s2 : Value) (a2 : Bool) (v2 : Value) (t2 : Bool) (n3 : Bool) (s3 : Value) (a3 : Bool) (v3 : Value) (t3 : Bool) (w : World) : Prop where
  fr : Fr (fun i => B ≤ i ∨ i = wb) W0 w
  wbc : w.heap[wb]? = some (.cells #[cond t1 v1 vm, cond t2 v2 vo, cond t3 v3 vl, .slice none 0 0] 58 (0, 0))
  r1 : w.ownsRow B 3 1 (cond a1 v1 vm) (cond a1 (lm.length + 1) lm.length) (cond a1 (numCells lm ++ [.int .i64 x1]) (numCells lm))
  r2 : w.ownsRow B 3 1 (cond a2 v2 vo) (cond a2 (lo.length + 1) lo.length) (cond a2 (numCells lo ++ [.int .i64 x2]) (numCells lo))
  r3 : w.ownsRow B 3 1 (cond a3 v3 vl) (cond a3 (ll.length + 1) ll.length) (cond a3 (numCells ll ++ [.int .i64 x3]) (numCells ll))
  p12 : Apt (cond a1 v1 vm) (cond a2 v2 vo)
  p13 : Apt (cond a1 v1 vm) (cond a3 v3 vl)
  p23 : Apt (cond a2 v2 vo) (cond a3 v3 vl)
  w1 : n1 = true → a1 = false → Nw W0.heap.size s1 x1 w
  w2 : n2 = true → a2 = false → Nw W0.heap.size s2 x2 w
  w3 : n3 = true → a3 = false → Nw W0.heap.size s3 x3 w
  lt : wb < B ∧ B ≤ W0.heap.size
  b1 : ∀ q, vm.ownBlock = some q → q < W0.heap.size
  b2 : ∀ q, vo.ownBlock = some q → q < W0.heap.size
  b3 : ∀ q, vl.ownBlock = some q → q < W0.heap.size
theorem CC.al1 {B wb : Nat} {W0 : World} {vm vo vl : Value} {lm lo ll : List Int} {x1 x2 x3 : Int} {n1 : Bool} {s1 : Value} {a1 : Bool} {v1 : Value} {t1 : Bool} {n2 : Bool} {s2 : Value} {a2 : Bool} {v2 : Value} {t2 : Bool} {n3 : Bool} {s3 : Value} {a3 : Bool} {v3 : Value} {t3 : Bool} {w : World} (h : CC B wb W0 vm vo vl lm lo ll x1 x2 x3 n1 s1 a1 v1 t1 n2 s2 a2 v2 t2 n3 s3 a3 v3 t3 w) : CC B wb W0 vm vo vl lm lo ll x1 x2 x3 true (.slice (some ⟨w.heap.size, 0, none⟩) 1 1) a1 v1 t1 n2 s2 a2 v2 t2 n3 s3 a3 v3 t3 (w.alloc (.cells #[.int .i64 x1] 3)) := by
  have hb := b_alloc w (.cells #[.int .i64 x1] 3)
  have hz := h.fr.size
  have hl := h.lt
  refine ⟨h.fr.trans (Fr.of_below hb), (hb.block wb (by omega)).trans h.wbc, own_below h.r1 hb, own_below h.r2 hb, own_below h.r3 hb, h.p12, h.p13, h.p23, ?_, fun e1 e2 => (h.w2 e1 e2).keep hb, fun e1 e2 => (h.w3 e1 e2).keep hb, h.lt, h.b1, h.b2, h.b3⟩
  exact fun _ _ => ⟨w.heap.size, rfl, blk_new w _ rfl, hz⟩
theorem CC.ap1 {B wb : Nat} {W0 : World} {vm vo vl : Value} {lm lo ll : List Int} {x1 x2 x3 : Int} {n1 : Bool} {s1 : Value} {v1 : Value} {n2 : Bool} {s2 : Value} {a2 : Bool} {v2 : Value} {t2 : Bool} {n3 : Bool} {s3 : Value} {a3 : Bool} {v3 : Value} {t3 : Bool} {w w' : World} {v' : Value} (h : CC B wb W0 vm vo vl lm lo ll x1 x2 x3 n1 s1 false v1 false n2 s2 a2 v2 t2 n3 s3 a3 v3 t3 w) (ho : w'.ownsRow B 3 1 v' (lm.length + 1) (numCells lm ++ [.int .i64 x1])) (hg : w.grownBy w' vm.ownBlock) (hv : v'.ownBlock = vm.ownBlock ∨ v'.ownBlock = some w.heap.size) :
    CC B wb W0 vm vo vl lm lo ll x1 x2 x3 n1 s1 true v' false n2 s2 a2 v2 t2 n3 s3 a3 v3 t3 w' := by
  have hz := h.fr.size
  have hl := h.lt
  have hB : ∀ q, vm.ownBlock = some q → B ≤ q := fun q e => (h.r1.lt q e).1
  exact ⟨fr_grown h.fr hg (fun q e => .inl (hB q e)), (hg.block wb (by omega) (fun e => by have := hB wb e.symm; omega)).trans h.wbc, ho, own_gr h.r2 hg h.p12, own_gr h.r3 hg h.p13, apt_new h.p12 h.r2 hv, apt_new h.p13 h.r3 hv, h.p23, (fun _ e => (by cases e)), fun e1 e2 => (h.w2 e1 e2).grown hg h.b1, fun e1 e2 => (h.w3 e1 e2).grown hg h.b1, h.lt, h.b1, h.b2, h.b3⟩
theorem CC.pt1 {B wb : Nat} {W0 : World} {vm vo vl : Value} {lm lo ll : List Int} {x1 x2 x3 : Int} {n1 : Bool} {s1 : Value} {v1 : Value} {n2 : Bool} {s2 : Value} {a2 : Bool} {v2 : Value} {t2 : Bool} {n3 : Bool} {s3 : Value} {a3 : Bool} {v3 : Value} {t3 : Bool} {w : World} (h : CC B wb W0 vm vo vl lm lo ll x1 x2 x3 n1 s1 true v1 false n2 s2 a2 v2 t2 n3 s3 a3 v3 t3 w) : CC B wb W0 vm vo vl lm lo ll x1 x2 x3 n1 s1 true v1 true n2 s2 a2 v2 t2 n3 s3 a3 v3 t3 (w.setCell ⟨wb, 0, none⟩ v1) := by
  have hl := h.lt
  have hf : Fr (fun i => i = wb) w (w.setCell ⟨wb, 0, none⟩ v1) := Fr.set w _ rfl
  exact ⟨h.fr.trans (hf.mono fun i _ e => .inr e), by rw [heap_set1 h.wbc]; rfl, ownsRow_setCell_other h.r1 (a := ⟨wb, 0, none⟩) (fun e => by have := (h.r1.lt _ e).1; simp at this; omega) _, ownsRow_setCell_other h.r2 (a := ⟨wb, 0, none⟩) (fun e => by have := (h.r2.lt _ e).1; simp at this; omega) _, ownsRow_setCell_other h.r3 (a := ⟨wb, 0, none⟩) (fun e => by have := (h.r3.lt _ e).1; simp at this; omega) _, h.p12, h.p13, h.p23, (fun _ e => (by cases e)), fun e1 e2 => (by obtain ⟨g, g1, g2, g3⟩ := h.w2 e1 e2; exact ⟨g, g1, (hf.block g (Array.getElem?_eq_some_iff.1 g2).1 (by omega)).trans g2, g3⟩), fun e1 e2 => (by obtain ⟨g, g1, g2, g3⟩ := h.w3 e1 e2; exact ⟨g, g1, (hf.block g (Array.getElem?_eq_some_iff.1 g2).1 (by omega)).trans g2, g3⟩), h.lt, h.b1, h.b2, h.b3⟩
theorem CC.al2 {B wb : Nat} {W0 : World} {vm vo vl : Value} {lm lo ll : List Int} {x1 x2 x3 : Int} {n1 : Bool} {s1 : Value} {a1 : Bool} {v1 : Value} {t1 : Bool} {n2 : Bool} {s2 : Value} {a2 : Bool} {v2 : Value} {t2 : Bool} {n3 : Bool} {s3 : Value} {a3 : Bool} {v3 : Value} {t3 : Bool} {w : World} (h : CC B wb W0 vm vo vl lm lo ll x1 x2 x3 n1 s1 a1 v1 t1 n2 s2 a2 v2 t2 n3 s3 a3 v3 t3 w) : CC B wb W0 vm vo vl lm lo ll x1 x2 x3 n1 s1 a1 v1 t1 true (.slice (some ⟨w.heap.size, 0, none⟩) 1 1) a2 v2 t2 n3 s3 a3 v3 t3 (w.alloc (.cells #[.int .i64 x2] 3)) := by
  have hb := b_alloc w (.cells #[.int .i64 x2] 3)
  have hz := h.fr.size
  have hl := h.lt
  refine ⟨h.fr.trans (Fr.of_below hb), (hb.block wb (by omega)).trans h.wbc, own_below h.r1 hb, own_below h.r2 hb, own_below h.r3 hb, h.p12, h.p13, h.p23, fun e1 e2 => (h.w1 e1 e2).keep hb, ?_, fun e1 e2 => (h.w3 e1 e2).keep hb, h.lt, h.b1, h.b2, h.b3⟩
  exact fun _ _ => ⟨w.heap.size, rfl, blk_new w _ rfl, hz⟩
theorem CC.ap2 {B wb : Nat} {W0 : World} {vm vo vl : Value} {lm lo ll : List Int} {x1 x2 x3 : Int} {n1 : Bool} {s1 : Value} {a1 : Bool} {v1 : Value} {t1 : Bool} {n2 : Bool} {s2 : Value} {v2 : Value} {n3 : Bool} {s3 : Value} {a3 : Bool} {v3 : Value} {t3 : Bool} {w w' : World} {v' : Value} (h : CC B wb W0 vm vo vl lm lo ll x1 x2 x3 n1 s1 a1 v1 t1 n2 s2 false v2 false n3 s3 a3 v3 t3 w) (ho : w'.ownsRow B 3 1 v' (lo.length + 1) (numCells lo ++ [.int .i64 x2])) (hg : w.grownBy w' vo.ownBlock) (hv : v'.ownBlock = vo.ownBlock ∨ v'.ownBlock = some w.heap.size) :
    CC B wb W0 vm vo vl lm lo ll x1 x2 x3 n1 s1 a1 v1 t1 n2 s2 true v' false n3 s3 a3 v3 t3 w' := by
  have hz := h.fr.size
  have hl := h.lt
  have hB : ∀ q, vo.ownBlock = some q → B ≤ q := fun q e => (h.r2.lt q e).1
  exact ⟨fr_grown h.fr hg (fun q e => .inl (hB q e)), (hg.block wb (by omega) (fun e => by have := hB wb e.symm; omega)).trans h.wbc, own_gr h.r1 hg h.p12.symm, ho, own_gr h.r3 hg h.p23, (apt_new h.p12.symm h.r1 hv).symm, h.p13, apt_new h.p23 h.r3 hv, fun e1 e2 => (h.w1 e1 e2).grown hg h.b2, (fun _ e => (by cases e)), fun e1 e2 => (h.w3 e1 e2).grown hg h.b2, h.lt, h.b1, h.b2, h.b3⟩
theorem CC.pt2 {B wb : Nat} {W0 : World} {vm vo vl : Value} {lm lo ll : List Int} {x1 x2 x3 : Int} {n1 : Bool} {s1 : Value} {a1 : Bool} {v1 : Value} {t1 : Bool} {n2 : Bool} {s2 : Value} {v2 : Value} {n3 : Bool} {s3 : Value} {a3 : Bool} {v3 : Value} {t3 : Bool} {w : World} (h : CC B wb W0 vm vo vl lm lo ll x1 x2 x3 n1 s1 a1 v1 t1 n2 s2 true v2 false n3 s3 a3 v3 t3 w) : CC B wb W0 vm vo vl lm lo ll x1 x2 x3 n1 s1 a1 v1 t1 n2 s2 true v2 true n3 s3 a3 v3 t3 (w.setCell ⟨wb, 1, none⟩ v2) := by
  have hl := h.lt
  have hf : Fr (fun i => i = wb) w (w.setCell ⟨wb, 1, none⟩ v2) := Fr.set w _ rfl
  exact ⟨h.fr.trans (hf.mono fun i _ e => .inr e), by rw [heap_set1 h.wbc]; rfl, ownsRow_setCell_other h.r1 (a := ⟨wb, 1, none⟩) (fun e => by have := (h.r1.lt _ e).1; simp at this; omega) _, ownsRow_setCell_other h.r2 (a := ⟨wb, 1, none⟩) (fun e => by have := (h.r2.lt _ e).1; simp at this; omega) _, ownsRow_setCell_other h.r3 (a := ⟨wb, 1, none⟩) (fun e => by have := (h.r3.lt _ e).1; simp at this; omega) _, h.p12, h.p13, h.p23, fun e1 e2 => (by obtain ⟨g, g1, g2, g3⟩ := h.w1 e1 e2; exact ⟨g, g1, (hf.block g (Array.getElem?_eq_some_iff.1 g2).1 (by omega)).trans g2, g3⟩), (fun _ e => (by cases e)), fun e1 e2 => (by obtain ⟨g, g1, g2, g3⟩ := h.w3 e1 e2; exact ⟨g, g1, (hf.block g (Array.getElem?_eq_some_iff.1 g2).1 (by omega)).trans g2, g3⟩), h.lt, h.b1, h.b2, h.b3⟩
theorem CC.al3 {B wb : Nat} {W0 : World} {vm vo vl : Value} {lm lo ll : List Int} {x1 x2 x3 : Int} {n1 : Bool} {s1 : Value} {a1 : Bool} {v1 : Value} {t1 : Bool} {n2 : Bool} {s2 : Value} {a2 : Bool} {v2 : Value} {t2 : Bool} {n3 : Bool} {s3 : Value} {a3 : Bool} {v3 : Value} {t3 : Bool} {w : World} (h : CC B wb W0 vm vo vl lm lo ll x1 x2 x3 n1 s1 a1 v1 t1 n2 s2 a2 v2 t2 n3 s3 a3 v3 t3 w) : CC B wb W0 vm vo vl lm lo ll x1 x2 x3 n1 s1 a1 v1 t1 n2 s2 a2 v2 t2 true (.slice (some ⟨w.heap.size, 0, none⟩) 1 1) a3 v3 t3 (w.alloc (.cells #[.int .i64 x3] 3)) := by
  have hb := b_alloc w (.cells #[.int .i64 x3] 3)
  have hz := h.fr.size
  have hl := h.lt
  refine ⟨h.fr.trans (Fr.of_below hb), (hb.block wb (by omega)).trans h.wbc, own_below h.r1 hb, own_below h.r2 hb, own_below h.r3 hb, h.p12, h.p13, h.p23, fun e1 e2 => (h.w1 e1 e2).keep hb, fun e1 e2 => (h.w2 e1 e2).keep hb, ?_, h.lt, h.b1, h.b2, h.b3⟩
  exact fun _ _ => ⟨w.heap.size, rfl, blk_new w _ rfl, hz⟩
theorem CC.ap3 {B wb : Nat} {W0 : World} {vm vo vl : Value} {lm lo ll : List Int} {x1 x2 x3 : Int} {n1 : Bool} {s1 : Value} {a1 : Bool} {v1 : Value} {t1 : Bool} {n2 : Bool} {s2 : Value} {a2 : Bool} {v2 : Value} {t2 : Bool} {n3 : Bool} {s3 : Value} {v3 : Value} {w w' : World} {v' : Value} (h : CC B wb W0 vm vo vl lm lo ll x1 x2 x3 n1 s1 a1 v1 t1 n2 s2 a2 v2 t2 n3 s3 false v3 false w) (ho : w'.ownsRow B 3 1 v' (ll.length + 1) (numCells ll ++ [.int .i64 x3])) (hg : w.grownBy w' vl.ownBlock) (hv : v'.ownBlock = vl.ownBlock ∨ v'.ownBlock = some w.heap.size) :
    CC B wb W0 vm vo vl lm lo ll x1 x2 x3 n1 s1 a1 v1 t1 n2 s2 a2 v2 t2 n3 s3 true v' false w' := by
  have hz := h.fr.size
  have hl := h.lt
  have hB : ∀ q, vl.ownBlock = some q → B ≤ q := fun q e => (h.r3.lt q e).1
  exact ⟨fr_grown h.fr hg (fun q e => .inl (hB q e)), (hg.block wb (by omega) (fun e => by have := hB wb e.symm; omega)).trans h.wbc, own_gr h.r1 hg h.p13.symm, own_gr h.r2 hg h.p23.symm, ho, h.p12, (apt_new h.p13.symm h.r1 hv).symm, (apt_new h.p23.symm h.r2 hv).symm, fun e1 e2 => (h.w1 e1 e2).grown hg h.b3, fun e1 e2 => (h.w2 e1 e2).grown hg h.b3, (fun _ e => (by cases e)), h.lt, h.b1, h.b2, h.b3⟩
theorem CC.pt3 {B wb : Nat} {W0 : World} {vm vo vl : Value} {lm lo ll : List Int} {x1 x2 x3 : Int} {n1 : Bool} {s1 : Value} {a1 : Bool} {v1 : Value} {t1 : Bool} {n2 : Bool} {s2 : Value} {a2 : Bool} {v2 : Value} {t2 : Bool} {n3 : Bool} {s3 : Value} {v3 : Value} {w : World} (h : CC B wb W0 vm vo vl lm lo ll x1 x2 x3 n1 s1 a1 v1 t1 n2 s2 a2 v2 t2 n3 s3 true v3 false w) : CC B wb W0 vm vo vl lm lo ll x1 x2 x3 n1 s1 a1 v1 t1 n2 s2 a2 v2 t2 n3 s3 true v3 true (w.setCell ⟨wb, 2, none⟩ v3) := by
  have hl := h.lt
  have hf : Fr (fun i => i = wb) w (w.setCell ⟨wb, 2, none⟩ v3) := Fr.set w _ rfl
  exact ⟨h.fr.trans (hf.mono fun i _ e => .inr e), by rw [heap_set1 h.wbc]; rfl, ownsRow_setCell_other h.r1 (a := ⟨wb, 2, none⟩) (fun e => by have := (h.r1.lt _ e).1; simp at this; omega) _, ownsRow_setCell_other h.r2 (a := ⟨wb, 2, none⟩) (fun e => by have := (h.r2.lt _ e).1; simp at this; omega) _, ownsRow_setCell_other h.r3 (a := ⟨wb, 2, none⟩) (fun e => by have := (h.r3.lt _ e).1; simp at this; omega) _, h.p12, h.p13, h.p23, fun e1 e2 => (by obtain ⟨g, g1, g2, g3⟩ := h.w1 e1 e2; exact ⟨g, g1, (hf.block g (Array.getElem?_eq_some_iff.1 g2).1 (by omega)).trans g2, g3⟩), fun e1 e2 => (by obtain ⟨g, g1, g2, g3⟩ := h.w2 e1 e2; exact ⟨g, g1, (hf.block g (Array.getElem?_eq_some_iff.1 g2).1 (by omega)).trans g2, g3⟩), (fun _ e => (by cases e)), h.lt, h.b1, h.b2, h.b3⟩
/-- one element is appended to a row of the call's own -/
theorem p_app1 {a : Act} {o : Oper} {s x : Operand} {B q n size bytes : Nat} {t e : TypeId} {i0 : TypeInfo} {z0 fv : Value} {xs news : List Value} {w : World} {K : Act → World → Prop} {Q : Exit → Act → World → Prop}
    (ho : o.op = .call { callee := .builtin .append, args := #[s, x], argTypes := #[t, t] }) (ht : Try.prog.underlying t = some (.slice e)) (hi0 : Try.prog.info? e = some i0) (hz0 : i0.zero = some z0) (hz1 : i0.size = size) (hz2 : i0.bytes = bytes) (hz3 : z0.cells.size = size) (hsz : 0 < size)
    (hs : a.eval s = fv) (hx : a.eval x = .slice (some ⟨q, 0, none⟩) 1 1) (hown : w.ownsRow B e size fv n xs) (hl : news.length = size) (hq : w.heap[q]? = some (.cells ⟨news⟩ e (0, 0))) (h1 : ∀ u ∈ news, u.oneCell' = true)
    (hn : n + 1 ≤ 1048577) (hby : bytes ≤ 128) (hB : B ≤ w.heap.size) (h : ∀ v' w', w'.ownsRow B e size v' (n + 1) (xs ++ news) → w.grownBy w' fv.ownBlock → (v'.ownBlock = fv.ownBlock ∨ v'.ownBlock = some w.heap.size) → K (a.put o.dst v') w') : o.wp Try.prog a w K Q := by
  obtain ⟨v', w', hr, h2, h3, h4, h5⟩ := run_append_own_at (P := Try.prog) w B t o.type e i0 z0 size bytes ht hi0 hz0 hz1 hz2 hz3 hsz fv n xs hown ⟨q, 0, none⟩ 1 1 news (by omega) (fun j u hu => by
    rw [Go.WideShapes.add_plain, Nat.zero_add]
    exact blk_cell hq (by simpa using hu)) h1 (by unfold maxLen; omega) (Nat.le_trans (Nat.mul_le_mul hn hby) (by omega)) hB
  unfold Oper.wp execOp
  simp only [ho, resolve, invoke, builtin, Sem.run_bind, Sem.run_pure, Result.andThen_ok, List.map_toArray, List.map_cons, List.map_nil, hs, hx, hr]
  exact h _ _ h2 h3 h5
theorem one_int (y : Int) : ∀ u ∈ [Value.int .i64 y], u.oneCell' = true := fun u hu => by
  rw [List.mem_singleton] at hu
  rw [hu]; rfl
theorem mk_int1 (V : World) (t : Int) : (Instr.buildSlice 33 1 #[(0, .int .i64 t)]).run Try.prog V = .ok (.slice (some ⟨V.heap.size, 0, none⟩) 1 1) (V.alloc (.cells #[.int .i64 t] 3)) := by kernel_rfl
theorem run_nil {P : Program} {a : Act} {o : Oper} {x : Operand} {b k : Nat} {w : World} (ho : o.op = .nilCheck x) (hx : a.eval x = .pointer (some ⟨b, k, none⟩)) : (execOp a.eval o).run P w = .ok (.value (.pointer (some ⟨b, k, none⟩))) w := by
  unfold execOp
  simp [ho, hx]
theorem run_fa {P : Program} {a : Act} {o : Oper} {t : TypeId} {x : Operand} {u v : Value} {k : Nat} {w w' : World} (ho : o.op = .fieldAddr t x k) (hx : a.eval x = u) (hr : (Instr.fieldAt t u k).run P w = .ok v w') : (execOp a.eval o).run P w = .ok (.value v) w' := by
  subst hx
  unfold execOp
  simp [ho, hr]
theorem run_ixB {P : Program} {a : Act} {o : Oper} {t : TypeId} {x y : Operand} {u v r : Value} {w w' : World} (ho : o.op = .indexAddr t x y) (hx : a.eval x = u) (hy : a.eval y = v) (hr : (Instr.indexAt t u v).run P w = .ok r w') : (execOp a.eval o).run P w = .ok (.value r) w' := by
  subst hx hy
  unfold execOp
  simp [ho, hr]
theorem ix_intN {V : World} {b n cap k : Nat} (h : k < n) : (Instr.indexAt 33 (.slice (some ⟨b, 0, none⟩) n cap) (.int .i64 (k : Int))).run Try.prog V = .ok (.pointer (some ⟨b, k, none⟩)) V := by
  have h2 : (k : Int) < (n : Int) := by omega
  go_simp
theorem ld_intV {V : World} {b o : Nat} {t : Int} (h : V.cell? ⟨b, o, none⟩ = some (.int .i64 t)) : (Instr.loadAt 3 (.pointer (some ⟨b, o, none⟩))).run Try.prog V = .ok (.int .i64 t) V := by go_simp
theorem ld_li {V : World} {b o : Nat} {a : Option Addr} {n c : Nat} (h : V.cell? ⟨b, o, none⟩ = some (.slice a n c)) : (Instr.loadAt 33 (.pointer (some ⟨b, o, none⟩))).run Try.prog V = .ok (.slice a n c) V := by go_simp
theorem ld_wk {V : World} {b o q : Nat} (h : V.cell? ⟨b, o, none⟩ = some (.pointer (some ⟨q, 0, none⟩))) : (Instr.loadAt 48 (.pointer (some ⟨b, o, none⟩))).run Try.prog V = .ok (.pointer (some ⟨q, 0, none⟩)) V := by go_simp
theorem fl_w0 {V : World} {b : Nat} : (Instr.fieldAt 58 (.pointer (some ⟨b, 0, none⟩)) 0).run Try.prog V = .ok (.pointer (some ⟨b, 0, none⟩)) V := by go_simp
theorem fl_w1 {V : World} {b : Nat} : (Instr.fieldAt 58 (.pointer (some ⟨b, 0, none⟩)) 1).run Try.prog V = .ok (.pointer (some ⟨b, 1, none⟩)) V := by go_simp
theorem fl_w2 {V : World} {b : Nat} : (Instr.fieldAt 58 (.pointer (some ⟨b, 0, none⟩)) 2).run Try.prog V = .ok (.pointer (some ⟨b, 2, none⟩)) V := by go_simp
theorem fl_w3 {V : World} {b : Nat} : (Instr.fieldAt 58 (.pointer (some ⟨b, 0, none⟩)) 3).run Try.prog V = .ok (.pointer (some ⟨b, 3, none⟩)) V := by go_simp
/-- a slice is stored -/
theorem wp_storeL {a : Act} {o : Oper} {x y : Operand} {b k : Nat} {v v0 : Value} {w : World} {K : Act → World → Prop} {Q : Exit → Act → World → Prop} (ho : o.op = .store 33 x y) (hd : o.dst = none) (hx : a.eval x = .pointer (some ⟨b, k, none⟩)) (hy : a.eval y = v) (hv : ∃ p n c, v = .slice p n c) (hc : w.cell? ⟨b, k, none⟩ = some v0) (hf : w.frozen? ⟨b, k, none⟩ = false) (h : K (a.put o.dst undef) (w.setCell ⟨b, k, none⟩ v)) : o.wp Try.prog a w K Q := by
  obtain ⟨p, n, c, rfl⟩ := hv
  unfold Oper.wp execOp
  simp only [ho]
  rw [hx, hy]
  simp [go_sem, hc, hf, hd, Act.put] at h ⊢
  exact h
end Go.Proofs.Ytiaecobjbckhoaa.Db
