/- Walk of an operator's method join. Conditions: its sides lie in memory. · What the reader's walks lean on: what lies low stays; join's contract; the contracts' names. Conditions: none. · Walk of the reader's method unary. Conditions: the contracts of unary and atom at less fuel. · Walk of the reader's method unary: its other cases; its contract. Conditions: the contracts of unary and atom at less fuel. -/
import Derived.Test.YtpcdlneompnhlaaGreatDoorGrAF
namespace Go.Proofs.YtpcdlneompnhlaaGreatDoor.Pa
open Go Go.RowKit
open Go.Proofs.YtpcdlneompnhlaaGreatDoor.Lx Go.Proofs.YtpcdlneompnhlaaGreatDoor.Tr

theorem row_new {w : World} {S : Nat → Prop} {b cap n : Nat} {xs : List Value} {T : TypeId} {fr : Nat × Nat} (hn : n ≤ cap) (hc : cap ≤ maxLen) (hS : S b) (h : w.heap[b]? = some (.cells ⟨xs⟩ T fr)) : RowAt w S (some ⟨b, 0, none⟩) cap n xs :=
  ⟨hn, hc, (by intro h; cases h), fun j u hj => ⟨b, 0, rfl, hS, by rw [Nat.zero_add]; exact blk_cell h (by simpa using hj)⟩⟩

theorem heap5 (w : World) (A B C D E : Obj) : (((((w.alloc A).alloc B).alloc C).alloc D).alloc E).heap[w.heap.size + 1 + 1 + 1]? = some D ∧ (((((w.alloc A).alloc B).alloc C).alloc D).alloc E).heap[w.heap.size + 1 + 1 + 1 + 1]? = some E ∧ Below w.heap.size w (((((w.alloc A).alloc B).alloc C).alloc D).alloc E) := by
  have e1 : (w.alloc A).heap.size = w.heap.size + 1 := by simp
  have e2 : ((w.alloc A).alloc B).heap.size = w.heap.size + 1 + 1 := by simp
  have e3 : (((w.alloc A).alloc B).alloc C).heap.size = w.heap.size + 1 + 1 + 1 := by simp
  have e4 : ((((w.alloc A).alloc B).alloc C).alloc D).heap.size = w.heap.size + 1 + 1 + 1 + 1 := by simp
  refine ⟨?_, ?_, ?_⟩
  · rw [heap_alloc_old _ _ (by rw [e4]; omega), ← e3]; exact World.alloc_heap_new _ _
  · rw [← e4]; exact World.alloc_heap_new _ _
  · exact (((((Below.refl _ _).alloc (Nat.le_refl _) A).alloc (by rw [e1]; omega) B).alloc (by rw [e2]; omega) C).alloc (by rw [e3]; omega) D).alloc (by rw [e4]; omega) E

set_option maxHeartbeats 4000000 in
set_option maxRecDepth 100000 in
theorem join_no (o : Opr) (l r : Ex) (p : Int) (w : World) (ht : o.turns = false) :
    Calls Tryz.prog 182 #[.agg ⟨o.cells⟩, .agg ⟨l.vals⟩, .agg ⟨r.vals⟩, .int .i64 p] w fun e w' => ∃ b, w.heap.size ≤ b ∧ e = .returned (.agg ⟨(Ex.mk o.kind ⟨#[]⟩ 0 (some ⟨b, 0, none⟩) 2 [l, r] p).vals⟩) ∧ (∃ T fr, w'.heap[b]? = some (.cells ⟨exCells [l, r]⟩ T fr)) ∧ Below w.heap.size w w' := by
  obtain ⟨sg, kn, bn, tn⟩ := o
  obtain ⟨k1, n1, v1, a1, c1, q1, p1⟩ := l
  obtain ⟨k2, n2, v2, a2, c2, q2, p2⟩ := r
  simp only at ht
  subst ht
  have hA : (⟨(Opr.mk sg kn bn false).cells⟩ : Array Value) = #[.string sg, .int .u8 kn, .int .i64 bn, .bool false] := rfl
  have hB : (⟨(Ex.mk k1 n1 v1 a1 c1 q1 p1).vals⟩ : Array Value) = #[.int .u8 k1, .string n1, .int .i64 v1, .slice a1 q1.length c1, .int .i64 p1] := rfl
  have hC : (⟨(Ex.mk k2 n2 v2 a2 c2 q2 p2).vals⟩ : Array Value) = #[.int .u8 k2, .string n2, .int .i64 v2, .slice a2 q2.length c2, .int .i64 p2] := rfl
  rw [hA, hB, hC]
  clear hA hB hC
  go_enter Tryz.func182, Tryz.ntmps182
  go_wp2_with fail
  obtain ⟨g1, g2, g3⟩ := heap5 w (Obj.cells #[.string sg, .int .u8 kn, .int .i64 bn, .bool false] 196) (Obj.cells #[.int .u8 k1, .string n1, .int .i64 v1, .slice a1 q1.length c1, .int .i64 p1] 62) (Obj.cells #[.int .u8 k2, .string n2, .int .i64 v2, .slice a2 q2.length c2, .int .i64 p2] 62) (Obj.cells #[.int .u8 kn, .string ⟨#[]⟩, .int .i64 0, .slice (some ⟨w.heap.size + 1 + 1 + 1 + 1, 0, none⟩) 2 2, .int .i64 p] 62) (Obj.cells #[.int .u8 k1, .string n1, .int .i64 v1, .slice a1 q1.length c1, .int .i64 p1, .int .u8 k2, .string n2, .int .i64 v2, .slice a2 q2.length c2, .int .i64 p2] 62)
  refine bodyPost_ret (v := .agg #[.int .u8 kn, .string ⟨#[]⟩, .int .i64 0, .slice (some ⟨w.heap.size + 1 + 1 + 1 + 1, 0, none⟩) 2 2, .int .i64 p]) (results_cell_row Tryz.results182 _ _ (w.heap.size + 1 + 1 + 1) _ _ _ _ rfl g1 Tryz.underlying62 rfl (by kernel_rfl)) rfl ⟨w.heap.size + 1 + 1 + 1 + 1, by omega, rfl, ⟨_, _, g2⟩, g3⟩
set_option maxHeartbeats 4000000 in
set_option maxRecDepth 100000 in
theorem join_yes (o : Opr) (l r : Ex) (p : Int) (w : World) (ht : o.turns = true) :
    Calls Tryz.prog 182 #[.agg ⟨o.cells⟩, .agg ⟨l.vals⟩, .agg ⟨r.vals⟩, .int .i64 p] w fun e w' => ∃ b, w.heap.size ≤ b ∧ e = .returned (.agg ⟨(Ex.mk o.kind ⟨#[]⟩ 0 (some ⟨b, 0, none⟩) 2 [r, l] p).vals⟩) ∧ (∃ T fr, w'.heap[b]? = some (.cells ⟨exCells [r, l]⟩ T fr)) ∧ Below w.heap.size w w' := by
  obtain ⟨sg, kn, bn, tn⟩ := o
  obtain ⟨k1, n1, v1, a1, c1, q1, p1⟩ := l
  obtain ⟨k2, n2, v2, a2, c2, q2, p2⟩ := r
  simp only at ht
  subst ht
  have hA : (⟨(Opr.mk sg kn bn true).cells⟩ : Array Value) = #[.string sg, .int .u8 kn, .int .i64 bn, .bool true] := rfl
  have hB : (⟨(Ex.mk k1 n1 v1 a1 c1 q1 p1).vals⟩ : Array Value) = #[.int .u8 k1, .string n1, .int .i64 v1, .slice a1 q1.length c1, .int .i64 p1] := rfl
  have hC : (⟨(Ex.mk k2 n2 v2 a2 c2 q2 p2).vals⟩ : Array Value) = #[.int .u8 k2, .string n2, .int .i64 v2, .slice a2 q2.length c2, .int .i64 p2] := rfl
  rw [hA, hB, hC]
  clear hA hB hC
  go_enter Tryz.func182, Tryz.ntmps182
  go_wp2_with fail
  skip
  obtain ⟨g1, g2, g3⟩ := heap5 w (Obj.cells #[.string sg, .int .u8 kn, .int .i64 bn, .bool true] 196) (Obj.cells #[.int .u8 k2, .string n2, .int .i64 v2, .slice a2 q2.length c2, .int .i64 p2] 62) (Obj.cells #[.int .u8 k1, .string n1, .int .i64 v1, .slice a1 q1.length c1, .int .i64 p1] 62) (Obj.cells #[.int .u8 kn, .string ⟨#[]⟩, .int .i64 0, .slice (some ⟨w.heap.size + 1 + 1 + 1 + 1, 0, none⟩) 2 2, .int .i64 p] 62) (Obj.cells #[.int .u8 k2, .string n2, .int .i64 v2, .slice a2 q2.length c2, .int .i64 p2, .int .u8 k1, .string n1, .int .i64 v1, .slice a1 q1.length c1, .int .i64 p1] 62)
  refine bodyPost_ret (v := .agg #[.int .u8 kn, .string ⟨#[]⟩, .int .i64 0, .slice (some ⟨w.heap.size + 1 + 1 + 1 + 1, 0, none⟩) 2 2, .int .i64 p]) (results_cell_row Tryz.results182 _ _ (w.heap.size + 1 + 1 + 1) _ _ _ _ rfl g1 Tryz.underlying62 rfl (by kernel_rfl)) rfl ⟨w.heap.size + 1 + 1 + 1 + 1, by omega, rfl, ⟨_, _, g2⟩, g3⟩
end Go.Proofs.YtpcdlneompnhlaaGreatDoor.Pa

namespace Go.Proofs.YtpcdlneompnhlaaGreatDoor.Pa
open Go Go.RowKit
open Go.Proofs.YtpcdlneompnhlaaGreatDoor.Lx Go.Proofs.YtpcdlneompnhlaaGreatDoor.Tr

/-- the reader's blocks lie below B -/
structure Low (c : Rc) (B : Nat) : Prop where
  rb : c.rb < B
  gl : ∀ g ∈ gls, g < B
  ta : ∀ b off, c.ta = some ⟨b, off, none⟩ → b < B
theorem Low.mono {c : Rc} {B B' : Nat} (h : Low c B) (hB : B ≤ B') : Low c B' := ⟨Nat.lt_of_lt_of_le h.rb hB, fun g hg => Nat.lt_of_lt_of_le (h.gl g hg) hB, fun b o ha => Nat.lt_of_lt_of_le (h.ta b o ha) hB⟩
theorem cells_lt {w : World} {b : Nat} {o : Obj} (h : w.heap[b]? = some o) : b < w.heap.size := (Array.getElem?_eq_some_iff.1 h).1
theorem TbP.low {w : World} (h : TbP w) : ∀ g ∈ gls, g < w.heap.size := by
  obtain ⟨⟨t, fr, hg⟩, ⟨ev, he, _⟩, ⟨ew, hf, _⟩, ⟨t', fr', ho⟩⟩ := h
  intro g hm
  unfold gls at hm
  simp only [List.mem_cons, List.not_mem_nil, or_false] at hm
  rcases hm with rfl | rfl | rfl | rfl
  · exact cells_lt hg
  · exact World.block_lt_of_cell? _ _ he
  · exact World.block_lt_of_cell? _ _ hf
  · exact cells_lt ho
theorem Rd.low {c : Rc} {i : Nat} {w : World} (h : Rd c i w) : Low c w.heap.size := by
  refine ⟨cells_lt h.blk, h.tb.low, fun b off ha => ?_⟩
  obtain ⟨t, ht⟩ : ∃ t, c.l[i]? = some t := ⟨_, List.getElem?_eq_getElem h.lt⟩
  obtain ⟨b', off', ha', _, hc⟩ := tk_row h.row i t ht
  rw [ha] at ha'
  cases ha'
  exact World.block_lt_of_cell? _ _ (hc 0 _ rfl)
theorem TbP.low_keep {B : Nat} {w w' : World} (h : TbP w) (hl : ∀ g ∈ gls, g < B) (hb : Below B w w') : TbP w' := by
  have n0 := hl _ (show 0 ∈ gls by unfold gls; simp)
  have n1 := hl _ (show 6 ∈ gls by unfold gls; simp)
  have n2 := hl _ (show 7 ∈ gls by unfold gls; simp)
  have n3 := hl _ (show 5 ∈ gls by unfold gls; simp)
  obtain ⟨⟨t, fr, hg⟩, ⟨ev, he, hev⟩, ⟨ew, hf, hew⟩, ⟨t', fr', ho⟩⟩ := h
  exact ⟨⟨t, fr, (hb.block _ n0).trans hg⟩, ⟨ev, (hb.cell (p := ⟨_, 0, none⟩) n1).trans he, hev⟩, ⟨ew, (hb.cell (p := ⟨_, 0, none⟩) n2).trans hf, hew⟩, ⟨t', fr', (hb.block _ n3).trans ho⟩⟩
theorem Rd.keep {c : Rc} {i B : Nat} {w w' : World} (h : Rd c i w) (hl : Low c B) (hb : Below B w w') : Rd c i w' :=
  ⟨(hb.block _ hl.rb).trans h.blk, ⟨h.row.le, h.row.lim, h.row.nil, fun j u hj => by
    obtain ⟨b, off, ha, hS, hc⟩ := h.row.at_ j u hj
    exact ⟨b, off, ha, hS, (hb.cell (p := ⟨b, off + j, none⟩) (hl.ta b off ha)).trans hc⟩⟩, h.lt, h.lim, h.tb.low_keep hl.gl hb, h.ne, h.txs, h.last⟩

theorem row_there {w : World} {S : Nat → Prop} {a : Option Addr} {cap n : Nat} {xs : List Value} (h : RowAt w S a cap n xs) : RowAt w (fun b => S b ∧ b < w.heap.size) a cap n xs :=
  ⟨h.le, h.lim, h.nil, fun j u hj => by
    obtain ⟨b, off, ha, hS, hc⟩ := h.at_ j u hj
    exact ⟨b, off, ha, ⟨hS, World.block_lt_of_cell? _ _ hc⟩, hc⟩⟩
mutual
theorem In.there {w : World} {S : Nat → Prop} : ∀ e, Ex.In w S e → Ex.In w (fun b => S b ∧ b < w.heap.size) e
  | .mk k nm n a cap args pos, h => by
    unfold Ex.In at h ⊢
    exact ⟨h.1, h.2.1, h.2.2.1, h.2.2.2.1, row_there h.2.2.2.2.1, InL.there args h.2.2.2.2.2⟩
theorem InL.there {w : World} {S : Nat → Prop} : ∀ l, Ex.InL w S l → Ex.InL w (fun b => S b ∧ b < w.heap.size) l
  | [], _ => by unfold Ex.InL; trivial
  | e :: r, h => by
    unfold Ex.InL at h ⊢
    exact ⟨In.there e h.1, InL.there r h.2⟩
end

theorem set5 {W : World} {g : Nat} {a0 b0 c0 d0 e0 : Value} {T : TypeId} {fr : Nat × Nat} (h : W.heap[g]? = some (.cells #[a0, b0, c0, d0, e0] T fr)) (a b c d e : Value) :
    (((((W.setCell ⟨g, 0, none⟩ a).setCell ⟨g, 1, none⟩ b).setCell ⟨g, 2, none⟩ c).setCell ⟨g, 3, none⟩ d).setCell ⟨g, 4, none⟩ e).heap[g]? = some (.cells #[a, b, c, d, e] T fr) := by
  have := heap_set (heap_set (heap_set (heap_set (heap_set h 0 a) 1 b) 2 c) 3 d) 4 e
  simpa using this
theorem set5_keep (W : World) (g : Nat) (a b c d e : Value) (k : Nat) (hk : k ≠ g) :
    (((((W.setCell ⟨g, 0, none⟩ a).setCell ⟨g, 1, none⟩ b).setCell ⟨g, 2, none⟩ c).setCell ⟨g, 3, none⟩ d).setCell ⟨g, 4, none⟩ e).heap[k]? = W.heap[k]? := by
  rw [Below.heap_setCell _ _ _ _ hk, Below.heap_setCell _ _ _ _ hk, Below.heap_setCell _ _ _ _ hk, Below.heap_setCell _ _ _ _ hk, Below.heap_setCell _ _ _ _ hk]
theorem set5_below {B : Nat} {A W : World} (h : Below B A W) {g : Nat} (hg : B ≤ g) (a b c d e : Value) :
    Below B A (((((W.setCell ⟨g, 0, none⟩ a).setCell ⟨g, 1, none⟩ b).setCell ⟨g, 2, none⟩ c).setCell ⟨g, 3, none⟩ d).setCell ⟨g, 4, none⟩ e) :=
  ((((h.setCell hg a).setCell hg b).setCell hg c).setCell hg d).setCell hg e

theorem opr_u8 (s : ByteArray) : U8 (opr s).kind := by
  have h : ∀ l : List Opr, (∀ o ∈ l, U8 o.kind) → U8 (oprIn l s).kind := by
    intro l hl
    induction l with
    | nil => show U8 0; unfold U8; decide
    | cons o r ih =>
      unfold oprIn
      split
      · exact hl o (by simp)
      · exact ih fun o ho => hl o (by simp [ho])
  refine h oprs ?_
  unfold oprs U8
  decide

theorem exCells_two (a b : Ex) : exCells [a, b] = a.vals ++ b.vals := by simp [exCells]
theorem two_In {w w' : World} {S : Nat → Prop} {k : Int} {l r : Ex} {p : Int} {b : Nat} (hk : U8 k) (hp : I64 p) (hl : Ex.In w S l) (hr : Ex.In w S r) (hb : Below w.heap.size w w') (hS : S b) (hx : ∃ T fr, w'.heap[b]? = some (.cells ⟨exCells [l, r]⟩ T fr)) : Ex.In w' S (.mk k ⟨#[]⟩ 0 (some ⟨b, 0, none⟩) 2 [l, r] p) := by
  obtain ⟨T, fr, hx⟩ := hx
  unfold Ex.In
  refine ⟨hk, by decide, by unfold I64; omega, hp, row_new (Nat.le_refl _) (by decide) hS hx, ?_⟩
  unfold Ex.InL Ex.InL Ex.InL
  exact ⟨hl.below (Kps.of_below hb) , hr.below (Kps.of_below hb), trivial⟩
theorem join_any (S : Nat → Prop) (o : Opr) (l r : Ex) (p : Int) (w : World) (hS : ∀ b, w.heap.size ≤ b → S b) (hl : Ex.In w S l) (hr : Ex.In w S r) (hk : U8 o.kind) (hp : I64 p) :
    Calls Tryz.prog 182 #[.agg ⟨o.cells⟩, .agg ⟨l.vals⟩, .agg ⟨r.vals⟩, .int .i64 p] w fun e w' => ∃ v, e = .returned v ∧ VX S (two o (ea l) (ea r) p) v w' ∧ Below w.heap.size w w' := by
  cases ht : o.turns with
  | false =>
    refine (join_no o l r p w ht).mono ?_
    rintro e w' ⟨b, hb, h1, h2, h3⟩
    refine ⟨_, h1, ⟨_, rfl, two_In hk hp hl hr h3 (hS b hb) h2, ?_⟩, h3⟩
    rw [ea_eq, eaL_cons, eaL_cons, eaL_nil]; unfold two; rw [ht]; rfl
  | true =>
    refine (join_yes o l r p w ht).mono ?_
    rintro e w' ⟨b, hb, h1, h2, h3⟩
    refine ⟨_, h1, ⟨_, rfl, two_In hk hp hr hl h3 (hS b hb) h2, ?_⟩, h3⟩
    rw [ea_eq, eaL_cons, eaL_cons, eaL_nil]; unfold two; rw [ht]; rfl

/-- the contracts of the methods that read expressions, by fuel -/
def ContU (f : Nat) : Prop := ∀ (c : Rc) (i : Nat) (w : World) (r : Res Ex), Rd c i w → unaryP c.l f i = some r → Calls Tryz.prog 180 #[.pointer (some ⟨c.rb, 0, none⟩)] w (Post c (VX (fun b => w.heap.size ≤ b)) w r)
def ContA (f : Nat) : Prop := ∀ (c : Rc) (i : Nat) (w : World) (r : Res Ex), Rd c i w → atomP c.l f i = some r → Calls Tryz.prog 189 #[.pointer (some ⟨c.rb, 0, none⟩)] w (Post c (VX (fun b => w.heap.size ≤ b)) w r)
def ContJ (f : Nat) : Prop := ∀ (c : Rc) (least : Int) (i : Nat) (w : World) (r : Res Ex), 1 ≤ least → least ≤ 6 → Rd c i w → joinedP c.l f least i = some r → Calls Tryz.prog 171 #[.pointer (some ⟨c.rb, 0, none⟩), .int .i64 least] w (Post c (VX (fun b => w.heap.size ≤ b)) w r)
end Go.Proofs.YtpcdlneompnhlaaGreatDoor.Pa

namespace Go.Proofs.YtpcdlneompnhlaaGreatDoor.Pa
open Go Go.RowKit
open Go.Proofs.YtpcdlneompnhlaaGreatDoor.Lx Go.Proofs.YtpcdlneompnhlaaGreatDoor.Tr

def zeroE : Obj := .cells #[.int .u8 0, .string ⟨#[]⟩, .int .i64 0, .slice none 0 0, .int .i64 0] 62
theorem RE.blk {rb : Nat} {w w' : World} (h : RE rb w w') {k : Nat} {o : Obj} (hk : w.heap[k]? = some o) (hn : k ≠ rb) : w'.heap[k]? = some o := (h.block _ (cells_lt hk) hn).trans hk
def Res.map {α β : Type} (g : α → β) : Res α → Res β
  | .ok x j => .ok (g x) j
  | .bad p => .bad p
/-- one row made behind all, one own block stored -/
structure Stored (g : Nat) (o : Obj) (A B : World) : Prop where
  os : B.os = A.os
  tape : B.tape = A.tape
  output : B.output = A.output
  size : A.heap.size ≤ B.heap.size
  row : B.heap[A.heap.size]? = some o
  same : ∀ k, k < A.heap.size → k ≠ g → B.heap[k]? = A.heap[k]?
theorem set5_size (A : World) (g : Nat) (a b c d e : Value) : (((((A.setCell ⟨g, 0, none⟩ a).setCell ⟨g, 1, none⟩ b).setCell ⟨g, 2, none⟩ c).setCell ⟨g, 3, none⟩ d).setCell ⟨g, 4, none⟩ e).heap.size = A.heap.size := by simp [World.setCell]
theorem Stored.mk5 {A : World} (o : Obj) {g : Nat} {a0 b0 c0 d0 e0 : Value} {T : TypeId} {fr : Nat × Nat} (h : A.heap[g]? = some (.cells #[a0, b0, c0, d0, e0] T fr)) (a b c d e : Value) :
    Stored g o A ((((((A.setCell ⟨g, 0, none⟩ a).setCell ⟨g, 1, none⟩ b).setCell ⟨g, 2, none⟩ c).setCell ⟨g, 3, none⟩ d).setCell ⟨g, 4, none⟩ e).alloc o) ∧ ((((((A.setCell ⟨g, 0, none⟩ a).setCell ⟨g, 1, none⟩ b).setCell ⟨g, 2, none⟩ c).setCell ⟨g, 3, none⟩ d).setCell ⟨g, 4, none⟩ e).alloc o).heap[g]? = some (.cells #[a, b, c, d, e] T fr) := by
  have hg := cells_lt h
  have hz := set5_size A g a b c d e
  have hs := set5 h a b c d e
  have hk := fun k hk => set5_keep A g a b c d e k hk
  have hb : Below g A (((((A.setCell ⟨g, 0, none⟩ a).setCell ⟨g, 1, none⟩ b).setCell ⟨g, 2, none⟩ c).setCell ⟨g, 3, none⟩ d).setCell ⟨g, 4, none⟩ e) := set5_below (Below.refl _ _) (Nat.le_refl _) a b c d e
  generalize (((((A.setCell ⟨g, 0, none⟩ a).setCell ⟨g, 1, none⟩ b).setCell ⟨g, 2, none⟩ c).setCell ⟨g, 3, none⟩ d).setCell ⟨g, 4, none⟩ e) = B at hz hs hk hb ⊢
  have hb' := hb.alloc (by rw [hz]; exact Nat.le_of_lt hg) o
  refine ⟨⟨hb'.os, hb'.tape, hb'.output, hb'.size, by rw [← hz]; exact World.alloc_heap_new B o, fun k hk1 hn => ?_⟩, ?_⟩
  · rw [heap_alloc_old B o (by rw [hz]; exact hk1)]; exact hk k hn
  · rw [heap_alloc_old B o (by rw [hz]; exact hg)]; exact hs
theorem Stored.below {g B : Nat} {o : Obj} {w A W : World} (h : Stored g o A W) (hb : RE B w A) (hg : w.heap.size ≤ g) : RE B w W :=
  ⟨h.os.trans hb.os, h.tape.trans hb.tape, h.output.trans hb.output, Nat.le_trans hb.size h.size, fun k hk hn => (h.same k (Nat.lt_of_lt_of_le hk hb.size) (by omega)).trans (hb.block k hk hn)⟩
theorem Stored.rd {c : Rc} {j g : Nat} {o : Obj} {A W : World} (h : Stored g o A W) (hR : Rd c j A) (hl : Low c g) (hg : g ≤ A.heap.size) : Rd c j W := hR.keep hl ⟨h.os, h.tape, h.output, h.size, fun k hk => h.same k (Nat.lt_of_lt_of_le hk hg) (Nat.ne_of_lt hk)⟩
theorem one_end {c : Rc} {i j : Nat} {w w3 W : World} (k : Int) (nm : ByteArray) (hn : nm.size ≤ maxLen) (hk : U8 k) (p : Int) (hp : I64 p) (x : Ex) (hw : Rd c i w) (hb : w.heap.size < w3.heap.size) (he : RE c.rb w w3) (hR : Rd c j w3)
    (hx : Ex.In w3 (fun b => w.heap.size < b) x) (hs : Stored w.heap.size (.cells ⟨exCells [x]⟩ 62) w3 W) :
    VX (fun b => w.heap.size ≤ b) (.mk k nm 0 none 0 [ea x] p) (.agg ⟨(Ex.mk k nm 0 (some ⟨w3.heap.size, 0, none⟩) 1 [x] p).vals⟩) W ∧ Rd c j W ∧ RE c.rb w W := by
  have hl : Low c w.heap.size := hw.low
  have hkp : Kps (fun b => w.heap.size < b ∧ b < w3.heap.size) w3 W := fun bb o v hbb hc =>
    (World.cell?_of_block (w := w3) (a := ⟨bb, o, none⟩) (hs.same bb hbb.2 (Nat.ne_of_gt hbb.1))).trans hc
  refine ⟨⟨_, rfl, ?_, by rw [ea_eq, eaL_cons, eaL_nil]⟩, hs.rd hR hl (Nat.le_of_lt hb), hs.below he (Nat.le_refl _)⟩
  unfold Ex.In
  refine ⟨hk, hn, by unfold I64; omega, hp, row_new (Nat.le_refl _) (by decide) (Nat.le_of_lt hb) hs.row, ?_⟩
  unfold Ex.InL Ex.InL
  exact ⟨Ex.In.mono (fun b hb => Nat.le_of_lt hb.1) _ (Ex.In.below hkp _ (In.there x hx)), trivial⟩

set_option maxHeartbeats 4000000 in
set_option maxRecDepth 100000 in
theorem unary_neg (f : Nat) (hU : ContU f) (c : Rc) (i : Nat) (t : Tk) (w : World) (h : Rd c i w) (ht : c.l[i]? = some t) (h1 : t.txt = ⟨#[45]⟩) (q : Res Ex) (hq : unaryP c.l f (i + 1) = some q) :
    Calls Tryz.prog 180 #[.pointer (some ⟨c.rb, 0, none⟩)] w (Post c (VX (fun b => w.heap.size ≤ b)) w (q.map fun e => .mk 5 ⟨#[]⟩ 0 none 0 [e] t.pos)) := by
  have hmore := h.more ht (by rw [h1]; decide)
  have hp : I64 t.pos := by have := (h.txs t (List.mem_of_getElem? ht)).2; unfold I64; omega
  have hS : Hid (∀ W n, Below w.heap.size w W → Calls Tryz.prog 144 #[.pointer (some ⟨c.rb, 0, none⟩), .string ⟨#[45]⟩] (W.drewN n) fun e w' => e = .returned (.bool true) ∧ Rd c (i + 1) w' ∧ RE c.rb (W.drewN n) w') := Lib.hid fun W n hb => by
    have := passes_yes c i t (W.drewN n) ((h.ext hb).drewN n) ht hmore
    rw [h1] at this
    exact this
  have hAt : Hid (∀ W, Below w.heap.size w W → Calls Tryz.prog 152 #[.pointer (some ⟨c.rb, 0, none⟩)] W fun e w' => e = .returned (.int .i64 t.pos) ∧ ∃ n, w' = W.drewN n) := Lib.hid fun W hb => at_any c i t W (h.ext hb) ht
  have hRec : Hid (∀ W, Rd c (i + 1) W → Calls Tryz.prog 180 #[.pointer (some ⟨c.rb, 0, none⟩)] W (Post c (VX (fun b => W.heap.size ≤ b)) W q)) := Lib.hid fun W hW => hU c (i + 1) W q hW hq
  have h := Lib.hid h
  have hp := Lib.hid hp
  have hlow : Hid (w.heap.size ≠ c.rb) := Lib.hid (fun e => by have := h.out.low.rb; omega)
  clear h1 ht hmore hU hq
  obtain ⟨tk, txt, pos⟩ := t
  simp only at hAt hp
  go_enter Tryz.func180, Tryz.ntmps180
  go_wp2_with fail
  obtain ⟨w1, hw1⟩ : ∃ W, w.alloc (.cells #[.int .u8 0, .string ⟨#[]⟩, .int .i64 0, .slice none 0 0, .int .i64 0] 62) = W := ⟨_, rfl⟩
  have hb1 : Below w.heap.size w w1 := by rw [← hw1]; exact (Below.refl _ _).alloc (Nat.le_refl _) _
  have hr1 : w1.heap[w.heap.size]? = some (.cells #[.int .u8 0, .string ⟨#[]⟩, .int .i64 0, .slice none 0 0, .int .i64 0] 62 (0, 0)) := by rw [← hw1]; exact World.alloc_heap_new w _
  rw [hw1]
  clear hw1
  refine (hAt.out w1 hb1).mono ?_
  rintro e w' ⟨rfl, n, rfl⟩
  replace hS := Lib.hid (hS.out w1 n hb1)
  go_wp2_with fail
  refine hS.out.mono ?_
  rintro e w2 ⟨rfl, hR2, hE2⟩
  replace hRec := Lib.hid (hRec.out w2 hR2)
  have hr2 := hE2.blk (k := w.heap.size) hr1 hlow.out
  have hE2' := ((RE.of_below (rb := c.rb) hb1).trans (RE.drewN w1 n)).trans hE2
  replace hr2 := Lib.hid hr2
  replace hE2' := Lib.hid hE2'
  clear hE2 hr1 hR2 hS hAt hb1
  go_wp2_with fail
  refine hRec.out.mono ?_
  rintro e w3 hP
  cases q with
  | bad p =>
    obtain ⟨rfl, hE3⟩ := hP
    exact ⟨rfl, rfl, hE2'.out.trans hE3⟩
  | ok x j =>
    obtain ⟨v, rfl, ⟨ex, rfl, hx, rfl⟩, hR3, hE3⟩ := hP
    have hr3 := hE3.blk hr2.out hlow.out
    have hs2 := cells_lt hr2.out
    have hs3 : w.heap.size < w3.heap.size := Nat.lt_of_lt_of_le hs2 hE3.size
    have hx' : Ex.In w3 (fun b => w.heap.size < b) ex := Ex.In.mono (fun b hb => Nat.lt_of_lt_of_le hs2 hb) _ hx
    have hf : Hid (∀ a b cc d e : Value, _) := Lib.hid fun a b cc d e => one_end (i := i) (w := w) (w3 := w3) (j := j) 5 ⟨#[]⟩ (by decide) (by unfold U8; decide) pos hp.out ex h.out hs3 (hE2'.out.trans hE3) hR3 hx' (Stored.mk5 _ hr3 a b cc d e).1
    have hm := Lib.hid fun (o : Obj) (a b cc d e : Value) => (Stored.mk5 o hr3 a b cc d e).2
    obtain ⟨k1, n1, v1, a1, c1, q1, p1⟩ := ex
    have hB : (⟨(Ex.mk k1 n1 v1 a1 c1 q1 p1).vals⟩ : Array Value) = #[.int .u8 k1, .string n1, .int .i64 v1, .slice a1 q1.length c1, .int .i64 p1] := rfl
    rw [hB]
    have g0 : w3.cell? ⟨w.heap.size, 0, none⟩ = some (.int .u8 0) := blk_cell hr3 rfl
    have g1 : w3.cell? ⟨w.heap.size, 1, none⟩ = some (.string ⟨#[]⟩) := blk_cell hr3 rfl
    have g2 : w3.cell? ⟨w.heap.size, 2, none⟩ = some (.int .i64 0) := blk_cell hr3 rfl
    have g3 : w3.cell? ⟨w.heap.size, 3, none⟩ = some (.slice none 0 0) := blk_cell hr3 rfl
    have g4 : w3.cell? ⟨w.heap.size, 4, none⟩ = some (.int .i64 0) := blk_cell hr3 rfl
    have f0 := blk_free hr3 0
    have f1 := blk_free hr3 1
    have f2 := blk_free hr3 2
    have f3 := blk_free hr3 3
    have f4 := blk_free hr3 4
    replace hr3 := Lib.hid hr3
    clear hx hx' hR3 hE3 hr2 hE2' hRec hB
    go_wp2_with fail
    exact bodyPost_ret (v := .agg #[.int .u8 5, .string ⟨#[]⟩, .int .i64 0, .slice (some ⟨w3.heap.size, 0, none⟩) 1 1, .int .i64 pos]) (results_cell_row Tryz.results180 _ _ w.heap.size _ _ _ _ rfl (hm.out _ _ _ _ _ _) Tryz.underlying62 rfl (by kernel_rfl)) rfl ⟨_, rfl, hf.out _ _ _ _ _⟩
end Go.Proofs.YtpcdlneompnhlaaGreatDoor.Pa

namespace Go.Proofs.YtpcdlneompnhlaaGreatDoor.Pa
open Go Go.RowKit
open Go.Proofs.YtpcdlneompnhlaaGreatDoor.Lx Go.Proofs.YtpcdlneompnhlaaGreatDoor.Tr

set_option maxHeartbeats 4000000 in
set_option maxRecDepth 100000 in
theorem unary_not (f : Nat) (hU : ContU f) (c : Rc) (i : Nat) (t : Tk) (w : World) (h : Rd c i w) (ht : c.l[i]? = some t) (h1 : t.txt = ⟨#[33]⟩) (q : Res Ex) (hq : unaryP c.l f (i + 1) = some q) :
    Calls Tryz.prog 180 #[.pointer (some ⟨c.rb, 0, none⟩)] w (Post c (VX (fun b => w.heap.size ≤ b)) w (q.map fun e => .mk 6 ⟨#[]⟩ 0 none 0 [e] t.pos)) := by
  have hmore := h.more ht (by rw [h1]; decide)
  have hp : I64 t.pos := by have := (h.txs t (List.mem_of_getElem? ht)).2; unfold I64; omega
  have hS0 : Hid (∀ W n, Below w.heap.size w W → Calls Tryz.prog 144 #[.pointer (some ⟨c.rb, 0, none⟩), .string ⟨#[45]⟩] (W.drewN n) fun e w' => e = .returned (.bool false) ∧ ∃ m, w' = (W.drewN n).drewN m) := Lib.hid fun W n hb => passes_no c i t _ (W.drewN n) ((h.ext hb).drewN n) ht (by rw [h1]; decide)
  have hS : Hid (∀ W n, Below w.heap.size w W → Calls Tryz.prog 144 #[.pointer (some ⟨c.rb, 0, none⟩), .string ⟨#[33]⟩] (W.drewN n) fun e w' => e = .returned (.bool true) ∧ Rd c (i + 1) w' ∧ RE c.rb (W.drewN n) w') := Lib.hid fun W n hb => by
    have := passes_yes c i t (W.drewN n) ((h.ext hb).drewN n) ht hmore
    rw [h1] at this
    exact this
  have hAt : Hid (∀ W, Below w.heap.size w W → Calls Tryz.prog 152 #[.pointer (some ⟨c.rb, 0, none⟩)] W fun e w' => e = .returned (.int .i64 t.pos) ∧ ∃ n, w' = W.drewN n) := Lib.hid fun W hb => at_any c i t W (h.ext hb) ht
  have hRec : Hid (∀ W, Rd c (i + 1) W → Calls Tryz.prog 180 #[.pointer (some ⟨c.rb, 0, none⟩)] W (Post c (VX (fun b => W.heap.size ≤ b)) W q)) := Lib.hid fun W hW => hU c (i + 1) W q hW hq
  have h := Lib.hid h
  have hp := Lib.hid hp
  have hlow : Hid (w.heap.size ≠ c.rb) := Lib.hid (fun e => by have := h.out.low.rb; omega)
  clear h1 ht hmore hU hq
  obtain ⟨tk, txt, pos⟩ := t
  simp only at hAt hp
  go_enter Tryz.func180, Tryz.ntmps180
  go_wp2_with fail
  obtain ⟨w1, hw1⟩ : ∃ W, w.alloc (.cells #[.int .u8 0, .string ⟨#[]⟩, .int .i64 0, .slice none 0 0, .int .i64 0] 62) = W := ⟨_, rfl⟩
  have hb1 : Below w.heap.size w w1 := by rw [← hw1]; exact (Below.refl _ _).alloc (Nat.le_refl _) _
  have hr1 : w1.heap[w.heap.size]? = some (.cells #[.int .u8 0, .string ⟨#[]⟩, .int .i64 0, .slice none 0 0, .int .i64 0] 62 (0, 0)) := by rw [← hw1]; exact World.alloc_heap_new w _
  rw [hw1]
  clear hw1
  refine (hAt.out w1 hb1).mono ?_
  rintro e w' ⟨rfl, n, rfl⟩
  replace hS0 := Lib.hid (hS0.out w1 n hb1)
  replace hS := Lib.hid fun n => hS.out w1 n hb1
  go_wp2_with fail
  refine hS0.out.mono ?_
  rintro e w' ⟨rfl, m, rfl⟩
  go_wp2_with fail
  refine (hS.out (n + m)).mono ?_
  rintro e w2 ⟨rfl, hR2, hE2⟩
  replace hRec := Lib.hid (hRec.out w2 hR2)
  have hr2 := hE2.blk (k := w.heap.size) hr1 hlow.out
  have hE2' := ((RE.of_below (rb := c.rb) hb1).trans (RE.drewN w1 (n + m))).trans hE2
  replace hr2 := Lib.hid hr2
  replace hE2' := Lib.hid hE2'
  clear hE2 hr1 hR2 hS hS0 hAt hb1
  go_wp2_with fail
  refine hRec.out.mono ?_
  rintro e w3 hP
  cases q with
  | bad p =>
    obtain ⟨rfl, hE3⟩ := hP
    exact ⟨rfl, rfl, hE2'.out.trans hE3⟩
  | ok x j =>
    obtain ⟨v, rfl, ⟨ex, rfl, hx, rfl⟩, hR3, hE3⟩ := hP
    have hr3 := hE3.blk hr2.out hlow.out
    have hs2 := cells_lt hr2.out
    have hs3 : w.heap.size < w3.heap.size := Nat.lt_of_lt_of_le hs2 hE3.size
    have hx' : Ex.In w3 (fun b => w.heap.size < b) ex := Ex.In.mono (fun b hb => Nat.lt_of_lt_of_le hs2 hb) _ hx
    have hf : Hid (∀ a b cc d e : Value, _) := Lib.hid fun a b cc d e => one_end (i := i) (w := w) (w3 := w3) (j := j) 6 ⟨#[]⟩ (by decide) (by unfold U8; decide) pos hp.out ex h.out hs3 (hE2'.out.trans hE3) hR3 hx' (Stored.mk5 _ hr3 a b cc d e).1
    have hm := Lib.hid fun (o : Obj) (a b cc d e : Value) => (Stored.mk5 o hr3 a b cc d e).2
    obtain ⟨k1, n1, v1, a1, c1, q1, p1⟩ := ex
    have hB : (⟨(Ex.mk k1 n1 v1 a1 c1 q1 p1).vals⟩ : Array Value) = #[.int .u8 k1, .string n1, .int .i64 v1, .slice a1 q1.length c1, .int .i64 p1] := rfl
    rw [hB]
    have g0 : w3.cell? ⟨w.heap.size, 0, none⟩ = some (.int .u8 0) := blk_cell hr3 rfl
    have g1 : w3.cell? ⟨w.heap.size, 1, none⟩ = some (.string ⟨#[]⟩) := blk_cell hr3 rfl
    have g2 : w3.cell? ⟨w.heap.size, 2, none⟩ = some (.int .i64 0) := blk_cell hr3 rfl
    have g3 : w3.cell? ⟨w.heap.size, 3, none⟩ = some (.slice none 0 0) := blk_cell hr3 rfl
    have g4 : w3.cell? ⟨w.heap.size, 4, none⟩ = some (.int .i64 0) := blk_cell hr3 rfl
    have f0 := blk_free hr3 0
    have f1 := blk_free hr3 1
    have f2 := blk_free hr3 2
    have f3 := blk_free hr3 3
    have f4 := blk_free hr3 4
    replace hr3 := Lib.hid hr3
    clear hx hx' hR3 hE3 hr2 hE2' hRec hB
    go_wp2_with fail
    exact bodyPost_ret (v := .agg #[.int .u8 6, .string ⟨#[]⟩, .int .i64 0, .slice (some ⟨w3.heap.size, 0, none⟩) 1 1, .int .i64 pos]) (results_cell_row Tryz.results180 _ _ w.heap.size _ _ _ _ rfl (hm.out _ _ _ _ _ _) Tryz.underlying62 rfl (by kernel_rfl)) rfl ⟨_, rfl, hf.out _ _ _ _ _⟩
/-- one own block stored -/
structure Stored0 (g : Nat) (A B : World) : Prop where
  os : B.os = A.os
  tape : B.tape = A.tape
  output : B.output = A.output
  size : B.heap.size = A.heap.size
  same : ∀ k, k ≠ g → B.heap[k]? = A.heap[k]?
theorem Stored0.mk5 {A : World} {g : Nat} {a0 b0 c0 d0 e0 : Value} {T : TypeId} {fr : Nat × Nat} (h : A.heap[g]? = some (.cells #[a0, b0, c0, d0, e0] T fr)) (a b c d e : Value) :
    Stored0 g A (((((A.setCell ⟨g, 0, none⟩ a).setCell ⟨g, 1, none⟩ b).setCell ⟨g, 2, none⟩ c).setCell ⟨g, 3, none⟩ d).setCell ⟨g, 4, none⟩ e) ∧ (((((A.setCell ⟨g, 0, none⟩ a).setCell ⟨g, 1, none⟩ b).setCell ⟨g, 2, none⟩ c).setCell ⟨g, 3, none⟩ d).setCell ⟨g, 4, none⟩ e).heap[g]? = some (.cells #[a, b, c, d, e] T fr) := by
  have hb : Below g A (((((A.setCell ⟨g, 0, none⟩ a).setCell ⟨g, 1, none⟩ b).setCell ⟨g, 2, none⟩ c).setCell ⟨g, 3, none⟩ d).setCell ⟨g, 4, none⟩ e) := set5_below (Below.refl _ _) (Nat.le_refl _) a b c d e
  exact ⟨⟨hb.os, hb.tape, hb.output, set5_size A g a b c d e, fun k hk => set5_keep A g a b c d e k hk⟩, set5 h a b c d e⟩
theorem none_end {c : Rc} {i j : Nat} {w w3 W : World} (x : Ex) (hw : Rd c i w) (he : RE c.rb w w3) (hR : Rd c j w3)
    (hx : Ex.In w3 (fun b => w.heap.size < b) x) (hs : Stored0 w.heap.size w3 W) :
    VX (fun b => w.heap.size ≤ b) (ea x) (.agg ⟨x.vals⟩) W ∧ Rd c j W ∧ RE c.rb w W := by
  have hl : Low c w.heap.size := hw.low
  have hkp : Kps (fun b => w.heap.size < b) w3 W := fun bb o v hbb hc =>
    (World.cell?_of_block (w := w3) (a := ⟨bb, o, none⟩) (hs.same bb (Nat.ne_of_gt hbb))).trans hc
  refine ⟨⟨_, rfl, Ex.In.mono (fun b hb => Nat.le_of_lt hb) _ (Ex.In.below hkp _ hx), rfl⟩, hR.keep hl ⟨hs.os, hs.tape, hs.output, Nat.le_of_eq hs.size.symm, fun k hk => hs.same k (Nat.ne_of_lt hk)⟩, ?_⟩
  exact ⟨hs.os.trans he.os, hs.tape.trans he.tape, hs.output.trans he.output, Nat.le_trans he.size (Nat.le_of_eq hs.size.symm), fun k hk hn => (hs.same k (Nat.ne_of_lt hk)).trans (he.block k hk hn)⟩

set_option maxHeartbeats 4000000 in
set_option maxRecDepth 100000 in
theorem unary_atom (f : Nat) (hA : ContA f) (c : Rc) (i : Nat) (t : Tk) (w : World) (h : Rd c i w) (ht : c.l[i]? = some t) (h1 : ¬ t.txt = ⟨#[45]⟩) (h2 : ¬ t.txt = ⟨#[33]⟩) (q : Res Ex) (hq : atomP c.l f i = some q) :
    Calls Tryz.prog 180 #[.pointer (some ⟨c.rb, 0, none⟩)] w (Post c (VX (fun b => w.heap.size ≤ b)) w q) := by
  have hS0 : Hid (∀ W n, Below w.heap.size w W → Calls Tryz.prog 144 #[.pointer (some ⟨c.rb, 0, none⟩), .string ⟨#[45]⟩] (W.drewN n) fun e w' => e = .returned (.bool false) ∧ ∃ m, w' = (W.drewN n).drewN m) := Lib.hid fun W n hb => passes_no c i t _ (W.drewN n) ((h.ext hb).drewN n) ht h1
  have hS1 : Hid (∀ W n, Below w.heap.size w W → Calls Tryz.prog 144 #[.pointer (some ⟨c.rb, 0, none⟩), .string ⟨#[33]⟩] (W.drewN n) fun e w' => e = .returned (.bool false) ∧ ∃ k, w' = (W.drewN n).drewN k) := Lib.hid fun W n hb => passes_no c i t _ (W.drewN n) ((h.ext hb).drewN n) ht h2
  have hAt : Hid (∀ W, Below w.heap.size w W → Calls Tryz.prog 152 #[.pointer (some ⟨c.rb, 0, none⟩)] W fun e w' => e = .returned (.int .i64 t.pos) ∧ ∃ n, w' = W.drewN n) := Lib.hid fun W hb => at_any c i t W (h.ext hb) ht
  have hRec : Hid (∀ W n, Below w.heap.size w W → Calls Tryz.prog 189 #[.pointer (some ⟨c.rb, 0, none⟩)] (W.drewN n) (Post c (VX (fun b => W.heap.size ≤ b)) (W.drewN n) q)) := Lib.hid fun W n hb => hA c i (W.drewN n) q ((h.ext hb).drewN n) hq
  have h := Lib.hid h
  have hlow : Hid (w.heap.size ≠ c.rb) := Lib.hid (fun e => by have := h.out.low.rb; omega)
  clear h1 h2 ht hA hq
  obtain ⟨tk, txt, pos⟩ := t
  simp only at hAt
  go_enter Tryz.func180, Tryz.ntmps180
  go_wp2_with fail
  obtain ⟨w1, hw1⟩ : ∃ W, w.alloc (.cells #[.int .u8 0, .string ⟨#[]⟩, .int .i64 0, .slice none 0 0, .int .i64 0] 62) = W := ⟨_, rfl⟩
  have hb1 : Below w.heap.size w w1 := by rw [← hw1]; exact (Below.refl _ _).alloc (Nat.le_refl _) _
  have hr1 : w1.heap[w.heap.size]? = some (.cells #[.int .u8 0, .string ⟨#[]⟩, .int .i64 0, .slice none 0 0, .int .i64 0] 62 (0, 0)) := by rw [← hw1]; exact World.alloc_heap_new w _
  rw [hw1]
  clear hw1
  refine (hAt.out w1 hb1).mono ?_
  rintro e w' ⟨rfl, n, rfl⟩
  replace hS0 := Lib.hid (hS0.out w1 n hb1)
  replace hS1 := Lib.hid fun n => hS1.out w1 n hb1
  replace hRec := Lib.hid fun n => hRec.out w1 n hb1
  go_wp2_with fail
  refine hS0.out.mono ?_
  rintro e w' ⟨rfl, m, rfl⟩
  go_wp2_with fail
  refine (hS1.out (n + m)).mono ?_
  rintro e w' ⟨rfl, k, rfl⟩
  have hE2' := Lib.hid ((RE.of_below (rb := c.rb) hb1).trans (RE.drewN w1 (n + m + k)))
  replace hr1 := Lib.hid hr1
  clear hS0 hS1 hAt hb1
  go_wp2_with fail
  refine (hRec.out (n + m + k)).mono ?_
  rintro e w3 hP
  cases q with
  | bad p =>
    obtain ⟨rfl, hE3⟩ := hP
    exact ⟨rfl, rfl, hE2'.out.trans hE3⟩
  | ok x j =>
    obtain ⟨v, rfl, ⟨ex, rfl, hx, rfl⟩, hR3, hE3⟩ := hP
    have hr3 := hE3.blk (k := w.heap.size) hr1.out hlow.out
    have hs2 := cells_lt hr1.out
    have hx' : Ex.In w3 (fun b => w.heap.size < b) ex := Ex.In.mono (fun b hb => Nat.lt_of_lt_of_le hs2 hb) _ hx
    have hf : Hid (∀ a b cc d e : Value, _) := Lib.hid fun a b cc d e => none_end (i := i) (w := w) (w3 := w3) (j := j) ex h.out (hE2'.out.trans hE3) hR3 hx' (Stored0.mk5 hr3 a b cc d e).1
    have hm := Lib.hid fun (a b cc d e : Value) => (Stored0.mk5 hr3 a b cc d e).2
    obtain ⟨k1, n1, v1, a1, c1, q1, p1⟩ := ex
    have hB : (⟨(Ex.mk k1 n1 v1 a1 c1 q1 p1).vals⟩ : Array Value) = #[.int .u8 k1, .string n1, .int .i64 v1, .slice a1 q1.length c1, .int .i64 p1] := rfl
    rw [hB]
    have g0 : w3.cell? ⟨w.heap.size, 0, none⟩ = some (.int .u8 0) := blk_cell hr3 rfl
    have g1 : w3.cell? ⟨w.heap.size, 1, none⟩ = some (.string ⟨#[]⟩) := blk_cell hr3 rfl
    have g2 : w3.cell? ⟨w.heap.size, 2, none⟩ = some (.int .i64 0) := blk_cell hr3 rfl
    have g3 : w3.cell? ⟨w.heap.size, 3, none⟩ = some (.slice none 0 0) := blk_cell hr3 rfl
    have g4 : w3.cell? ⟨w.heap.size, 4, none⟩ = some (.int .i64 0) := blk_cell hr3 rfl
    have f0 := blk_free hr3 0
    have f1 := blk_free hr3 1
    have f2 := blk_free hr3 2
    have f3 := blk_free hr3 3
    have f4 := blk_free hr3 4
    clear hx hx' hR3 hE3 hr1 hr3 hE2' hRec hB
    go_wp2_with fail
    exact bodyPost_ret (v := .agg #[.int .u8 k1, .string n1, .int .i64 v1, .slice a1 q1.length c1, .int .i64 p1]) (results_cell_row Tryz.results180 _ _ w.heap.size _ _ _ _ rfl (hm.out _ _ _ _ _) Tryz.underlying62 rfl (by kernel_rfl)) rfl ⟨_, rfl, hf.out _ _ _ _ _⟩

theorem unary_step (f : Nat) (hU : ContU f) (hA : ContA f) : ContU (f + 1) := by
  intro c i w r h hr
  obtain ⟨t, ht⟩ : ∃ t, c.l[i]? = some t := ⟨_, List.getElem?_eq_getElem h.lt⟩
  unfold unaryP at hr
  rw [tx_of ht, ps_of ht] at hr
  by_cases h1 : t.txt = ⟨#[45]⟩
  · rw [if_pos h1] at hr
    cases hq : unaryP c.l f (i + 1) with
    | none => rw [hq] at hr; cases hr
    | some q =>
      have := unary_neg f hU c i t w h ht h1 q hq
      rw [hq] at hr
      cases q <;> cases hr <;> exact this
  · rw [if_neg h1] at hr
    by_cases h2 : t.txt = ⟨#[33]⟩
    · rw [if_pos h2] at hr
      cases hq : unaryP c.l f (i + 1) with
      | none => rw [hq] at hr; cases hr
      | some q =>
        have := unary_not f hU c i t w h ht h2 q hq
        rw [hq] at hr
        cases q <;> cases hr <;> exact this
    · rw [if_neg h2] at hr
      exact unary_atom f hA c i t w h ht h1 h2 r hr
theorem unary_zero : ContU 0 := by
  intro c i w r _ hr
  unfold unaryP at hr
  cases hr
end Go.Proofs.YtpcdlneompnhlaaGreatDoor.Pa
