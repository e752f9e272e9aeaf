/- Walk of fields, to the end of the table. Conditions: the packages' tables hold their lists. -/
import Derived.Test.YtiicjbnocpphdaaDoorCnH0

set_option linter.unusedSimpArgs false
set_option linter.unusedVariables false
namespace Go.Proofs.YtiicjbnocpphdaaDoor.Cd
open Go Go.RowKit
open Go.Proofs.YtiicjbnocpphdaaDoor.Lx Go.Proofs.YtiicjbnocpphdaaDoor.Tr
open Go.Proofs.YtiicjbnocpphdaaDoor.Vq Go.Proofs.YtiicjbnocpphdaaDoor.Qr
open Go.Proofs.YtiicjbnocpphdaaDoor.Qg (run_call1 run_call2 run_call3)

def RN (i : Ins) (v : Value) (w : World) : Prop := ∃ a cap, v = .slice a (rdP i).length cap ∧ RowAt w (fun _ => True) a cap (rdP i).length (numCells (rdP i))
theorem RN.mono {i : Ins} : Mono (RN i) := fun _ _ _ hb ⟨a, c, h1, h2⟩ => ⟨a, c, h1, h2.below (Kps.of_below hb)⟩
def rf11 (bx : Nat) (x : FRow) : List (Value → World → Prop) := [VK (.pointer (some ⟨bx, 0, none⟩)),
  VK (.agg ⟨x.i.vals⟩),
  RN x.i,
  VK (.pointer (some ⟨bx, 6, none⟩)),
  VK (.slice x.ra x.reads.length x.rc),
  VK (.bool true),
  VK (.bool false),
  VK (.bool false),
  VK (.bool true),
  VK (.pointer (some ⟨bx, 7, none⟩)),
  VK (.int .i64 x.w),
  VK (.bool true),
  VK (.bool false),
  VK (.bool false),
  VK (.bool false),
  VK (.bool true),
  VK (.bool true),
  VK (.int .i64 (wrP x.i).1),
  VK (.pointer (some ⟨bx, 7, none⟩)),
  VK (.int .i64 x.w),
  VK (.bool false),
  VK (.bool false),
  VK (.bool false),
  VK (.bool false),
  VK (.bool true),
  VK (.bool false),
  VK (.bool false),
  VK undef,
  VK undef,
  VK (.bool false),
  VK (.bool false),
  VK (.bool false),
  VK (.bool true),
  VK (.pointer (some ⟨bx, 8, none⟩)),
  VK (.int .i64 x.goal),
  VK (.bool true),
  VK (.bool false),
  VK (.bool false),
  VK (.bool false),
  VK (.bool true),
  VK (.bool true),
  VK (.int .i64 (glP x.i).1),
  VK (.pointer (some ⟨bx, 8, none⟩)),
  VK (.int .i64 x.goal),
  VK (.bool false),
  VK (.bool false),
  VK (.bool false),
  VK (.bool false),
  VK (.bool true),
  VK (.bool false),
  VK (.bool false),
  VK undef,
  VK undef,
  VK (.bool false),
  VK (.bool false)]
theorem rf11_mono {bx : Nat} {x : FRow} : MonoL (rf11 bx x) := ⟨VK.mono, VK.mono, RN.mono, VK.mono, VK.mono, VK.mono, VK.mono, VK.mono, VK.mono, VK.mono, VK.mono, VK.mono, VK.mono, VK.mono, VK.mono, VK.mono, VK.mono, VK.mono, VK.mono, VK.mono, VK.mono, VK.mono, VK.mono, VK.mono, VK.mono, VK.mono, VK.mono, VK.mono, VK.mono, VK.mono, VK.mono, VK.mono, VK.mono, VK.mono, VK.mono, VK.mono, VK.mono, VK.mono, VK.mono, VK.mono, VK.mono, VK.mono, VK.mono, VK.mono, VK.mono, VK.mono, VK.mono, VK.mono, VK.mono, VK.mono, VK.mono, VK.mono, VK.mono, VK.mono, VK.mono, trivial⟩
def rf10 (bx : Nat) (x : FRow) : List (Value → World → Prop) := [VK (.pointer (some ⟨bx, 0, none⟩)),
  VK (.agg ⟨x.i.vals⟩),
  RN x.i,
  VK (.pointer (some ⟨bx, 6, none⟩)),
  VK (.slice x.ra x.reads.length x.rc),
  VK (.bool true),
  VK (.bool false),
  VK (.bool false),
  VK (.bool true),
  VK (.pointer (some ⟨bx, 7, none⟩)),
  VK (.int .i64 x.w),
  VK (.bool true),
  VK (.bool false),
  VK (.bool false),
  VK (.bool false),
  VK (.bool true),
  VK (.bool true),
  VK (.int .i64 (wrP x.i).1),
  VK (.pointer (some ⟨bx, 7, none⟩)),
  VK (.int .i64 x.w),
  VK (.bool false),
  VK (.bool false),
  VK (.bool false),
  VK (.bool false),
  VK (.bool true),
  VK (.bool false),
  VK (.bool false),
  VK undef,
  VK undef,
  VK (.bool false),
  VK (.bool false),
  VK (.bool false),
  VK (.bool false),
  VK (.pointer (some ⟨bx, 8, none⟩)),
  VK (.int .i64 x.goal),
  VK (.bool false),
  VK (.bool false),
  VK (.bool false),
  VK (.bool false),
  VK (.bool false),
  VK (.bool false),
  VK undef,
  VK undef,
  VK undef,
  VK undef,
  VK (.bool false),
  VK (.bool false),
  VK (.bool false),
  VK (.bool false),
  VK (.bool true),
  VK (.bool true),
  VK (.int .i64 (glP x.i).1),
  VK (.bool false),
  VK (.bool false),
  VK (.bool false)]
theorem rf10_mono {bx : Nat} {x : FRow} : MonoL (rf10 bx x) := ⟨VK.mono, VK.mono, RN.mono, VK.mono, VK.mono, VK.mono, VK.mono, VK.mono, VK.mono, VK.mono, VK.mono, VK.mono, VK.mono, VK.mono, VK.mono, VK.mono, VK.mono, VK.mono, VK.mono, VK.mono, VK.mono, VK.mono, VK.mono, VK.mono, VK.mono, VK.mono, VK.mono, VK.mono, VK.mono, VK.mono, VK.mono, VK.mono, VK.mono, VK.mono, VK.mono, VK.mono, VK.mono, VK.mono, VK.mono, VK.mono, VK.mono, VK.mono, VK.mono, VK.mono, VK.mono, VK.mono, VK.mono, VK.mono, VK.mono, VK.mono, VK.mono, VK.mono, VK.mono, VK.mono, VK.mono, trivial⟩
def rf01 (bx : Nat) (x : FRow) : List (Value → World → Prop) := [VK (.pointer (some ⟨bx, 0, none⟩)),
  VK (.agg ⟨x.i.vals⟩),
  RN x.i,
  VK (.pointer (some ⟨bx, 6, none⟩)),
  VK (.slice x.ra x.reads.length x.rc),
  VK (.bool true),
  VK (.bool false),
  VK (.bool false),
  VK (.bool false),
  VK (.pointer (some ⟨bx, 7, none⟩)),
  VK (.int .i64 x.w),
  VK (.bool false),
  VK (.bool false),
  VK (.bool false),
  VK (.bool false),
  VK (.bool false),
  VK (.bool false),
  VK undef,
  VK undef,
  VK undef,
  VK undef,
  VK (.bool false),
  VK (.bool false),
  VK (.bool false),
  VK (.bool false),
  VK (.bool true),
  VK (.bool true),
  VK (.int .i64 (wrP x.i).1),
  VK (.bool false),
  VK (.bool false),
  VK (.bool false),
  VK (.bool false),
  VK (.bool true),
  VK (.pointer (some ⟨bx, 8, none⟩)),
  VK (.int .i64 x.goal),
  VK (.bool true),
  VK (.bool false),
  VK (.bool false),
  VK (.bool false),
  VK (.bool true),
  VK (.bool true),
  VK (.int .i64 (glP x.i).1),
  VK (.pointer (some ⟨bx, 8, none⟩)),
  VK (.int .i64 x.goal),
  VK (.bool false),
  VK (.bool false),
  VK (.bool false),
  VK (.bool false),
  VK (.bool true),
  VK (.bool false),
  VK (.bool false),
  VK undef,
  VK undef,
  VK (.bool false),
  VK (.bool false)]
theorem rf01_mono {bx : Nat} {x : FRow} : MonoL (rf01 bx x) := ⟨VK.mono, VK.mono, RN.mono, VK.mono, VK.mono, VK.mono, VK.mono, VK.mono, VK.mono, VK.mono, VK.mono, VK.mono, VK.mono, VK.mono, VK.mono, VK.mono, VK.mono, VK.mono, VK.mono, VK.mono, VK.mono, VK.mono, VK.mono, VK.mono, VK.mono, VK.mono, VK.mono, VK.mono, VK.mono, VK.mono, VK.mono, VK.mono, VK.mono, VK.mono, VK.mono, VK.mono, VK.mono, VK.mono, VK.mono, VK.mono, VK.mono, VK.mono, VK.mono, VK.mono, VK.mono, VK.mono, VK.mono, VK.mono, VK.mono, VK.mono, VK.mono, VK.mono, VK.mono, VK.mono, VK.mono, trivial⟩
def rf00 (bx : Nat) (x : FRow) : List (Value → World → Prop) := [VK (.pointer (some ⟨bx, 0, none⟩)),
  VK (.agg ⟨x.i.vals⟩),
  RN x.i,
  VK (.pointer (some ⟨bx, 6, none⟩)),
  VK (.slice x.ra x.reads.length x.rc),
  VK (.bool true),
  VK (.bool false),
  VK (.bool false),
  VK (.bool false),
  VK (.pointer (some ⟨bx, 7, none⟩)),
  VK (.int .i64 x.w),
  VK (.bool false),
  VK (.bool false),
  VK (.bool false),
  VK (.bool false),
  VK (.bool false),
  VK (.bool false),
  VK undef,
  VK undef,
  VK undef,
  VK undef,
  VK (.bool false),
  VK (.bool false),
  VK (.bool false),
  VK (.bool false),
  VK (.bool true),
  VK (.bool true),
  VK (.int .i64 (wrP x.i).1),
  VK (.bool false),
  VK (.bool false),
  VK (.bool false),
  VK (.bool false),
  VK (.bool false),
  VK (.pointer (some ⟨bx, 8, none⟩)),
  VK (.int .i64 x.goal),
  VK (.bool false),
  VK (.bool false),
  VK (.bool false),
  VK (.bool false),
  VK (.bool false),
  VK (.bool false),
  VK undef,
  VK undef,
  VK undef,
  VK undef,
  VK (.bool false),
  VK (.bool false),
  VK (.bool false),
  VK (.bool false),
  VK (.bool true),
  VK (.bool true),
  VK (.int .i64 (glP x.i).1),
  VK (.bool false),
  VK (.bool false),
  VK (.bool false)]
theorem rf00_mono {bx : Nat} {x : FRow} : MonoL (rf00 bx x) := ⟨VK.mono, VK.mono, RN.mono, VK.mono, VK.mono, VK.mono, VK.mono, VK.mono, VK.mono, VK.mono, VK.mono, VK.mono, VK.mono, VK.mono, VK.mono, VK.mono, VK.mono, VK.mono, VK.mono, VK.mono, VK.mono, VK.mono, VK.mono, VK.mono, VK.mono, VK.mono, VK.mono, VK.mono, VK.mono, VK.mono, VK.mono, VK.mono, VK.mono, VK.mono, VK.mono, VK.mono, VK.mono, VK.mono, VK.mono, VK.mono, VK.mono, VK.mono, VK.mono, VK.mono, VK.mono, VK.mono, VK.mono, VK.mono, VK.mono, VK.mono, VK.mono, VK.mono, VK.mono, VK.mono, VK.mono, trivial⟩
theorem fl_f0 {V : World} {b : Nat} : (Instr.fieldAt 60 (.pointer (some ⟨b, 0, none⟩)) 0).run Tryd.prog V = .ok (.pointer (some ⟨b, 0, none⟩)) V := by go_simp
theorem fl_f1 {V : World} {b : Nat} : (Instr.fieldAt 60 (.pointer (some ⟨b, 0, none⟩)) 1).run Tryd.prog V = .ok (.pointer (some ⟨b, 6, none⟩)) V := by go_simp
theorem fl_f2 {V : World} {b : Nat} : (Instr.fieldAt 60 (.pointer (some ⟨b, 0, none⟩)) 2).run Tryd.prog V = .ok (.pointer (some ⟨b, 7, none⟩)) V := by go_simp
theorem fl_f3 {V : World} {b : Nat} : (Instr.fieldAt 60 (.pointer (some ⟨b, 0, none⟩)) 3).run Tryd.prog V = .ok (.pointer (some ⟨b, 8, none⟩)) V := by go_simp
theorem ld_ns {V : World} {b o : Nat} {a : Option Addr} {n c : Nat} (h : V.cell? ⟨b, o, none⟩ = some (.slice a n c)) : (Instr.loadAt 29 (.pointer (some ⟨b, o, none⟩))).run Tryd.prog V = .ok (.slice a n c) V := by go_simp
theorem ld_i {V : World} {b o : Nat} {v : Int} (h : V.cell? ⟨b, o, none⟩ = some (.int .i64 v)) : (Instr.loadAt 3 (.pointer (some ⟨b, o, none⟩))).run Tryd.prog V = .ok (.int .i64 v) V := by go_simp
theorem load_in0 {i : Ins} {W : World} {b : Nat} (h : W.cell? ⟨b, 0, none⟩ = some (.int .u8 i.op) ∧ W.cell? ⟨b, 1, none⟩ = some (.int .i64 i.r) ∧ W.cell? ⟨b, 2, none⟩ = some (.int .i64 i.a) ∧ W.cell? ⟨b, 3, none⟩ = some (.int .i64 i.b) ∧ W.cell? ⟨b, 4, none⟩ = some (.int .i64 i.n) ∧ W.cell? ⟨b, 5, none⟩ = some (.slice i.aa i.args.length i.acap)) : (Instr.loadAt 31 (.pointer (some ⟨b, 0, none⟩))).run Tryd.prog W = .ok (.agg ⟨i.vals⟩) W := by
  obtain ⟨h0, h1, h2, h3, h4, h5⟩ := h
  simp [go_sem, h0, h1, h2, h3, h4, h5, Ins.vals]
theorem run_nei {a : Act} {o : Oper} {t t2 : TypeId} {x y : Operand} {n m : Int} {w : World} (ht : Tryd.prog.underlying t = some (.int .i64)) (ho : o.op = .binOp .neq t x y t2) (hx : a.eval x = .int .i64 n) (hy : a.eval y = .int .i64 m) (he : n = m) : (execOp a.eval o).run Tryd.prog w = .ok (.value (.bool false)) w := by
  subst he
  unfold execOp
  rw [ho]
  simp only [hx, hy]
  simp [go_sem, ht]
def insA (A : Nat) : Ins := ⟨10, 1, 2, 3, 4, some ⟨A, 0, none⟩, 1, [5]⟩
def e0P : Pg := ⟨none, 0, [], none, 0, [], none, 0, []⟩
theorem e0_In (W : World) : Pg.In W (fun _ => True) e0P := ⟨row_none _ _, fun x hx => (by cases hx), row_none _ _, fun x hx => (by cases hx), row_none _ _, fun x hx => (by cases hx)⟩
theorem load_a {A b : Nat} {W : World} (h : W.cell? ⟨b, 0, none⟩ = some (.int .u8 10) ∧ W.cell? ⟨b, 1, none⟩ = some (.int .i64 1) ∧ W.cell? ⟨b, 2, none⟩ = some (.int .i64 2) ∧ W.cell? ⟨b, 3, none⟩ = some (.int .i64 3) ∧ W.cell? ⟨b, 4, none⟩ = some (.int .i64 4) ∧ W.cell? ⟨b, 5, none⟩ = some (.slice (some ⟨A, 0, none⟩) 1 1)) : (Instr.loadAt 31 (.pointer (some ⟨b, 0, none⟩))).run Tryd.prog W = .ok (.agg ⟨(insA A).vals⟩) W := by
  obtain ⟨h0, h1, h2, h3, h4, h5⟩ := h
  simp [go_sem, h0, h1, h2, h3, h4, h5, Ins.vals, insA]
def rs31 (A : Nat) (p q : Pg) : List (Value → World → Prop) := [VK (.agg ⟨(insA A).vals⟩), VK (.agg ⟨(insA A).vals⟩), VK (.bool true), VK (.bool true), VK p.val, VK p.val, VK (.bool true), VK (.bool true), VK (.bool true), VK p.val, VK q.val, VK (.bool false), VK (.bool true), VK (.bool true), VK (.bool true), VK p.val, VK e0P.val, VK (.bool false), VK (.bool true), VK (.bool true), VK (.bool true), VK p.val, VNs [0], VNs [0], VK (.bool true), VK (.bool true), VK (.bool true)]
theorem rs31_mono {A : Nat} {p q : Pg} : MonoL (rs31 A p q) := ⟨VK.mono, VK.mono, VK.mono, VK.mono, VK.mono, VK.mono, VK.mono, VK.mono, VK.mono, VK.mono, VK.mono, VK.mono, VK.mono, VK.mono, VK.mono, VK.mono, VK.mono, VK.mono, VK.mono, VK.mono, VK.mono, VK.mono, VNs.mono, VNs.mono, VK.mono, VK.mono, VK.mono, trivial⟩
def bk2 : Ins := ⟨13, 0, 1, 0, 0, none, 0, []⟩
theorem bk2_In (W : World) (S : Nat → Prop) : Ins.In W S bk2 := ⟨⟨by decide, by decide⟩, i64_of (by decide) (by decide), i64_of (by decide) (by decide), i64_of (by decide) (by decide), i64_of (by decide) (by decide), row_none _ _, fun x hx => by cases hx⟩
theorem f_cells {W : World} {bx : Nat} {x : FRow} (h : ∀ j u, (fVals x)[j]? = some u → W.cell? ⟨bx, j, none⟩ = some u) : (W.cell? ⟨bx, 0, none⟩ = some (.int .u8 x.i.op) ∧ W.cell? ⟨bx, 1, none⟩ = some (.int .i64 x.i.r) ∧ W.cell? ⟨bx, 2, none⟩ = some (.int .i64 x.i.a) ∧ W.cell? ⟨bx, 3, none⟩ = some (.int .i64 x.i.b) ∧ W.cell? ⟨bx, 4, none⟩ = some (.int .i64 x.i.n) ∧ W.cell? ⟨bx, 5, none⟩ = some (.slice x.i.aa x.i.args.length x.i.acap)) ∧ W.cell? ⟨bx, 6, none⟩ = some (.slice x.ra x.reads.length x.rc) ∧ W.cell? ⟨bx, 7, none⟩ = some (.int .i64 x.w) ∧ W.cell? ⟨bx, 8, none⟩ = some (.int .i64 x.goal) :=
  ⟨⟨h 0 _ rfl, h 1 _ rfl, h 2 _ rfl, h 3 _ rfl, h 4 _ rfl, h 5 _ rfl⟩, h 6 _ rfl, h 7 _ rfl, h 8 _ rfl⟩
theorem f_facts {x : FRow} (h : fOk x = true) : x.reads.length ≤ 8 ∧ rdP x.i = x.reads ∧ decide (0 ≤ x.w) = (wrP x.i).2 ∧ ((wrP x.i).2 = true → (wrP x.i).1 = x.w) ∧ ((wrP x.i).2 = false → (wrP x.i).1 = 0) ∧ decide (0 ≤ x.goal) = (glP x.i).2 ∧ ((glP x.i).2 = true → (glP x.i).1 = x.goal) ∧ ((glP x.i).2 = false → (glP x.i).1 = 0) := by
  unfold fOk at h
  simp only [Bool.and_eq_true, beq_iff_eq, Bool.or_eq_true, Bool.not_eq_true', decide_eq_true_eq] at h
  obtain ⟨h0, h1, h2, h3, h4, h5, h6, h7⟩ := h
  refine ⟨h0, h1, h2.symm, fun e => ?_, fun e => ?_, h5.symm, fun e => ?_, fun e => ?_⟩
  · rcases h3 with h | h
    · rw [e] at h; cases h
    · exact h
  · rcases h4 with h | h
    · rw [e] at h; cases h
    · exact h
  · rcases h6 with h | h
    · rw [e] at h; cases h
    · exact h
  · rcases h7 with h | h
    · rw [e] at h; cases h
    · exact h
set_option maxHeartbeats 16000000 in
set_option maxRecDepth 100000 in
theorem fields_c (w : World) (hT : OpTab w) (hsg : SignsIn w) :
    Calls Tryd.prog 11 #[] w fun e w' => e = .returned (.bool true) ∧ Below w.heap.size w w' := by
  replace hT := Lib.hid hT
  clear hsg
  go_enter Tryd.func11, Tryd.ntmps11
  go_wp2_with fail
  generalize hW3 : World.alloc _ (Obj.cells _ 60 _) = W3
  obtain ⟨g0, g1, g2, g3, g4, g5, g6, g7, g8, g9, g10, hb3⟩ := many_new _ _ _ _ _ _ _ _ _ _ _ _ _ hW3
  have hgt : W3.heap[w.heap.size + 1 + 1 + 1 + 1 + 1 + 1 + 1 + 1 + 1 + 1]? = some (.cells ⟨(fT w.heap.size).flatMap fVals⟩ 60 (0, 0)) := g10.trans (by kernel_rfl)
  clear hW3 g10
  have hV3 : Hid (∀ V, Below W3.heap.size W3 V → (∀ x ∈ fT w.heap.size, Ins.In V (fun _ => True) x.i ∧ RowAt V (fun _ => True) x.ra x.rc x.reads.length (numCells x.reads)) ∧ V.heap[w.heap.size + 1 + 1 + 1 + 1 + 1 + 1 + 1 + 1 + 1 + 1]? = some (.cells ⟨(fT w.heap.size).flatMap fVals⟩ 60 (0, 0)) ∧ OpTab V ∧ Below w.heap.size w V) := Lib.hid fun V hV => by
    have hk : ∀ b o, W3.heap[b]? = some o → V.heap[b]? = some o := fun b o h => (hV.block _ (Array.getElem?_eq_some_iff.1 h).1).trans h
    have h1 := hb3.trans (hV.mono hb3.size)
    exact ⟨f_In w.heap.size V (hk _ _ g0) (hk _ _ g1) (hk _ _ g2) (hk _ _ g3) (hk _ _ g4) (hk _ _ g5) (hk _ _ g6) (hk _ _ g7) (hk _ _ g8) (hk _ _ g9), hk _ _ hgt, hT.out.keep h1, h1⟩
  have hall' : Hid (∀ x ∈ fT w.heap.size, fOk x = true) := Lib.hid fun x hx => List.all_eq_true.1 (f_all w.heap.size) x hx
  clear hb3 g0 g1 g2 g3 g4 g5 g6 g7 g8 g9 hgt hT
  go_loopw [56] (fun t V => ∃ k : Nat, k ≤ 16 ∧ t = .int .i64 k ∧ Hid (Below W3.heap.size W3 V)) (fun t _ => 16 - (intOf t).toNat)
  case atStart => exact ⟨0, by omega, rfl, Lib.hid (Below.refl _ _)⟩
  case round =>
    obtain ⟨k, hk, rfl, hb⟩ := hrel
    by_cases hkl : k < 16
    · obtain ⟨x, hx⟩ : ∃ x, (fT w.heap.size)[k]? = some x := ⟨_, List.getElem?_eq_getElem (by rw [f_len]; exact hkl)⟩
      obtain ⟨q1, q2, q3, q4⟩ := hV3.out _ hb.out
      have hxm := Lib.hid (List.mem_of_getElem? hx)
      obtain ⟨hsm, k1, k2, k3, k4, k5, k6, k7⟩ := f_facts (hall'.out x hxm.out)
      replace k1 := Lib.hid k1
      replace k2 := Lib.hid k2
      replace k3 := Lib.hid k3
      replace k4 := Lib.hid k4
      replace k5 := Lib.hid k5
      replace k6 := Lib.hid k6
      replace k7 := Lib.hid k7
      have hcl : ∀ j u, (fVals x)[j]? = some u → wr.cell? ⟨w.heap.size + 1 + 1 + 1 + 1 + 1 + 1 + 1 + 1 + 1 + 1, k * 9 + j, none⟩ = some u := fun j u hu => by
        refine cells_of q2 _ _ ?_
        have hj : j < 9 := by have := (List.getElem?_eq_some_iff.1 hu).1; rw [fVals_len] at this; exact this
        rw [flat_at fVals 9 fVals_len _ k j x hx hj]
        exact hu
      have c0 : wr.cell? ⟨w.heap.size + 1 + 1 + 1 + 1 + 1 + 1 + 1 + 1 + 1 + 1, k * 9, none⟩ = some (.int .u8 x.i.op) := hcl 0 _ rfl
      have c1 : wr.cell? ⟨w.heap.size + 1 + 1 + 1 + 1 + 1 + 1 + 1 + 1 + 1 + 1, k * 9 + 1, none⟩ = some (.int .i64 x.i.r) := hcl 1 _ rfl
      have c2 : wr.cell? ⟨w.heap.size + 1 + 1 + 1 + 1 + 1 + 1 + 1 + 1 + 1 + 1, k * 9 + 2, none⟩ = some (.int .i64 x.i.a) := hcl 2 _ rfl
      have c3 : wr.cell? ⟨w.heap.size + 1 + 1 + 1 + 1 + 1 + 1 + 1 + 1 + 1 + 1, k * 9 + 3, none⟩ = some (.int .i64 x.i.b) := hcl 3 _ rfl
      have c4 : wr.cell? ⟨w.heap.size + 1 + 1 + 1 + 1 + 1 + 1 + 1 + 1 + 1 + 1, k * 9 + 4, none⟩ = some (.int .i64 x.i.n) := hcl 4 _ rfl
      have c5 : wr.cell? ⟨w.heap.size + 1 + 1 + 1 + 1 + 1 + 1 + 1 + 1 + 1 + 1, k * 9 + 5, none⟩ = some (.slice x.i.aa x.i.args.length x.i.acap) := hcl 5 _ rfl
      have c6 : wr.cell? ⟨w.heap.size + 1 + 1 + 1 + 1 + 1 + 1 + 1 + 1 + 1 + 1, k * 9 + 6, none⟩ = some (.slice x.ra x.reads.length x.rc) := hcl 6 _ rfl
      have c7 : wr.cell? ⟨w.heap.size + 1 + 1 + 1 + 1 + 1 + 1 + 1 + 1 + 1 + 1, k * 9 + 7, none⟩ = some (.int .i64 x.w) := hcl 7 _ rfl
      have c8 : wr.cell? ⟨w.heap.size + 1 + 1 + 1 + 1 + 1 + 1 + 1 + 1 + 1 + 1, k * 9 + 8, none⟩ = some (.int .i64 x.goal) := hcl 8 _ rfl
      have hbx := f_cells (x := x) (box_new wr (fVals x) 60)
      have hal := b_alloc wr (.cells ⟨fVals x⟩ 60)
      simp only [fVals, Ins.vals, List.cons_append, List.nil_append] at hbx hal
      replace hbx := Lib.hid hbx
      have hbn0 := Lib.hid (hb.out.trans (hal.mono hb.out.size))
      have hk0 : (0 : Int) ≤ (k : Int) := by omega
      have hkl' : (k : Int) < 16 := by omega
      have hwr : Hid (∀ V, Below w.heap.size w V → Ins.In V (fun _ => True) x.i → OpTab V → (Calls Tryd.prog 31 #[x.i.val] V fun e V' => e = .returned (.tuple #[.int .i64 (wrP x.i).1, .bool (wrP x.i).2]) ∧ Below V.heap.size V V') ∧ (Calls Tryd.prog 23 #[x.i.val] V fun e V' => e = .returned (.tuple #[.int .i64 (glP x.i).1, .bool (glP x.i).2]) ∧ Below V.heap.size V V')) := Lib.hid fun V _ hI hT => ⟨writes_any x.i V hI.op hT, goal_any x.i V hI.op hT⟩
      unfold Ins.val at hwr
      clear q1 q2 q3 q4 hcl hal hx
      go_upto_region 4 with fail
      generalize hW4 : wr.alloc (.cells #[.int .u8 x.i.op, .int .i64 x.i.r, .int .i64 x.i.a, .int .i64 x.i.b, .int .i64 x.i.n, .slice x.i.aa x.i.args.length x.i.acap, .slice x.ra x.reads.length x.rc, .int .i64 x.w, .int .i64 x.goal] 60) = W4 at *
      clear hW4 c0 c1 c2 c3 c4 c5 c6 c7 c8
      generalize hBx : wr.heap.size = bx at *
      have h4a : Hid (∀ V, Below W4.heap.size W4 V → ((V.cell? ⟨bx, 0, none⟩ = some (.int .u8 x.i.op) ∧ V.cell? ⟨bx, 1, none⟩ = some (.int .i64 x.i.r) ∧ V.cell? ⟨bx, 2, none⟩ = some (.int .i64 x.i.a) ∧ V.cell? ⟨bx, 3, none⟩ = some (.int .i64 x.i.b) ∧ V.cell? ⟨bx, 4, none⟩ = some (.int .i64 x.i.n) ∧ V.cell? ⟨bx, 5, none⟩ = some (.slice x.i.aa x.i.args.length x.i.acap)) ∧ V.cell? ⟨bx, 6, none⟩ = some (.slice x.ra x.reads.length x.rc) ∧ V.cell? ⟨bx, 7, none⟩ = some (.int .i64 x.w) ∧ V.cell? ⟨bx, 8, none⟩ = some (.int .i64 x.goal)) ∧ Ins.In V (fun _ => True) x.i ∧ RowAt V (fun _ => True) x.ra x.rc x.reads.length (numCells x.reads) ∧ OpTab V ∧ Below w.heap.size w V) := Lib.hid fun V hV => by
        obtain ⟨q1, q2, q3, q4⟩ := hV3.out V (hbn0.out.trans (hV.mono hbn0.out.size))
        obtain ⟨⟨e0, e1, e2, e3, e4, e5⟩, e6, e7, e8⟩ := hbx.out
        exact ⟨⟨⟨below_in hV e0, below_in hV e1, below_in hV e2, below_in hV e3, below_in hV e4, below_in hV e5⟩, below_in hV e6, below_in hV e7, below_in hV e8⟩, (q1 x hxm.out).1, (q1 x hxm.out).2, q3, q4⟩
      obtain ⟨⟨⟨e0, e1, e2, e3, e4, e5⟩, e6, e7, e8⟩, i1, i2, i3, i4⟩ := h4a.out W4 (Below.refl _ _)
      have hcw := Lib.hid (hwr.out W4 i4 i1 i3).1
      clear e6 e7 e8 i1 i2 i3 i4
      go_upto_region 5 with (go_at_call 31; refine hcw.out.mono ?_; rintro e V1 ⟨rfl, hb5⟩)
      replace hb5 := Lib.hid hb5
      clear e0 e1 e2 e3 e4 e5 hcw
      obtain ⟨⟨⟨e0, e1, e2, e3, e4, e5⟩, e6, e7, e8⟩, i1, i2, i3, i4⟩ := h4a.out V1 hb5.out
      have hcg := Lib.hid (hwr.out V1 i4 i1 i3).2
      clear e6 e7 e8 i1 i2 i3 i4
      go_upto_region 6 with (go_at_call 23; refine hcg.out.mono ?_; rintro e V2 ⟨rfl, hb6⟩)
      clear e0 e1 e2 e3 e4 e5 hcg hwr
      have hbn0 := Lib.hid (hbn0.out.trans (hb5.out.mono hbn0.out.size))
      have hbn0 := Lib.hid (hbn0.out.trans (hb6.mono hbn0.out.size))
      have h4 : Hid (∀ V, Below V2.heap.size V2 V → (V.cell? ⟨bx, 0, none⟩ = some (.int .u8 x.i.op) ∧ V.cell? ⟨bx, 1, none⟩ = some (.int .i64 x.i.r) ∧ V.cell? ⟨bx, 2, none⟩ = some (.int .i64 x.i.a) ∧ V.cell? ⟨bx, 3, none⟩ = some (.int .i64 x.i.b) ∧ V.cell? ⟨bx, 4, none⟩ = some (.int .i64 x.i.n) ∧ V.cell? ⟨bx, 5, none⟩ = some (.slice x.i.aa x.i.args.length x.i.acap)) ∧ V.cell? ⟨bx, 6, none⟩ = some (.slice x.ra x.reads.length x.rc) ∧ V.cell? ⟨bx, 7, none⟩ = some (.int .i64 x.w) ∧ V.cell? ⟨bx, 8, none⟩ = some (.int .i64 x.goal) ∧ Ins.In V (fun _ => True) x.i ∧ RowAt V (fun _ => True) x.ra x.rc x.reads.length (numCells x.reads) ∧ OpTab V) := Lib.hid fun V hV => by
        obtain ⟨⟨e0, e6, e7, e8⟩, i1, i2, i3, _⟩ := h4a.out V ((hb5.out.trans (hb6.mono hb5.out.size)).trans (hV.mono (Nat.le_trans hb5.out.size hb6.size)))
        exact ⟨e0, e6, e7, e8, i1, i2, i3⟩
      clear h4a hb5 hb6
      generalize V2 = W4 at *
      replace k1 := k1.out
      cases hwb : (wrP x.i).2 with
      | true =>
        have k3 := k3.out hwb
        have k2 := k2.out
        rw [hwb] at k2
        cases hgb : (glP x.i).2 with
        | true =>
          have k6 := k6.out hgb
          have k5 := k5.out
          rw [hgb] at k5
          refine wp_region_rel (C := fun V => Below W4.heap.size W4 V) (E := Ext) (R := fun j => (rf11 bx x).getD j VT) (by kernel_rfl) ((Below.refl _ _).drew) (by kernel_rfl) (fun j v w' w'' _ hE h => mono_get _ j rf11_mono v w' w'' hE h) (steps_all ?hsrf11) ?hendrf11
          case hsrf11 =>
            refine stepsL_cons (s_val fun a W hC hs => ?_) ?_
            · have ho := old_of hs 2 (by kernel_rfl) (by rfl)
              exact ⟨wanted_none rfl, _, run_fa rfl (ev ho) fl_f0, rfl⟩
            refine stepsL_cons (s_val fun a W hC hs => ?_) ?_
            · obtain ⟨v0, hv0, hR0⟩ := got_of hs 0 72 (by kernel_rfl) (by rfl)
              have hR0' : v0 = _ := hR0
              subst hR0'
              have hB := h4.out W hC
              exact ⟨wanted_none rfl, _, run_ld rfl (ev hv0) (load_in0 hB.1), rfl⟩
            refine stepsL_cons (s_call fun a W hC hs => ?_) ?_
            · obtain ⟨v0, hv0, hR0⟩ := got_of hs 1 73 (by kernel_rfl) (by rfl)
              have hR0' : v0 = _ := hR0
              subst hR0'
              have hB := h4.out W hC
              refine ⟨wanted_none rfl, 22, _, run_call1 rfl (ev hv0) (fun _ _ => rfl), (reads_any x.i W hB.2.2.2.2.1 hB.2.2.2.2.2.2 (by rw [k1]; omega)).mono ?_⟩
              rintro e W' ⟨v, rfl, hown, hb5⟩
              obtain ⟨a', c', rfl, hrw⟩ := row_own hown
              exact ⟨_, rfl, hC.trans (hb5.mono hC.size), hb5, ⟨a', c', rfl, hrw.mono (fun _ _ => trivial)⟩⟩
            refine stepsL_cons (s_val fun a W hC hs => ?_) ?_
            · have ho := old_of hs 2 (by kernel_rfl) (by rfl)
              exact ⟨wanted_none rfl, _, run_fa rfl (ev ho) fl_f1, rfl⟩
            refine stepsL_cons (s_val fun a W hC hs => ?_) ?_
            · obtain ⟨v0, hv0, hR0⟩ := got_of hs 3 75 (by kernel_rfl) (by rfl)
              have hR0' : v0 = _ := hR0
              subst hR0'
              have hB := h4.out W hC
              exact ⟨wanted_none rfl, _, run_ld rfl (ev hv0) (ld_ns hB.2.1), rfl⟩
            refine stepsL_cons (s_call fun a W hC hs => ?_) ?_
            · obtain ⟨v0, hv0, hR0⟩ := got_of hs 2 74 (by kernel_rfl) (by rfl)
              replace hR0 : RN x.i v0 W := hR0
              obtain ⟨a0', c0', rfl, hrw⟩ := hR0
              obtain ⟨v1, hv1, hR1⟩ := got_of hs 4 76 (by kernel_rfl) (by rfl)
              have hR1' : v1 = _ := hR1
              subst hR1'
              have hB := h4.out W hC
              refine ⟨wanted_none rfl, 17, _, run_call2 rfl (ev hv0) (ev hv1) (fun _ _ => rfl), (ints_any (rdP x.i) x.reads a0' x.ra c0' x.rc W hrw hB.2.2.2.2.2.1).mono ?_⟩
              rintro e W' ⟨rfl, hb5⟩
              exact ⟨_, rfl, hC.trans (hb5.mono hC.size), hb5, by show Value.bool _ = _; rw [decide_eq_true k1]⟩
            refine stepsL_cons (s_val fun a W hC hs => ?_) ?_
            · obtain ⟨v0, hv0, hR0⟩ := got_of hs 5 77 (by kernel_rfl) (by rfl)
              have hR0' : v0 = _ := hR0
              subst hR0'
              exact ⟨wanted_none rfl, _, run_notB rfl (ev hv0), rfl⟩
            refine stepsL_cons (s_val fun a W hC hs => ?_) ?_
            · obtain ⟨v0, hv0, hR0⟩ := got_of hs 6 78 (by kernel_rfl) (by rfl)
              have hR0' : v0 = _ := hR0
              subst hR0'
              exact ⟨wanted_none rfl, _, run_mv (Or.inl rfl) (ev hv0), rfl⟩
            refine stepsL_cons (s_val fun a W hC hs => ?_) ?_
            · obtain ⟨v9, hv9, hR9⟩ := got_of hs 7 79 (by kernel_rfl) (by rfl)
              have hR9' : v9 = _ := hR9
              subst hR9'
              have ho := old_of hs 4 (by kernel_rfl) (by rfl)
              exact ⟨wanted_no (j := 7) (d := 79) rfl (by rfl) hv9, _, run_mv (Or.inl rfl) (ev ho), rfl⟩
            refine stepsL_cons (s_val fun a W hC hs => ?_) ?_
            · obtain ⟨v9, hv9, hR9⟩ := got_of hs 7 79 (by kernel_rfl) (by rfl)
              have hR9' : v9 = _ := hR9
              subst hR9'
              have ho := old_of hs 2 (by kernel_rfl) (by rfl)
              exact ⟨wanted_no (j := 7) (d := 79) rfl (by rfl) hv9, _, run_fa rfl (ev ho) fl_f2, rfl⟩
            refine stepsL_cons (s_val fun a W hC hs => ?_) ?_
            · obtain ⟨v9, hv9, hR9⟩ := got_of hs 7 79 (by kernel_rfl) (by rfl)
              have hR9' : v9 = _ := hR9
              subst hR9'
              obtain ⟨v0, hv0, hR0⟩ := got_of hs 9 81 (by kernel_rfl) (by rfl)
              have hR0' : v0 = _ := hR0
              subst hR0'
              have hB := h4.out W hC
              exact ⟨wanted_no (j := 7) (d := 79) rfl (by rfl) hv9, _, run_ld rfl (ev hv0) (ld_i hB.2.2.1), rfl⟩
            refine stepsL_cons (s_val fun a W hC hs => ?_) ?_
            · obtain ⟨v9, hv9, hR9⟩ := got_of hs 7 79 (by kernel_rfl) (by rfl)
              have hR9' : v9 = _ := hR9
              subst hR9'
              obtain ⟨v0, hv0, hR0⟩ := got_of hs 10 82 (by kernel_rfl) (by rfl)
              have hR0' : v0 = _ := hR0
              subst hR0'
              exact ⟨wanted_no (j := 7) (d := 79) rfl (by rfl) hv9, _, run_geq Tryd.underlying3 rfl (ev hv0) (ev_const _), by show Value.bool _ = _; rw [k2]⟩
            refine stepsL_cons (s_val fun a W hC hs => ?_) ?_
            · obtain ⟨v9, hv9, hR9⟩ := got_of hs 7 79 (by kernel_rfl) (by rfl)
              have hR9' : v9 = _ := hR9
              subst hR9'
              obtain ⟨v0, hv0, hR0⟩ := got_of hs 8 80 (by kernel_rfl) (by rfl)
              have hR0' : v0 = _ := hR0
              subst hR0'
              obtain ⟨v1, hv1, hR1⟩ := got_of hs 11 83 (by kernel_rfl) (by rfl)
              have hR1' : v1 = _ := hR1
              subst hR1'
              exact ⟨wanted_no (j := 7) (d := 79) rfl (by rfl) hv9, _, run_neb Tryd.underlying4 rfl (ev hv0) (ev hv1), rfl⟩
            refine stepsL_cons (s_val fun a W hC hs => ?_) ?_
            · obtain ⟨v0, hv0, hR0⟩ := got_of hs 7 79 (by kernel_rfl) (by rfl)
              have hR0' : v0 = _ := hR0
              subst hR0'
              obtain ⟨v1, hv1, hR1⟩ := got_of hs 12 84 (by kernel_rfl) (by rfl)
              have hR1' : v1 = _ := hR1
              subst hR1'
              exact ⟨wanted_none rfl, _, run_pk rfl (ev hv0) (by rw [if_neg (by simp)]; exact ev hv1), rfl⟩
            refine stepsL_cons (s_val fun a W hC hs => ?_) ?_
            · obtain ⟨v0, hv0, hR0⟩ := got_of hs 13 85 (by kernel_rfl) (by rfl)
              have hR0' : v0 = _ := hR0
              subst hR0'
              exact ⟨wanted_none rfl, _, run_mv (Or.inl rfl) (ev hv0), rfl⟩
            refine stepsL_cons (s_val fun a W hC hs => ?_) ?_
            · obtain ⟨v9, hv9, hR9⟩ := got_of hs 14 86 (by kernel_rfl) (by rfl)
              have hR9' : v9 = _ := hR9
              subst hR9'
              have ho := old_of hs 4 (by kernel_rfl) (by rfl)
              exact ⟨wanted_no (j := 14) (d := 86) rfl (by rfl) hv9, _, run_mv (Or.inl rfl) (ev ho), rfl⟩
            refine stepsL_cons (s_val fun a W hC hs => ?_) ?_
            · obtain ⟨v9, hv9, hR9⟩ := got_of hs 14 86 (by kernel_rfl) (by rfl)
              have hR9' : v9 = _ := hR9
              subst hR9'
              obtain ⟨v0, hv0, hR0⟩ := got_of hs 15 87 (by kernel_rfl) (by rfl)
              have hR0' : v0 = _ := hR0
              subst hR0'
              exact ⟨wanted_no (j := 14) (d := 86) rfl (by rfl) hv9, _, run_mv (Or.inl rfl) (ev hv0), rfl⟩
            refine stepsL_cons (s_val fun a W hC hs => ?_) ?_
            · obtain ⟨v9, hv9, hR9⟩ := got_of hs 16 88 (by kernel_rfl) (by rfl)
              have hR9' : v9 = _ := hR9
              subst hR9'
              have ho := old_of hs 3 (by kernel_rfl) (by rfl)
              exact ⟨wanted_true (j := 16) (d := 88) rfl (by rfl) hv9, _, run_mv (Or.inl rfl) (ev ho), rfl⟩
            refine stepsL_cons (s_val fun a W hC hs => ?_) ?_
            · obtain ⟨v9, hv9, hR9⟩ := got_of hs 16 88 (by kernel_rfl) (by rfl)
              have hR9' : v9 = _ := hR9
              subst hR9'
              have ho := old_of hs 2 (by kernel_rfl) (by rfl)
              exact ⟨wanted_true (j := 16) (d := 88) rfl (by rfl) hv9, _, run_fa rfl (ev ho) fl_f2, rfl⟩
            refine stepsL_cons (s_val fun a W hC hs => ?_) ?_
            · obtain ⟨v9, hv9, hR9⟩ := got_of hs 16 88 (by kernel_rfl) (by rfl)
              have hR9' : v9 = _ := hR9
              subst hR9'
              obtain ⟨v0, hv0, hR0⟩ := got_of hs 18 90 (by kernel_rfl) (by rfl)
              have hR0' : v0 = _ := hR0
              subst hR0'
              have hB := h4.out W hC
              exact ⟨wanted_true (j := 16) (d := 88) rfl (by rfl) hv9, _, run_ld rfl (ev hv0) (ld_i hB.2.2.1), rfl⟩
            refine stepsL_cons (s_val fun a W hC hs => ?_) ?_
            · obtain ⟨v9, hv9, hR9⟩ := got_of hs 16 88 (by kernel_rfl) (by rfl)
              have hR9' : v9 = _ := hR9
              subst hR9'
              obtain ⟨v0, hv0, hR0⟩ := got_of hs 17 89 (by kernel_rfl) (by rfl)
              have hR0' : v0 = _ := hR0
              subst hR0'
              obtain ⟨v1, hv1, hR1⟩ := got_of hs 19 91 (by kernel_rfl) (by rfl)
              have hR1' : v1 = _ := hR1
              subst hR1'
              exact ⟨wanted_true (j := 16) (d := 88) rfl (by rfl) hv9, _, run_nei Tryd.underlying3 rfl (ev hv0) (ev hv1) k3, rfl⟩
            refine stepsL_cons (s_val fun a W hC hs => ?_) ?_
            · obtain ⟨v9, hv9, hR9⟩ := got_of hs 14 86 (by kernel_rfl) (by rfl)
              have hR9' : v9 = _ := hR9
              subst hR9'
              obtain ⟨v0, hv0, hR0⟩ := got_of hs 16 88 (by kernel_rfl) (by rfl)
              have hR0' : v0 = _ := hR0
              subst hR0'
              obtain ⟨v1, hv1, hR1⟩ := got_of hs 20 92 (by kernel_rfl) (by rfl)
              have hR1' : v1 = _ := hR1
              subst hR1'
              exact ⟨wanted_no (j := 14) (d := 86) rfl (by rfl) hv9, _, run_pk rfl (ev hv0) (by rw [if_pos rfl]; exact ev hv1), rfl⟩
            refine stepsL_cons (s_val fun a W hC hs => ?_) ?_
            · obtain ⟨v0, hv0, hR0⟩ := got_of hs 14 86 (by kernel_rfl) (by rfl)
              have hR0' : v0 = _ := hR0
              subst hR0'
              obtain ⟨v1, hv1, hR1⟩ := got_of hs 21 93 (by kernel_rfl) (by rfl)
              have hR1' : v1 = _ := hR1
              subst hR1'
              exact ⟨wanted_none rfl, _, run_pk rfl (ev hv0) (by rw [if_neg (by simp)]; exact ev hv1), rfl⟩
            refine stepsL_cons (s_val fun a W hC hs => ?_) ?_
            · obtain ⟨v0, hv0, hR0⟩ := got_of hs 22 94 (by kernel_rfl) (by rfl)
              have hR0' : v0 = _ := hR0
              subst hR0'
              exact ⟨wanted_none rfl, _, run_mv (Or.inl rfl) (ev hv0), rfl⟩
            refine stepsL_cons (s_val fun a W hC hs => ?_) ?_
            · obtain ⟨v9, hv9, hR9⟩ := got_of hs 23 95 (by kernel_rfl) (by rfl)
              have hR9' : v9 = _ := hR9
              subst hR9'
              have ho := old_of hs 4 (by kernel_rfl) (by rfl)
              exact ⟨wanted_no (j := 23) (d := 95) rfl (by rfl) hv9, _, run_mv (Or.inl rfl) (ev ho), rfl⟩
            refine stepsL_cons (s_val fun a W hC hs => ?_) ?_
            · obtain ⟨v9, hv9, hR9⟩ := got_of hs 23 95 (by kernel_rfl) (by rfl)
              have hR9' : v9 = _ := hR9
              subst hR9'
              obtain ⟨v0, hv0, hR0⟩ := got_of hs 24 96 (by kernel_rfl) (by rfl)
              have hR0' : v0 = _ := hR0
              subst hR0'
              exact ⟨wanted_no (j := 23) (d := 95) rfl (by rfl) hv9, _, run_notB rfl (ev hv0), rfl⟩
            refine stepsL_cons (s_val fun a W hC hs => ?_) ?_
            · obtain ⟨v9, hv9, hR9⟩ := got_of hs 23 95 (by kernel_rfl) (by rfl)
              have hR9' : v9 = _ := hR9
              subst hR9'
              obtain ⟨v0, hv0, hR0⟩ := got_of hs 25 97 (by kernel_rfl) (by rfl)
              have hR0' : v0 = _ := hR0
              subst hR0'
              exact ⟨wanted_no (j := 23) (d := 95) rfl (by rfl) hv9, _, run_mv (Or.inl rfl) (ev hv0), rfl⟩
            refine stepsL_cons (s_skip (fun a W hC hs => ?_) (fun _ => rfl)) ?_
            · obtain ⟨v9, hv9, hR9⟩ := got_of hs 26 98 (by kernel_rfl) (by rfl)
              have hR9' : v9 = _ := hR9
              subst hR9'
              exact wanted_not (j := 26) (d := 98) rfl (by rfl) hv9
            refine stepsL_cons (s_skip (fun a W hC hs => ?_) (fun _ => rfl)) ?_
            · obtain ⟨v9, hv9, hR9⟩ := got_of hs 26 98 (by kernel_rfl) (by rfl)
              have hR9' : v9 = _ := hR9
              subst hR9'
              exact wanted_not (j := 26) (d := 98) rfl (by rfl) hv9
            refine stepsL_cons (s_val fun a W hC hs => ?_) ?_
            · obtain ⟨v9, hv9, hR9⟩ := got_of hs 23 95 (by kernel_rfl) (by rfl)
              have hR9' : v9 = _ := hR9
              subst hR9'
              obtain ⟨v0, hv0, hR0⟩ := got_of hs 26 98 (by kernel_rfl) (by rfl)
              have hR0' : v0 = _ := hR0
              subst hR0'
              exact ⟨wanted_no (j := 23) (d := 95) rfl (by rfl) hv9, _, run_pk rfl (ev hv0) (by rw [if_neg (by simp)]; exact ev_const _), rfl⟩
            refine stepsL_cons (s_val fun a W hC hs => ?_) ?_
            · obtain ⟨v0, hv0, hR0⟩ := got_of hs 23 95 (by kernel_rfl) (by rfl)
              have hR0' : v0 = _ := hR0
              subst hR0'
              obtain ⟨v1, hv1, hR1⟩ := got_of hs 29 101 (by kernel_rfl) (by rfl)
              have hR1' : v1 = _ := hR1
              subst hR1'
              exact ⟨wanted_none rfl, _, run_pk rfl (ev hv0) (by rw [if_neg (by simp)]; exact ev hv1), rfl⟩
            refine stepsL_cons (s_val fun a W hC hs => ?_) ?_
            · obtain ⟨v0, hv0, hR0⟩ := got_of hs 30 102 (by kernel_rfl) (by rfl)
              have hR0' : v0 = _ := hR0
              subst hR0'
              exact ⟨wanted_none rfl, _, run_mv (Or.inl rfl) (ev hv0), rfl⟩
            refine stepsL_cons (s_val fun a W hC hs => ?_) ?_
            · obtain ⟨v9, hv9, hR9⟩ := got_of hs 31 103 (by kernel_rfl) (by rfl)
              have hR9' : v9 = _ := hR9
              subst hR9'
              have ho := old_of hs 6 (by kernel_rfl) (by rfl)
              exact ⟨wanted_no (j := 31) (d := 103) rfl (by rfl) hv9, _, run_mv (Or.inl rfl) (ev ho), rfl⟩
            refine stepsL_cons (s_val fun a W hC hs => ?_) ?_
            · obtain ⟨v9, hv9, hR9⟩ := got_of hs 31 103 (by kernel_rfl) (by rfl)
              have hR9' : v9 = _ := hR9
              subst hR9'
              have ho := old_of hs 2 (by kernel_rfl) (by rfl)
              exact ⟨wanted_no (j := 31) (d := 103) rfl (by rfl) hv9, _, run_fa rfl (ev ho) fl_f3, rfl⟩
            refine stepsL_cons (s_val fun a W hC hs => ?_) ?_
            · obtain ⟨v9, hv9, hR9⟩ := got_of hs 31 103 (by kernel_rfl) (by rfl)
              have hR9' : v9 = _ := hR9
              subst hR9'
              obtain ⟨v0, hv0, hR0⟩ := got_of hs 33 105 (by kernel_rfl) (by rfl)
              have hR0' : v0 = _ := hR0
              subst hR0'
              have hB := h4.out W hC
              exact ⟨wanted_no (j := 31) (d := 103) rfl (by rfl) hv9, _, run_ld rfl (ev hv0) (ld_i hB.2.2.2.1), rfl⟩
            refine stepsL_cons (s_val fun a W hC hs => ?_) ?_
            · obtain ⟨v9, hv9, hR9⟩ := got_of hs 31 103 (by kernel_rfl) (by rfl)
              have hR9' : v9 = _ := hR9
              subst hR9'
              obtain ⟨v0, hv0, hR0⟩ := got_of hs 34 106 (by kernel_rfl) (by rfl)
              have hR0' : v0 = _ := hR0
              subst hR0'
              exact ⟨wanted_no (j := 31) (d := 103) rfl (by rfl) hv9, _, run_geq Tryd.underlying3 rfl (ev hv0) (ev_const _), by show Value.bool _ = _; rw [k5]⟩
            refine stepsL_cons (s_val fun a W hC hs => ?_) ?_
            · obtain ⟨v9, hv9, hR9⟩ := got_of hs 31 103 (by kernel_rfl) (by rfl)
              have hR9' : v9 = _ := hR9
              subst hR9'
              obtain ⟨v0, hv0, hR0⟩ := got_of hs 32 104 (by kernel_rfl) (by rfl)
              have hR0' : v0 = _ := hR0
              subst hR0'
              obtain ⟨v1, hv1, hR1⟩ := got_of hs 35 107 (by kernel_rfl) (by rfl)
              have hR1' : v1 = _ := hR1
              subst hR1'
              exact ⟨wanted_no (j := 31) (d := 103) rfl (by rfl) hv9, _, run_neb Tryd.underlying4 rfl (ev hv0) (ev hv1), rfl⟩
            refine stepsL_cons (s_val fun a W hC hs => ?_) ?_
            · obtain ⟨v0, hv0, hR0⟩ := got_of hs 31 103 (by kernel_rfl) (by rfl)
              have hR0' : v0 = _ := hR0
              subst hR0'
              obtain ⟨v1, hv1, hR1⟩ := got_of hs 36 108 (by kernel_rfl) (by rfl)
              have hR1' : v1 = _ := hR1
              subst hR1'
              exact ⟨wanted_none rfl, _, run_pk rfl (ev hv0) (by rw [if_neg (by simp)]; exact ev hv1), rfl⟩
            refine stepsL_cons (s_val fun a W hC hs => ?_) ?_
            · obtain ⟨v0, hv0, hR0⟩ := got_of hs 37 109 (by kernel_rfl) (by rfl)
              have hR0' : v0 = _ := hR0
              subst hR0'
              exact ⟨wanted_none rfl, _, run_mv (Or.inl rfl) (ev hv0), rfl⟩
            refine stepsL_cons (s_val fun a W hC hs => ?_) ?_
            · obtain ⟨v9, hv9, hR9⟩ := got_of hs 38 110 (by kernel_rfl) (by rfl)
              have hR9' : v9 = _ := hR9
              subst hR9'
              have ho := old_of hs 6 (by kernel_rfl) (by rfl)
              exact ⟨wanted_no (j := 38) (d := 110) rfl (by rfl) hv9, _, run_mv (Or.inl rfl) (ev ho), rfl⟩
            refine stepsL_cons (s_val fun a W hC hs => ?_) ?_
            · obtain ⟨v9, hv9, hR9⟩ := got_of hs 38 110 (by kernel_rfl) (by rfl)
              have hR9' : v9 = _ := hR9
              subst hR9'
              obtain ⟨v0, hv0, hR0⟩ := got_of hs 39 111 (by kernel_rfl) (by rfl)
              have hR0' : v0 = _ := hR0
              subst hR0'
              exact ⟨wanted_no (j := 38) (d := 110) rfl (by rfl) hv9, _, run_mv (Or.inl rfl) (ev hv0), rfl⟩
            refine stepsL_cons (s_val fun a W hC hs => ?_) ?_
            · obtain ⟨v9, hv9, hR9⟩ := got_of hs 40 112 (by kernel_rfl) (by rfl)
              have hR9' : v9 = _ := hR9
              subst hR9'
              have ho := old_of hs 5 (by kernel_rfl) (by rfl)
              exact ⟨wanted_true (j := 40) (d := 112) rfl (by rfl) hv9, _, run_mv (Or.inl rfl) (ev ho), rfl⟩
            refine stepsL_cons (s_val fun a W hC hs => ?_) ?_
            · obtain ⟨v9, hv9, hR9⟩ := got_of hs 40 112 (by kernel_rfl) (by rfl)
              have hR9' : v9 = _ := hR9
              subst hR9'
              have ho := old_of hs 2 (by kernel_rfl) (by rfl)
              exact ⟨wanted_true (j := 40) (d := 112) rfl (by rfl) hv9, _, run_fa rfl (ev ho) fl_f3, rfl⟩
            refine stepsL_cons (s_val fun a W hC hs => ?_) ?_
            · obtain ⟨v9, hv9, hR9⟩ := got_of hs 40 112 (by kernel_rfl) (by rfl)
              have hR9' : v9 = _ := hR9
              subst hR9'
              obtain ⟨v0, hv0, hR0⟩ := got_of hs 42 114 (by kernel_rfl) (by rfl)
              have hR0' : v0 = _ := hR0
              subst hR0'
              have hB := h4.out W hC
              exact ⟨wanted_true (j := 40) (d := 112) rfl (by rfl) hv9, _, run_ld rfl (ev hv0) (ld_i hB.2.2.2.1), rfl⟩
            refine stepsL_cons (s_val fun a W hC hs => ?_) ?_
            · obtain ⟨v9, hv9, hR9⟩ := got_of hs 40 112 (by kernel_rfl) (by rfl)
              have hR9' : v9 = _ := hR9
              subst hR9'
              obtain ⟨v0, hv0, hR0⟩ := got_of hs 41 113 (by kernel_rfl) (by rfl)
              have hR0' : v0 = _ := hR0
              subst hR0'
              obtain ⟨v1, hv1, hR1⟩ := got_of hs 43 115 (by kernel_rfl) (by rfl)
              have hR1' : v1 = _ := hR1
              subst hR1'
              exact ⟨wanted_true (j := 40) (d := 112) rfl (by rfl) hv9, _, run_nei Tryd.underlying3 rfl (ev hv0) (ev hv1) k6, rfl⟩
            refine stepsL_cons (s_val fun a W hC hs => ?_) ?_
            · obtain ⟨v9, hv9, hR9⟩ := got_of hs 38 110 (by kernel_rfl) (by rfl)
              have hR9' : v9 = _ := hR9
              subst hR9'
              obtain ⟨v0, hv0, hR0⟩ := got_of hs 40 112 (by kernel_rfl) (by rfl)
              have hR0' : v0 = _ := hR0
              subst hR0'
              obtain ⟨v1, hv1, hR1⟩ := got_of hs 44 116 (by kernel_rfl) (by rfl)
              have hR1' : v1 = _ := hR1
              subst hR1'
              exact ⟨wanted_no (j := 38) (d := 110) rfl (by rfl) hv9, _, run_pk rfl (ev hv0) (by rw [if_pos rfl]; exact ev hv1), rfl⟩
            refine stepsL_cons (s_val fun a W hC hs => ?_) ?_
            · obtain ⟨v0, hv0, hR0⟩ := got_of hs 38 110 (by kernel_rfl) (by rfl)
              have hR0' : v0 = _ := hR0
              subst hR0'
              obtain ⟨v1, hv1, hR1⟩ := got_of hs 45 117 (by kernel_rfl) (by rfl)
              have hR1' : v1 = _ := hR1
              subst hR1'
              exact ⟨wanted_none rfl, _, run_pk rfl (ev hv0) (by rw [if_neg (by simp)]; exact ev hv1), rfl⟩
            refine stepsL_cons (s_val fun a W hC hs => ?_) ?_
            · obtain ⟨v0, hv0, hR0⟩ := got_of hs 46 118 (by kernel_rfl) (by rfl)
              have hR0' : v0 = _ := hR0
              subst hR0'
              exact ⟨wanted_none rfl, _, run_mv (Or.inl rfl) (ev hv0), rfl⟩
            refine stepsL_cons (s_val fun a W hC hs => ?_) ?_
            · obtain ⟨v9, hv9, hR9⟩ := got_of hs 47 119 (by kernel_rfl) (by rfl)
              have hR9' : v9 = _ := hR9
              subst hR9'
              have ho := old_of hs 6 (by kernel_rfl) (by rfl)
              exact ⟨wanted_no (j := 47) (d := 119) rfl (by rfl) hv9, _, run_mv (Or.inl rfl) (ev ho), rfl⟩
            refine stepsL_cons (s_val fun a W hC hs => ?_) ?_
            · obtain ⟨v9, hv9, hR9⟩ := got_of hs 47 119 (by kernel_rfl) (by rfl)
              have hR9' : v9 = _ := hR9
              subst hR9'
              obtain ⟨v0, hv0, hR0⟩ := got_of hs 48 120 (by kernel_rfl) (by rfl)
              have hR0' : v0 = _ := hR0
              subst hR0'
              exact ⟨wanted_no (j := 47) (d := 119) rfl (by rfl) hv9, _, run_notB rfl (ev hv0), rfl⟩
            refine stepsL_cons (s_val fun a W hC hs => ?_) ?_
            · obtain ⟨v9, hv9, hR9⟩ := got_of hs 47 119 (by kernel_rfl) (by rfl)
              have hR9' : v9 = _ := hR9
              subst hR9'
              obtain ⟨v0, hv0, hR0⟩ := got_of hs 49 121 (by kernel_rfl) (by rfl)
              have hR0' : v0 = _ := hR0
              subst hR0'
              exact ⟨wanted_no (j := 47) (d := 119) rfl (by rfl) hv9, _, run_mv (Or.inl rfl) (ev hv0), rfl⟩
            refine stepsL_cons (s_skip (fun a W hC hs => ?_) (fun _ => rfl)) ?_
            · obtain ⟨v9, hv9, hR9⟩ := got_of hs 50 122 (by kernel_rfl) (by rfl)
              have hR9' : v9 = _ := hR9
              subst hR9'
              exact wanted_not (j := 50) (d := 122) rfl (by rfl) hv9
            refine stepsL_cons (s_skip (fun a W hC hs => ?_) (fun _ => rfl)) ?_
            · obtain ⟨v9, hv9, hR9⟩ := got_of hs 50 122 (by kernel_rfl) (by rfl)
              have hR9' : v9 = _ := hR9
              subst hR9'
              exact wanted_not (j := 50) (d := 122) rfl (by rfl) hv9
            refine stepsL_cons (s_val fun a W hC hs => ?_) ?_
            · obtain ⟨v9, hv9, hR9⟩ := got_of hs 47 119 (by kernel_rfl) (by rfl)
              have hR9' : v9 = _ := hR9
              subst hR9'
              obtain ⟨v0, hv0, hR0⟩ := got_of hs 50 122 (by kernel_rfl) (by rfl)
              have hR0' : v0 = _ := hR0
              subst hR0'
              exact ⟨wanted_no (j := 47) (d := 119) rfl (by rfl) hv9, _, run_pk rfl (ev hv0) (by rw [if_neg (by simp)]; exact ev_const _), rfl⟩
            refine stepsL_cons (s_val fun a W hC hs => ?_) ?_
            · obtain ⟨v0, hv0, hR0⟩ := got_of hs 47 119 (by kernel_rfl) (by rfl)
              have hR0' : v0 = _ := hR0
              subst hR0'
              obtain ⟨v1, hv1, hR1⟩ := got_of hs 53 125 (by kernel_rfl) (by rfl)
              have hR1' : v1 = _ := hR1
              subst hR1'
              exact ⟨wanted_none rfl, _, run_pk rfl (ev hv0) (by rw [if_neg (by simp)]; exact ev hv1), rfl⟩
            exact stepsL_nil
          case hendrf11 =>
            intro σ V5 hC hR
            generalize hF : fillL _ _ _ _ _ = F
            simp [fillL, dstOf, List.range, List.range.loop, Act.put] at hF
            subst hF
            have h54 : σ 54 = .bool false := hR 54 (by simp)
            rw [h54]
            have hbn := Lib.hid (hbn0.out.trans (hC.mono hbn0.out.size))
            clear hR h54 h4 hbn0 hC hbx
            go_wp2_with fail
            go_roundw
            case rel => exact ⟨k + 1, by omega, by go_num, hbn⟩
            case measure => simp [intOf]; omega
        | false =>
          have k7 := k7.out hgb
          have k5 := k5.out
          rw [hgb] at k5
          refine wp_region_rel (C := fun V => Below W4.heap.size W4 V) (E := Ext) (R := fun j => (rf10 bx x).getD j VT) (by kernel_rfl) ((Below.refl _ _).drew) (by kernel_rfl) (fun j v w' w'' _ hE h => mono_get _ j rf10_mono v w' w'' hE h) (steps_all ?hsrf10) ?hendrf10
          case hsrf10 =>
            refine stepsL_cons (s_val fun a W hC hs => ?_) ?_
            · have ho := old_of hs 2 (by kernel_rfl) (by rfl)
              exact ⟨wanted_none rfl, _, run_fa rfl (ev ho) fl_f0, rfl⟩
            refine stepsL_cons (s_val fun a W hC hs => ?_) ?_
            · obtain ⟨v0, hv0, hR0⟩ := got_of hs 0 72 (by kernel_rfl) (by rfl)
              have hR0' : v0 = _ := hR0
              subst hR0'
              have hB := h4.out W hC
              exact ⟨wanted_none rfl, _, run_ld rfl (ev hv0) (load_in0 hB.1), rfl⟩
            refine stepsL_cons (s_call fun a W hC hs => ?_) ?_
            · obtain ⟨v0, hv0, hR0⟩ := got_of hs 1 73 (by kernel_rfl) (by rfl)
              have hR0' : v0 = _ := hR0
              subst hR0'
              have hB := h4.out W hC
              refine ⟨wanted_none rfl, 22, _, run_call1 rfl (ev hv0) (fun _ _ => rfl), (reads_any x.i W hB.2.2.2.2.1 hB.2.2.2.2.2.2 (by rw [k1]; omega)).mono ?_⟩
              rintro e W' ⟨v, rfl, hown, hb5⟩
              obtain ⟨a', c', rfl, hrw⟩ := row_own hown
              exact ⟨_, rfl, hC.trans (hb5.mono hC.size), hb5, ⟨a', c', rfl, hrw.mono (fun _ _ => trivial)⟩⟩
            refine stepsL_cons (s_val fun a W hC hs => ?_) ?_
            · have ho := old_of hs 2 (by kernel_rfl) (by rfl)
              exact ⟨wanted_none rfl, _, run_fa rfl (ev ho) fl_f1, rfl⟩
            refine stepsL_cons (s_val fun a W hC hs => ?_) ?_
            · obtain ⟨v0, hv0, hR0⟩ := got_of hs 3 75 (by kernel_rfl) (by rfl)
              have hR0' : v0 = _ := hR0
              subst hR0'
              have hB := h4.out W hC
              exact ⟨wanted_none rfl, _, run_ld rfl (ev hv0) (ld_ns hB.2.1), rfl⟩
            refine stepsL_cons (s_call fun a W hC hs => ?_) ?_
            · obtain ⟨v0, hv0, hR0⟩ := got_of hs 2 74 (by kernel_rfl) (by rfl)
              replace hR0 : RN x.i v0 W := hR0
              obtain ⟨a0', c0', rfl, hrw⟩ := hR0
              obtain ⟨v1, hv1, hR1⟩ := got_of hs 4 76 (by kernel_rfl) (by rfl)
              have hR1' : v1 = _ := hR1
              subst hR1'
              have hB := h4.out W hC
              refine ⟨wanted_none rfl, 17, _, run_call2 rfl (ev hv0) (ev hv1) (fun _ _ => rfl), (ints_any (rdP x.i) x.reads a0' x.ra c0' x.rc W hrw hB.2.2.2.2.2.1).mono ?_⟩
              rintro e W' ⟨rfl, hb5⟩
              exact ⟨_, rfl, hC.trans (hb5.mono hC.size), hb5, by show Value.bool _ = _; rw [decide_eq_true k1]⟩
            refine stepsL_cons (s_val fun a W hC hs => ?_) ?_
            · obtain ⟨v0, hv0, hR0⟩ := got_of hs 5 77 (by kernel_rfl) (by rfl)
              have hR0' : v0 = _ := hR0
              subst hR0'
              exact ⟨wanted_none rfl, _, run_notB rfl (ev hv0), rfl⟩
            refine stepsL_cons (s_val fun a W hC hs => ?_) ?_
            · obtain ⟨v0, hv0, hR0⟩ := got_of hs 6 78 (by kernel_rfl) (by rfl)
              have hR0' : v0 = _ := hR0
              subst hR0'
              exact ⟨wanted_none rfl, _, run_mv (Or.inl rfl) (ev hv0), rfl⟩
            refine stepsL_cons (s_val fun a W hC hs => ?_) ?_
            · obtain ⟨v9, hv9, hR9⟩ := got_of hs 7 79 (by kernel_rfl) (by rfl)
              have hR9' : v9 = _ := hR9
              subst hR9'
              have ho := old_of hs 4 (by kernel_rfl) (by rfl)
              exact ⟨wanted_no (j := 7) (d := 79) rfl (by rfl) hv9, _, run_mv (Or.inl rfl) (ev ho), rfl⟩
            refine stepsL_cons (s_val fun a W hC hs => ?_) ?_
            · obtain ⟨v9, hv9, hR9⟩ := got_of hs 7 79 (by kernel_rfl) (by rfl)
              have hR9' : v9 = _ := hR9
              subst hR9'
              have ho := old_of hs 2 (by kernel_rfl) (by rfl)
              exact ⟨wanted_no (j := 7) (d := 79) rfl (by rfl) hv9, _, run_fa rfl (ev ho) fl_f2, rfl⟩
            refine stepsL_cons (s_val fun a W hC hs => ?_) ?_
            · obtain ⟨v9, hv9, hR9⟩ := got_of hs 7 79 (by kernel_rfl) (by rfl)
              have hR9' : v9 = _ := hR9
              subst hR9'
              obtain ⟨v0, hv0, hR0⟩ := got_of hs 9 81 (by kernel_rfl) (by rfl)
              have hR0' : v0 = _ := hR0
              subst hR0'
              have hB := h4.out W hC
              exact ⟨wanted_no (j := 7) (d := 79) rfl (by rfl) hv9, _, run_ld rfl (ev hv0) (ld_i hB.2.2.1), rfl⟩
            refine stepsL_cons (s_val fun a W hC hs => ?_) ?_
            · obtain ⟨v9, hv9, hR9⟩ := got_of hs 7 79 (by kernel_rfl) (by rfl)
              have hR9' : v9 = _ := hR9
              subst hR9'
              obtain ⟨v0, hv0, hR0⟩ := got_of hs 10 82 (by kernel_rfl) (by rfl)
              have hR0' : v0 = _ := hR0
              subst hR0'
              exact ⟨wanted_no (j := 7) (d := 79) rfl (by rfl) hv9, _, run_geq Tryd.underlying3 rfl (ev hv0) (ev_const _), by show Value.bool _ = _; rw [k2]⟩
            refine stepsL_cons (s_val fun a W hC hs => ?_) ?_
            · obtain ⟨v9, hv9, hR9⟩ := got_of hs 7 79 (by kernel_rfl) (by rfl)
              have hR9' : v9 = _ := hR9
              subst hR9'
              obtain ⟨v0, hv0, hR0⟩ := got_of hs 8 80 (by kernel_rfl) (by rfl)
              have hR0' : v0 = _ := hR0
              subst hR0'
              obtain ⟨v1, hv1, hR1⟩ := got_of hs 11 83 (by kernel_rfl) (by rfl)
              have hR1' : v1 = _ := hR1
              subst hR1'
              exact ⟨wanted_no (j := 7) (d := 79) rfl (by rfl) hv9, _, run_neb Tryd.underlying4 rfl (ev hv0) (ev hv1), rfl⟩
            refine stepsL_cons (s_val fun a W hC hs => ?_) ?_
            · obtain ⟨v0, hv0, hR0⟩ := got_of hs 7 79 (by kernel_rfl) (by rfl)
              have hR0' : v0 = _ := hR0
              subst hR0'
              obtain ⟨v1, hv1, hR1⟩ := got_of hs 12 84 (by kernel_rfl) (by rfl)
              have hR1' : v1 = _ := hR1
              subst hR1'
              exact ⟨wanted_none rfl, _, run_pk rfl (ev hv0) (by rw [if_neg (by simp)]; exact ev hv1), rfl⟩
            refine stepsL_cons (s_val fun a W hC hs => ?_) ?_
            · obtain ⟨v0, hv0, hR0⟩ := got_of hs 13 85 (by kernel_rfl) (by rfl)
              have hR0' : v0 = _ := hR0
              subst hR0'
              exact ⟨wanted_none rfl, _, run_mv (Or.inl rfl) (ev hv0), rfl⟩
            refine stepsL_cons (s_val fun a W hC hs => ?_) ?_
            · obtain ⟨v9, hv9, hR9⟩ := got_of hs 14 86 (by kernel_rfl) (by rfl)
              have hR9' : v9 = _ := hR9
              subst hR9'
              have ho := old_of hs 4 (by kernel_rfl) (by rfl)
              exact ⟨wanted_no (j := 14) (d := 86) rfl (by rfl) hv9, _, run_mv (Or.inl rfl) (ev ho), rfl⟩
            refine stepsL_cons (s_val fun a W hC hs => ?_) ?_
            · obtain ⟨v9, hv9, hR9⟩ := got_of hs 14 86 (by kernel_rfl) (by rfl)
              have hR9' : v9 = _ := hR9
              subst hR9'
              obtain ⟨v0, hv0, hR0⟩ := got_of hs 15 87 (by kernel_rfl) (by rfl)
              have hR0' : v0 = _ := hR0
              subst hR0'
              exact ⟨wanted_no (j := 14) (d := 86) rfl (by rfl) hv9, _, run_mv (Or.inl rfl) (ev hv0), rfl⟩
            refine stepsL_cons (s_val fun a W hC hs => ?_) ?_
            · obtain ⟨v9, hv9, hR9⟩ := got_of hs 16 88 (by kernel_rfl) (by rfl)
              have hR9' : v9 = _ := hR9
              subst hR9'
              have ho := old_of hs 3 (by kernel_rfl) (by rfl)
              exact ⟨wanted_true (j := 16) (d := 88) rfl (by rfl) hv9, _, run_mv (Or.inl rfl) (ev ho), rfl⟩
            refine stepsL_cons (s_val fun a W hC hs => ?_) ?_
            · obtain ⟨v9, hv9, hR9⟩ := got_of hs 16 88 (by kernel_rfl) (by rfl)
              have hR9' : v9 = _ := hR9
              subst hR9'
              have ho := old_of hs 2 (by kernel_rfl) (by rfl)
              exact ⟨wanted_true (j := 16) (d := 88) rfl (by rfl) hv9, _, run_fa rfl (ev ho) fl_f2, rfl⟩
            refine stepsL_cons (s_val fun a W hC hs => ?_) ?_
            · obtain ⟨v9, hv9, hR9⟩ := got_of hs 16 88 (by kernel_rfl) (by rfl)
              have hR9' : v9 = _ := hR9
              subst hR9'
              obtain ⟨v0, hv0, hR0⟩ := got_of hs 18 90 (by kernel_rfl) (by rfl)
              have hR0' : v0 = _ := hR0
              subst hR0'
              have hB := h4.out W hC
              exact ⟨wanted_true (j := 16) (d := 88) rfl (by rfl) hv9, _, run_ld rfl (ev hv0) (ld_i hB.2.2.1), rfl⟩
            refine stepsL_cons (s_val fun a W hC hs => ?_) ?_
            · obtain ⟨v9, hv9, hR9⟩ := got_of hs 16 88 (by kernel_rfl) (by rfl)
              have hR9' : v9 = _ := hR9
              subst hR9'
              obtain ⟨v0, hv0, hR0⟩ := got_of hs 17 89 (by kernel_rfl) (by rfl)
              have hR0' : v0 = _ := hR0
              subst hR0'
              obtain ⟨v1, hv1, hR1⟩ := got_of hs 19 91 (by kernel_rfl) (by rfl)
              have hR1' : v1 = _ := hR1
              subst hR1'
              exact ⟨wanted_true (j := 16) (d := 88) rfl (by rfl) hv9, _, run_nei Tryd.underlying3 rfl (ev hv0) (ev hv1) k3, rfl⟩
            refine stepsL_cons (s_val fun a W hC hs => ?_) ?_
            · obtain ⟨v9, hv9, hR9⟩ := got_of hs 14 86 (by kernel_rfl) (by rfl)
              have hR9' : v9 = _ := hR9
              subst hR9'
              obtain ⟨v0, hv0, hR0⟩ := got_of hs 16 88 (by kernel_rfl) (by rfl)
              have hR0' : v0 = _ := hR0
              subst hR0'
              obtain ⟨v1, hv1, hR1⟩ := got_of hs 20 92 (by kernel_rfl) (by rfl)
              have hR1' : v1 = _ := hR1
              subst hR1'
              exact ⟨wanted_no (j := 14) (d := 86) rfl (by rfl) hv9, _, run_pk rfl (ev hv0) (by rw [if_pos rfl]; exact ev hv1), rfl⟩
            refine stepsL_cons (s_val fun a W hC hs => ?_) ?_
            · obtain ⟨v0, hv0, hR0⟩ := got_of hs 14 86 (by kernel_rfl) (by rfl)
              have hR0' : v0 = _ := hR0
              subst hR0'
              obtain ⟨v1, hv1, hR1⟩ := got_of hs 21 93 (by kernel_rfl) (by rfl)
              have hR1' : v1 = _ := hR1
              subst hR1'
              exact ⟨wanted_none rfl, _, run_pk rfl (ev hv0) (by rw [if_neg (by simp)]; exact ev hv1), rfl⟩
            refine stepsL_cons (s_val fun a W hC hs => ?_) ?_
            · obtain ⟨v0, hv0, hR0⟩ := got_of hs 22 94 (by kernel_rfl) (by rfl)
              have hR0' : v0 = _ := hR0
              subst hR0'
              exact ⟨wanted_none rfl, _, run_mv (Or.inl rfl) (ev hv0), rfl⟩
            refine stepsL_cons (s_val fun a W hC hs => ?_) ?_
            · obtain ⟨v9, hv9, hR9⟩ := got_of hs 23 95 (by kernel_rfl) (by rfl)
              have hR9' : v9 = _ := hR9
              subst hR9'
              have ho := old_of hs 4 (by kernel_rfl) (by rfl)
              exact ⟨wanted_no (j := 23) (d := 95) rfl (by rfl) hv9, _, run_mv (Or.inl rfl) (ev ho), rfl⟩
            refine stepsL_cons (s_val fun a W hC hs => ?_) ?_
            · obtain ⟨v9, hv9, hR9⟩ := got_of hs 23 95 (by kernel_rfl) (by rfl)
              have hR9' : v9 = _ := hR9
              subst hR9'
              obtain ⟨v0, hv0, hR0⟩ := got_of hs 24 96 (by kernel_rfl) (by rfl)
              have hR0' : v0 = _ := hR0
              subst hR0'
              exact ⟨wanted_no (j := 23) (d := 95) rfl (by rfl) hv9, _, run_notB rfl (ev hv0), rfl⟩
            refine stepsL_cons (s_val fun a W hC hs => ?_) ?_
            · obtain ⟨v9, hv9, hR9⟩ := got_of hs 23 95 (by kernel_rfl) (by rfl)
              have hR9' : v9 = _ := hR9
              subst hR9'
              obtain ⟨v0, hv0, hR0⟩ := got_of hs 25 97 (by kernel_rfl) (by rfl)
              have hR0' : v0 = _ := hR0
              subst hR0'
              exact ⟨wanted_no (j := 23) (d := 95) rfl (by rfl) hv9, _, run_mv (Or.inl rfl) (ev hv0), rfl⟩
            refine stepsL_cons (s_skip (fun a W hC hs => ?_) (fun _ => rfl)) ?_
            · obtain ⟨v9, hv9, hR9⟩ := got_of hs 26 98 (by kernel_rfl) (by rfl)
              have hR9' : v9 = _ := hR9
              subst hR9'
              exact wanted_not (j := 26) (d := 98) rfl (by rfl) hv9
            refine stepsL_cons (s_skip (fun a W hC hs => ?_) (fun _ => rfl)) ?_
            · obtain ⟨v9, hv9, hR9⟩ := got_of hs 26 98 (by kernel_rfl) (by rfl)
              have hR9' : v9 = _ := hR9
              subst hR9'
              exact wanted_not (j := 26) (d := 98) rfl (by rfl) hv9
            refine stepsL_cons (s_val fun a W hC hs => ?_) ?_
            · obtain ⟨v9, hv9, hR9⟩ := got_of hs 23 95 (by kernel_rfl) (by rfl)
              have hR9' : v9 = _ := hR9
              subst hR9'
              obtain ⟨v0, hv0, hR0⟩ := got_of hs 26 98 (by kernel_rfl) (by rfl)
              have hR0' : v0 = _ := hR0
              subst hR0'
              exact ⟨wanted_no (j := 23) (d := 95) rfl (by rfl) hv9, _, run_pk rfl (ev hv0) (by rw [if_neg (by simp)]; exact ev_const _), rfl⟩
            refine stepsL_cons (s_val fun a W hC hs => ?_) ?_
            · obtain ⟨v0, hv0, hR0⟩ := got_of hs 23 95 (by kernel_rfl) (by rfl)
              have hR0' : v0 = _ := hR0
              subst hR0'
              obtain ⟨v1, hv1, hR1⟩ := got_of hs 29 101 (by kernel_rfl) (by rfl)
              have hR1' : v1 = _ := hR1
              subst hR1'
              exact ⟨wanted_none rfl, _, run_pk rfl (ev hv0) (by rw [if_neg (by simp)]; exact ev hv1), rfl⟩
            refine stepsL_cons (s_val fun a W hC hs => ?_) ?_
            · obtain ⟨v0, hv0, hR0⟩ := got_of hs 30 102 (by kernel_rfl) (by rfl)
              have hR0' : v0 = _ := hR0
              subst hR0'
              exact ⟨wanted_none rfl, _, run_mv (Or.inl rfl) (ev hv0), rfl⟩
            refine stepsL_cons (s_val fun a W hC hs => ?_) ?_
            · obtain ⟨v9, hv9, hR9⟩ := got_of hs 31 103 (by kernel_rfl) (by rfl)
              have hR9' : v9 = _ := hR9
              subst hR9'
              have ho := old_of hs 6 (by kernel_rfl) (by rfl)
              exact ⟨wanted_no (j := 31) (d := 103) rfl (by rfl) hv9, _, run_mv (Or.inl rfl) (ev ho), rfl⟩
            refine stepsL_cons (s_val fun a W hC hs => ?_) ?_
            · obtain ⟨v9, hv9, hR9⟩ := got_of hs 31 103 (by kernel_rfl) (by rfl)
              have hR9' : v9 = _ := hR9
              subst hR9'
              have ho := old_of hs 2 (by kernel_rfl) (by rfl)
              exact ⟨wanted_no (j := 31) (d := 103) rfl (by rfl) hv9, _, run_fa rfl (ev ho) fl_f3, rfl⟩
            refine stepsL_cons (s_val fun a W hC hs => ?_) ?_
            · obtain ⟨v9, hv9, hR9⟩ := got_of hs 31 103 (by kernel_rfl) (by rfl)
              have hR9' : v9 = _ := hR9
              subst hR9'
              obtain ⟨v0, hv0, hR0⟩ := got_of hs 33 105 (by kernel_rfl) (by rfl)
              have hR0' : v0 = _ := hR0
              subst hR0'
              have hB := h4.out W hC
              exact ⟨wanted_no (j := 31) (d := 103) rfl (by rfl) hv9, _, run_ld rfl (ev hv0) (ld_i hB.2.2.2.1), rfl⟩
            refine stepsL_cons (s_val fun a W hC hs => ?_) ?_
            · obtain ⟨v9, hv9, hR9⟩ := got_of hs 31 103 (by kernel_rfl) (by rfl)
              have hR9' : v9 = _ := hR9
              subst hR9'
              obtain ⟨v0, hv0, hR0⟩ := got_of hs 34 106 (by kernel_rfl) (by rfl)
              have hR0' : v0 = _ := hR0
              subst hR0'
              exact ⟨wanted_no (j := 31) (d := 103) rfl (by rfl) hv9, _, run_geq Tryd.underlying3 rfl (ev hv0) (ev_const _), by show Value.bool _ = _; rw [k5]⟩
            refine stepsL_cons (s_val fun a W hC hs => ?_) ?_
            · obtain ⟨v9, hv9, hR9⟩ := got_of hs 31 103 (by kernel_rfl) (by rfl)
              have hR9' : v9 = _ := hR9
              subst hR9'
              obtain ⟨v0, hv0, hR0⟩ := got_of hs 32 104 (by kernel_rfl) (by rfl)
              have hR0' : v0 = _ := hR0
              subst hR0'
              obtain ⟨v1, hv1, hR1⟩ := got_of hs 35 107 (by kernel_rfl) (by rfl)
              have hR1' : v1 = _ := hR1
              subst hR1'
              exact ⟨wanted_no (j := 31) (d := 103) rfl (by rfl) hv9, _, run_neb Tryd.underlying4 rfl (ev hv0) (ev hv1), rfl⟩
            refine stepsL_cons (s_val fun a W hC hs => ?_) ?_
            · obtain ⟨v0, hv0, hR0⟩ := got_of hs 31 103 (by kernel_rfl) (by rfl)
              have hR0' : v0 = _ := hR0
              subst hR0'
              obtain ⟨v1, hv1, hR1⟩ := got_of hs 36 108 (by kernel_rfl) (by rfl)
              have hR1' : v1 = _ := hR1
              subst hR1'
              exact ⟨wanted_none rfl, _, run_pk rfl (ev hv0) (by rw [if_neg (by simp)]; exact ev hv1), rfl⟩
            refine stepsL_cons (s_val fun a W hC hs => ?_) ?_
            · obtain ⟨v0, hv0, hR0⟩ := got_of hs 37 109 (by kernel_rfl) (by rfl)
              have hR0' : v0 = _ := hR0
              subst hR0'
              exact ⟨wanted_none rfl, _, run_mv (Or.inl rfl) (ev hv0), rfl⟩
            refine stepsL_cons (s_val fun a W hC hs => ?_) ?_
            · obtain ⟨v9, hv9, hR9⟩ := got_of hs 38 110 (by kernel_rfl) (by rfl)
              have hR9' : v9 = _ := hR9
              subst hR9'
              have ho := old_of hs 6 (by kernel_rfl) (by rfl)
              exact ⟨wanted_no (j := 38) (d := 110) rfl (by rfl) hv9, _, run_mv (Or.inl rfl) (ev ho), rfl⟩
            refine stepsL_cons (s_val fun a W hC hs => ?_) ?_
            · obtain ⟨v9, hv9, hR9⟩ := got_of hs 38 110 (by kernel_rfl) (by rfl)
              have hR9' : v9 = _ := hR9
              subst hR9'
              obtain ⟨v0, hv0, hR0⟩ := got_of hs 39 111 (by kernel_rfl) (by rfl)
              have hR0' : v0 = _ := hR0
              subst hR0'
              exact ⟨wanted_no (j := 38) (d := 110) rfl (by rfl) hv9, _, run_mv (Or.inl rfl) (ev hv0), rfl⟩
            refine stepsL_cons (s_skip (fun a W hC hs => ?_) (fun _ => rfl)) ?_
            · obtain ⟨v9, hv9, hR9⟩ := got_of hs 40 112 (by kernel_rfl) (by rfl)
              have hR9' : v9 = _ := hR9
              subst hR9'
              exact wanted_not (j := 40) (d := 112) rfl (by rfl) hv9
            refine stepsL_cons (s_skip (fun a W hC hs => ?_) (fun _ => rfl)) ?_
            · obtain ⟨v9, hv9, hR9⟩ := got_of hs 40 112 (by kernel_rfl) (by rfl)
              have hR9' : v9 = _ := hR9
              subst hR9'
              exact wanted_not (j := 40) (d := 112) rfl (by rfl) hv9
            refine stepsL_cons (s_skip (fun a W hC hs => ?_) (fun _ => rfl)) ?_
            · obtain ⟨v9, hv9, hR9⟩ := got_of hs 40 112 (by kernel_rfl) (by rfl)
              have hR9' : v9 = _ := hR9
              subst hR9'
              exact wanted_not (j := 40) (d := 112) rfl (by rfl) hv9
            refine stepsL_cons (s_skip (fun a W hC hs => ?_) (fun _ => rfl)) ?_
            · obtain ⟨v9, hv9, hR9⟩ := got_of hs 40 112 (by kernel_rfl) (by rfl)
              have hR9' : v9 = _ := hR9
              subst hR9'
              exact wanted_not (j := 40) (d := 112) rfl (by rfl) hv9
            refine stepsL_cons (s_val fun a W hC hs => ?_) ?_
            · obtain ⟨v9, hv9, hR9⟩ := got_of hs 38 110 (by kernel_rfl) (by rfl)
              have hR9' : v9 = _ := hR9
              subst hR9'
              obtain ⟨v0, hv0, hR0⟩ := got_of hs 40 112 (by kernel_rfl) (by rfl)
              have hR0' : v0 = _ := hR0
              subst hR0'
              exact ⟨wanted_no (j := 38) (d := 110) rfl (by rfl) hv9, _, run_pk rfl (ev hv0) (by rw [if_neg (by simp)]; exact ev_const _), rfl⟩
            refine stepsL_cons (s_val fun a W hC hs => ?_) ?_
            · obtain ⟨v0, hv0, hR0⟩ := got_of hs 38 110 (by kernel_rfl) (by rfl)
              have hR0' : v0 = _ := hR0
              subst hR0'
              obtain ⟨v1, hv1, hR1⟩ := got_of hs 45 117 (by kernel_rfl) (by rfl)
              have hR1' : v1 = _ := hR1
              subst hR1'
              exact ⟨wanted_none rfl, _, run_pk rfl (ev hv0) (by rw [if_neg (by simp)]; exact ev hv1), rfl⟩
            refine stepsL_cons (s_val fun a W hC hs => ?_) ?_
            · obtain ⟨v0, hv0, hR0⟩ := got_of hs 46 118 (by kernel_rfl) (by rfl)
              have hR0' : v0 = _ := hR0
              subst hR0'
              exact ⟨wanted_none rfl, _, run_mv (Or.inl rfl) (ev hv0), rfl⟩
            refine stepsL_cons (s_val fun a W hC hs => ?_) ?_
            · obtain ⟨v9, hv9, hR9⟩ := got_of hs 47 119 (by kernel_rfl) (by rfl)
              have hR9' : v9 = _ := hR9
              subst hR9'
              have ho := old_of hs 6 (by kernel_rfl) (by rfl)
              exact ⟨wanted_no (j := 47) (d := 119) rfl (by rfl) hv9, _, run_mv (Or.inl rfl) (ev ho), rfl⟩
            refine stepsL_cons (s_val fun a W hC hs => ?_) ?_
            · obtain ⟨v9, hv9, hR9⟩ := got_of hs 47 119 (by kernel_rfl) (by rfl)
              have hR9' : v9 = _ := hR9
              subst hR9'
              obtain ⟨v0, hv0, hR0⟩ := got_of hs 48 120 (by kernel_rfl) (by rfl)
              have hR0' : v0 = _ := hR0
              subst hR0'
              exact ⟨wanted_no (j := 47) (d := 119) rfl (by rfl) hv9, _, run_notB rfl (ev hv0), rfl⟩
            refine stepsL_cons (s_val fun a W hC hs => ?_) ?_
            · obtain ⟨v9, hv9, hR9⟩ := got_of hs 47 119 (by kernel_rfl) (by rfl)
              have hR9' : v9 = _ := hR9
              subst hR9'
              obtain ⟨v0, hv0, hR0⟩ := got_of hs 49 121 (by kernel_rfl) (by rfl)
              have hR0' : v0 = _ := hR0
              subst hR0'
              exact ⟨wanted_no (j := 47) (d := 119) rfl (by rfl) hv9, _, run_mv (Or.inl rfl) (ev hv0), rfl⟩
            refine stepsL_cons (s_val fun a W hC hs => ?_) ?_
            · obtain ⟨v9, hv9, hR9⟩ := got_of hs 50 122 (by kernel_rfl) (by rfl)
              have hR9' : v9 = _ := hR9
              subst hR9'
              have ho := old_of hs 5 (by kernel_rfl) (by rfl)
              exact ⟨wanted_true (j := 50) (d := 122) rfl (by rfl) hv9, _, run_mv (Or.inl rfl) (ev ho), rfl⟩
            refine stepsL_cons (s_val fun a W hC hs => ?_) ?_
            · obtain ⟨v9, hv9, hR9⟩ := got_of hs 50 122 (by kernel_rfl) (by rfl)
              have hR9' : v9 = _ := hR9
              subst hR9'
              obtain ⟨v0, hv0, hR0⟩ := got_of hs 51 123 (by kernel_rfl) (by rfl)
              have hR0' : v0 = _ := hR0
              subst hR0'
              exact ⟨wanted_true (j := 50) (d := 122) rfl (by rfl) hv9, _, run_nei Tryd.underlying3 rfl (ev hv0) (ev_const _) k7, rfl⟩
            refine stepsL_cons (s_val fun a W hC hs => ?_) ?_
            · obtain ⟨v9, hv9, hR9⟩ := got_of hs 47 119 (by kernel_rfl) (by rfl)
              have hR9' : v9 = _ := hR9
              subst hR9'
              obtain ⟨v0, hv0, hR0⟩ := got_of hs 50 122 (by kernel_rfl) (by rfl)
              have hR0' : v0 = _ := hR0
              subst hR0'
              obtain ⟨v1, hv1, hR1⟩ := got_of hs 52 124 (by kernel_rfl) (by rfl)
              have hR1' : v1 = _ := hR1
              subst hR1'
              exact ⟨wanted_no (j := 47) (d := 119) rfl (by rfl) hv9, _, run_pk rfl (ev hv0) (by rw [if_pos rfl]; exact ev hv1), rfl⟩
            refine stepsL_cons (s_val fun a W hC hs => ?_) ?_
            · obtain ⟨v0, hv0, hR0⟩ := got_of hs 47 119 (by kernel_rfl) (by rfl)
              have hR0' : v0 = _ := hR0
              subst hR0'
              obtain ⟨v1, hv1, hR1⟩ := got_of hs 53 125 (by kernel_rfl) (by rfl)
              have hR1' : v1 = _ := hR1
              subst hR1'
              exact ⟨wanted_none rfl, _, run_pk rfl (ev hv0) (by rw [if_neg (by simp)]; exact ev hv1), rfl⟩
            exact stepsL_nil
          case hendrf10 =>
            intro σ V5 hC hR
            generalize hF : fillL _ _ _ _ _ = F
            simp [fillL, dstOf, List.range, List.range.loop, Act.put] at hF
            subst hF
            have h54 : σ 54 = .bool false := hR 54 (by simp)
            rw [h54]
            have hbn := Lib.hid (hbn0.out.trans (hC.mono hbn0.out.size))
            clear hR h54 h4 hbn0 hC hbx
            go_wp2_with fail
            go_roundw
            case rel => exact ⟨k + 1, by omega, by go_num, hbn⟩
            case measure => simp [intOf]; omega
      | false =>
        have k4 := k4.out hwb
        have k2 := k2.out
        rw [hwb] at k2
        cases hgb : (glP x.i).2 with
        | true =>
          have k6 := k6.out hgb
          have k5 := k5.out
          rw [hgb] at k5
          refine wp_region_rel (C := fun V => Below W4.heap.size W4 V) (E := Ext) (R := fun j => (rf01 bx x).getD j VT) (by kernel_rfl) ((Below.refl _ _).drew) (by kernel_rfl) (fun j v w' w'' _ hE h => mono_get _ j rf01_mono v w' w'' hE h) (steps_all ?hsrf01) ?hendrf01
          case hsrf01 =>
            refine stepsL_cons (s_val fun a W hC hs => ?_) ?_
            · have ho := old_of hs 2 (by kernel_rfl) (by rfl)
              exact ⟨wanted_none rfl, _, run_fa rfl (ev ho) fl_f0, rfl⟩
            refine stepsL_cons (s_val fun a W hC hs => ?_) ?_
            · obtain ⟨v0, hv0, hR0⟩ := got_of hs 0 72 (by kernel_rfl) (by rfl)
              have hR0' : v0 = _ := hR0
              subst hR0'
              have hB := h4.out W hC
              exact ⟨wanted_none rfl, _, run_ld rfl (ev hv0) (load_in0 hB.1), rfl⟩
            refine stepsL_cons (s_call fun a W hC hs => ?_) ?_
            · obtain ⟨v0, hv0, hR0⟩ := got_of hs 1 73 (by kernel_rfl) (by rfl)
              have hR0' : v0 = _ := hR0
              subst hR0'
              have hB := h4.out W hC
              refine ⟨wanted_none rfl, 22, _, run_call1 rfl (ev hv0) (fun _ _ => rfl), (reads_any x.i W hB.2.2.2.2.1 hB.2.2.2.2.2.2 (by rw [k1]; omega)).mono ?_⟩
              rintro e W' ⟨v, rfl, hown, hb5⟩
              obtain ⟨a', c', rfl, hrw⟩ := row_own hown
              exact ⟨_, rfl, hC.trans (hb5.mono hC.size), hb5, ⟨a', c', rfl, hrw.mono (fun _ _ => trivial)⟩⟩
            refine stepsL_cons (s_val fun a W hC hs => ?_) ?_
            · have ho := old_of hs 2 (by kernel_rfl) (by rfl)
              exact ⟨wanted_none rfl, _, run_fa rfl (ev ho) fl_f1, rfl⟩
            refine stepsL_cons (s_val fun a W hC hs => ?_) ?_
            · obtain ⟨v0, hv0, hR0⟩ := got_of hs 3 75 (by kernel_rfl) (by rfl)
              have hR0' : v0 = _ := hR0
              subst hR0'
              have hB := h4.out W hC
              exact ⟨wanted_none rfl, _, run_ld rfl (ev hv0) (ld_ns hB.2.1), rfl⟩
            refine stepsL_cons (s_call fun a W hC hs => ?_) ?_
            · obtain ⟨v0, hv0, hR0⟩ := got_of hs 2 74 (by kernel_rfl) (by rfl)
              replace hR0 : RN x.i v0 W := hR0
              obtain ⟨a0', c0', rfl, hrw⟩ := hR0
              obtain ⟨v1, hv1, hR1⟩ := got_of hs 4 76 (by kernel_rfl) (by rfl)
              have hR1' : v1 = _ := hR1
              subst hR1'
              have hB := h4.out W hC
              refine ⟨wanted_none rfl, 17, _, run_call2 rfl (ev hv0) (ev hv1) (fun _ _ => rfl), (ints_any (rdP x.i) x.reads a0' x.ra c0' x.rc W hrw hB.2.2.2.2.2.1).mono ?_⟩
              rintro e W' ⟨rfl, hb5⟩
              exact ⟨_, rfl, hC.trans (hb5.mono hC.size), hb5, by show Value.bool _ = _; rw [decide_eq_true k1]⟩
            refine stepsL_cons (s_val fun a W hC hs => ?_) ?_
            · obtain ⟨v0, hv0, hR0⟩ := got_of hs 5 77 (by kernel_rfl) (by rfl)
              have hR0' : v0 = _ := hR0
              subst hR0'
              exact ⟨wanted_none rfl, _, run_notB rfl (ev hv0), rfl⟩
            refine stepsL_cons (s_val fun a W hC hs => ?_) ?_
            · obtain ⟨v0, hv0, hR0⟩ := got_of hs 6 78 (by kernel_rfl) (by rfl)
              have hR0' : v0 = _ := hR0
              subst hR0'
              exact ⟨wanted_none rfl, _, run_mv (Or.inl rfl) (ev hv0), rfl⟩
            refine stepsL_cons (s_val fun a W hC hs => ?_) ?_
            · obtain ⟨v9, hv9, hR9⟩ := got_of hs 7 79 (by kernel_rfl) (by rfl)
              have hR9' : v9 = _ := hR9
              subst hR9'
              have ho := old_of hs 4 (by kernel_rfl) (by rfl)
              exact ⟨wanted_no (j := 7) (d := 79) rfl (by rfl) hv9, _, run_mv (Or.inl rfl) (ev ho), rfl⟩
            refine stepsL_cons (s_val fun a W hC hs => ?_) ?_
            · obtain ⟨v9, hv9, hR9⟩ := got_of hs 7 79 (by kernel_rfl) (by rfl)
              have hR9' : v9 = _ := hR9
              subst hR9'
              have ho := old_of hs 2 (by kernel_rfl) (by rfl)
              exact ⟨wanted_no (j := 7) (d := 79) rfl (by rfl) hv9, _, run_fa rfl (ev ho) fl_f2, rfl⟩
            refine stepsL_cons (s_val fun a W hC hs => ?_) ?_
            · obtain ⟨v9, hv9, hR9⟩ := got_of hs 7 79 (by kernel_rfl) (by rfl)
              have hR9' : v9 = _ := hR9
              subst hR9'
              obtain ⟨v0, hv0, hR0⟩ := got_of hs 9 81 (by kernel_rfl) (by rfl)
              have hR0' : v0 = _ := hR0
              subst hR0'
              have hB := h4.out W hC
              exact ⟨wanted_no (j := 7) (d := 79) rfl (by rfl) hv9, _, run_ld rfl (ev hv0) (ld_i hB.2.2.1), rfl⟩
            refine stepsL_cons (s_val fun a W hC hs => ?_) ?_
            · obtain ⟨v9, hv9, hR9⟩ := got_of hs 7 79 (by kernel_rfl) (by rfl)
              have hR9' : v9 = _ := hR9
              subst hR9'
              obtain ⟨v0, hv0, hR0⟩ := got_of hs 10 82 (by kernel_rfl) (by rfl)
              have hR0' : v0 = _ := hR0
              subst hR0'
              exact ⟨wanted_no (j := 7) (d := 79) rfl (by rfl) hv9, _, run_geq Tryd.underlying3 rfl (ev hv0) (ev_const _), by show Value.bool _ = _; rw [k2]⟩
            refine stepsL_cons (s_val fun a W hC hs => ?_) ?_
            · obtain ⟨v9, hv9, hR9⟩ := got_of hs 7 79 (by kernel_rfl) (by rfl)
              have hR9' : v9 = _ := hR9
              subst hR9'
              obtain ⟨v0, hv0, hR0⟩ := got_of hs 8 80 (by kernel_rfl) (by rfl)
              have hR0' : v0 = _ := hR0
              subst hR0'
              obtain ⟨v1, hv1, hR1⟩ := got_of hs 11 83 (by kernel_rfl) (by rfl)
              have hR1' : v1 = _ := hR1
              subst hR1'
              exact ⟨wanted_no (j := 7) (d := 79) rfl (by rfl) hv9, _, run_neb Tryd.underlying4 rfl (ev hv0) (ev hv1), rfl⟩
            refine stepsL_cons (s_val fun a W hC hs => ?_) ?_
            · obtain ⟨v0, hv0, hR0⟩ := got_of hs 7 79 (by kernel_rfl) (by rfl)
              have hR0' : v0 = _ := hR0
              subst hR0'
              obtain ⟨v1, hv1, hR1⟩ := got_of hs 12 84 (by kernel_rfl) (by rfl)
              have hR1' : v1 = _ := hR1
              subst hR1'
              exact ⟨wanted_none rfl, _, run_pk rfl (ev hv0) (by rw [if_neg (by simp)]; exact ev hv1), rfl⟩
            refine stepsL_cons (s_val fun a W hC hs => ?_) ?_
            · obtain ⟨v0, hv0, hR0⟩ := got_of hs 13 85 (by kernel_rfl) (by rfl)
              have hR0' : v0 = _ := hR0
              subst hR0'
              exact ⟨wanted_none rfl, _, run_mv (Or.inl rfl) (ev hv0), rfl⟩
            refine stepsL_cons (s_val fun a W hC hs => ?_) ?_
            · obtain ⟨v9, hv9, hR9⟩ := got_of hs 14 86 (by kernel_rfl) (by rfl)
              have hR9' : v9 = _ := hR9
              subst hR9'
              have ho := old_of hs 4 (by kernel_rfl) (by rfl)
              exact ⟨wanted_no (j := 14) (d := 86) rfl (by rfl) hv9, _, run_mv (Or.inl rfl) (ev ho), rfl⟩
            refine stepsL_cons (s_val fun a W hC hs => ?_) ?_
            · obtain ⟨v9, hv9, hR9⟩ := got_of hs 14 86 (by kernel_rfl) (by rfl)
              have hR9' : v9 = _ := hR9
              subst hR9'
              obtain ⟨v0, hv0, hR0⟩ := got_of hs 15 87 (by kernel_rfl) (by rfl)
              have hR0' : v0 = _ := hR0
              subst hR0'
              exact ⟨wanted_no (j := 14) (d := 86) rfl (by rfl) hv9, _, run_mv (Or.inl rfl) (ev hv0), rfl⟩
            refine stepsL_cons (s_skip (fun a W hC hs => ?_) (fun _ => rfl)) ?_
            · obtain ⟨v9, hv9, hR9⟩ := got_of hs 16 88 (by kernel_rfl) (by rfl)
              have hR9' : v9 = _ := hR9
              subst hR9'
              exact wanted_not (j := 16) (d := 88) rfl (by rfl) hv9
            refine stepsL_cons (s_skip (fun a W hC hs => ?_) (fun _ => rfl)) ?_
            · obtain ⟨v9, hv9, hR9⟩ := got_of hs 16 88 (by kernel_rfl) (by rfl)
              have hR9' : v9 = _ := hR9
              subst hR9'
              exact wanted_not (j := 16) (d := 88) rfl (by rfl) hv9
            refine stepsL_cons (s_skip (fun a W hC hs => ?_) (fun _ => rfl)) ?_
            · obtain ⟨v9, hv9, hR9⟩ := got_of hs 16 88 (by kernel_rfl) (by rfl)
              have hR9' : v9 = _ := hR9
              subst hR9'
              exact wanted_not (j := 16) (d := 88) rfl (by rfl) hv9
            refine stepsL_cons (s_skip (fun a W hC hs => ?_) (fun _ => rfl)) ?_
            · obtain ⟨v9, hv9, hR9⟩ := got_of hs 16 88 (by kernel_rfl) (by rfl)
              have hR9' : v9 = _ := hR9
              subst hR9'
              exact wanted_not (j := 16) (d := 88) rfl (by rfl) hv9
            refine stepsL_cons (s_val fun a W hC hs => ?_) ?_
            · obtain ⟨v9, hv9, hR9⟩ := got_of hs 14 86 (by kernel_rfl) (by rfl)
              have hR9' : v9 = _ := hR9
              subst hR9'
              obtain ⟨v0, hv0, hR0⟩ := got_of hs 16 88 (by kernel_rfl) (by rfl)
              have hR0' : v0 = _ := hR0
              subst hR0'
              exact ⟨wanted_no (j := 14) (d := 86) rfl (by rfl) hv9, _, run_pk rfl (ev hv0) (by rw [if_neg (by simp)]; exact ev_const _), rfl⟩
            refine stepsL_cons (s_val fun a W hC hs => ?_) ?_
            · obtain ⟨v0, hv0, hR0⟩ := got_of hs 14 86 (by kernel_rfl) (by rfl)
              have hR0' : v0 = _ := hR0
              subst hR0'
              obtain ⟨v1, hv1, hR1⟩ := got_of hs 21 93 (by kernel_rfl) (by rfl)
              have hR1' : v1 = _ := hR1
              subst hR1'
              exact ⟨wanted_none rfl, _, run_pk rfl (ev hv0) (by rw [if_neg (by simp)]; exact ev hv1), rfl⟩
            refine stepsL_cons (s_val fun a W hC hs => ?_) ?_
            · obtain ⟨v0, hv0, hR0⟩ := got_of hs 22 94 (by kernel_rfl) (by rfl)
              have hR0' : v0 = _ := hR0
              subst hR0'
              exact ⟨wanted_none rfl, _, run_mv (Or.inl rfl) (ev hv0), rfl⟩
            refine stepsL_cons (s_val fun a W hC hs => ?_) ?_
            · obtain ⟨v9, hv9, hR9⟩ := got_of hs 23 95 (by kernel_rfl) (by rfl)
              have hR9' : v9 = _ := hR9
              subst hR9'
              have ho := old_of hs 4 (by kernel_rfl) (by rfl)
              exact ⟨wanted_no (j := 23) (d := 95) rfl (by rfl) hv9, _, run_mv (Or.inl rfl) (ev ho), rfl⟩
            refine stepsL_cons (s_val fun a W hC hs => ?_) ?_
            · obtain ⟨v9, hv9, hR9⟩ := got_of hs 23 95 (by kernel_rfl) (by rfl)
              have hR9' : v9 = _ := hR9
              subst hR9'
              obtain ⟨v0, hv0, hR0⟩ := got_of hs 24 96 (by kernel_rfl) (by rfl)
              have hR0' : v0 = _ := hR0
              subst hR0'
              exact ⟨wanted_no (j := 23) (d := 95) rfl (by rfl) hv9, _, run_notB rfl (ev hv0), rfl⟩
            refine stepsL_cons (s_val fun a W hC hs => ?_) ?_
            · obtain ⟨v9, hv9, hR9⟩ := got_of hs 23 95 (by kernel_rfl) (by rfl)
              have hR9' : v9 = _ := hR9
              subst hR9'
              obtain ⟨v0, hv0, hR0⟩ := got_of hs 25 97 (by kernel_rfl) (by rfl)
              have hR0' : v0 = _ := hR0
              subst hR0'
              exact ⟨wanted_no (j := 23) (d := 95) rfl (by rfl) hv9, _, run_mv (Or.inl rfl) (ev hv0), rfl⟩
            refine stepsL_cons (s_val fun a W hC hs => ?_) ?_
            · obtain ⟨v9, hv9, hR9⟩ := got_of hs 26 98 (by kernel_rfl) (by rfl)
              have hR9' : v9 = _ := hR9
              subst hR9'
              have ho := old_of hs 3 (by kernel_rfl) (by rfl)
              exact ⟨wanted_true (j := 26) (d := 98) rfl (by rfl) hv9, _, run_mv (Or.inl rfl) (ev ho), rfl⟩
            refine stepsL_cons (s_val fun a W hC hs => ?_) ?_
            · obtain ⟨v9, hv9, hR9⟩ := got_of hs 26 98 (by kernel_rfl) (by rfl)
              have hR9' : v9 = _ := hR9
              subst hR9'
              obtain ⟨v0, hv0, hR0⟩ := got_of hs 27 99 (by kernel_rfl) (by rfl)
              have hR0' : v0 = _ := hR0
              subst hR0'
              exact ⟨wanted_true (j := 26) (d := 98) rfl (by rfl) hv9, _, run_nei Tryd.underlying3 rfl (ev hv0) (ev_const _) k4, rfl⟩
            refine stepsL_cons (s_val fun a W hC hs => ?_) ?_
            · obtain ⟨v9, hv9, hR9⟩ := got_of hs 23 95 (by kernel_rfl) (by rfl)
              have hR9' : v9 = _ := hR9
              subst hR9'
              obtain ⟨v0, hv0, hR0⟩ := got_of hs 26 98 (by kernel_rfl) (by rfl)
              have hR0' : v0 = _ := hR0
              subst hR0'
              obtain ⟨v1, hv1, hR1⟩ := got_of hs 28 100 (by kernel_rfl) (by rfl)
              have hR1' : v1 = _ := hR1
              subst hR1'
              exact ⟨wanted_no (j := 23) (d := 95) rfl (by rfl) hv9, _, run_pk rfl (ev hv0) (by rw [if_pos rfl]; exact ev hv1), rfl⟩
            refine stepsL_cons (s_val fun a W hC hs => ?_) ?_
            · obtain ⟨v0, hv0, hR0⟩ := got_of hs 23 95 (by kernel_rfl) (by rfl)
              have hR0' : v0 = _ := hR0
              subst hR0'
              obtain ⟨v1, hv1, hR1⟩ := got_of hs 29 101 (by kernel_rfl) (by rfl)
              have hR1' : v1 = _ := hR1
              subst hR1'
              exact ⟨wanted_none rfl, _, run_pk rfl (ev hv0) (by rw [if_neg (by simp)]; exact ev hv1), rfl⟩
            refine stepsL_cons (s_val fun a W hC hs => ?_) ?_
            · obtain ⟨v0, hv0, hR0⟩ := got_of hs 30 102 (by kernel_rfl) (by rfl)
              have hR0' : v0 = _ := hR0
              subst hR0'
              exact ⟨wanted_none rfl, _, run_mv (Or.inl rfl) (ev hv0), rfl⟩
            refine stepsL_cons (s_val fun a W hC hs => ?_) ?_
            · obtain ⟨v9, hv9, hR9⟩ := got_of hs 31 103 (by kernel_rfl) (by rfl)
              have hR9' : v9 = _ := hR9
              subst hR9'
              have ho := old_of hs 6 (by kernel_rfl) (by rfl)
              exact ⟨wanted_no (j := 31) (d := 103) rfl (by rfl) hv9, _, run_mv (Or.inl rfl) (ev ho), rfl⟩
            refine stepsL_cons (s_val fun a W hC hs => ?_) ?_
            · obtain ⟨v9, hv9, hR9⟩ := got_of hs 31 103 (by kernel_rfl) (by rfl)
              have hR9' : v9 = _ := hR9
              subst hR9'
              have ho := old_of hs 2 (by kernel_rfl) (by rfl)
              exact ⟨wanted_no (j := 31) (d := 103) rfl (by rfl) hv9, _, run_fa rfl (ev ho) fl_f3, rfl⟩
            refine stepsL_cons (s_val fun a W hC hs => ?_) ?_
            · obtain ⟨v9, hv9, hR9⟩ := got_of hs 31 103 (by kernel_rfl) (by rfl)
              have hR9' : v9 = _ := hR9
              subst hR9'
              obtain ⟨v0, hv0, hR0⟩ := got_of hs 33 105 (by kernel_rfl) (by rfl)
              have hR0' : v0 = _ := hR0
              subst hR0'
              have hB := h4.out W hC
              exact ⟨wanted_no (j := 31) (d := 103) rfl (by rfl) hv9, _, run_ld rfl (ev hv0) (ld_i hB.2.2.2.1), rfl⟩
            refine stepsL_cons (s_val fun a W hC hs => ?_) ?_
            · obtain ⟨v9, hv9, hR9⟩ := got_of hs 31 103 (by kernel_rfl) (by rfl)
              have hR9' : v9 = _ := hR9
              subst hR9'
              obtain ⟨v0, hv0, hR0⟩ := got_of hs 34 106 (by kernel_rfl) (by rfl)
              have hR0' : v0 = _ := hR0
              subst hR0'
              exact ⟨wanted_no (j := 31) (d := 103) rfl (by rfl) hv9, _, run_geq Tryd.underlying3 rfl (ev hv0) (ev_const _), by show Value.bool _ = _; rw [k5]⟩
            refine stepsL_cons (s_val fun a W hC hs => ?_) ?_
            · obtain ⟨v9, hv9, hR9⟩ := got_of hs 31 103 (by kernel_rfl) (by rfl)
              have hR9' : v9 = _ := hR9
              subst hR9'
              obtain ⟨v0, hv0, hR0⟩ := got_of hs 32 104 (by kernel_rfl) (by rfl)
              have hR0' : v0 = _ := hR0
              subst hR0'
              obtain ⟨v1, hv1, hR1⟩ := got_of hs 35 107 (by kernel_rfl) (by rfl)
              have hR1' : v1 = _ := hR1
              subst hR1'
              exact ⟨wanted_no (j := 31) (d := 103) rfl (by rfl) hv9, _, run_neb Tryd.underlying4 rfl (ev hv0) (ev hv1), rfl⟩
            refine stepsL_cons (s_val fun a W hC hs => ?_) ?_
            · obtain ⟨v0, hv0, hR0⟩ := got_of hs 31 103 (by kernel_rfl) (by rfl)
              have hR0' : v0 = _ := hR0
              subst hR0'
              obtain ⟨v1, hv1, hR1⟩ := got_of hs 36 108 (by kernel_rfl) (by rfl)
              have hR1' : v1 = _ := hR1
              subst hR1'
              exact ⟨wanted_none rfl, _, run_pk rfl (ev hv0) (by rw [if_neg (by simp)]; exact ev hv1), rfl⟩
            refine stepsL_cons (s_val fun a W hC hs => ?_) ?_
            · obtain ⟨v0, hv0, hR0⟩ := got_of hs 37 109 (by kernel_rfl) (by rfl)
              have hR0' : v0 = _ := hR0
              subst hR0'
              exact ⟨wanted_none rfl, _, run_mv (Or.inl rfl) (ev hv0), rfl⟩
            refine stepsL_cons (s_val fun a W hC hs => ?_) ?_
            · obtain ⟨v9, hv9, hR9⟩ := got_of hs 38 110 (by kernel_rfl) (by rfl)
              have hR9' : v9 = _ := hR9
              subst hR9'
              have ho := old_of hs 6 (by kernel_rfl) (by rfl)
              exact ⟨wanted_no (j := 38) (d := 110) rfl (by rfl) hv9, _, run_mv (Or.inl rfl) (ev ho), rfl⟩
            refine stepsL_cons (s_val fun a W hC hs => ?_) ?_
            · obtain ⟨v9, hv9, hR9⟩ := got_of hs 38 110 (by kernel_rfl) (by rfl)
              have hR9' : v9 = _ := hR9
              subst hR9'
              obtain ⟨v0, hv0, hR0⟩ := got_of hs 39 111 (by kernel_rfl) (by rfl)
              have hR0' : v0 = _ := hR0
              subst hR0'
              exact ⟨wanted_no (j := 38) (d := 110) rfl (by rfl) hv9, _, run_mv (Or.inl rfl) (ev hv0), rfl⟩
            refine stepsL_cons (s_val fun a W hC hs => ?_) ?_
            · obtain ⟨v9, hv9, hR9⟩ := got_of hs 40 112 (by kernel_rfl) (by rfl)
              have hR9' : v9 = _ := hR9
              subst hR9'
              have ho := old_of hs 5 (by kernel_rfl) (by rfl)
              exact ⟨wanted_true (j := 40) (d := 112) rfl (by rfl) hv9, _, run_mv (Or.inl rfl) (ev ho), rfl⟩
            refine stepsL_cons (s_val fun a W hC hs => ?_) ?_
            · obtain ⟨v9, hv9, hR9⟩ := got_of hs 40 112 (by kernel_rfl) (by rfl)
              have hR9' : v9 = _ := hR9
              subst hR9'
              have ho := old_of hs 2 (by kernel_rfl) (by rfl)
              exact ⟨wanted_true (j := 40) (d := 112) rfl (by rfl) hv9, _, run_fa rfl (ev ho) fl_f3, rfl⟩
            refine stepsL_cons (s_val fun a W hC hs => ?_) ?_
            · obtain ⟨v9, hv9, hR9⟩ := got_of hs 40 112 (by kernel_rfl) (by rfl)
              have hR9' : v9 = _ := hR9
              subst hR9'
              obtain ⟨v0, hv0, hR0⟩ := got_of hs 42 114 (by kernel_rfl) (by rfl)
              have hR0' : v0 = _ := hR0
              subst hR0'
              have hB := h4.out W hC
              exact ⟨wanted_true (j := 40) (d := 112) rfl (by rfl) hv9, _, run_ld rfl (ev hv0) (ld_i hB.2.2.2.1), rfl⟩
            refine stepsL_cons (s_val fun a W hC hs => ?_) ?_
            · obtain ⟨v9, hv9, hR9⟩ := got_of hs 40 112 (by kernel_rfl) (by rfl)
              have hR9' : v9 = _ := hR9
              subst hR9'
              obtain ⟨v0, hv0, hR0⟩ := got_of hs 41 113 (by kernel_rfl) (by rfl)
              have hR0' : v0 = _ := hR0
              subst hR0'
              obtain ⟨v1, hv1, hR1⟩ := got_of hs 43 115 (by kernel_rfl) (by rfl)
              have hR1' : v1 = _ := hR1
              subst hR1'
              exact ⟨wanted_true (j := 40) (d := 112) rfl (by rfl) hv9, _, run_nei Tryd.underlying3 rfl (ev hv0) (ev hv1) k6, rfl⟩
            refine stepsL_cons (s_val fun a W hC hs => ?_) ?_
            · obtain ⟨v9, hv9, hR9⟩ := got_of hs 38 110 (by kernel_rfl) (by rfl)
              have hR9' : v9 = _ := hR9
              subst hR9'
              obtain ⟨v0, hv0, hR0⟩ := got_of hs 40 112 (by kernel_rfl) (by rfl)
              have hR0' : v0 = _ := hR0
              subst hR0'
              obtain ⟨v1, hv1, hR1⟩ := got_of hs 44 116 (by kernel_rfl) (by rfl)
              have hR1' : v1 = _ := hR1
              subst hR1'
              exact ⟨wanted_no (j := 38) (d := 110) rfl (by rfl) hv9, _, run_pk rfl (ev hv0) (by rw [if_pos rfl]; exact ev hv1), rfl⟩
            refine stepsL_cons (s_val fun a W hC hs => ?_) ?_
            · obtain ⟨v0, hv0, hR0⟩ := got_of hs 38 110 (by kernel_rfl) (by rfl)
              have hR0' : v0 = _ := hR0
              subst hR0'
              obtain ⟨v1, hv1, hR1⟩ := got_of hs 45 117 (by kernel_rfl) (by rfl)
              have hR1' : v1 = _ := hR1
              subst hR1'
              exact ⟨wanted_none rfl, _, run_pk rfl (ev hv0) (by rw [if_neg (by simp)]; exact ev hv1), rfl⟩
            refine stepsL_cons (s_val fun a W hC hs => ?_) ?_
            · obtain ⟨v0, hv0, hR0⟩ := got_of hs 46 118 (by kernel_rfl) (by rfl)
              have hR0' : v0 = _ := hR0
              subst hR0'
              exact ⟨wanted_none rfl, _, run_mv (Or.inl rfl) (ev hv0), rfl⟩
            refine stepsL_cons (s_val fun a W hC hs => ?_) ?_
            · obtain ⟨v9, hv9, hR9⟩ := got_of hs 47 119 (by kernel_rfl) (by rfl)
              have hR9' : v9 = _ := hR9
              subst hR9'
              have ho := old_of hs 6 (by kernel_rfl) (by rfl)
              exact ⟨wanted_no (j := 47) (d := 119) rfl (by rfl) hv9, _, run_mv (Or.inl rfl) (ev ho), rfl⟩
            refine stepsL_cons (s_val fun a W hC hs => ?_) ?_
            · obtain ⟨v9, hv9, hR9⟩ := got_of hs 47 119 (by kernel_rfl) (by rfl)
              have hR9' : v9 = _ := hR9
              subst hR9'
              obtain ⟨v0, hv0, hR0⟩ := got_of hs 48 120 (by kernel_rfl) (by rfl)
              have hR0' : v0 = _ := hR0
              subst hR0'
              exact ⟨wanted_no (j := 47) (d := 119) rfl (by rfl) hv9, _, run_notB rfl (ev hv0), rfl⟩
            refine stepsL_cons (s_val fun a W hC hs => ?_) ?_
            · obtain ⟨v9, hv9, hR9⟩ := got_of hs 47 119 (by kernel_rfl) (by rfl)
              have hR9' : v9 = _ := hR9
              subst hR9'
              obtain ⟨v0, hv0, hR0⟩ := got_of hs 49 121 (by kernel_rfl) (by rfl)
              have hR0' : v0 = _ := hR0
              subst hR0'
              exact ⟨wanted_no (j := 47) (d := 119) rfl (by rfl) hv9, _, run_mv (Or.inl rfl) (ev hv0), rfl⟩
            refine stepsL_cons (s_skip (fun a W hC hs => ?_) (fun _ => rfl)) ?_
            · obtain ⟨v9, hv9, hR9⟩ := got_of hs 50 122 (by kernel_rfl) (by rfl)
              have hR9' : v9 = _ := hR9
              subst hR9'
              exact wanted_not (j := 50) (d := 122) rfl (by rfl) hv9
            refine stepsL_cons (s_skip (fun a W hC hs => ?_) (fun _ => rfl)) ?_
            · obtain ⟨v9, hv9, hR9⟩ := got_of hs 50 122 (by kernel_rfl) (by rfl)
              have hR9' : v9 = _ := hR9
              subst hR9'
              exact wanted_not (j := 50) (d := 122) rfl (by rfl) hv9
            refine stepsL_cons (s_val fun a W hC hs => ?_) ?_
            · obtain ⟨v9, hv9, hR9⟩ := got_of hs 47 119 (by kernel_rfl) (by rfl)
              have hR9' : v9 = _ := hR9
              subst hR9'
              obtain ⟨v0, hv0, hR0⟩ := got_of hs 50 122 (by kernel_rfl) (by rfl)
              have hR0' : v0 = _ := hR0
              subst hR0'
              exact ⟨wanted_no (j := 47) (d := 119) rfl (by rfl) hv9, _, run_pk rfl (ev hv0) (by rw [if_neg (by simp)]; exact ev_const _), rfl⟩
            refine stepsL_cons (s_val fun a W hC hs => ?_) ?_
            · obtain ⟨v0, hv0, hR0⟩ := got_of hs 47 119 (by kernel_rfl) (by rfl)
              have hR0' : v0 = _ := hR0
              subst hR0'
              obtain ⟨v1, hv1, hR1⟩ := got_of hs 53 125 (by kernel_rfl) (by rfl)
              have hR1' : v1 = _ := hR1
              subst hR1'
              exact ⟨wanted_none rfl, _, run_pk rfl (ev hv0) (by rw [if_neg (by simp)]; exact ev hv1), rfl⟩
            exact stepsL_nil
          case hendrf01 =>
            intro σ V5 hC hR
            generalize hF : fillL _ _ _ _ _ = F
            simp [fillL, dstOf, List.range, List.range.loop, Act.put] at hF
            subst hF
            have h54 : σ 54 = .bool false := hR 54 (by simp)
            rw [h54]
            have hbn := Lib.hid (hbn0.out.trans (hC.mono hbn0.out.size))
            clear hR h54 h4 hbn0 hC hbx
            go_wp2_with fail
            go_roundw
            case rel => exact ⟨k + 1, by omega, by go_num, hbn⟩
            case measure => simp [intOf]; omega
        | false =>
          have k7 := k7.out hgb
          have k5 := k5.out
          rw [hgb] at k5
          refine wp_region_rel (C := fun V => Below W4.heap.size W4 V) (E := Ext) (R := fun j => (rf00 bx x).getD j VT) (by kernel_rfl) ((Below.refl _ _).drew) (by kernel_rfl) (fun j v w' w'' _ hE h => mono_get _ j rf00_mono v w' w'' hE h) (steps_all ?hsrf00) ?hendrf00
          case hsrf00 =>
            refine stepsL_cons (s_val fun a W hC hs => ?_) ?_
            · have ho := old_of hs 2 (by kernel_rfl) (by rfl)
              exact ⟨wanted_none rfl, _, run_fa rfl (ev ho) fl_f0, rfl⟩
            refine stepsL_cons (s_val fun a W hC hs => ?_) ?_
            · obtain ⟨v0, hv0, hR0⟩ := got_of hs 0 72 (by kernel_rfl) (by rfl)
              have hR0' : v0 = _ := hR0
              subst hR0'
              have hB := h4.out W hC
              exact ⟨wanted_none rfl, _, run_ld rfl (ev hv0) (load_in0 hB.1), rfl⟩
            refine stepsL_cons (s_call fun a W hC hs => ?_) ?_
            · obtain ⟨v0, hv0, hR0⟩ := got_of hs 1 73 (by kernel_rfl) (by rfl)
              have hR0' : v0 = _ := hR0
              subst hR0'
              have hB := h4.out W hC
              refine ⟨wanted_none rfl, 22, _, run_call1 rfl (ev hv0) (fun _ _ => rfl), (reads_any x.i W hB.2.2.2.2.1 hB.2.2.2.2.2.2 (by rw [k1]; omega)).mono ?_⟩
              rintro e W' ⟨v, rfl, hown, hb5⟩
              obtain ⟨a', c', rfl, hrw⟩ := row_own hown
              exact ⟨_, rfl, hC.trans (hb5.mono hC.size), hb5, ⟨a', c', rfl, hrw.mono (fun _ _ => trivial)⟩⟩
            refine stepsL_cons (s_val fun a W hC hs => ?_) ?_
            · have ho := old_of hs 2 (by kernel_rfl) (by rfl)
              exact ⟨wanted_none rfl, _, run_fa rfl (ev ho) fl_f1, rfl⟩
            refine stepsL_cons (s_val fun a W hC hs => ?_) ?_
            · obtain ⟨v0, hv0, hR0⟩ := got_of hs 3 75 (by kernel_rfl) (by rfl)
              have hR0' : v0 = _ := hR0
              subst hR0'
              have hB := h4.out W hC
              exact ⟨wanted_none rfl, _, run_ld rfl (ev hv0) (ld_ns hB.2.1), rfl⟩
            refine stepsL_cons (s_call fun a W hC hs => ?_) ?_
            · obtain ⟨v0, hv0, hR0⟩ := got_of hs 2 74 (by kernel_rfl) (by rfl)
              replace hR0 : RN x.i v0 W := hR0
              obtain ⟨a0', c0', rfl, hrw⟩ := hR0
              obtain ⟨v1, hv1, hR1⟩ := got_of hs 4 76 (by kernel_rfl) (by rfl)
              have hR1' : v1 = _ := hR1
              subst hR1'
              have hB := h4.out W hC
              refine ⟨wanted_none rfl, 17, _, run_call2 rfl (ev hv0) (ev hv1) (fun _ _ => rfl), (ints_any (rdP x.i) x.reads a0' x.ra c0' x.rc W hrw hB.2.2.2.2.2.1).mono ?_⟩
              rintro e W' ⟨rfl, hb5⟩
              exact ⟨_, rfl, hC.trans (hb5.mono hC.size), hb5, by show Value.bool _ = _; rw [decide_eq_true k1]⟩
            refine stepsL_cons (s_val fun a W hC hs => ?_) ?_
            · obtain ⟨v0, hv0, hR0⟩ := got_of hs 5 77 (by kernel_rfl) (by rfl)
              have hR0' : v0 = _ := hR0
              subst hR0'
              exact ⟨wanted_none rfl, _, run_notB rfl (ev hv0), rfl⟩
            refine stepsL_cons (s_val fun a W hC hs => ?_) ?_
            · obtain ⟨v0, hv0, hR0⟩ := got_of hs 6 78 (by kernel_rfl) (by rfl)
              have hR0' : v0 = _ := hR0
              subst hR0'
              exact ⟨wanted_none rfl, _, run_mv (Or.inl rfl) (ev hv0), rfl⟩
            refine stepsL_cons (s_val fun a W hC hs => ?_) ?_
            · obtain ⟨v9, hv9, hR9⟩ := got_of hs 7 79 (by kernel_rfl) (by rfl)
              have hR9' : v9 = _ := hR9
              subst hR9'
              have ho := old_of hs 4 (by kernel_rfl) (by rfl)
              exact ⟨wanted_no (j := 7) (d := 79) rfl (by rfl) hv9, _, run_mv (Or.inl rfl) (ev ho), rfl⟩
            refine stepsL_cons (s_val fun a W hC hs => ?_) ?_
            · obtain ⟨v9, hv9, hR9⟩ := got_of hs 7 79 (by kernel_rfl) (by rfl)
              have hR9' : v9 = _ := hR9
              subst hR9'
              have ho := old_of hs 2 (by kernel_rfl) (by rfl)
              exact ⟨wanted_no (j := 7) (d := 79) rfl (by rfl) hv9, _, run_fa rfl (ev ho) fl_f2, rfl⟩
            refine stepsL_cons (s_val fun a W hC hs => ?_) ?_
            · obtain ⟨v9, hv9, hR9⟩ := got_of hs 7 79 (by kernel_rfl) (by rfl)
              have hR9' : v9 = _ := hR9
              subst hR9'
              obtain ⟨v0, hv0, hR0⟩ := got_of hs 9 81 (by kernel_rfl) (by rfl)
              have hR0' : v0 = _ := hR0
              subst hR0'
              have hB := h4.out W hC
              exact ⟨wanted_no (j := 7) (d := 79) rfl (by rfl) hv9, _, run_ld rfl (ev hv0) (ld_i hB.2.2.1), rfl⟩
            refine stepsL_cons (s_val fun a W hC hs => ?_) ?_
            · obtain ⟨v9, hv9, hR9⟩ := got_of hs 7 79 (by kernel_rfl) (by rfl)
              have hR9' : v9 = _ := hR9
              subst hR9'
              obtain ⟨v0, hv0, hR0⟩ := got_of hs 10 82 (by kernel_rfl) (by rfl)
              have hR0' : v0 = _ := hR0
              subst hR0'
              exact ⟨wanted_no (j := 7) (d := 79) rfl (by rfl) hv9, _, run_geq Tryd.underlying3 rfl (ev hv0) (ev_const _), by show Value.bool _ = _; rw [k2]⟩
            refine stepsL_cons (s_val fun a W hC hs => ?_) ?_
            · obtain ⟨v9, hv9, hR9⟩ := got_of hs 7 79 (by kernel_rfl) (by rfl)
              have hR9' : v9 = _ := hR9
              subst hR9'
              obtain ⟨v0, hv0, hR0⟩ := got_of hs 8 80 (by kernel_rfl) (by rfl)
              have hR0' : v0 = _ := hR0
              subst hR0'
              obtain ⟨v1, hv1, hR1⟩ := got_of hs 11 83 (by kernel_rfl) (by rfl)
              have hR1' : v1 = _ := hR1
              subst hR1'
              exact ⟨wanted_no (j := 7) (d := 79) rfl (by rfl) hv9, _, run_neb Tryd.underlying4 rfl (ev hv0) (ev hv1), rfl⟩
            refine stepsL_cons (s_val fun a W hC hs => ?_) ?_
            · obtain ⟨v0, hv0, hR0⟩ := got_of hs 7 79 (by kernel_rfl) (by rfl)
              have hR0' : v0 = _ := hR0
              subst hR0'
              obtain ⟨v1, hv1, hR1⟩ := got_of hs 12 84 (by kernel_rfl) (by rfl)
              have hR1' : v1 = _ := hR1
              subst hR1'
              exact ⟨wanted_none rfl, _, run_pk rfl (ev hv0) (by rw [if_neg (by simp)]; exact ev hv1), rfl⟩
            refine stepsL_cons (s_val fun a W hC hs => ?_) ?_
            · obtain ⟨v0, hv0, hR0⟩ := got_of hs 13 85 (by kernel_rfl) (by rfl)
              have hR0' : v0 = _ := hR0
              subst hR0'
              exact ⟨wanted_none rfl, _, run_mv (Or.inl rfl) (ev hv0), rfl⟩
            refine stepsL_cons (s_val fun a W hC hs => ?_) ?_
            · obtain ⟨v9, hv9, hR9⟩ := got_of hs 14 86 (by kernel_rfl) (by rfl)
              have hR9' : v9 = _ := hR9
              subst hR9'
              have ho := old_of hs 4 (by kernel_rfl) (by rfl)
              exact ⟨wanted_no (j := 14) (d := 86) rfl (by rfl) hv9, _, run_mv (Or.inl rfl) (ev ho), rfl⟩
            refine stepsL_cons (s_val fun a W hC hs => ?_) ?_
            · obtain ⟨v9, hv9, hR9⟩ := got_of hs 14 86 (by kernel_rfl) (by rfl)
              have hR9' : v9 = _ := hR9
              subst hR9'
              obtain ⟨v0, hv0, hR0⟩ := got_of hs 15 87 (by kernel_rfl) (by rfl)
              have hR0' : v0 = _ := hR0
              subst hR0'
              exact ⟨wanted_no (j := 14) (d := 86) rfl (by rfl) hv9, _, run_mv (Or.inl rfl) (ev hv0), rfl⟩
            refine stepsL_cons (s_skip (fun a W hC hs => ?_) (fun _ => rfl)) ?_
            · obtain ⟨v9, hv9, hR9⟩ := got_of hs 16 88 (by kernel_rfl) (by rfl)
              have hR9' : v9 = _ := hR9
              subst hR9'
              exact wanted_not (j := 16) (d := 88) rfl (by rfl) hv9
            refine stepsL_cons (s_skip (fun a W hC hs => ?_) (fun _ => rfl)) ?_
            · obtain ⟨v9, hv9, hR9⟩ := got_of hs 16 88 (by kernel_rfl) (by rfl)
              have hR9' : v9 = _ := hR9
              subst hR9'
              exact wanted_not (j := 16) (d := 88) rfl (by rfl) hv9
            refine stepsL_cons (s_skip (fun a W hC hs => ?_) (fun _ => rfl)) ?_
            · obtain ⟨v9, hv9, hR9⟩ := got_of hs 16 88 (by kernel_rfl) (by rfl)
              have hR9' : v9 = _ := hR9
              subst hR9'
              exact wanted_not (j := 16) (d := 88) rfl (by rfl) hv9
            refine stepsL_cons (s_skip (fun a W hC hs => ?_) (fun _ => rfl)) ?_
            · obtain ⟨v9, hv9, hR9⟩ := got_of hs 16 88 (by kernel_rfl) (by rfl)
              have hR9' : v9 = _ := hR9
              subst hR9'
              exact wanted_not (j := 16) (d := 88) rfl (by rfl) hv9
            refine stepsL_cons (s_val fun a W hC hs => ?_) ?_
            · obtain ⟨v9, hv9, hR9⟩ := got_of hs 14 86 (by kernel_rfl) (by rfl)
              have hR9' : v9 = _ := hR9
              subst hR9'
              obtain ⟨v0, hv0, hR0⟩ := got_of hs 16 88 (by kernel_rfl) (by rfl)
              have hR0' : v0 = _ := hR0
              subst hR0'
              exact ⟨wanted_no (j := 14) (d := 86) rfl (by rfl) hv9, _, run_pk rfl (ev hv0) (by rw [if_neg (by simp)]; exact ev_const _), rfl⟩
            refine stepsL_cons (s_val fun a W hC hs => ?_) ?_
            · obtain ⟨v0, hv0, hR0⟩ := got_of hs 14 86 (by kernel_rfl) (by rfl)
              have hR0' : v0 = _ := hR0
              subst hR0'
              obtain ⟨v1, hv1, hR1⟩ := got_of hs 21 93 (by kernel_rfl) (by rfl)
              have hR1' : v1 = _ := hR1
              subst hR1'
              exact ⟨wanted_none rfl, _, run_pk rfl (ev hv0) (by rw [if_neg (by simp)]; exact ev hv1), rfl⟩
            refine stepsL_cons (s_val fun a W hC hs => ?_) ?_
            · obtain ⟨v0, hv0, hR0⟩ := got_of hs 22 94 (by kernel_rfl) (by rfl)
              have hR0' : v0 = _ := hR0
              subst hR0'
              exact ⟨wanted_none rfl, _, run_mv (Or.inl rfl) (ev hv0), rfl⟩
            refine stepsL_cons (s_val fun a W hC hs => ?_) ?_
            · obtain ⟨v9, hv9, hR9⟩ := got_of hs 23 95 (by kernel_rfl) (by rfl)
              have hR9' : v9 = _ := hR9
              subst hR9'
              have ho := old_of hs 4 (by kernel_rfl) (by rfl)
              exact ⟨wanted_no (j := 23) (d := 95) rfl (by rfl) hv9, _, run_mv (Or.inl rfl) (ev ho), rfl⟩
            refine stepsL_cons (s_val fun a W hC hs => ?_) ?_
            · obtain ⟨v9, hv9, hR9⟩ := got_of hs 23 95 (by kernel_rfl) (by rfl)
              have hR9' : v9 = _ := hR9
              subst hR9'
              obtain ⟨v0, hv0, hR0⟩ := got_of hs 24 96 (by kernel_rfl) (by rfl)
              have hR0' : v0 = _ := hR0
              subst hR0'
              exact ⟨wanted_no (j := 23) (d := 95) rfl (by rfl) hv9, _, run_notB rfl (ev hv0), rfl⟩
            refine stepsL_cons (s_val fun a W hC hs => ?_) ?_
            · obtain ⟨v9, hv9, hR9⟩ := got_of hs 23 95 (by kernel_rfl) (by rfl)
              have hR9' : v9 = _ := hR9
              subst hR9'
              obtain ⟨v0, hv0, hR0⟩ := got_of hs 25 97 (by kernel_rfl) (by rfl)
              have hR0' : v0 = _ := hR0
              subst hR0'
              exact ⟨wanted_no (j := 23) (d := 95) rfl (by rfl) hv9, _, run_mv (Or.inl rfl) (ev hv0), rfl⟩
            refine stepsL_cons (s_val fun a W hC hs => ?_) ?_
            · obtain ⟨v9, hv9, hR9⟩ := got_of hs 26 98 (by kernel_rfl) (by rfl)
              have hR9' : v9 = _ := hR9
              subst hR9'
              have ho := old_of hs 3 (by kernel_rfl) (by rfl)
              exact ⟨wanted_true (j := 26) (d := 98) rfl (by rfl) hv9, _, run_mv (Or.inl rfl) (ev ho), rfl⟩
            refine stepsL_cons (s_val fun a W hC hs => ?_) ?_
            · obtain ⟨v9, hv9, hR9⟩ := got_of hs 26 98 (by kernel_rfl) (by rfl)
              have hR9' : v9 = _ := hR9
              subst hR9'
              obtain ⟨v0, hv0, hR0⟩ := got_of hs 27 99 (by kernel_rfl) (by rfl)
              have hR0' : v0 = _ := hR0
              subst hR0'
              exact ⟨wanted_true (j := 26) (d := 98) rfl (by rfl) hv9, _, run_nei Tryd.underlying3 rfl (ev hv0) (ev_const _) k4, rfl⟩
            refine stepsL_cons (s_val fun a W hC hs => ?_) ?_
            · obtain ⟨v9, hv9, hR9⟩ := got_of hs 23 95 (by kernel_rfl) (by rfl)
              have hR9' : v9 = _ := hR9
              subst hR9'
              obtain ⟨v0, hv0, hR0⟩ := got_of hs 26 98 (by kernel_rfl) (by rfl)
              have hR0' : v0 = _ := hR0
              subst hR0'
              obtain ⟨v1, hv1, hR1⟩ := got_of hs 28 100 (by kernel_rfl) (by rfl)
              have hR1' : v1 = _ := hR1
              subst hR1'
              exact ⟨wanted_no (j := 23) (d := 95) rfl (by rfl) hv9, _, run_pk rfl (ev hv0) (by rw [if_pos rfl]; exact ev hv1), rfl⟩
            refine stepsL_cons (s_val fun a W hC hs => ?_) ?_
            · obtain ⟨v0, hv0, hR0⟩ := got_of hs 23 95 (by kernel_rfl) (by rfl)
              have hR0' : v0 = _ := hR0
              subst hR0'
              obtain ⟨v1, hv1, hR1⟩ := got_of hs 29 101 (by kernel_rfl) (by rfl)
              have hR1' : v1 = _ := hR1
              subst hR1'
              exact ⟨wanted_none rfl, _, run_pk rfl (ev hv0) (by rw [if_neg (by simp)]; exact ev hv1), rfl⟩
            refine stepsL_cons (s_val fun a W hC hs => ?_) ?_
            · obtain ⟨v0, hv0, hR0⟩ := got_of hs 30 102 (by kernel_rfl) (by rfl)
              have hR0' : v0 = _ := hR0
              subst hR0'
              exact ⟨wanted_none rfl, _, run_mv (Or.inl rfl) (ev hv0), rfl⟩
            refine stepsL_cons (s_val fun a W hC hs => ?_) ?_
            · obtain ⟨v9, hv9, hR9⟩ := got_of hs 31 103 (by kernel_rfl) (by rfl)
              have hR9' : v9 = _ := hR9
              subst hR9'
              have ho := old_of hs 6 (by kernel_rfl) (by rfl)
              exact ⟨wanted_no (j := 31) (d := 103) rfl (by rfl) hv9, _, run_mv (Or.inl rfl) (ev ho), rfl⟩
            refine stepsL_cons (s_val fun a W hC hs => ?_) ?_
            · obtain ⟨v9, hv9, hR9⟩ := got_of hs 31 103 (by kernel_rfl) (by rfl)
              have hR9' : v9 = _ := hR9
              subst hR9'
              have ho := old_of hs 2 (by kernel_rfl) (by rfl)
              exact ⟨wanted_no (j := 31) (d := 103) rfl (by rfl) hv9, _, run_fa rfl (ev ho) fl_f3, rfl⟩
            refine stepsL_cons (s_val fun a W hC hs => ?_) ?_
            · obtain ⟨v9, hv9, hR9⟩ := got_of hs 31 103 (by kernel_rfl) (by rfl)
              have hR9' : v9 = _ := hR9
              subst hR9'
              obtain ⟨v0, hv0, hR0⟩ := got_of hs 33 105 (by kernel_rfl) (by rfl)
              have hR0' : v0 = _ := hR0
              subst hR0'
              have hB := h4.out W hC
              exact ⟨wanted_no (j := 31) (d := 103) rfl (by rfl) hv9, _, run_ld rfl (ev hv0) (ld_i hB.2.2.2.1), rfl⟩
            refine stepsL_cons (s_val fun a W hC hs => ?_) ?_
            · obtain ⟨v9, hv9, hR9⟩ := got_of hs 31 103 (by kernel_rfl) (by rfl)
              have hR9' : v9 = _ := hR9
              subst hR9'
              obtain ⟨v0, hv0, hR0⟩ := got_of hs 34 106 (by kernel_rfl) (by rfl)
              have hR0' : v0 = _ := hR0
              subst hR0'
              exact ⟨wanted_no (j := 31) (d := 103) rfl (by rfl) hv9, _, run_geq Tryd.underlying3 rfl (ev hv0) (ev_const _), by show Value.bool _ = _; rw [k5]⟩
            refine stepsL_cons (s_val fun a W hC hs => ?_) ?_
            · obtain ⟨v9, hv9, hR9⟩ := got_of hs 31 103 (by kernel_rfl) (by rfl)
              have hR9' : v9 = _ := hR9
              subst hR9'
              obtain ⟨v0, hv0, hR0⟩ := got_of hs 32 104 (by kernel_rfl) (by rfl)
              have hR0' : v0 = _ := hR0
              subst hR0'
              obtain ⟨v1, hv1, hR1⟩ := got_of hs 35 107 (by kernel_rfl) (by rfl)
              have hR1' : v1 = _ := hR1
              subst hR1'
              exact ⟨wanted_no (j := 31) (d := 103) rfl (by rfl) hv9, _, run_neb Tryd.underlying4 rfl (ev hv0) (ev hv1), rfl⟩
            refine stepsL_cons (s_val fun a W hC hs => ?_) ?_
            · obtain ⟨v0, hv0, hR0⟩ := got_of hs 31 103 (by kernel_rfl) (by rfl)
              have hR0' : v0 = _ := hR0
              subst hR0'
              obtain ⟨v1, hv1, hR1⟩ := got_of hs 36 108 (by kernel_rfl) (by rfl)
              have hR1' : v1 = _ := hR1
              subst hR1'
              exact ⟨wanted_none rfl, _, run_pk rfl (ev hv0) (by rw [if_neg (by simp)]; exact ev hv1), rfl⟩
            refine stepsL_cons (s_val fun a W hC hs => ?_) ?_
            · obtain ⟨v0, hv0, hR0⟩ := got_of hs 37 109 (by kernel_rfl) (by rfl)
              have hR0' : v0 = _ := hR0
              subst hR0'
              exact ⟨wanted_none rfl, _, run_mv (Or.inl rfl) (ev hv0), rfl⟩
            refine stepsL_cons (s_val fun a W hC hs => ?_) ?_
            · obtain ⟨v9, hv9, hR9⟩ := got_of hs 38 110 (by kernel_rfl) (by rfl)
              have hR9' : v9 = _ := hR9
              subst hR9'
              have ho := old_of hs 6 (by kernel_rfl) (by rfl)
              exact ⟨wanted_no (j := 38) (d := 110) rfl (by rfl) hv9, _, run_mv (Or.inl rfl) (ev ho), rfl⟩
            refine stepsL_cons (s_val fun a W hC hs => ?_) ?_
            · obtain ⟨v9, hv9, hR9⟩ := got_of hs 38 110 (by kernel_rfl) (by rfl)
              have hR9' : v9 = _ := hR9
              subst hR9'
              obtain ⟨v0, hv0, hR0⟩ := got_of hs 39 111 (by kernel_rfl) (by rfl)
              have hR0' : v0 = _ := hR0
              subst hR0'
              exact ⟨wanted_no (j := 38) (d := 110) rfl (by rfl) hv9, _, run_mv (Or.inl rfl) (ev hv0), rfl⟩
            refine stepsL_cons (s_skip (fun a W hC hs => ?_) (fun _ => rfl)) ?_
            · obtain ⟨v9, hv9, hR9⟩ := got_of hs 40 112 (by kernel_rfl) (by rfl)
              have hR9' : v9 = _ := hR9
              subst hR9'
              exact wanted_not (j := 40) (d := 112) rfl (by rfl) hv9
            refine stepsL_cons (s_skip (fun a W hC hs => ?_) (fun _ => rfl)) ?_
            · obtain ⟨v9, hv9, hR9⟩ := got_of hs 40 112 (by kernel_rfl) (by rfl)
              have hR9' : v9 = _ := hR9
              subst hR9'
              exact wanted_not (j := 40) (d := 112) rfl (by rfl) hv9
            refine stepsL_cons (s_skip (fun a W hC hs => ?_) (fun _ => rfl)) ?_
            · obtain ⟨v9, hv9, hR9⟩ := got_of hs 40 112 (by kernel_rfl) (by rfl)
              have hR9' : v9 = _ := hR9
              subst hR9'
              exact wanted_not (j := 40) (d := 112) rfl (by rfl) hv9
            refine stepsL_cons (s_skip (fun a W hC hs => ?_) (fun _ => rfl)) ?_
            · obtain ⟨v9, hv9, hR9⟩ := got_of hs 40 112 (by kernel_rfl) (by rfl)
              have hR9' : v9 = _ := hR9
              subst hR9'
              exact wanted_not (j := 40) (d := 112) rfl (by rfl) hv9
            refine stepsL_cons (s_val fun a W hC hs => ?_) ?_
            · obtain ⟨v9, hv9, hR9⟩ := got_of hs 38 110 (by kernel_rfl) (by rfl)
              have hR9' : v9 = _ := hR9
              subst hR9'
              obtain ⟨v0, hv0, hR0⟩ := got_of hs 40 112 (by kernel_rfl) (by rfl)
              have hR0' : v0 = _ := hR0
              subst hR0'
              exact ⟨wanted_no (j := 38) (d := 110) rfl (by rfl) hv9, _, run_pk rfl (ev hv0) (by rw [if_neg (by simp)]; exact ev_const _), rfl⟩
            refine stepsL_cons (s_val fun a W hC hs => ?_) ?_
            · obtain ⟨v0, hv0, hR0⟩ := got_of hs 38 110 (by kernel_rfl) (by rfl)
              have hR0' : v0 = _ := hR0
              subst hR0'
              obtain ⟨v1, hv1, hR1⟩ := got_of hs 45 117 (by kernel_rfl) (by rfl)
              have hR1' : v1 = _ := hR1
              subst hR1'
              exact ⟨wanted_none rfl, _, run_pk rfl (ev hv0) (by rw [if_neg (by simp)]; exact ev hv1), rfl⟩
            refine stepsL_cons (s_val fun a W hC hs => ?_) ?_
            · obtain ⟨v0, hv0, hR0⟩ := got_of hs 46 118 (by kernel_rfl) (by rfl)
              have hR0' : v0 = _ := hR0
              subst hR0'
              exact ⟨wanted_none rfl, _, run_mv (Or.inl rfl) (ev hv0), rfl⟩
            refine stepsL_cons (s_val fun a W hC hs => ?_) ?_
            · obtain ⟨v9, hv9, hR9⟩ := got_of hs 47 119 (by kernel_rfl) (by rfl)
              have hR9' : v9 = _ := hR9
              subst hR9'
              have ho := old_of hs 6 (by kernel_rfl) (by rfl)
              exact ⟨wanted_no (j := 47) (d := 119) rfl (by rfl) hv9, _, run_mv (Or.inl rfl) (ev ho), rfl⟩
            refine stepsL_cons (s_val fun a W hC hs => ?_) ?_
            · obtain ⟨v9, hv9, hR9⟩ := got_of hs 47 119 (by kernel_rfl) (by rfl)
              have hR9' : v9 = _ := hR9
              subst hR9'
              obtain ⟨v0, hv0, hR0⟩ := got_of hs 48 120 (by kernel_rfl) (by rfl)
              have hR0' : v0 = _ := hR0
              subst hR0'
              exact ⟨wanted_no (j := 47) (d := 119) rfl (by rfl) hv9, _, run_notB rfl (ev hv0), rfl⟩
            refine stepsL_cons (s_val fun a W hC hs => ?_) ?_
            · obtain ⟨v9, hv9, hR9⟩ := got_of hs 47 119 (by kernel_rfl) (by rfl)
              have hR9' : v9 = _ := hR9
              subst hR9'
              obtain ⟨v0, hv0, hR0⟩ := got_of hs 49 121 (by kernel_rfl) (by rfl)
              have hR0' : v0 = _ := hR0
              subst hR0'
              exact ⟨wanted_no (j := 47) (d := 119) rfl (by rfl) hv9, _, run_mv (Or.inl rfl) (ev hv0), rfl⟩
            refine stepsL_cons (s_val fun a W hC hs => ?_) ?_
            · obtain ⟨v9, hv9, hR9⟩ := got_of hs 50 122 (by kernel_rfl) (by rfl)
              have hR9' : v9 = _ := hR9
              subst hR9'
              have ho := old_of hs 5 (by kernel_rfl) (by rfl)
              exact ⟨wanted_true (j := 50) (d := 122) rfl (by rfl) hv9, _, run_mv (Or.inl rfl) (ev ho), rfl⟩
            refine stepsL_cons (s_val fun a W hC hs => ?_) ?_
            · obtain ⟨v9, hv9, hR9⟩ := got_of hs 50 122 (by kernel_rfl) (by rfl)
              have hR9' : v9 = _ := hR9
              subst hR9'
              obtain ⟨v0, hv0, hR0⟩ := got_of hs 51 123 (by kernel_rfl) (by rfl)
              have hR0' : v0 = _ := hR0
              subst hR0'
              exact ⟨wanted_true (j := 50) (d := 122) rfl (by rfl) hv9, _, run_nei Tryd.underlying3 rfl (ev hv0) (ev_const _) k7, rfl⟩
            refine stepsL_cons (s_val fun a W hC hs => ?_) ?_
            · obtain ⟨v9, hv9, hR9⟩ := got_of hs 47 119 (by kernel_rfl) (by rfl)
              have hR9' : v9 = _ := hR9
              subst hR9'
              obtain ⟨v0, hv0, hR0⟩ := got_of hs 50 122 (by kernel_rfl) (by rfl)
              have hR0' : v0 = _ := hR0
              subst hR0'
              obtain ⟨v1, hv1, hR1⟩ := got_of hs 52 124 (by kernel_rfl) (by rfl)
              have hR1' : v1 = _ := hR1
              subst hR1'
              exact ⟨wanted_no (j := 47) (d := 119) rfl (by rfl) hv9, _, run_pk rfl (ev hv0) (by rw [if_pos rfl]; exact ev hv1), rfl⟩
            refine stepsL_cons (s_val fun a W hC hs => ?_) ?_
            · obtain ⟨v0, hv0, hR0⟩ := got_of hs 47 119 (by kernel_rfl) (by rfl)
              have hR0' : v0 = _ := hR0
              subst hR0'
              obtain ⟨v1, hv1, hR1⟩ := got_of hs 53 125 (by kernel_rfl) (by rfl)
              have hR1' : v1 = _ := hR1
              subst hR1'
              exact ⟨wanted_none rfl, _, run_pk rfl (ev hv0) (by rw [if_neg (by simp)]; exact ev hv1), rfl⟩
            exact stepsL_nil
          case hendrf00 =>
            intro σ V5 hC hR
            generalize hF : fillL _ _ _ _ _ = F
            simp [fillL, dstOf, List.range, List.range.loop, Act.put] at hF
            subst hF
            have h54 : σ 54 = .bool false := hR 54 (by simp)
            rw [h54]
            have hbn := Lib.hid (hbn0.out.trans (hC.mono hbn0.out.size))
            clear hR h54 h4 hbn0 hC hbx
            go_wp2_with fail
            go_roundw
            case rel => exact ⟨k + 1, by omega, by go_num, hbn⟩
            case measure => simp [intOf]; omega
    · have hk1 : ¬ (k : Int) < 16 := by omega
      have hbw := Lib.hid ((hV3.out _ hb.out).2.2.2)
      have hTr := Lib.hid ((hV3.out _ hb.out).2.2.1)
      clear hV3 hall'
      go_upto_region 9 with fail
      go_wp2_with fail
      have hA0 := blk_new wr (.cells #[.int .i64 5] 3) rfl
      have hA1 := Below.heap_alloc (wr.alloc (.cells #[.int .i64 5] 3)) (.cells #[.int .u8 10, .int .i64 1, .int .i64 2, .int .i64 3, .int .i64 4, .slice (some ⟨wr.heap.size, 0, none⟩) 1 1] 31) wr.heap.size (by simp)
      replace hA1 := hA1.trans hA0
      have hA2 := blk_new (wr.alloc (.cells #[.int .i64 5] 3)) (.cells #[.int .u8 10, .int .i64 1, .int .i64 2, .int .i64 3, .int .i64 4, .slice (some ⟨wr.heap.size, 0, none⟩) 1 1] 31) (b := wr.heap.size + 1) (by simp)
      have hAb := b_alloc2 wr (.cells #[.int .i64 5] 3) (.cells #[.int .u8 10, .int .i64 1, .int .i64 2, .int .i64 3, .int .i64 4, .slice (some ⟨wr.heap.size, 0, none⟩) 1 1] 31)
      clear hA0
      generalize (wr.alloc (.cells #[.int .i64 5] 3)).alloc (.cells #[.int .u8 10, .int .i64 1, .int .i64 2, .int .i64 3, .int .i64 4, .slice (some ⟨wr.heap.size, 0, none⟩) 1 1] 31) = W9 at *
      have hb9 := Lib.hid (hbw.out.trans (hAb.mono hbw.out.size))
      have hT9 := Lib.hid (hTr.out.keep hAb)
      clear hAb hbw hTr hb
      generalize wr.heap.size = A at *
      have h9 : Hid (∀ V, Below W9.heap.size W9 V → V.heap[A]? = some (.cells #[.int .i64 5] 3 (0, 0)) ∧ (V.cell? ⟨A + 1, 0, none⟩ = some (.int .u8 10) ∧ V.cell? ⟨A + 1, 1, none⟩ = some (.int .i64 1) ∧ V.cell? ⟨A + 1, 2, none⟩ = some (.int .i64 2) ∧ V.cell? ⟨A + 1, 3, none⟩ = some (.int .i64 3) ∧ V.cell? ⟨A + 1, 4, none⟩ = some (.int .i64 4) ∧ V.cell? ⟨A + 1, 5, none⟩ = some (.slice (some ⟨A, 0, none⟩) 1 1))) := Lib.hid fun V hV => by
        have e := (hV.block _ (Array.getElem?_eq_some_iff.1 hA2).1).trans hA2
        exact ⟨(hV.block _ (Array.getElem?_eq_some_iff.1 hA1).1).trans hA1, blk_cell e rfl, blk_cell e rfl, blk_cell e rfl, blk_cell e rfl, blk_cell e rfl, blk_cell e rfl⟩
      have hA9 : A + 1 < W9.heap.size := (Array.getElem?_eq_some_iff.1 hA2).1
      clear hA1 hA2
      go_loopw [8] (fun t V => ∃ k : Nat, k ≤ 6 ∧ t = .int .i64 k ∧ Hid (Below W9.heap.size W9 V)) (fun t _ => 6 - (intOf t).toNat)
      case atStart => exact ⟨0, by omega, rfl, Lib.hid (Below.refl _ _)⟩
      case round =>
        obtain ⟨k, hk, rfl, hb⟩ := hrel
        by_cases hkl : k < 6
        · obtain ⟨d, e0, e1, e2, e3, e4, e5⟩ := h9.out _ hb.out
          have hsz := hb.out.size
          have h6 : k = 0 ∨ k = 1 ∨ k = 2 ∨ k = 3 ∨ k = 4 ∨ k = 5 := by omega
          rcases h6 with rfl | rfl | rfl | rfl | rfl | rfl
          · have hd0 := ((b_alloc2 wr (.cells #[.int .u8 1, .int .i64 1, .int .i64 2, .int .i64 3, .int .i64 4, .slice (some ⟨wr.heap.size + 1, 0, none⟩) 1 1] 31) (.cells #[.int .i64 5] 3)).block _ (Array.getElem?_eq_some_iff.1 d).1).trans d
            have hd1 := blk_new (wr.alloc (.cells #[.int .u8 1, .int .i64 1, .int .i64 2, .int .i64 3, .int .i64 4, .slice (some ⟨wr.heap.size + 1, 0, none⟩) 1 1] 31)) (.cells #[.int .i64 5] 3) (b := wr.heap.size + 1) (by simp)
            have hal := b_alloc2 wr (.cells #[.int .u8 1, .int .i64 1, .int .i64 2, .int .i64 3, .int .i64 4, .slice (some ⟨wr.heap.size + 1, 0, none⟩) 1 1] 31) (.cells #[.int .i64 5] 3)
            have hbn0 := Lib.hid (hb.out.trans (hal.mono hb.out.size))
            have hsm : Hid (Calls Tryd.prog 21 #[.agg #[.int .u8 10, .int .i64 1, .int .i64 2, .int .i64 3, .int .i64 4, .slice (some ⟨A, 0, none⟩) 1 1], .agg #[.int .u8 1, .int .i64 1, .int .i64 2, .int .i64 3, .int .i64 4, .slice (some ⟨wr.heap.size + 1, 0, none⟩) 1 1]] ((wr.alloc (.cells #[.int .u8 1, .int .i64 1, .int .i64 2, .int .i64 3, .int .i64 4, .slice (some ⟨wr.heap.size + 1, 0, none⟩) 1 1] 31)).alloc (.cells #[.int .i64 5] 3)) fun e W' => e = .returned (.bool false) ∧ Below (((wr.alloc (.cells #[.int .u8 1, .int .i64 1, .int .i64 2, .int .i64 3, .int .i64 4, .slice (some ⟨wr.heap.size + 1, 0, none⟩) 1 1] 31)).alloc (.cells #[.int .i64 5] 3))).heap.size ((wr.alloc (.cells #[.int .u8 1, .int .i64 1, .int .i64 2, .int .i64 3, .int .i64 4, .slice (some ⟨wr.heap.size + 1, 0, none⟩) 1 1] 31)).alloc (.cells #[.int .i64 5] 3)) W') := Lib.hid (by
              have h := sameIns_any ⟨10, 1, 2, 3, 4, some ⟨A, 0, none⟩, 1, [5]⟩ ⟨1, 1, 2, 3, 4, some ⟨wr.heap.size + 1, 0, none⟩, 1, [5]⟩ ((wr.alloc (.cells #[.int .u8 1, .int .i64 1, .int .i64 2, .int .i64 3, .int .i64 4, .slice (some ⟨wr.heap.size + 1, 0, none⟩) 1 1] 31)).alloc (.cells #[.int .i64 5] 3)) (row_blk (vs := numCells [5]) 1 hd0 (by decide) trivial) (row_blk (vs := numCells [5]) 1 hd1 (by decide) trivial)
              have e : sameI ⟨10, 1, 2, 3, 4, some ⟨A, 0, none⟩, 1, [5]⟩ ⟨1, 1, 2, 3, 4, some ⟨wr.heap.size + 1, 0, none⟩, 1, [5]⟩ = false := by kernel_rfl
              rw [e] at h
              exact h)
            have f0 := below_in hal e0
            have f1 := below_in hal e1
            have f2 := below_in hal e2
            have f3 := below_in hal e3
            have f4 := below_in hal e4
            have f5 := below_in hal e5
            have hAw : A + 1 < wr.heap.size := by omega
            clear d hd0 hd1 hal
            go_wp2_with (go_at_call 21; refine hsm.out.mono ?_; rintro e V6 ⟨rfl, hb6⟩; have hbn := Lib.hid (hbn0.out.trans (hb6.mono hbn0.out.size)))
            go_roundw
            case rel => exact ⟨1, by omega, by go_num, hbn⟩
            case measure => simp [intOf]
          · have hd0 := ((b_alloc2 wr (.cells #[.int .u8 10, .int .i64 0, .int .i64 2, .int .i64 3, .int .i64 4, .slice (some ⟨wr.heap.size + 1, 0, none⟩) 1 1] 31) (.cells #[.int .i64 5] 3)).block _ (Array.getElem?_eq_some_iff.1 d).1).trans d
            have hd1 := blk_new (wr.alloc (.cells #[.int .u8 10, .int .i64 0, .int .i64 2, .int .i64 3, .int .i64 4, .slice (some ⟨wr.heap.size + 1, 0, none⟩) 1 1] 31)) (.cells #[.int .i64 5] 3) (b := wr.heap.size + 1) (by simp)
            have hal := b_alloc2 wr (.cells #[.int .u8 10, .int .i64 0, .int .i64 2, .int .i64 3, .int .i64 4, .slice (some ⟨wr.heap.size + 1, 0, none⟩) 1 1] 31) (.cells #[.int .i64 5] 3)
            have hbn0 := Lib.hid (hb.out.trans (hal.mono hb.out.size))
            have hsm : Hid (Calls Tryd.prog 21 #[.agg #[.int .u8 10, .int .i64 1, .int .i64 2, .int .i64 3, .int .i64 4, .slice (some ⟨A, 0, none⟩) 1 1], .agg #[.int .u8 10, .int .i64 0, .int .i64 2, .int .i64 3, .int .i64 4, .slice (some ⟨wr.heap.size + 1, 0, none⟩) 1 1]] ((wr.alloc (.cells #[.int .u8 10, .int .i64 0, .int .i64 2, .int .i64 3, .int .i64 4, .slice (some ⟨wr.heap.size + 1, 0, none⟩) 1 1] 31)).alloc (.cells #[.int .i64 5] 3)) fun e W' => e = .returned (.bool false) ∧ Below (((wr.alloc (.cells #[.int .u8 10, .int .i64 0, .int .i64 2, .int .i64 3, .int .i64 4, .slice (some ⟨wr.heap.size + 1, 0, none⟩) 1 1] 31)).alloc (.cells #[.int .i64 5] 3))).heap.size ((wr.alloc (.cells #[.int .u8 10, .int .i64 0, .int .i64 2, .int .i64 3, .int .i64 4, .slice (some ⟨wr.heap.size + 1, 0, none⟩) 1 1] 31)).alloc (.cells #[.int .i64 5] 3)) W') := Lib.hid (by
              have h := sameIns_any ⟨10, 1, 2, 3, 4, some ⟨A, 0, none⟩, 1, [5]⟩ ⟨10, 0, 2, 3, 4, some ⟨wr.heap.size + 1, 0, none⟩, 1, [5]⟩ ((wr.alloc (.cells #[.int .u8 10, .int .i64 0, .int .i64 2, .int .i64 3, .int .i64 4, .slice (some ⟨wr.heap.size + 1, 0, none⟩) 1 1] 31)).alloc (.cells #[.int .i64 5] 3)) (row_blk (vs := numCells [5]) 1 hd0 (by decide) trivial) (row_blk (vs := numCells [5]) 1 hd1 (by decide) trivial)
              have e : sameI ⟨10, 1, 2, 3, 4, some ⟨A, 0, none⟩, 1, [5]⟩ ⟨10, 0, 2, 3, 4, some ⟨wr.heap.size + 1, 0, none⟩, 1, [5]⟩ = false := by kernel_rfl
              rw [e] at h
              exact h)
            have f0 := below_in hal e0
            have f1 := below_in hal e1
            have f2 := below_in hal e2
            have f3 := below_in hal e3
            have f4 := below_in hal e4
            have f5 := below_in hal e5
            have hAw : A + 1 < wr.heap.size := by omega
            clear d hd0 hd1 hal
            go_wp2_with (go_at_call 21; refine hsm.out.mono ?_; rintro e V6 ⟨rfl, hb6⟩; have hbn := Lib.hid (hbn0.out.trans (hb6.mono hbn0.out.size)))
            go_roundw
            case rel => exact ⟨2, by omega, by go_num, hbn⟩
            case measure => simp [intOf]
          · have hd0 := ((b_alloc2 wr (.cells #[.int .u8 10, .int .i64 1, .int .i64 0, .int .i64 3, .int .i64 4, .slice (some ⟨wr.heap.size + 1, 0, none⟩) 1 1] 31) (.cells #[.int .i64 5] 3)).block _ (Array.getElem?_eq_some_iff.1 d).1).trans d
            have hd1 := blk_new (wr.alloc (.cells #[.int .u8 10, .int .i64 1, .int .i64 0, .int .i64 3, .int .i64 4, .slice (some ⟨wr.heap.size + 1, 0, none⟩) 1 1] 31)) (.cells #[.int .i64 5] 3) (b := wr.heap.size + 1) (by simp)
            have hal := b_alloc2 wr (.cells #[.int .u8 10, .int .i64 1, .int .i64 0, .int .i64 3, .int .i64 4, .slice (some ⟨wr.heap.size + 1, 0, none⟩) 1 1] 31) (.cells #[.int .i64 5] 3)
            have hbn0 := Lib.hid (hb.out.trans (hal.mono hb.out.size))
            have hsm : Hid (Calls Tryd.prog 21 #[.agg #[.int .u8 10, .int .i64 1, .int .i64 2, .int .i64 3, .int .i64 4, .slice (some ⟨A, 0, none⟩) 1 1], .agg #[.int .u8 10, .int .i64 1, .int .i64 0, .int .i64 3, .int .i64 4, .slice (some ⟨wr.heap.size + 1, 0, none⟩) 1 1]] ((wr.alloc (.cells #[.int .u8 10, .int .i64 1, .int .i64 0, .int .i64 3, .int .i64 4, .slice (some ⟨wr.heap.size + 1, 0, none⟩) 1 1] 31)).alloc (.cells #[.int .i64 5] 3)) fun e W' => e = .returned (.bool false) ∧ Below (((wr.alloc (.cells #[.int .u8 10, .int .i64 1, .int .i64 0, .int .i64 3, .int .i64 4, .slice (some ⟨wr.heap.size + 1, 0, none⟩) 1 1] 31)).alloc (.cells #[.int .i64 5] 3))).heap.size ((wr.alloc (.cells #[.int .u8 10, .int .i64 1, .int .i64 0, .int .i64 3, .int .i64 4, .slice (some ⟨wr.heap.size + 1, 0, none⟩) 1 1] 31)).alloc (.cells #[.int .i64 5] 3)) W') := Lib.hid (by
              have h := sameIns_any ⟨10, 1, 2, 3, 4, some ⟨A, 0, none⟩, 1, [5]⟩ ⟨10, 1, 0, 3, 4, some ⟨wr.heap.size + 1, 0, none⟩, 1, [5]⟩ ((wr.alloc (.cells #[.int .u8 10, .int .i64 1, .int .i64 0, .int .i64 3, .int .i64 4, .slice (some ⟨wr.heap.size + 1, 0, none⟩) 1 1] 31)).alloc (.cells #[.int .i64 5] 3)) (row_blk (vs := numCells [5]) 1 hd0 (by decide) trivial) (row_blk (vs := numCells [5]) 1 hd1 (by decide) trivial)
              have e : sameI ⟨10, 1, 2, 3, 4, some ⟨A, 0, none⟩, 1, [5]⟩ ⟨10, 1, 0, 3, 4, some ⟨wr.heap.size + 1, 0, none⟩, 1, [5]⟩ = false := by kernel_rfl
              rw [e] at h
              exact h)
            have f0 := below_in hal e0
            have f1 := below_in hal e1
            have f2 := below_in hal e2
            have f3 := below_in hal e3
            have f4 := below_in hal e4
            have f5 := below_in hal e5
            have hAw : A + 1 < wr.heap.size := by omega
            clear d hd0 hd1 hal
            go_wp2_with (go_at_call 21; refine hsm.out.mono ?_; rintro e V6 ⟨rfl, hb6⟩; have hbn := Lib.hid (hbn0.out.trans (hb6.mono hbn0.out.size)))
            go_roundw
            case rel => exact ⟨3, by omega, by go_num, hbn⟩
            case measure => simp [intOf]
          · have hd0 := ((b_alloc2 wr (.cells #[.int .u8 10, .int .i64 1, .int .i64 2, .int .i64 0, .int .i64 4, .slice (some ⟨wr.heap.size + 1, 0, none⟩) 1 1] 31) (.cells #[.int .i64 5] 3)).block _ (Array.getElem?_eq_some_iff.1 d).1).trans d
            have hd1 := blk_new (wr.alloc (.cells #[.int .u8 10, .int .i64 1, .int .i64 2, .int .i64 0, .int .i64 4, .slice (some ⟨wr.heap.size + 1, 0, none⟩) 1 1] 31)) (.cells #[.int .i64 5] 3) (b := wr.heap.size + 1) (by simp)
            have hal := b_alloc2 wr (.cells #[.int .u8 10, .int .i64 1, .int .i64 2, .int .i64 0, .int .i64 4, .slice (some ⟨wr.heap.size + 1, 0, none⟩) 1 1] 31) (.cells #[.int .i64 5] 3)
            have hbn0 := Lib.hid (hb.out.trans (hal.mono hb.out.size))
            have hsm : Hid (Calls Tryd.prog 21 #[.agg #[.int .u8 10, .int .i64 1, .int .i64 2, .int .i64 3, .int .i64 4, .slice (some ⟨A, 0, none⟩) 1 1], .agg #[.int .u8 10, .int .i64 1, .int .i64 2, .int .i64 0, .int .i64 4, .slice (some ⟨wr.heap.size + 1, 0, none⟩) 1 1]] ((wr.alloc (.cells #[.int .u8 10, .int .i64 1, .int .i64 2, .int .i64 0, .int .i64 4, .slice (some ⟨wr.heap.size + 1, 0, none⟩) 1 1] 31)).alloc (.cells #[.int .i64 5] 3)) fun e W' => e = .returned (.bool false) ∧ Below (((wr.alloc (.cells #[.int .u8 10, .int .i64 1, .int .i64 2, .int .i64 0, .int .i64 4, .slice (some ⟨wr.heap.size + 1, 0, none⟩) 1 1] 31)).alloc (.cells #[.int .i64 5] 3))).heap.size ((wr.alloc (.cells #[.int .u8 10, .int .i64 1, .int .i64 2, .int .i64 0, .int .i64 4, .slice (some ⟨wr.heap.size + 1, 0, none⟩) 1 1] 31)).alloc (.cells #[.int .i64 5] 3)) W') := Lib.hid (by
              have h := sameIns_any ⟨10, 1, 2, 3, 4, some ⟨A, 0, none⟩, 1, [5]⟩ ⟨10, 1, 2, 0, 4, some ⟨wr.heap.size + 1, 0, none⟩, 1, [5]⟩ ((wr.alloc (.cells #[.int .u8 10, .int .i64 1, .int .i64 2, .int .i64 0, .int .i64 4, .slice (some ⟨wr.heap.size + 1, 0, none⟩) 1 1] 31)).alloc (.cells #[.int .i64 5] 3)) (row_blk (vs := numCells [5]) 1 hd0 (by decide) trivial) (row_blk (vs := numCells [5]) 1 hd1 (by decide) trivial)
              have e : sameI ⟨10, 1, 2, 3, 4, some ⟨A, 0, none⟩, 1, [5]⟩ ⟨10, 1, 2, 0, 4, some ⟨wr.heap.size + 1, 0, none⟩, 1, [5]⟩ = false := by kernel_rfl
              rw [e] at h
              exact h)
            have f0 := below_in hal e0
            have f1 := below_in hal e1
            have f2 := below_in hal e2
            have f3 := below_in hal e3
            have f4 := below_in hal e4
            have f5 := below_in hal e5
            have hAw : A + 1 < wr.heap.size := by omega
            clear d hd0 hd1 hal
            go_wp2_with (go_at_call 21; refine hsm.out.mono ?_; rintro e V6 ⟨rfl, hb6⟩; have hbn := Lib.hid (hbn0.out.trans (hb6.mono hbn0.out.size)))
            go_roundw
            case rel => exact ⟨4, by omega, by go_num, hbn⟩
            case measure => simp [intOf]
          · have hd0 := ((b_alloc2 wr (.cells #[.int .u8 10, .int .i64 1, .int .i64 2, .int .i64 3, .int .i64 0, .slice (some ⟨wr.heap.size + 1, 0, none⟩) 1 1] 31) (.cells #[.int .i64 5] 3)).block _ (Array.getElem?_eq_some_iff.1 d).1).trans d
            have hd1 := blk_new (wr.alloc (.cells #[.int .u8 10, .int .i64 1, .int .i64 2, .int .i64 3, .int .i64 0, .slice (some ⟨wr.heap.size + 1, 0, none⟩) 1 1] 31)) (.cells #[.int .i64 5] 3) (b := wr.heap.size + 1) (by simp)
            have hal := b_alloc2 wr (.cells #[.int .u8 10, .int .i64 1, .int .i64 2, .int .i64 3, .int .i64 0, .slice (some ⟨wr.heap.size + 1, 0, none⟩) 1 1] 31) (.cells #[.int .i64 5] 3)
            have hbn0 := Lib.hid (hb.out.trans (hal.mono hb.out.size))
            have hsm : Hid (Calls Tryd.prog 21 #[.agg #[.int .u8 10, .int .i64 1, .int .i64 2, .int .i64 3, .int .i64 4, .slice (some ⟨A, 0, none⟩) 1 1], .agg #[.int .u8 10, .int .i64 1, .int .i64 2, .int .i64 3, .int .i64 0, .slice (some ⟨wr.heap.size + 1, 0, none⟩) 1 1]] ((wr.alloc (.cells #[.int .u8 10, .int .i64 1, .int .i64 2, .int .i64 3, .int .i64 0, .slice (some ⟨wr.heap.size + 1, 0, none⟩) 1 1] 31)).alloc (.cells #[.int .i64 5] 3)) fun e W' => e = .returned (.bool false) ∧ Below (((wr.alloc (.cells #[.int .u8 10, .int .i64 1, .int .i64 2, .int .i64 3, .int .i64 0, .slice (some ⟨wr.heap.size + 1, 0, none⟩) 1 1] 31)).alloc (.cells #[.int .i64 5] 3))).heap.size ((wr.alloc (.cells #[.int .u8 10, .int .i64 1, .int .i64 2, .int .i64 3, .int .i64 0, .slice (some ⟨wr.heap.size + 1, 0, none⟩) 1 1] 31)).alloc (.cells #[.int .i64 5] 3)) W') := Lib.hid (by
              have h := sameIns_any ⟨10, 1, 2, 3, 4, some ⟨A, 0, none⟩, 1, [5]⟩ ⟨10, 1, 2, 3, 0, some ⟨wr.heap.size + 1, 0, none⟩, 1, [5]⟩ ((wr.alloc (.cells #[.int .u8 10, .int .i64 1, .int .i64 2, .int .i64 3, .int .i64 0, .slice (some ⟨wr.heap.size + 1, 0, none⟩) 1 1] 31)).alloc (.cells #[.int .i64 5] 3)) (row_blk (vs := numCells [5]) 1 hd0 (by decide) trivial) (row_blk (vs := numCells [5]) 1 hd1 (by decide) trivial)
              have e : sameI ⟨10, 1, 2, 3, 4, some ⟨A, 0, none⟩, 1, [5]⟩ ⟨10, 1, 2, 3, 0, some ⟨wr.heap.size + 1, 0, none⟩, 1, [5]⟩ = false := by kernel_rfl
              rw [e] at h
              exact h)
            have f0 := below_in hal e0
            have f1 := below_in hal e1
            have f2 := below_in hal e2
            have f3 := below_in hal e3
            have f4 := below_in hal e4
            have f5 := below_in hal e5
            have hAw : A + 1 < wr.heap.size := by omega
            clear d hd0 hd1 hal
            go_wp2_with (go_at_call 21; refine hsm.out.mono ?_; rintro e V6 ⟨rfl, hb6⟩; have hbn := Lib.hid (hbn0.out.trans (hb6.mono hbn0.out.size)))
            go_roundw
            case rel => exact ⟨5, by omega, by go_num, hbn⟩
            case measure => simp [intOf]
          · have hd0 := ((b_alloc2 wr (.cells #[.int .u8 10, .int .i64 1, .int .i64 2, .int .i64 3, .int .i64 4, .slice (some ⟨wr.heap.size + 1, 0, none⟩) 1 1] 31) (.cells #[.int .i64 6] 3)).block _ (Array.getElem?_eq_some_iff.1 d).1).trans d
            have hd1 := blk_new (wr.alloc (.cells #[.int .u8 10, .int .i64 1, .int .i64 2, .int .i64 3, .int .i64 4, .slice (some ⟨wr.heap.size + 1, 0, none⟩) 1 1] 31)) (.cells #[.int .i64 6] 3) (b := wr.heap.size + 1) (by simp)
            have hal := b_alloc2 wr (.cells #[.int .u8 10, .int .i64 1, .int .i64 2, .int .i64 3, .int .i64 4, .slice (some ⟨wr.heap.size + 1, 0, none⟩) 1 1] 31) (.cells #[.int .i64 6] 3)
            have hbn0 := Lib.hid (hb.out.trans (hal.mono hb.out.size))
            have hsm : Hid (Calls Tryd.prog 21 #[.agg #[.int .u8 10, .int .i64 1, .int .i64 2, .int .i64 3, .int .i64 4, .slice (some ⟨A, 0, none⟩) 1 1], .agg #[.int .u8 10, .int .i64 1, .int .i64 2, .int .i64 3, .int .i64 4, .slice (some ⟨wr.heap.size + 1, 0, none⟩) 1 1]] ((wr.alloc (.cells #[.int .u8 10, .int .i64 1, .int .i64 2, .int .i64 3, .int .i64 4, .slice (some ⟨wr.heap.size + 1, 0, none⟩) 1 1] 31)).alloc (.cells #[.int .i64 6] 3)) fun e W' => e = .returned (.bool false) ∧ Below (((wr.alloc (.cells #[.int .u8 10, .int .i64 1, .int .i64 2, .int .i64 3, .int .i64 4, .slice (some ⟨wr.heap.size + 1, 0, none⟩) 1 1] 31)).alloc (.cells #[.int .i64 6] 3))).heap.size ((wr.alloc (.cells #[.int .u8 10, .int .i64 1, .int .i64 2, .int .i64 3, .int .i64 4, .slice (some ⟨wr.heap.size + 1, 0, none⟩) 1 1] 31)).alloc (.cells #[.int .i64 6] 3)) W') := Lib.hid (by
              have h := sameIns_any ⟨10, 1, 2, 3, 4, some ⟨A, 0, none⟩, 1, [5]⟩ ⟨10, 1, 2, 3, 4, some ⟨wr.heap.size + 1, 0, none⟩, 1, [6]⟩ ((wr.alloc (.cells #[.int .u8 10, .int .i64 1, .int .i64 2, .int .i64 3, .int .i64 4, .slice (some ⟨wr.heap.size + 1, 0, none⟩) 1 1] 31)).alloc (.cells #[.int .i64 6] 3)) (row_blk (vs := numCells [5]) 1 hd0 (by decide) trivial) (row_blk (vs := numCells [6]) 1 hd1 (by decide) trivial)
              have e : sameI ⟨10, 1, 2, 3, 4, some ⟨A, 0, none⟩, 1, [5]⟩ ⟨10, 1, 2, 3, 4, some ⟨wr.heap.size + 1, 0, none⟩, 1, [6]⟩ = false := by kernel_rfl
              rw [e] at h
              exact h)
            have f0 := below_in hal e0
            have f1 := below_in hal e1
            have f2 := below_in hal e2
            have f3 := below_in hal e3
            have f4 := below_in hal e4
            have f5 := below_in hal e5
            have hAw : A + 1 < wr.heap.size := by omega
            clear d hd0 hd1 hal
            go_wp2_with (go_at_call 21; refine hsm.out.mono ?_; rintro e V6 ⟨rfl, hb6⟩; have hbn := Lib.hid (hbn0.out.trans (hb6.mono hbn0.out.size)))
            go_roundw
            case rel => exact ⟨6, by omega, by go_num, hbn⟩
            case measure => simp [intOf]
        · have hk1 : ¬ (k : Int) < 6 := by omega
          have hon1 := Lib.hid (fun (V : World) => one_any 1 [bk] (some ⟨V.heap.size, 0, none⟩) 1 (V.alloc (.cells ⟨bk.vals⟩ 31)) (i64_of (by decide) (by decide)) (row_blk (vs := inCells [bk]) 1 (blk_new _ _ rfl) (by decide) trivial) (fun i hi => by rw [List.mem_singleton.1 hi]; exact back_In _ _))
          have hon2 := Lib.hid (fun (V : World) => one_any 1 [bk2] (some ⟨V.heap.size, 0, none⟩) 1 (V.alloc (.cells ⟨bk2.vals⟩ 31)) (i64_of (by decide) (by decide)) (row_blk (vs := inCells [bk2]) 1 (blk_new _ _ rfl) (by decide) trivial) (fun i hi => by rw [List.mem_singleton.1 hi]; exact bk2_In _ _))
          go_upto_region 30 with (go_at_call 8; refine (hon1.out _).mono ?_; rintro e V1 ⟨ma, la, fa, aa, ba, mc, lc, fc, ac, bc, rfl, hin1, hb1⟩)
          obtain ⟨p, hp⟩ : ∃ p, oneP ma la fa aa (some ⟨wr.heap.size, 0, none⟩) ba mc lc fc ac 1 bc 1 [bk] = p := ⟨_, rfl⟩
          have hpe : sameP p e0P = false := by rw [← hp]; kernel_rfl
          have hth : thrsP p = [0] := by rw [← hp]; kernel_rfl
          have hpl : p.funs.length ≤ 8796093022208 := by rw [← hp]; show 2 ≤ _; decide
          have hpq0 : Hid (∀ (a b c d e f : Option Addr) (g h i j k l : Nat), sameP p (oneP a b c d e f g h i j k l 1 [bk2]) = false) := Lib.hid (by rw [← hp]; intros; kernel_rfl)
          have hpx := pg_cells (p := p) (box_new V1 p.vals 27)
          have hal1 := b_alloc V1 (.cells ⟨p.vals⟩ 27)
          have hbn1 := Lib.hid (hb.out.trans ((b_next hb1).mono hb.out.size))
          rw [hp] at hin1
          rw [hp]
          simp only [Pg.vals] at hpx hal1
          have hin1' : Hid (Pg.In (V1.alloc (.cells ⟨[.slice p.ma p.mems.length p.mcap, .slice p.la p.locks.length p.lcap, .slice p.fa p.funs.length p.fcap]⟩ 27)) (fun _ => True) p) := Lib.hid (hin1.below (Kps.of_below hal1))
          replace hpx := Lib.hid hpx
          have hbn2 : Hid (Below W9.heap.size W9 (V1.alloc (.cells ⟨[.slice p.ma p.mems.length p.mcap, .slice p.la p.locks.length p.lcap, .slice p.fa p.funs.length p.fcap]⟩ 27))) := Lib.hid (hbn1.out.trans (hal1.mono hbn1.out.size))
          clear hp hin1 hb1 hal1 hbn1 hon1
          generalize hWp : V1.alloc (.cells #[.slice p.ma p.mems.length p.mcap, .slice p.la p.locks.length p.lcap, .slice p.fa p.funs.length p.fcap] 27) = Wp at *
          clear hWp
          generalize V1.heap.size = Bp at *
          go_upto_region 31 with (go_at_call 8; refine (hon2.out _).mono ?_; rintro e V2 ⟨ma2, la2, fa2, aa2, ba2, mc2, lc2, fc2, ac2, bc2, rfl, hin2, hb2⟩)
          obtain ⟨q, hq⟩ : ∃ q, oneP ma2 la2 fa2 aa2 (some ⟨Wp.heap.size, 0, none⟩) ba2 mc2 lc2 fc2 ac2 1 bc2 1 [bk2] = q := ⟨_, rfl⟩
          have hpq : sameP p q = false := by rw [← hq]; exact hpq0.out _ _ _ _ _ _ _ _ _ _ _ _
          have hqx := pg_cells (p := q) (box_new V2 q.vals 27)
          have hal2 := b_alloc V2 (.cells ⟨q.vals⟩ 27)
          have hWV := b_next hb2
          rw [hq] at hin2
          rw [hq]
          simp only [Pg.vals] at hqx hal2
          have hPQ : Hid (∀ V, Below (V2.alloc (.cells ⟨[.slice q.ma q.mems.length q.mcap, .slice q.la q.locks.length q.lcap, .slice q.fa q.funs.length q.fcap]⟩ 27)).heap.size (V2.alloc (.cells ⟨[.slice q.ma q.mems.length q.mcap, .slice q.la q.locks.length q.lcap, .slice q.fa q.funs.length q.fcap]⟩ 27)) V → (V.cell? ⟨A + 1, 0, none⟩ = some (.int .u8 10) ∧ V.cell? ⟨A + 1, 1, none⟩ = some (.int .i64 1) ∧ V.cell? ⟨A + 1, 2, none⟩ = some (.int .i64 2) ∧ V.cell? ⟨A + 1, 3, none⟩ = some (.int .i64 3) ∧ V.cell? ⟨A + 1, 4, none⟩ = some (.int .i64 4) ∧ V.cell? ⟨A + 1, 5, none⟩ = some (.slice (some ⟨A, 0, none⟩) 1 1)) ∧ (V.cell? ⟨Bp, 0, none⟩ = some (.slice p.ma p.mems.length p.mcap) ∧ V.cell? ⟨Bp, 1, none⟩ = some (.slice p.la p.locks.length p.lcap) ∧ V.cell? ⟨Bp, 2, none⟩ = some (.slice p.fa p.funs.length p.fcap)) ∧ (V.cell? ⟨V2.heap.size, 0, none⟩ = some (.slice q.ma q.mems.length q.mcap) ∧ V.cell? ⟨V2.heap.size, 1, none⟩ = some (.slice q.la q.locks.length q.lcap) ∧ V.cell? ⟨V2.heap.size, 2, none⟩ = some (.slice q.fa q.funs.length q.fcap)) ∧ RowAt V (fun _ => True) (some ⟨A, 0, none⟩) 1 1 (numCells [5]) ∧ Pg.In V (fun _ => True) p ∧ Pg.In V (fun _ => True) q ∧ Below w.heap.size w V) := Lib.hid fun V hV => by
            have h1 := hal2.trans (hV.mono hal2.size)
            have h2 := hWV.trans (h1.mono hWV.size)
            have h3 := hbn2.out.trans (h2.mono hbn2.out.size)
            obtain ⟨f0, f1⟩ := h9.out V h3
            obtain ⟨g0, g1, g2⟩ := hpx.out
            exact ⟨f1, ⟨below_in h2 g0, below_in h2 g1, below_in h2 g2⟩, ⟨below_in hV hqx.1, below_in hV hqx.2.1, below_in hV hqx.2.2⟩, row_blk (vs := numCells [5]) 1 f0 (by decide) trivial, hin1'.out.below (Kps.of_below h2), hin2.below (Kps.of_below h1), hb9.out.trans (h3.mono hb9.out.size)⟩
          clear hq hqx hal2 hWV hin2 hb2 hpq0 hpx hin1' hbn2 h9 hb9 hon2 hT9
          generalize hWq : V2.alloc (.cells #[.slice q.ma q.mems.length q.mcap, .slice q.la q.locks.length q.lcap, .slice q.fa q.funs.length q.fcap] 27) = Wq at *
          clear hWq
          refine wp_region_rel_text (C := fun V => Below Wq.heap.size Wq V) (E := Ext) (R := fun j => (rs31 A p q).getD j VT) (Below.refl _ _) (by kernel_rfl) (fun j v w' w'' _ hE h => mono_get _ j rs31_mono v w' w'' hE h) (steps_all ?hs31) ?hend31
          case hs31 =>
            refine stepsL_cons (s_val fun a W hC hs => ?_) ?_
            · have hB := hPQ.out W hC
              have ho := old_of hs 7 (by kernel_rfl) (by rfl)
              exact ⟨wanted_none rfl, _, run_ld rfl (ev ho) (load_a hB.1), rfl⟩
            refine stepsL_cons (s_val fun a W hC hs => ?_) ?_
            · have hB := hPQ.out W hC
              have ho := old_of hs 7 (by kernel_rfl) (by rfl)
              exact ⟨wanted_none rfl, _, run_ld rfl (ev ho) (load_a hB.1), rfl⟩
            refine stepsL_cons (s_call fun a W hC hs => ?_) ?_
            · obtain ⟨v0, hv0, hR0⟩ := got_of hs 0 165 (by kernel_rfl) (by rfl)
              have hR0' : v0 = _ := hR0
              subst hR0'
              obtain ⟨v1, hv1, hR1⟩ := got_of hs 1 166 (by kernel_rfl) (by rfl)
              have hR1' : v1 = _ := hR1
              subst hR1'
              have hB := hPQ.out W hC
              refine ⟨wanted_none rfl, 21, _, run_call2 rfl (ev hv0) (ev hv1) (fun _ _ => rfl), (sameIns_any (insA A) (insA A) W hB.2.2.2.1 hB.2.2.2.1).mono ?_⟩
              rintro e W' ⟨rfl, hb⟩
              exact ⟨_, rfl, hC.trans (hb.mono hC.size), hb, by show Value.bool _ = _; rw [sameI_refl]⟩
            refine stepsL_cons (s_val fun a W hC hs => ?_) ?_
            · obtain ⟨v0, hv0, hR0⟩ := got_of hs 2 167 (by kernel_rfl) (by rfl)
              have hR0' : v0 = _ := hR0
              subst hR0'
              exact ⟨wanted_none rfl, _, run_mv (Or.inl rfl) (ev hv0), rfl⟩
            refine stepsL_cons (s_val fun a W hC hs => ?_) ?_
            · obtain ⟨v9, hv9, hR9⟩ := got_of hs 3 168 (by kernel_rfl) (by rfl)
              have hR9' : v9 = _ := hR9
              subst hR9'
              have hB := hPQ.out W hC
              have ho := old_of hs 10 (by kernel_rfl) (by rfl)
              exact ⟨wanted_true (j := 3) (d := 168) rfl (by rfl) hv9, _, run_ld rfl (ev ho) (load_pgB hB.2.1), rfl⟩
            refine stepsL_cons (s_val fun a W hC hs => ?_) ?_
            · obtain ⟨v9, hv9, hR9⟩ := got_of hs 3 168 (by kernel_rfl) (by rfl)
              have hR9' : v9 = _ := hR9
              subst hR9'
              have hB := hPQ.out W hC
              have ho := old_of hs 10 (by kernel_rfl) (by rfl)
              exact ⟨wanted_true (j := 3) (d := 168) rfl (by rfl) hv9, _, run_ld rfl (ev ho) (load_pgB hB.2.1), rfl⟩
            refine stepsL_cons (s_call fun a W hC hs => ?_) ?_
            · obtain ⟨v9, hv9, hR9⟩ := got_of hs 3 168 (by kernel_rfl) (by rfl)
              have hR9' : v9 = _ := hR9
              subst hR9'
              obtain ⟨v0, hv0, hR0⟩ := got_of hs 4 169 (by kernel_rfl) (by rfl)
              have hR0' : v0 = _ := hR0
              subst hR0'
              obtain ⟨v1, hv1, hR1⟩ := got_of hs 5 170 (by kernel_rfl) (by rfl)
              have hR1' : v1 = _ := hR1
              subst hR1'
              have hB := hPQ.out W hC
              refine ⟨wanted_true (j := 3) (d := 168) rfl (by rfl) hv9, 15, _, run_call2 rfl (ev hv0) (ev hv1) (fun _ _ => rfl), (same_any p p W hB.2.2.2.2.1 hB.2.2.2.2.1).mono ?_⟩
              rintro e W' ⟨rfl, hb⟩
              exact ⟨_, rfl, hC.trans (hb.mono hC.size), hb, by show Value.bool _ = _; rw [sameP_refl]⟩
            refine stepsL_cons (s_val fun a W hC hs => ?_) ?_
            · obtain ⟨v0, hv0, hR0⟩ := got_of hs 3 168 (by kernel_rfl) (by rfl)
              have hR0' : v0 = _ := hR0
              subst hR0'
              obtain ⟨v1, hv1, hR1⟩ := got_of hs 6 171 (by kernel_rfl) (by rfl)
              have hR1' : v1 = _ := hR1
              subst hR1'
              exact ⟨wanted_none rfl, _, run_pk rfl (ev hv0) (by rw [if_pos rfl]; exact ev hv1), rfl⟩
            refine stepsL_cons (s_val fun a W hC hs => ?_) ?_
            · obtain ⟨v0, hv0, hR0⟩ := got_of hs 7 172 (by kernel_rfl) (by rfl)
              have hR0' : v0 = _ := hR0
              subst hR0'
              exact ⟨wanted_none rfl, _, run_mv (Or.inl rfl) (ev hv0), rfl⟩
            refine stepsL_cons (s_val fun a W hC hs => ?_) ?_
            · obtain ⟨v9, hv9, hR9⟩ := got_of hs 8 173 (by kernel_rfl) (by rfl)
              have hR9' : v9 = _ := hR9
              subst hR9'
              have hB := hPQ.out W hC
              have ho := old_of hs 10 (by kernel_rfl) (by rfl)
              exact ⟨wanted_true (j := 8) (d := 173) rfl (by rfl) hv9, _, run_ld rfl (ev ho) (load_pgB hB.2.1), rfl⟩
            refine stepsL_cons (s_val fun a W hC hs => ?_) ?_
            · obtain ⟨v9, hv9, hR9⟩ := got_of hs 8 173 (by kernel_rfl) (by rfl)
              have hR9' : v9 = _ := hR9
              subst hR9'
              have hB := hPQ.out W hC
              have ho := old_of hs 11 (by kernel_rfl) (by rfl)
              exact ⟨wanted_true (j := 8) (d := 173) rfl (by rfl) hv9, _, run_ld rfl (ev ho) (load_pgB hB.2.2.1), rfl⟩
            refine stepsL_cons (s_call fun a W hC hs => ?_) ?_
            · obtain ⟨v9, hv9, hR9⟩ := got_of hs 8 173 (by kernel_rfl) (by rfl)
              have hR9' : v9 = _ := hR9
              subst hR9'
              obtain ⟨v0, hv0, hR0⟩ := got_of hs 9 174 (by kernel_rfl) (by rfl)
              have hR0' : v0 = _ := hR0
              subst hR0'
              obtain ⟨v1, hv1, hR1⟩ := got_of hs 10 175 (by kernel_rfl) (by rfl)
              have hR1' : v1 = _ := hR1
              subst hR1'
              have hB := hPQ.out W hC
              refine ⟨wanted_true (j := 8) (d := 173) rfl (by rfl) hv9, 15, _, run_call2 rfl (ev hv0) (ev hv1) (fun _ _ => rfl), (same_any p q W hB.2.2.2.2.1 hB.2.2.2.2.2.1).mono ?_⟩
              rintro e W' ⟨rfl, hb⟩
              exact ⟨_, rfl, hC.trans (hb.mono hC.size), hb, by show Value.bool _ = _; rw [hpq]⟩
            refine stepsL_cons (s_val fun a W hC hs => ?_) ?_
            · obtain ⟨v9, hv9, hR9⟩ := got_of hs 8 173 (by kernel_rfl) (by rfl)
              have hR9' : v9 = _ := hR9
              subst hR9'
              obtain ⟨v0, hv0, hR0⟩ := got_of hs 11 176 (by kernel_rfl) (by rfl)
              have hR0' : v0 = _ := hR0
              subst hR0'
              exact ⟨wanted_true (j := 8) (d := 173) rfl (by rfl) hv9, _, run_notB rfl (ev hv0), rfl⟩
            refine stepsL_cons (s_val fun a W hC hs => ?_) ?_
            · obtain ⟨v0, hv0, hR0⟩ := got_of hs 8 173 (by kernel_rfl) (by rfl)
              have hR0' : v0 = _ := hR0
              subst hR0'
              obtain ⟨v1, hv1, hR1⟩ := got_of hs 12 177 (by kernel_rfl) (by rfl)
              have hR1' : v1 = _ := hR1
              subst hR1'
              exact ⟨wanted_none rfl, _, run_pk rfl (ev hv0) (by rw [if_pos rfl]; exact ev hv1), rfl⟩
            refine stepsL_cons (s_val fun a W hC hs => ?_) ?_
            · obtain ⟨v0, hv0, hR0⟩ := got_of hs 13 178 (by kernel_rfl) (by rfl)
              have hR0' : v0 = _ := hR0
              subst hR0'
              exact ⟨wanted_none rfl, _, run_mv (Or.inl rfl) (ev hv0), rfl⟩
            refine stepsL_cons (s_val fun a W hC hs => ?_) ?_
            · obtain ⟨v9, hv9, hR9⟩ := got_of hs 14 179 (by kernel_rfl) (by rfl)
              have hR9' : v9 = _ := hR9
              subst hR9'
              have hB := hPQ.out W hC
              have ho := old_of hs 10 (by kernel_rfl) (by rfl)
              exact ⟨wanted_true (j := 14) (d := 179) rfl (by rfl) hv9, _, run_ld rfl (ev ho) (load_pgB hB.2.1), rfl⟩
            refine stepsL_cons (s_val fun a W hC hs => ?_) ?_
            · obtain ⟨v9, hv9, hR9⟩ := got_of hs 14 179 (by kernel_rfl) (by rfl)
              have hR9' : v9 = _ := hR9
              subst hR9'
              exact ⟨wanted_true (j := 14) (d := 179) rfl (by rfl) hv9, _, run_b (qs := #[]) rfl (by simp) (by kernel_rfl), rfl⟩
            refine stepsL_cons (s_call fun a W hC hs => ?_) ?_
            · obtain ⟨v9, hv9, hR9⟩ := got_of hs 14 179 (by kernel_rfl) (by rfl)
              have hR9' : v9 = _ := hR9
              subst hR9'
              obtain ⟨v0, hv0, hR0⟩ := got_of hs 15 180 (by kernel_rfl) (by rfl)
              have hR0' : v0 = _ := hR0
              subst hR0'
              obtain ⟨v1, hv1, hR1⟩ := got_of hs 16 181 (by kernel_rfl) (by rfl)
              have hR1' : v1 = _ := hR1
              subst hR1'
              have hB := hPQ.out W hC
              refine ⟨wanted_true (j := 14) (d := 179) rfl (by rfl) hv9, 15, _, run_call2 rfl (ev hv0) (ev hv1) (fun _ _ => rfl), (same_any p e0P W hB.2.2.2.2.1 (e0_In W)).mono ?_⟩
              rintro e W' ⟨rfl, hb⟩
              exact ⟨_, rfl, hC.trans (hb.mono hC.size), hb, by show Value.bool _ = _; rw [hpe]⟩
            refine stepsL_cons (s_val fun a W hC hs => ?_) ?_
            · obtain ⟨v9, hv9, hR9⟩ := got_of hs 14 179 (by kernel_rfl) (by rfl)
              have hR9' : v9 = _ := hR9
              subst hR9'
              obtain ⟨v0, hv0, hR0⟩ := got_of hs 17 182 (by kernel_rfl) (by rfl)
              have hR0' : v0 = _ := hR0
              subst hR0'
              exact ⟨wanted_true (j := 14) (d := 179) rfl (by rfl) hv9, _, run_notB rfl (ev hv0), rfl⟩
            refine stepsL_cons (s_val fun a W hC hs => ?_) ?_
            · obtain ⟨v0, hv0, hR0⟩ := got_of hs 14 179 (by kernel_rfl) (by rfl)
              have hR0' : v0 = _ := hR0
              subst hR0'
              obtain ⟨v1, hv1, hR1⟩ := got_of hs 18 183 (by kernel_rfl) (by rfl)
              have hR1' : v1 = _ := hR1
              subst hR1'
              exact ⟨wanted_none rfl, _, run_pk rfl (ev hv0) (by rw [if_pos rfl]; exact ev hv1), rfl⟩
            refine stepsL_cons (s_val fun a W hC hs => ?_) ?_
            · obtain ⟨v0, hv0, hR0⟩ := got_of hs 19 184 (by kernel_rfl) (by rfl)
              have hR0' : v0 = _ := hR0
              subst hR0'
              exact ⟨wanted_none rfl, _, run_mv (Or.inl rfl) (ev hv0), rfl⟩
            refine stepsL_cons (s_val fun a W hC hs => ?_) ?_
            · obtain ⟨v9, hv9, hR9⟩ := got_of hs 20 185 (by kernel_rfl) (by rfl)
              have hR9' : v9 = _ := hR9
              subst hR9'
              have hB := hPQ.out W hC
              have ho := old_of hs 10 (by kernel_rfl) (by rfl)
              exact ⟨wanted_true (j := 20) (d := 185) rfl (by rfl) hv9, _, run_ld rfl (ev ho) (load_pgB hB.2.1), rfl⟩
            refine stepsL_cons (s_call fun a W hC hs => ?_) ?_
            · obtain ⟨v9, hv9, hR9⟩ := got_of hs 20 185 (by kernel_rfl) (by rfl)
              have hR9' : v9 = _ := hR9
              subst hR9'
              obtain ⟨v0, hv0, hR0⟩ := got_of hs 21 186 (by kernel_rfl) (by rfl)
              have hR0' : v0 = _ := hR0
              subst hR0'
              have hB := hPQ.out W hC
              refine ⟨wanted_true (j := 20) (d := 185) rfl (by rfl) hv9, 18, _, run_call1 rfl (ev hv0) (fun _ _ => rfl), (threads_any p W hB.2.2.2.2.1.frow hpl).mono ?_⟩
              rintro e W' ⟨v, rfl, hown, hb⟩
              rw [hth] at hown
              obtain ⟨a', c', rfl, hrw⟩ := row_own hown
              exact ⟨_, rfl, hC.trans (hb.mono hC.size), hb, ⟨a', c', rfl, hrw.mono (fun _ _ => trivial), fun x hx => by rw [List.mem_singleton.1 hx]; exact i64_0⟩⟩
            refine stepsL_cons (s_new fun a W hC hs => ?_) ?_
            · obtain ⟨v9, hv9, hR9⟩ := got_of hs 20 185 (by kernel_rfl) (by rfl)
              have hR9' : v9 = _ := hR9
              subst hR9'
              exact ⟨wanted_true (j := 20) (d := 185) rfl (by rfl) hv9, _, W.alloc (.cells ⟨numCells [0]⟩ 3), run_bs (qs := #[(0, .int .i64 0)]) rfl (by simp [ev_const]) (by kernel_rfl), hC.trans ((Ext.al W _).mono hC.size), Ext.al W _, nums_new (T := 3) [0] (by simp) (by intro x hx; rw [List.mem_singleton.1 hx]; exact i64_0)⟩
            refine stepsL_cons (s_call fun a W hC hs => ?_) ?_
            · obtain ⟨v9, hv9, hR9⟩ := got_of hs 20 185 (by kernel_rfl) (by rfl)
              have hR9' : v9 = _ := hR9
              subst hR9'
              obtain ⟨v0, hv0, hR0⟩ := got_of hs 22 187 (by kernel_rfl) (by rfl)
              replace hR0 : VNs [0] v0 W := hR0
              obtain ⟨a0', c0', rfl, r0, _⟩ := hR0
              obtain ⟨v1, hv1, hR1⟩ := got_of hs 23 188 (by kernel_rfl) (by rfl)
              replace hR1 : VNs [0] v1 W := hR1
              obtain ⟨a1', c1', rfl, r1, _⟩ := hR1
              refine ⟨wanted_true (j := 20) (d := 185) rfl (by rfl) hv9, 17, _, run_call2 rfl (ev hv0) (ev hv1) (fun _ _ => rfl), (ints_any [0] [0] a0' a1' c0' c1' W r0 r1).mono ?_⟩
              rintro e W' ⟨rfl, hb⟩
              exact ⟨_, rfl, hC.trans (hb.mono hC.size), hb, rfl⟩
            refine stepsL_cons (s_val fun a W hC hs => ?_) ?_
            · obtain ⟨v0, hv0, hR0⟩ := got_of hs 20 185 (by kernel_rfl) (by rfl)
              have hR0' : v0 = _ := hR0
              subst hR0'
              obtain ⟨v1, hv1, hR1⟩ := got_of hs 24 189 (by kernel_rfl) (by rfl)
              have hR1' : v1 = _ := hR1
              subst hR1'
              exact ⟨wanted_none rfl, _, run_pk rfl (ev hv0) (by rw [if_pos rfl]; exact ev hv1), rfl⟩
            refine stepsL_cons (s_val fun a W hC hs => ?_) ?_
            · obtain ⟨v0, hv0, hR0⟩ := got_of hs 25 190 (by kernel_rfl) (by rfl)
              have hR0' : v0 = _ := hR0
              subst hR0'
              exact ⟨wanted_none rfl, _, run_mv (Or.inr rfl) (ev hv0), rfl⟩
            exact stepsL_nil
          case hend31 =>
            intro σ9 V9 hC9 hR9
            generalize hF : fillL _ _ _ _ _ = F
            simp [fillL, dstOf, List.range, List.range.loop, Act.put] at hF
            subst hF
            have h26 : σ9 26 = .bool true := hR9 26 (by simp)
            rw [h26]
            have hfin := (hPQ.out V9 hC9).2.2.2.2.2.2
            clear hR9 h26 hPQ hpq hpe hth
            go_wp2_with fail
            go_ret
            exact ⟨rfl, hfin⟩
end Go.Proofs.YtiicjbnocpphdaaDoor.Cd
