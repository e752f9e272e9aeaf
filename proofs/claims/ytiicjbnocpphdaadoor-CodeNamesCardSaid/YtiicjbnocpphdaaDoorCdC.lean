/- Walks of code.Writes, Goal, bare, mayNumber. Conditions: the package's table holds its list. -/
import Derived.Test.YtiicjbnocpphdaaDoorCdB
namespace Go.Proofs.YtiicjbnocpphdaaDoor.Cd
open Go Go.RowKit
open Go.Proofs.YtiicjbnocpphdaaDoor.Lx Go.Proofs.YtiicjbnocpphdaaDoor.Tr Go.Proofs.YtiicjbnocpphdaaDoor.Rg

@[reducible] def Ins.val (i : Ins) : Value := .agg #[.int .u8 i.op, .int .i64 i.r, .int .i64 i.a, .int .i64 i.b, .int .i64 i.n, .slice i.aa i.args.length i.acap]
@[reducible] def Fn.val (f : Fn) : Value := .agg #[.string f.name, .bool f.thread, .int .i64 f.params, .int .i64 f.regs, .slice f.ca f.code.length f.ccap]
@[reducible] def Mm.val (m : Mm) : Value := .agg #[.string m.name, .int .i64 m.size, .int .i64 m.first]
@[reducible] def Pg.val (p : Pg) : Value := .agg #[.slice p.ma p.mems.length p.mcap, .slice p.la p.locks.length p.lcap, .slice p.fa p.funs.length p.fcap]
theorem b_alloc (w : World) (o : Obj) : Below w.heap.size w (w.alloc o) := (Below.refl _ _).alloc (Nat.le_refl _) _
theorem b_alloc2 (w : World) (o o' : Obj) : Below w.heap.size w ((w.alloc o).alloc o') := (b_alloc w o).alloc (by simp) _
theorem b_alloc3 (w : World) (o o' o2 : Obj) : Below w.heap.size w (((w.alloc o).alloc o').alloc o2) := (b_alloc2 w o o').alloc (by simp; omega) _
theorem b_next {w w1 : World} {o : Obj} (h : Below (w.alloc o).heap.size (w.alloc o) w1) : Below w.heap.size w w1 := (b_alloc w o).trans (h.mono (by simp))
theorem b_next2 {w w1 : World} {o o' : Obj} (h : Below ((w.alloc o).alloc o').heap.size ((w.alloc o).alloc o') w1) : Below w.heap.size w w1 := (b_alloc2 w o o').trans (h.mono (by simp; omega))
theorem b_next3 {w w1 : World} {o o' o2 : Obj} (h : Below (((w.alloc o).alloc o').alloc o2).heap.size (((w.alloc o).alloc o').alloc o2) w1) : Below w.heap.size w w1 := (b_alloc3 w o o' o2).trans (h.mono (by simp; omega))
theorem fl_nm0 (V : World) (a b c d : Bool) (n : Int) : (Instr.field 72 (.agg #[.bool a, .bool b, .bool c, .bool d, .int .u8 n]) 0).run Tryd.prog V = .ok (.bool a) V := by kernel_rfl
theorem fl_nm4 (V : World) (a b c d : Bool) (n : Int) : (Instr.field 72 (.agg #[.bool a, .bool b, .bool c, .bool d, .int .u8 n]) 4).run Tryd.prog V = .ok (.int .u8 n) V := by kernel_rfl
theorem tri (x : Bool) (p : Prop) : x = true ∨ (x = false ∧ p) ∨ (x = false ∧ ¬ p) := by
  cases x <;> simp [Classical.em]

set_option maxRecDepth 100000 in
set_option maxHeartbeats 1600000 in
theorem writes_any (i : Ins) (w : World) (hi : U8 i.op) (hT : OpTab w) :
    Calls Tryd.prog 31 #[i.val] w fun e w' => e = .returned (.tuple #[.int .i64 (wrP i).1, .bool (wrP i).2]) ∧ Below w.heap.size w w' := by
  have hn := fun W (hb : Below w.heap.size w W) => namesOf_any i.op W hi (hT.keep hb)
  unfold nmV at hn
  unfold wrP
  generalize hasR i.op = xR at *
  generalize hasA i.op = xA at *
  generalize hasB i.op = xB at *
  generalize hasF i.op = xF at *
  generalize numK i.op = xN at *
  clear hT
  replace hn := Lib.hid hn
  cases xR
  · go_enter Tryd.func31, Tryd.ntmps31
    go_wp2_with fail
    refine (hn.out _ (b_alloc _ _)).mono ?_
    rintro e w1 ⟨rfl, hb1⟩
    obtain ⟨hc, hf⟩ := bcell hb1
    have hlt : w.heap.size < w1.heap.size := by have := hb1.size; simp at this; omega
    have hfl := fl_nm0 w1
    go_wp2_with fail
    go_ret2
    exact ⟨rfl, b_next hb1⟩
  · go_enter Tryd.func31, Tryd.ntmps31
    go_wp2_with fail
    refine (hn.out _ (b_alloc _ _)).mono ?_
    rintro e w1 ⟨rfl, hb1⟩
    obtain ⟨hc, hf⟩ := bcell hb1
    have hlt : w.heap.size < w1.heap.size := by have := hb1.size; simp at this; omega
    have hfl := fl_nm0 w1
    go_wp2_with fail
    go_ret2
    exact ⟨rfl, b_next hb1⟩
set_option maxRecDepth 100000 in
set_option maxHeartbeats 1600000 in
theorem goal_any (i : Ins) (w : World) (hi : U8 i.op) (hT : OpTab w) :
    Calls Tryd.prog 23 #[i.val] w fun e w' => e = .returned (.tuple #[.int .i64 (glP i).1, .bool (glP i).2]) ∧ Below w.heap.size w w' := by
  have hn := fun W (hb : Below w.heap.size w W) => namesOf_any i.op W hi (hT.keep hb)
  unfold nmV at hn
  unfold glP
  generalize hasR i.op = xR at *
  generalize hasA i.op = xA at *
  generalize hasB i.op = xB at *
  generalize hasF i.op = xF at *
  generalize numK i.op = xN at *
  clear hT
  replace hn := Lib.hid hn
  by_cases h7 : xN = 7
  · rw [if_pos h7]
    go_enter Tryd.func23, Tryd.ntmps23
    go_wp2_with fail
    refine (hn.out _ (b_alloc _ _)).mono ?_
    rintro e w1 ⟨rfl, hb1⟩
    obtain ⟨hc, hf⟩ := bcell hb1
    have hlt : w.heap.size < w1.heap.size := by have := hb1.size; simp at this; omega
    have hfl := fl_nm4 w1
    go_wp2_with fail
    go_ret2
    exact ⟨rfl, b_next hb1⟩
  · rw [if_neg h7]
    go_enter Tryd.func23, Tryd.ntmps23
    go_wp2_with fail
    refine (hn.out _ (b_alloc _ _)).mono ?_
    rintro e w1 ⟨rfl, hb1⟩
    obtain ⟨hc, hf⟩ := bcell hb1
    have hlt : w.heap.size < w1.heap.size := by have := hb1.size; simp at this; omega
    have hfl := fl_nm4 w1
    go_wp2_with fail
    go_ret2
    exact ⟨rfl, b_next hb1⟩
set_option maxRecDepth 100000 in
set_option maxHeartbeats 8000000 in
theorem bare_any (i : Ins) (w : World) (hi : U8 i.op) (hT : OpTab w) :
    Calls Tryd.prog 25 #[i.val] w fun e w' => e = .returned (.bool (bareP i)) ∧ Below w.heap.size w w' := by
  have hn := fun W (hb : Below w.heap.size w W) => namesOf_any i.op W hi (hT.keep hb)
  unfold nmV at hn
  unfold bareP
  generalize hasR i.op = xR at *
  generalize hasA i.op = xA at *
  generalize hasB i.op = xB at *
  generalize hasF i.op = xF at *
  generalize numK i.op = xN at *
  clear hT
  replace hn := Lib.hid hn
  rcases tri xR (i.r = 0) with rfl | ⟨rfl, h1⟩ | ⟨rfl, h1⟩ <;> rcases tri xA (i.a = 0) with rfl | ⟨rfl, h2⟩ | ⟨rfl, h2⟩ <;> rcases tri xB (i.b = 0) with rfl | ⟨rfl, h3⟩ | ⟨rfl, h3⟩ <;>
  · go_enter Tryd.func25, Tryd.ntmps25
    go_wp2_with fail
    refine (hn.out _ (b_alloc _ _)).mono ?_
    rintro e w1 ⟨rfl, hb1⟩
    obtain ⟨hc, hf⟩ := bcell hb1
    have hlt : w.heap.size < w1.heap.size := by have := hb1.size; simp at this; omega
    go_wp2_with fail
    go_ret
    exact ⟨ret_bool (by simp [*]), (b_next hb1).alloc (b_next hb1).size _⟩
end Go.Proofs.YtiicjbnocpphdaaDoor.Cd
