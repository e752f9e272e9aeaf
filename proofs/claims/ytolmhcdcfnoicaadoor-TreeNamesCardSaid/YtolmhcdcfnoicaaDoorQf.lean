/- What one operation of a region comes to: loads, addresses, comparisons. Conditions: none. -/
import Derived.Test.YtolmhcdcfnoicaaDoorTrM
import Derived.Test.YtolmhcdcfnoicaaDoorQg
namespace Go.Proofs.YtolmhcdcfnoicaaDoor.Qg
open Go Go.RowKit

theorem ld_u8 {V : World} {b o : Nat} {v : Int} (h : V.cell? ⟨b, o, none⟩ = some (.int .u8 v)) : (Instr.loadAt 5 (.pointer (some ⟨b, o, none⟩))).run Tryd.prog V = .ok (.int .u8 v) V := by go_simp
theorem ld_int {V : World} {b o : Nat} {v : Int} (h : V.cell? ⟨b, o, none⟩ = some (.int .i64 v)) : (Instr.loadAt 3 (.pointer (some ⟨b, o, none⟩))).run Tryd.prog V = .ok (.int .i64 v) V := by go_simp
theorem ld_i64 {V : World} {b o : Nat} {v : Int} (h : V.cell? ⟨b, o, none⟩ = some (.int .i64 v)) : (Instr.loadAt 2 (.pointer (some ⟨b, o, none⟩))).run Tryd.prog V = .ok (.int .i64 v) V := by go_simp
theorem ld_bool {V : World} {b o : Nat} {v : Bool} (h : V.cell? ⟨b, o, none⟩ = some (.bool v)) : (Instr.loadAt 4 (.pointer (some ⟨b, o, none⟩))).run Tryd.prog V = .ok (.bool v) V := by go_simp
theorem ld_str {V : World} {b o : Nat} {v : ByteArray} (h : V.cell? ⟨b, o, none⟩ = some (.string v)) : (Instr.loadAt 9 (.pointer (some ⟨b, o, none⟩))).run Tryd.prog V = .ok (.string v) V := by go_simp
theorem ld_exs {V : World} {b o : Nat} {a : Option Addr} {n c : Nat} (h : V.cell? ⟨b, o, none⟩ = some (.slice a n c)) : (Instr.loadAt 23 (.pointer (some ⟨b, o, none⟩))).run Tryd.prog V = .ok (.slice a n c) V := by go_simp
theorem ld_sts {V : World} {b o : Nat} {a : Option Addr} {n c : Nat} (h : V.cell? ⟨b, o, none⟩ = some (.slice a n c)) : (Instr.loadAt 36 (.pointer (some ⟨b, o, none⟩))).run Tryd.prog V = .ok (.slice a n c) V := by go_simp
theorem ld_strs {V : World} {b o : Nat} {a : Option Addr} {n c : Nat} (h : V.cell? ⟨b, o, none⟩ = some (.slice a n c)) : (Instr.loadAt 35 (.pointer (some ⟨b, o, none⟩))).run Tryd.prog V = .ok (.slice a n c) V := by go_simp
theorem ld_ex {V : World} {b o : Nat} {k : Int} {nm : ByteArray} {n : Int} {a : Option Addr} {m c : Nat} {p : Int} (h0 : V.cell? ⟨b, o, none⟩ = some (.int .u8 k)) (h1 : V.cell? ⟨b, o + 1, none⟩ = some (.string nm)) (h2 : V.cell? ⟨b, o + 2, none⟩ = some (.int .i64 n)) (h3 : V.cell? ⟨b, o + 3, none⟩ = some (.slice a m c)) (h4 : V.cell? ⟨b, o + 4, none⟩ = some (.int .i64 p)) :
    (Instr.loadAt 25 (.pointer (some ⟨b, o, none⟩))).run Tryd.prog V = .ok (.agg #[.int .u8 k, .string nm, .int .i64 n, .slice a m c, .int .i64 p]) V := by go_simp
theorem ix_st {V : World} {b off n cap k : Nat} (h : (k : Int) < (n : Int)) : (Instr.indexAt 36 (.slice (some ⟨b, off, none⟩) n cap) (.int .i64 k)).run Tryd.prog V = .ok (.pointer (some ⟨b, off + k * 8, none⟩)) V := by go_simp
theorem ix_de {V : World} {b off n cap k : Nat} (h : (k : Int) < (n : Int)) : (Instr.indexAt 22 (.slice (some ⟨b, off, none⟩) n cap) (.int .i64 k)).run Tryd.prog V = .ok (.pointer (some ⟨b, off + k * 6, none⟩)) V := by go_simp
theorem ix_ex {V : World} {b off n cap k : Nat} (h : (k : Int) < (n : Int)) : (Instr.indexAt 23 (.slice (some ⟨b, off, none⟩) n cap) (.int .i64 k)).run Tryd.prog V = .ok (.pointer (some ⟨b, off + k * 5, none⟩)) V := by go_simp
theorem ix_str {V : World} {b off n cap k : Nat} (h : (k : Int) < (n : Int)) : (Instr.indexAt 35 (.slice (some ⟨b, off, none⟩) n cap) (.int .i64 k)).run Tryd.prog V = .ok (.pointer (some ⟨b, off + k, none⟩)) V := by go_simp
theorem fl_st0 {V : World} {b o : Nat} : (Instr.fieldAt 38 (.pointer (some ⟨b, o, none⟩)) 0).run Tryd.prog V = .ok (.pointer (some ⟨b, o, none⟩)) V := by go_simp
theorem fl_st1 {V : World} {b o : Nat} : (Instr.fieldAt 38 (.pointer (some ⟨b, o, none⟩)) 1).run Tryd.prog V = .ok (.pointer (some ⟨b, o + 1, none⟩)) V := by go_simp
theorem fl_st2 {V : World} {b o : Nat} : (Instr.fieldAt 38 (.pointer (some ⟨b, o, none⟩)) 2).run Tryd.prog V = .ok (.pointer (some ⟨b, o + 2, none⟩)) V := by go_simp
theorem fl_st3 {V : World} {b o : Nat} : (Instr.fieldAt 38 (.pointer (some ⟨b, o, none⟩)) 3).run Tryd.prog V = .ok (.pointer (some ⟨b, o + 3, none⟩)) V := by go_simp
theorem fl_st4 {V : World} {b o : Nat} : (Instr.fieldAt 38 (.pointer (some ⟨b, o, none⟩)) 4).run Tryd.prog V = .ok (.pointer (some ⟨b, o + 4, none⟩)) V := by go_simp
theorem fl_st5 {V : World} {b o : Nat} : (Instr.fieldAt 38 (.pointer (some ⟨b, o, none⟩)) 5).run Tryd.prog V = .ok (.pointer (some ⟨b, o + 5, none⟩)) V := by go_simp
theorem fl_st6 {V : World} {b o : Nat} : (Instr.fieldAt 38 (.pointer (some ⟨b, o, none⟩)) 6).run Tryd.prog V = .ok (.pointer (some ⟨b, o + 6, none⟩)) V := by go_simp
theorem fl_st7 {V : World} {b o : Nat} : (Instr.fieldAt 38 (.pointer (some ⟨b, o, none⟩)) 7).run Tryd.prog V = .ok (.pointer (some ⟨b, o + 7, none⟩)) V := by go_simp
theorem fl_de0 {V : World} {b o : Nat} : (Instr.fieldAt 40 (.pointer (some ⟨b, o, none⟩)) 0).run Tryd.prog V = .ok (.pointer (some ⟨b, o, none⟩)) V := by go_simp
theorem fl_de1 {V : World} {b o : Nat} : (Instr.fieldAt 40 (.pointer (some ⟨b, o, none⟩)) 1).run Tryd.prog V = .ok (.pointer (some ⟨b, o + 1, none⟩)) V := by go_simp
theorem fl_de2 {V : World} {b o : Nat} : (Instr.fieldAt 40 (.pointer (some ⟨b, o, none⟩)) 2).run Tryd.prog V = .ok (.pointer (some ⟨b, o + 2, none⟩)) V := by go_simp
theorem fl_de3 {V : World} {b o : Nat} : (Instr.fieldAt 40 (.pointer (some ⟨b, o, none⟩)) 3).run Tryd.prog V = .ok (.pointer (some ⟨b, o + 3, none⟩)) V := by go_simp
theorem fl_de4 {V : World} {b o : Nat} : (Instr.fieldAt 40 (.pointer (some ⟨b, o, none⟩)) 4).run Tryd.prog V = .ok (.pointer (some ⟨b, o + 4, none⟩)) V := by go_simp
theorem fl_de5 {V : World} {b o : Nat} : (Instr.fieldAt 40 (.pointer (some ⟨b, o, none⟩)) 5).run Tryd.prog V = .ok (.pointer (some ⟨b, o + 5, none⟩)) V := by go_simp
theorem fl_ex0 {V : World} {b o : Nat} : (Instr.fieldAt 25 (.pointer (some ⟨b, o, none⟩)) 0).run Tryd.prog V = .ok (.pointer (some ⟨b, o, none⟩)) V := by go_simp
theorem fl_ex1 {V : World} {b o : Nat} : (Instr.fieldAt 25 (.pointer (some ⟨b, o, none⟩)) 1).run Tryd.prog V = .ok (.pointer (some ⟨b, o + 1, none⟩)) V := by go_simp
theorem fl_ex2 {V : World} {b o : Nat} : (Instr.fieldAt 25 (.pointer (some ⟨b, o, none⟩)) 2).run Tryd.prog V = .ok (.pointer (some ⟨b, o + 2, none⟩)) V := by go_simp
theorem fl_ex3 {V : World} {b o : Nat} : (Instr.fieldAt 25 (.pointer (some ⟨b, o, none⟩)) 3).run Tryd.prog V = .ok (.pointer (some ⟨b, o + 3, none⟩)) V := by go_simp
theorem fl_ex4 {V : World} {b o : Nat} : (Instr.fieldAt 25 (.pointer (some ⟨b, o, none⟩)) 4).run Tryd.prog V = .ok (.pointer (some ⟨b, o + 4, none⟩)) V := by go_simp
theorem ne_u8 {V : World} {p q : Operand} {x y : Int} : (do eqGuard .neq 5 p q (.int .u8 x) (.int .u8 y); binOp .neq 5 (.int .u8 x) (.int .u8 y) : Sem Value).run Tryd.prog V = .ok (.bool (decide (¬ x = y))) V := by
  by_cases h : x = y
  · subst h; go_simp
  · go_simp
theorem ne_i64 {V : World} {p q : Operand} {x y : Int} : (do eqGuard .neq 2 p q (.int .i64 x) (.int .i64 y); binOp .neq 2 (.int .i64 x) (.int .i64 y) : Sem Value).run Tryd.prog V = .ok (.bool (decide (¬ x = y))) V := by
  by_cases h : x = y
  · subst h; go_simp
  · go_simp
theorem ne_int {V : World} {p q : Operand} {x y : Int} : (do eqGuard .neq 3 p q (.int .i64 x) (.int .i64 y); binOp .neq 3 (.int .i64 x) (.int .i64 y) : Sem Value).run Tryd.prog V = .ok (.bool (decide (¬ x = y))) V := by
  by_cases h : x = y
  · subst h; go_simp
  · go_simp
theorem ne_bool {V : World} {p q : Operand} {x y : Bool} : (do eqGuard .neq 4 p q (.bool x) (.bool y); binOp .neq 4 (.bool x) (.bool y) : Sem Value).run Tryd.prog V = .ok (.bool (decide (¬ x = y))) V := by
  cases x <;> cases y <;> go_simp
theorem bytes_ne {a b : ByteArray} (h : ¬ a = b) : (a.toList == b.toList) = false := by
  rw [Bool.eq_false_iff]
  intro e
  rw [beq_iff_eq, Lib.toList_data, Lib.toList_data] at e
  apply h
  apply ByteArray.ext
  exact Array.toList_inj.1 e
theorem ne_str {V : World} {p q : Operand} {x y : ByteArray} : (do eqGuard .neq 9 p q (.string x) (.string y); binOp .neq 9 (.string x) (.string y) : Sem Value).run Tryd.prog V = .ok (.bool (decide (¬ x = y))) V := by
  by_cases h : x = y
  · subst h; go_simp
  · have hx := bytes_ne h
    go_simp
theorem eq_bool {V : World} {p q : Operand} {x : Bool} : (do eqGuard .eql 4 p q (.bool x) (.bool x); binOp .eql 4 (.bool x) (.bool x) : Sem Value).run Tryd.prog V = .ok (.bool true) V := by
  cases x <;> go_simp
theorem eq_int {V : World} {p q : Operand} {x : Int} : (do eqGuard .eql 3 p q (.int .i64 x) (.int .i64 x); binOp .eql 3 (.int .i64 x) (.int .i64 x) : Sem Value).run Tryd.prog V = .ok (.bool true) V := by go_simp
theorem not_run {V : World} {x : Bool} : (Op.unary .not (.bool x)).run Tryd.prog V = .ok (.bool (!x)) V := by go_simp
theorem ln_strs {p : Option Addr} {n c : Nat} {w : World} : (Builtin.len_ #[35] 3 #[.slice p n c]).run Tryd.prog w = .ok (.int .i64 n) w := by go_simp
theorem ln_exs {p : Option Addr} {n c : Nat} {w : World} : (Builtin.len_ #[23] 3 #[.slice p n c]).run Tryd.prog w = .ok (.int .i64 n) w := by go_simp
theorem ln_sts {p : Option Addr} {n c : Nat} {w : World} : (Builtin.len_ #[36] 3 #[.slice p n c]).run Tryd.prog w = .ok (.int .i64 n) w := by go_simp
theorem ln_des {p : Option Addr} {n c : Nat} {w : World} : (Builtin.len_ #[22] 3 #[.slice p n c]).run Tryd.prog w = .ok (.int .i64 n) w := by go_simp
theorem en_tree_May (xs : Array Value) (w : World) : (callFunc 11 xs).run Tryd.prog w = .ok (.enter 11 xs) w := rfl
theorem en_bobbinref02_May (xs : Array Value) (w : World) : (callFunc 12 xs).run Tryd.prog w = .ok (.enter 12 xs) w := rfl
theorem en_tree_Depth (xs : Array Value) (w : World) : (callFunc 13 xs).run Tryd.prog w = .ok (.enter 13 xs) w := rfl
theorem en_bobbinref02_Depth (xs : Array Value) (w : World) : (callFunc 14 xs).run Tryd.prog w = .ok (.enter 14 xs) w := rfl
theorem en_tree_Size (xs : Array Value) (w : World) : (callFunc 15 xs).run Tryd.prog w = .ok (.enter 15 xs) w := rfl
theorem en_bobbinref02_Size (xs : Array Value) (w : World) : (callFunc 16 xs).run Tryd.prog w = .ok (.enter 16 xs) w := rfl
theorem en_tree_Same (xs : Array Value) (w : World) : (callFunc 17 xs).run Tryd.prog w = .ok (.enter 17 xs) w := rfl
theorem en_bobbinref02_Same (xs : Array Value) (w : World) : (callFunc 18 xs).run Tryd.prog w = .ok (.enter 18 xs) w := rfl
theorem en_tree_MayExpr (xs : Array Value) (w : World) : (callFunc 19 xs).run Tryd.prog w = .ok (.enter 19 xs) w := rfl
theorem en_bobbinref02_MayExpr (xs : Array Value) (w : World) : (callFunc 20 xs).run Tryd.prog w = .ok (.enter 20 xs) w := rfl
theorem en_tree_SameExpr (xs : Array Value) (w : World) : (callFunc 21 xs).run Tryd.prog w = .ok (.enter 21 xs) w := rfl
theorem en_bobbinref02_SameExpr (xs : Array Value) (w : World) : (callFunc 22 xs).run Tryd.prog w = .ok (.enter 22 xs) w := rfl
theorem en_tree_Name (xs : Array Value) (w : World) : (callFunc 23 xs).run Tryd.prog w = .ok (.enter 23 xs) w := rfl
theorem en_bobbinref02_Name (xs : Array Value) (w : World) : (callFunc 24 xs).run Tryd.prog w = .ok (.enter 24 xs) w := rfl
theorem en_bobbinlaw02_awake (xs : Array Value) (w : World) : (callFunc 10 xs).run Tryd.prog w = .ok (.enter 10 xs) w := rfl
theorem en_bobbinref02_sameStmts (xs : Array Value) (w : World) : (callFunc 41 xs).run Tryd.prog w = .ok (.enter 41 xs) w := rfl
theorem en_bobbinref02_sameExprs (xs : Array Value) (w : World) : (callFunc 45 xs).run Tryd.prog w = .ok (.enter 45 xs) w := rfl
end Go.Proofs.YtolmhcdcfnoicaaDoor.Qg
