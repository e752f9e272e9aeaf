/- What one operation of a region comes to: loads, addresses, comparisons. Conditions: none. · A drawn region whose operations write temporaries in a row, each looking at earlier ones that it waits for: its lexical order serves for all orders, by one look at each operation. Conditions: none. -/
import Derived.Test.YtfhmhplbkheojaaGreatDoorGrAB
import Derived.Deep.Quiet
import Derived.KernelRfl
namespace Go.Proofs.YtfhmhplbkheojaaGreatDoor.Qg
open Go Go.RowKit

theorem ld_u8 {V : World} {b o : Nat} {v : Int} (h : V.cell? ⟨b, o, none⟩ = some (.int .u8 v)) : (Instr.loadAt 5 (.pointer (some ⟨b, o, none⟩))).run Tryz.prog V = .ok (.int .u8 v) V := by go_simp
theorem ld_int {V : World} {b o : Nat} {v : Int} (h : V.cell? ⟨b, o, none⟩ = some (.int .i64 v)) : (Instr.loadAt 3 (.pointer (some ⟨b, o, none⟩))).run Tryz.prog V = .ok (.int .i64 v) V := by go_simp
theorem ld_i64 {V : World} {b o : Nat} {v : Int} (h : V.cell? ⟨b, o, none⟩ = some (.int .i64 v)) : (Instr.loadAt 2 (.pointer (some ⟨b, o, none⟩))).run Tryz.prog V = .ok (.int .i64 v) V := by go_simp
theorem ld_bool {V : World} {b o : Nat} {v : Bool} (h : V.cell? ⟨b, o, none⟩ = some (.bool v)) : (Instr.loadAt 4 (.pointer (some ⟨b, o, none⟩))).run Tryz.prog V = .ok (.bool v) V := by go_simp
theorem ld_str {V : World} {b o : Nat} {v : ByteArray} (h : V.cell? ⟨b, o, none⟩ = some (.string v)) : (Instr.loadAt 9 (.pointer (some ⟨b, o, none⟩))).run Tryz.prog V = .ok (.string v) V := by go_simp
theorem ld_exs {V : World} {b o : Nat} {a : Option Addr} {n c : Nat} (h : V.cell? ⟨b, o, none⟩ = some (.slice a n c)) : (Instr.loadAt 43 (.pointer (some ⟨b, o, none⟩))).run Tryz.prog V = .ok (.slice a n c) V := by go_simp
theorem ld_sts {V : World} {b o : Nat} {a : Option Addr} {n c : Nat} (h : V.cell? ⟨b, o, none⟩ = some (.slice a n c)) : (Instr.loadAt 33 (.pointer (some ⟨b, o, none⟩))).run Tryz.prog V = .ok (.slice a n c) V := by go_simp
theorem ld_strs {V : World} {b o : Nat} {a : Option Addr} {n c : Nat} (h : V.cell? ⟨b, o, none⟩ = some (.slice a n c)) : (Instr.loadAt 32 (.pointer (some ⟨b, o, none⟩))).run Tryz.prog V = .ok (.slice a n c) V := by go_simp
theorem ld_ex {V : World} {b o : Nat} {k : Int} {nm : ByteArray} {n : Int} {a : Option Addr} {m c : Nat} {p : Int} (h0 : V.cell? ⟨b, o, none⟩ = some (.int .u8 k)) (h1 : V.cell? ⟨b, o + 1, none⟩ = some (.string nm)) (h2 : V.cell? ⟨b, o + 2, none⟩ = some (.int .i64 n)) (h3 : V.cell? ⟨b, o + 3, none⟩ = some (.slice a m c)) (h4 : V.cell? ⟨b, o + 4, none⟩ = some (.int .i64 p)) :
    (Instr.loadAt 67 (.pointer (some ⟨b, o, none⟩))).run Tryz.prog V = .ok (.agg #[.int .u8 k, .string nm, .int .i64 n, .slice a m c, .int .i64 p]) V := by go_simp
theorem ix_st {V : World} {b off n cap k : Nat} (h : (k : Int) < (n : Int)) : (Instr.indexAt 33 (.slice (some ⟨b, off, none⟩) n cap) (.int .i64 k)).run Tryz.prog V = .ok (.pointer (some ⟨b, off + k * 8, none⟩)) V := by go_simp
theorem ix_de {V : World} {b off n cap k : Nat} (h : (k : Int) < (n : Int)) : (Instr.indexAt 26 (.slice (some ⟨b, off, none⟩) n cap) (.int .i64 k)).run Tryz.prog V = .ok (.pointer (some ⟨b, off + k * 6, none⟩)) V := by go_simp
theorem ix_ex {V : World} {b off n cap k : Nat} (h : (k : Int) < (n : Int)) : (Instr.indexAt 43 (.slice (some ⟨b, off, none⟩) n cap) (.int .i64 k)).run Tryz.prog V = .ok (.pointer (some ⟨b, off + k * 5, none⟩)) V := by go_simp
theorem ix_str {V : World} {b off n cap k : Nat} (h : (k : Int) < (n : Int)) : (Instr.indexAt 32 (.slice (some ⟨b, off, none⟩) n cap) (.int .i64 k)).run Tryz.prog V = .ok (.pointer (some ⟨b, off + k, none⟩)) V := by go_simp
theorem fl_st0 {V : World} {b o : Nat} : (Instr.fieldAt 45 (.pointer (some ⟨b, o, none⟩)) 0).run Tryz.prog V = .ok (.pointer (some ⟨b, o, none⟩)) V := by go_simp
theorem fl_st1 {V : World} {b o : Nat} : (Instr.fieldAt 45 (.pointer (some ⟨b, o, none⟩)) 1).run Tryz.prog V = .ok (.pointer (some ⟨b, o + 1, none⟩)) V := by go_simp
theorem fl_st2 {V : World} {b o : Nat} : (Instr.fieldAt 45 (.pointer (some ⟨b, o, none⟩)) 2).run Tryz.prog V = .ok (.pointer (some ⟨b, o + 2, none⟩)) V := by go_simp
theorem fl_st3 {V : World} {b o : Nat} : (Instr.fieldAt 45 (.pointer (some ⟨b, o, none⟩)) 3).run Tryz.prog V = .ok (.pointer (some ⟨b, o + 3, none⟩)) V := by go_simp
theorem fl_st4 {V : World} {b o : Nat} : (Instr.fieldAt 45 (.pointer (some ⟨b, o, none⟩)) 4).run Tryz.prog V = .ok (.pointer (some ⟨b, o + 4, none⟩)) V := by go_simp
theorem fl_st5 {V : World} {b o : Nat} : (Instr.fieldAt 45 (.pointer (some ⟨b, o, none⟩)) 5).run Tryz.prog V = .ok (.pointer (some ⟨b, o + 5, none⟩)) V := by go_simp
theorem fl_st6 {V : World} {b o : Nat} : (Instr.fieldAt 45 (.pointer (some ⟨b, o, none⟩)) 6).run Tryz.prog V = .ok (.pointer (some ⟨b, o + 6, none⟩)) V := by go_simp
theorem fl_st7 {V : World} {b o : Nat} : (Instr.fieldAt 45 (.pointer (some ⟨b, o, none⟩)) 7).run Tryz.prog V = .ok (.pointer (some ⟨b, o + 7, none⟩)) V := by go_simp
theorem fl_de0 {V : World} {b o : Nat} : (Instr.fieldAt 35 (.pointer (some ⟨b, o, none⟩)) 0).run Tryz.prog V = .ok (.pointer (some ⟨b, o, none⟩)) V := by go_simp
theorem fl_de1 {V : World} {b o : Nat} : (Instr.fieldAt 35 (.pointer (some ⟨b, o, none⟩)) 1).run Tryz.prog V = .ok (.pointer (some ⟨b, o + 1, none⟩)) V := by go_simp
theorem fl_de2 {V : World} {b o : Nat} : (Instr.fieldAt 35 (.pointer (some ⟨b, o, none⟩)) 2).run Tryz.prog V = .ok (.pointer (some ⟨b, o + 2, none⟩)) V := by go_simp
theorem fl_de3 {V : World} {b o : Nat} : (Instr.fieldAt 35 (.pointer (some ⟨b, o, none⟩)) 3).run Tryz.prog V = .ok (.pointer (some ⟨b, o + 3, none⟩)) V := by go_simp
theorem fl_de4 {V : World} {b o : Nat} : (Instr.fieldAt 35 (.pointer (some ⟨b, o, none⟩)) 4).run Tryz.prog V = .ok (.pointer (some ⟨b, o + 4, none⟩)) V := by go_simp
theorem fl_de5 {V : World} {b o : Nat} : (Instr.fieldAt 35 (.pointer (some ⟨b, o, none⟩)) 5).run Tryz.prog V = .ok (.pointer (some ⟨b, o + 5, none⟩)) V := by go_simp
theorem fl_ex0 {V : World} {b o : Nat} : (Instr.fieldAt 67 (.pointer (some ⟨b, o, none⟩)) 0).run Tryz.prog V = .ok (.pointer (some ⟨b, o, none⟩)) V := by go_simp
theorem fl_ex1 {V : World} {b o : Nat} : (Instr.fieldAt 67 (.pointer (some ⟨b, o, none⟩)) 1).run Tryz.prog V = .ok (.pointer (some ⟨b, o + 1, none⟩)) V := by go_simp
theorem fl_ex2 {V : World} {b o : Nat} : (Instr.fieldAt 67 (.pointer (some ⟨b, o, none⟩)) 2).run Tryz.prog V = .ok (.pointer (some ⟨b, o + 2, none⟩)) V := by go_simp
theorem fl_ex3 {V : World} {b o : Nat} : (Instr.fieldAt 67 (.pointer (some ⟨b, o, none⟩)) 3).run Tryz.prog V = .ok (.pointer (some ⟨b, o + 3, none⟩)) V := by go_simp
theorem fl_ex4 {V : World} {b o : Nat} : (Instr.fieldAt 67 (.pointer (some ⟨b, o, none⟩)) 4).run Tryz.prog V = .ok (.pointer (some ⟨b, o + 4, none⟩)) V := by go_simp
theorem ne_u8 {V : World} {p q : Operand} {x y : Int} : (do eqGuard .neq 5 p q (.int .u8 x) (.int .u8 y); binOp .neq 5 (.int .u8 x) (.int .u8 y) : Sem Value).run Tryz.prog V = .ok (.bool (decide (¬ x = y))) V := by
  by_cases h : x = y
  · subst h; go_simp
  · go_simp
theorem ne_i64 {V : World} {p q : Operand} {x y : Int} : (do eqGuard .neq 2 p q (.int .i64 x) (.int .i64 y); binOp .neq 2 (.int .i64 x) (.int .i64 y) : Sem Value).run Tryz.prog V = .ok (.bool (decide (¬ x = y))) V := by
  by_cases h : x = y
  · subst h; go_simp
  · go_simp
theorem ne_int {V : World} {p q : Operand} {x y : Int} : (do eqGuard .neq 3 p q (.int .i64 x) (.int .i64 y); binOp .neq 3 (.int .i64 x) (.int .i64 y) : Sem Value).run Tryz.prog V = .ok (.bool (decide (¬ x = y))) V := by
  by_cases h : x = y
  · subst h; go_simp
  · go_simp
theorem ne_bool {V : World} {p q : Operand} {x y : Bool} : (do eqGuard .neq 4 p q (.bool x) (.bool y); binOp .neq 4 (.bool x) (.bool y) : Sem Value).run Tryz.prog V = .ok (.bool (decide (¬ x = y))) V := by
  cases x <;> cases y <;> go_simp
theorem bytes_ne {a b : ByteArray} (h : ¬ a = b) : (a.toList == b.toList) = false := by
  rw [Bool.eq_false_iff]
  intro e
  rw [beq_iff_eq, Lib.toList_data, Lib.toList_data] at e
  apply h
  apply ByteArray.ext
  exact Array.toList_inj.1 e
theorem ne_str {V : World} {p q : Operand} {x y : ByteArray} : (do eqGuard .neq 9 p q (.string x) (.string y); binOp .neq 9 (.string x) (.string y) : Sem Value).run Tryz.prog V = .ok (.bool (decide (¬ x = y))) V := by
  by_cases h : x = y
  · subst h; go_simp
  · have hx := bytes_ne h
    go_simp
theorem eq_bool {V : World} {p q : Operand} {x : Bool} : (do eqGuard .eql 4 p q (.bool x) (.bool x); binOp .eql 4 (.bool x) (.bool x) : Sem Value).run Tryz.prog V = .ok (.bool true) V := by
  cases x <;> go_simp
theorem eq_int {V : World} {p q : Operand} {x : Int} : (do eqGuard .eql 3 p q (.int .i64 x) (.int .i64 x); binOp .eql 3 (.int .i64 x) (.int .i64 x) : Sem Value).run Tryz.prog V = .ok (.bool true) V := by go_simp
theorem not_run {V : World} {x : Bool} : (Op.unary .not (.bool x)).run Tryz.prog V = .ok (.bool (!x)) V := by go_simp
theorem ln_strs {p : Option Addr} {n c : Nat} {w : World} : (Builtin.len_ #[32] 3 #[.slice p n c]).run Tryz.prog w = .ok (.int .i64 n) w := by go_simp
theorem ln_exs {p : Option Addr} {n c : Nat} {w : World} : (Builtin.len_ #[43] 3 #[.slice p n c]).run Tryz.prog w = .ok (.int .i64 n) w := by go_simp
theorem ln_sts {p : Option Addr} {n c : Nat} {w : World} : (Builtin.len_ #[33] 3 #[.slice p n c]).run Tryz.prog w = .ok (.int .i64 n) w := by go_simp
theorem ln_des {p : Option Addr} {n c : Nat} {w : World} : (Builtin.len_ #[26] 3 #[.slice p n c]).run Tryz.prog w = .ok (.int .i64 n) w := by go_simp
theorem ne_strs {V : World} {p q : Operand} {x : ByteArray} : (do eqGuard .neq 9 p q (.string x) (.string x); binOp .neq 9 (.string x) (.string x) : Sem Value).run Tryz.prog V = .ok (.bool false) V := by go_simp
/-- an operation's own run, compared by the kernel -/
theorem via_s {P : Program} {a : Act} {o : Oper} {s : Sem Value} {x : Value} {w : World} (he : (execOp a.eval o).run P w = (do pure (Next.value (← s)) : Sem Next).run P w) (hs : s.run P w = .ok x w) : (execOp a.eval o).run P w = .ok (.value x) w := he.trans (run_v hs)
theorem eq_u8 {V : World} {p q : Operand} {x : Int} : (do eqGuard .eql 5 p q (.int .u8 x) (.int .u8 x); binOp .eql 5 (.int .u8 x) (.int .u8 x) : Sem Value).run Tryz.prog V = .ok (.bool true) V := by go_simp
theorem eq_str {V : World} {p q : Operand} {x : ByteArray} : (do eqGuard .eql 9 p q (.string x) (.string x); binOp .eql 9 (.string x) (.string x) : Sem Value).run Tryz.prog V = .ok (.bool true) V := by go_simp
theorem pick_t {V : World} {v : Value} : (Result.ok (Next.value (if true = true then v else Value.bool false)) V) = Result.ok (Next.value v) V := rfl
end Go.Proofs.YtfhmhplbkheojaaGreatDoor.Qg

namespace Go.Proofs.YtfhmhplbkheojaaGreatDoor.Ln
open Go

def edge (o : Oper) (k : Nat) : Bool := o.after.any fun e => Region.binds .any e && e.on == k
def okT (base fin k : Nat) (o : Oper) (t : Nat) : Bool := (decide (t < base) && t != fin) || (decide (base ≤ t) && decide (t < base + k) && edge o (t - base))
def noSel (o : Oper) : Bool := match o.op with | .select .. => false | _ => true
def linO (ops : Array Oper) (base fin n k : Nat) (o : Oper) : Bool :=
  noSel o && (o.dst == some (if k + 1 = n then fin else base + k)) && (o.after.all fun e => !Region.binds .any e || decide (e.on < k)) && (o.looksAt ops).all (okT base fin k o)
def linGo (ops : Array Oper) (base fin n : Nat) : Nat → List Oper → Bool
  | _, [] => true
  | k, o :: r => linO ops base fin n k o && linGo ops base fin n (k + 1) r
def linB (ops : Array Oper) (base fin : Nat) : Bool := decide (fin < base ∨ fin + 1 = base + ops.size) && linGo ops base fin ops.size 0 ops.toList

theorem linGo_at {ops : Array Oper} {base fin n : Nat} : ∀ (l : List Oper) (k j : Nat) (o : Oper), linGo ops base fin n k l = true → l[j]? = some o → linO ops base fin n (k + j) o = true
  | x :: r, k, 0, o, h, ho => by
    unfold linGo at h
    rw [Bool.and_eq_true] at h
    simp at ho
    subst ho
    exact h.1
  | x :: r, k, j + 1, o, h, ho => by
    unfold linGo at h
    rw [Bool.and_eq_true] at h
    have := linGo_at r (k + 1) j o h.2 (by simpa using ho)
    rw [show k + (j + 1) = k + 1 + j by omega]
    exact this
  | [], k, j, o, h, ho => by simp at ho

structure Li (ops : Array Oper) (base fin : Nat) : Prop where
  low : fin < base ∨ fin + 1 = base + ops.size
  sel : ∀ (j : Nat) (o : Oper), ops[j]? = some o → noSel o = true
  dst : ∀ (j : Nat) (o : Oper), ops[j]? = some o → o.dst = some (if j + 1 = ops.size then fin else base + j)
  aft : ∀ (j : Nat) (o : Oper), ops[j]? = some o → ∀ e ∈ o.after, Region.binds .any e = true → e.on < j
  lk : ∀ (j : Nat) (o : Oper), ops[j]? = some o → ∀ t : Nat, t ∈ (show List Nat from o.looksAt ops) → (t < base ∧ t ≠ fin) ∨ (base ≤ t ∧ t < base + j ∧ edge o (t - base) = true)
theorem li_of {ops : Array Oper} {base fin : Nat} (h : linB ops base fin = true) : Li ops base fin := by
  unfold linB at h
  rw [Bool.and_eq_true, decide_eq_true_eq] at h
  have key : ∀ j o, ops[j]? = some o → linO ops base fin ops.size j o = true := fun j o ho => by
    have := linGo_at ops.toList 0 j o h.2 (by simpa using ho)
    simpa using this
  refine ⟨h.1, fun j o ho => ?_, fun j o ho => ?_, fun j o ho e he hb => ?_, fun j o ho t ht => ?_⟩
  · have := key j o ho
    unfold linO at this
    simp only [Bool.and_eq_true] at this
    exact this.1.1.1
  · have := key j o ho
    unfold linO at this
    simp only [Bool.and_eq_true, beq_iff_eq] at this
    exact this.1.1.2
  · have := key j o ho
    unfold linO at this
    simp only [Bool.and_eq_true] at this
    have h1 := Array.all_eq_true_iff_forall_mem.1 this.1.2 e he
    simpa [hb] using h1
  · have := key j o ho
    unfold linO at this
    simp only [Bool.and_eq_true] at this
    have h1 := List.all_eq_true.1 this.2 t ht
    unfold okT at h1
    simp only [Bool.or_eq_true, Bool.and_eq_true, decide_eq_true_eq, bne_iff_ne] at h1
    rcases h1 with h1 | h1
    · exact Or.inl h1
    · exact Or.inr ⟨h1.1.1, h1.1.2, h1.2⟩

/-- the first k have come up -/
def First (n k : Nat) (listed : Array Bool) : Prop := listed.size = n ∧ ∀ i, i < n → listed[i]? = some (decide (i < k))
theorem First.getD {n k : Nat} {listed : Array Bool} (h : First n k listed) {i : Nat} (hi : i < n) (d : Bool) : listed.getD i d = decide (i < k) := by
  rw [Array.getD_eq_getD_getElem?, h.2 i hi]; rfl
theorem First.set {n k : Nat} {listed : Array Bool} (h : First n k listed) (hk : k < n) : First n (k + 1) (listed.setIfInBounds k true) := by
  refine ⟨by rw [Array.size_setIfInBounds]; exact h.1, fun i hi => ?_⟩
  by_cases hik : i = k
  · subst hik
    rw [Array.getElem?_setIfInBounds_self_of_lt (by rw [h.1]; exact hk), decide_eq_true (by omega)]
  · rw [Array.getElem?_setIfInBounds_ne (Ne.symm hik), h.2 i hi]
    congr 1
    exact decide_eq_decide.2 (by omega)
theorem lex_from {ops : Array Oper} {base fin : Nat} (L : Li ops base fin) : ∀ (m k : Nat) (listed : Array Bool), m + k = ops.size → First ops.size k listed → Region.lexFrom .any ops m k listed = true
  | 0, k, listed, hk, hF => by
    unfold Region.lexFrom
    have : Region.ready .any ops listed = [] := by
      unfold Region.ready
      rw [List.filter_eq_nil_iff]
      intro i hi
      rw [List.mem_range] at hi
      rw [hF.getD hi, decide_eq_true (by omega)]
      simp
    rw [this]
    rfl
  | m + 1, k, listed, hk, hF => by
    have hkn : k < ops.size := by omega
    obtain ⟨o, ho⟩ : ∃ o, ops[k]? = some o := ⟨_, Array.getElem?_eq_getElem hkn⟩
    unfold Region.lexFrom
    rw [Bool.and_eq_true, Bool.and_eq_true]
    refine ⟨⟨?_, ?_⟩, lex_from L m (k + 1) _ (by omega) (hF.set hkn)⟩
    · rw [List.contains_iff_mem]
      unfold Region.ready
      rw [List.mem_filter, List.mem_range]
      refine ⟨hkn, ?_⟩
      rw [hF.getD hkn, decide_eq_false (by omega), ho]
      simp only [Bool.not_false, Option.map_some, Option.getD_some, Bool.true_and]
      rw [Array.all_eq_true_iff_forall_mem]
      intro e he
      cases hb : Region.binds .any e with
      | false => rfl
      | true =>
        have h1 := L.aft k o ho e he hb
        rw [hF.getD (by omega), decide_eq_true h1]
        rfl
    · unfold Region.free
      rw [ho]
      simp only
      rw [List.all_eq_true]
      intro j hj
      rw [List.mem_range] at hj
      rw [hF.getD hj]
      by_cases hjk : j = k
      · subst hjk; simp
      by_cases hjl : j < k
      · rw [decide_eq_true hjl]; simp
      · have hkj : k < j := by omega
        obtain ⟨oj, hoj⟩ : ∃ oj, ops[j]? = some oj := ⟨_, Array.getElem?_eq_getElem hj⟩
        rw [hoj]
        simp only
        cases he : edge oj k with
        | true =>
          unfold edge at he
          rw [he]; simp
        | false =>
          have hap : o.apart ops oj = true := by
            have dk := L.dst k o ho
            have dj := L.dst j oj hoj
            rw [if_neg (show ¬ k + 1 = ops.size by omega)] at dk
            have n1 : base + k ∉ oj.looksAt ops := by
              intro hm
              rcases L.lk j oj hoj _ hm with ⟨h1, _⟩ | ⟨_, _, h3⟩
              · omega
              · rw [show base + k - base = k by omega, he] at h3
                cases h3
            have hlow := L.low
            unfold Oper.apart
            rw [dk, dj]
            simp only [Bool.and_eq_true, Bool.not_eq_true', List.contains_eq_mem, decide_eq_false_iff_not, bne_iff_ne, ne_eq, Option.some.injEq]
            refine ⟨⟨n1, ?_⟩, ?_⟩
            · by_cases hjn : j + 1 = ops.size
              · rw [if_pos hjn]; omega
              · rw [if_neg hjn]; omega
            · intro hm
              by_cases hjn : j + 1 = ops.size
              · rw [if_pos hjn] at hm
                rcases L.lk k o ho _ hm with ⟨_, h2⟩ | ⟨h1, h2, _⟩
                · exact h2 rfl
                · omega
              · rw [if_neg hjn] at hm
                rcases L.lk k o ho _ hm with ⟨h1, _⟩ | ⟨_, h2, _⟩ <;> omega
          rw [hap]; simp
theorem lex_of {ops : Array Oper} {base fin : Nat} (h : linB ops base fin = true) : Region.lexB .any ops = true := by
  have L := li_of h
  unfold Region.lexB
  rw [Bool.and_eq_true]
  refine ⟨?_, lex_from L ops.size 0 _ (by omega) ⟨by simp, fun i hi => by simp [hi]⟩⟩
  unfold Region.noSelect
  rw [Array.all_eq_true_iff_forall_mem]
  intro o ho
  obtain ⟨j, hj⟩ := Array.mem_iff_getElem?.1 ho
  exact L.sel j o hj
end Go.Proofs.YtfhmhplbkheojaaGreatDoor.Ln
