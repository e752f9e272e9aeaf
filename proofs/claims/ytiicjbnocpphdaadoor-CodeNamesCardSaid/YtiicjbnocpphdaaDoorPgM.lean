/- Programs of instructions as they lie in memory: instructions, functions, globals, with the addresses of their lists. Conditions: none. -/
import Derived.Test.YtiicjbnocpphdaaDoorTrA
namespace Go.Proofs.YtiicjbnocpphdaaDoor.Cd
open Go Go.RowKit
open Go.Proofs.YtiicjbnocpphdaaDoor.Lx Go.Proofs.YtiicjbnocpphdaaDoor.Tr

structure Ins where
  op : Int
  r : Int
  a : Int
  b : Int
  n : Int
  aa : Option Addr
  acap : Nat
  args : List Int
structure Mm where
  name : ByteArray
  size : Int
  first : Int
structure Fn where
  name : ByteArray
  thread : Bool
  params : Int
  regs : Int
  ca : Option Addr
  ccap : Nat
  code : List Ins
structure Pg where
  ma : Option Addr
  mcap : Nat
  mems : List Mm
  la : Option Addr
  lcap : Nat
  locks : List ByteArray
  fa : Option Addr
  fcap : Nat
  funs : List Fn
def Ins.vals (i : Ins) : List Value := [.int .u8 i.op, .int .i64 i.r, .int .i64 i.a, .int .i64 i.b, .int .i64 i.n, .slice i.aa i.args.length i.acap]
def Mm.vals (m : Mm) : List Value := [.string m.name, .int .i64 m.size, .int .i64 m.first]
def Fn.vals (f : Fn) : List Value := [.string f.name, .bool f.thread, .int .i64 f.params, .int .i64 f.regs, .slice f.ca f.code.length f.ccap]
def Pg.vals (p : Pg) : List Value := [.slice p.ma p.mems.length p.mcap, .slice p.la p.locks.length p.lcap, .slice p.fa p.funs.length p.fcap]
def numCells (l : List Int) : List Value := l.map (Value.int .i64)
def inCells (l : List Ins) : List Value := l.flatMap Ins.vals
def mmCells (l : List Mm) : List Value := l.flatMap Mm.vals
def fnCells (l : List Fn) : List Value := l.flatMap Fn.vals
theorem Ins.vals_len (i : Ins) : i.vals.length = 6 := rfl
theorem Mm.vals_len (i : Mm) : i.vals.length = 3 := rfl
theorem Fn.vals_len (i : Fn) : i.vals.length = 5 := rfl
structure Ins.In (w : World) (S : Nat → Prop) (i : Ins) : Prop where
  op : U8 i.op
  r : I64 i.r
  a : I64 i.a
  b : I64 i.b
  n : I64 i.n
  row : RowAt w S i.aa i.acap i.args.length (numCells i.args)
  nums : ∀ x ∈ i.args, I64 x
structure Mm.In (m : Mm) : Prop where
  name : m.name.size ≤ maxLen
  size : I64 m.size
  first : I64 m.first
structure Fn.In (w : World) (S : Nat → Prop) (f : Fn) : Prop where
  name : f.name.size ≤ maxLen
  params : I64 f.params
  regs : I64 f.regs
  row : RowAt w S f.ca f.ccap f.code.length (inCells f.code)
  code : ∀ i ∈ f.code, Ins.In w S i
structure Pg.In (w : World) (S : Nat → Prop) (p : Pg) : Prop where
  mrow : RowAt w S p.ma p.mcap p.mems.length (mmCells p.mems)
  mems : ∀ m ∈ p.mems, m.In
  lrow : RowAt w S p.la p.lcap p.locks.length (strCells p.locks)
  locks : ∀ s ∈ p.locks, s.size ≤ maxLen
  frow : RowAt w S p.fa p.fcap p.funs.length (fnCells p.funs)
  funs : ∀ f ∈ p.funs, Fn.In w S f
theorem Ins.In.below {w w' : World} {S : Nat → Prop} {i : Ins} (h : Ins.In w S i) (k : Kps S w w') : Ins.In w' S i := ⟨h.op, h.r, h.a, h.b, h.n, h.row.below k, h.nums⟩
theorem Ins.In.mono {w : World} {S S' : Nat → Prop} {i : Ins} (h : Ins.In w S i) (k : ∀ b, S b → S' b) : Ins.In w S' i := ⟨h.op, h.r, h.a, h.b, h.n, h.row.mono k, h.nums⟩
theorem Fn.In.below {w w' : World} {S : Nat → Prop} {i : Fn} (h : Fn.In w S i) (k : Kps S w w') : Fn.In w' S i := ⟨h.name, h.params, h.regs, h.row.below k, fun x hx => (h.code x hx).below k⟩
theorem Fn.In.mono {w : World} {S S' : Nat → Prop} {i : Fn} (h : Fn.In w S i) (k : ∀ b, S b → S' b) : Fn.In w S' i := ⟨h.name, h.params, h.regs, h.row.mono k, fun x hx => (h.code x hx).mono k⟩
theorem Pg.In.below {w w' : World} {S : Nat → Prop} {i : Pg} (h : Pg.In w S i) (k : Kps S w w') : Pg.In w' S i := ⟨h.mrow.below k, h.mems, h.lrow.below k, h.locks, h.frow.below k, fun x hx => (h.funs x hx).below k⟩
theorem Pg.In.mono {w : World} {S S' : Nat → Prop} {i : Pg} (h : Pg.In w S i) (k : ∀ b, S b → S' b) : Pg.In w S' i := ⟨h.mrow.mono k, h.mems, h.lrow.mono k, h.locks, h.frow.mono k, fun x hx => (h.funs x hx).mono k⟩

/-- an element of a row, cell by cell -/
theorem row_get {α : Type} (f : α → List Value) (c : Nat) (hc : ∀ x, (f x).length = c) (hc0 : 0 < c) {w : World} {S : Nat → Prop} {a : Option Addr} {cap : Nat} {l : List α} (h : RowAt w S a cap l.length (l.flatMap f)) (i : Nat) (e : α) (he : l[i]? = some e) :
    ∃ b off, a = some ⟨b, off, none⟩ ∧ S b ∧ ∀ j u, (f e)[j]? = some u → w.cell? ⟨b, off + (i * c + j), none⟩ = some u := by
  have key : ∀ j u, (f e)[j]? = some u → (l.flatMap f)[i * c + j]? = some u := by
    intro j u hu
    have hj : j < c := by have := (List.getElem?_eq_some_iff.1 hu).1; rw [hc] at this; exact this
    rw [flat_at f c hc l i j e he hj]; exact hu
  obtain ⟨u, hu⟩ : ∃ u, (f e)[0]? = some u := ⟨_, List.getElem?_eq_getElem (by rw [hc]; exact hc0)⟩
  obtain ⟨b, off, ha, hb, _⟩ := h.at_ _ _ (key 0 u hu)
  refine ⟨b, off, ha, hb, fun j v hv => ?_⟩
  obtain ⟨b', off', ha', _, hc⟩ := h.at_ _ _ (key j v hv)
  rw [ha] at ha'
  cases ha'
  exact hc
theorem num_row {w : World} {S : Nat → Prop} {a : Option Addr} {cap : Nat} {l : List Int} (h : RowAt w S a cap l.length (numCells l)) (i : Nat) (e : Int) (he : l[i]? = some e) :
    ∃ b off, a = some ⟨b, off, none⟩ ∧ S b ∧ w.cell? ⟨b, off + i, none⟩ = some (.int .i64 e) := by
  obtain ⟨b, off, ha, hb, hcl⟩ := h.at_ i (.int .i64 e) (by unfold numCells; rw [List.getElem?_map, he]; rfl)
  exact ⟨b, off, ha, hb, hcl⟩
theorem str_row {w : World} {S : Nat → Prop} {a : Option Addr} {cap : Nat} {l : List ByteArray} (h : RowAt w S a cap l.length (strCells l)) (i : Nat) (e : ByteArray) (he : l[i]? = some e) :
    ∃ b off, a = some ⟨b, off, none⟩ ∧ S b ∧ w.cell? ⟨b, off + i, none⟩ = some (.string e) := by
  obtain ⟨b, off, ha, hb, hcl⟩ := h.at_ i (.string e) (by unfold strCells; rw [List.getElem?_map, he]; rfl)
  exact ⟨b, off, ha, hb, hcl⟩
/-- an instruction's cells -/
theorem in_row {w : World} {S : Nat → Prop} {a : Option Addr} {cap : Nat} {l : List Ins} (h : RowAt w S a cap l.length (inCells l)) (i : Nat) (e : Ins) (he : l[i]? = some e) :
    ∃ b off, a = some ⟨b, off, none⟩ ∧ S b ∧ w.cell? ⟨b, off + i * 6, none⟩ = some (.int .u8 e.op) ∧ w.cell? ⟨b, off + i * 6 + 1, none⟩ = some (.int .i64 e.r) ∧ w.cell? ⟨b, off + i * 6 + 2, none⟩ = some (.int .i64 e.a) ∧ w.cell? ⟨b, off + i * 6 + 3, none⟩ = some (.int .i64 e.b) ∧ w.cell? ⟨b, off + i * 6 + 4, none⟩ = some (.int .i64 e.n) ∧ w.cell? ⟨b, off + i * 6 + 5, none⟩ = some (.slice e.aa e.args.length e.acap) := by
  obtain ⟨b, off, ha, hb, hcl⟩ := row_get Ins.vals 6 Ins.vals_len (by omega) h i e he
  refine ⟨b, off, ha, hb, ?_, ?_, ?_, ?_, ?_, ?_⟩
  · have := hcl 0 _ rfl; rwa [Nat.add_zero] at this
  · have := hcl 1 _ rfl; rwa [← Nat.add_assoc] at this
  · have := hcl 2 _ rfl; rwa [← Nat.add_assoc] at this
  · have := hcl 3 _ rfl; rwa [← Nat.add_assoc] at this
  · have := hcl 4 _ rfl; rwa [← Nat.add_assoc] at this
  · have := hcl 5 _ rfl; rwa [← Nat.add_assoc] at this
theorem mm_row {w : World} {S : Nat → Prop} {a : Option Addr} {cap : Nat} {l : List Mm} (h : RowAt w S a cap l.length (mmCells l)) (i : Nat) (e : Mm) (he : l[i]? = some e) :
    ∃ b off, a = some ⟨b, off, none⟩ ∧ S b ∧ w.cell? ⟨b, off + i * 3, none⟩ = some (.string e.name) ∧ w.cell? ⟨b, off + i * 3 + 1, none⟩ = some (.int .i64 e.size) ∧ w.cell? ⟨b, off + i * 3 + 2, none⟩ = some (.int .i64 e.first) := by
  obtain ⟨b, off, ha, hb, hcl⟩ := row_get Mm.vals 3 Mm.vals_len (by omega) h i e he
  refine ⟨b, off, ha, hb, ?_, ?_, ?_⟩
  · have := hcl 0 _ rfl; rwa [Nat.add_zero] at this
  · have := hcl 1 _ rfl; rwa [← Nat.add_assoc] at this
  · have := hcl 2 _ rfl; rwa [← Nat.add_assoc] at this
theorem fn_row {w : World} {S : Nat → Prop} {a : Option Addr} {cap : Nat} {l : List Fn} (h : RowAt w S a cap l.length (fnCells l)) (i : Nat) (e : Fn) (he : l[i]? = some e) :
    ∃ b off, a = some ⟨b, off, none⟩ ∧ S b ∧ w.cell? ⟨b, off + i * 5, none⟩ = some (.string e.name) ∧ w.cell? ⟨b, off + i * 5 + 1, none⟩ = some (.bool e.thread) ∧ w.cell? ⟨b, off + i * 5 + 2, none⟩ = some (.int .i64 e.params) ∧ w.cell? ⟨b, off + i * 5 + 3, none⟩ = some (.int .i64 e.regs) ∧ w.cell? ⟨b, off + i * 5 + 4, none⟩ = some (.slice e.ca e.code.length e.ccap) := by
  obtain ⟨b, off, ha, hb, hcl⟩ := row_get Fn.vals 5 Fn.vals_len (by omega) h i e he
  refine ⟨b, off, ha, hb, ?_, ?_, ?_, ?_, ?_⟩
  · have := hcl 0 _ rfl; rwa [Nat.add_zero] at this
  · have := hcl 1 _ rfl; rwa [← Nat.add_assoc] at this
  · have := hcl 2 _ rfl; rwa [← Nat.add_assoc] at this
  · have := hcl 3 _ rfl; rwa [← Nat.add_assoc] at this
  · have := hcl 4 _ rfl; rwa [← Nat.add_assoc] at this
end Go.Proofs.YtiicjbnocpphdaaDoor.Cd
