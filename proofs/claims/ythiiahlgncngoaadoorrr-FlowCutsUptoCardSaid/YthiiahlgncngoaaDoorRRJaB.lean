/- Trees of programs as they lie in memory: expressions, statements and declarations with the addresses of their lists. Conditions: none. -/
import Derived.Test.YthiiahlgncngoaaDoorRRJaA
import Derived.Below
set_option maxHeartbeats 16000000
set_option maxRecDepth 100000
namespace Go.Proofs.YthiiahlgncngoaaDoorRR.Tr
open Go Go.RowKit
open Go.Proofs.YthiiahlgncngoaaDoorRR.Lx
/-- the cells of some blocks read on as they read -/
def Kps (S : Nat → Prop) (A B : World) : Prop := ∀ b o v, S b → A.cell? ⟨b, o, none⟩ = some v → B.cell? ⟨b, o, none⟩ = some v
theorem Kps.refl (S : Nat → Prop) (A : World) : Kps S A A := fun _ _ _ _ h => h
theorem Kps.trans {S : Nat → Prop} {A B C : World} (h : Kps S A B) (k : Kps S B C) : Kps S A C := fun b o v hs hc => k b o v hs (h b o v hs hc)
theorem Kps.of_below {S : Nat → Prop} {A B : World} (h : Below A.heap.size A B) : Kps S A B := fun b o _ _ hc => (h.cell (p := ⟨b, o, none⟩) (World.block_lt_of_cell? _ _ hc)).trans hc
/-- a list's cells lie from its address on, in a block of S -/
structure RowAt (w : World) (S : Nat → Prop) (a : Option Addr) (cap n : Nat) (xs : List Value) : Prop where
 le : n ≤ cap
 lim : cap ≤ maxLen
 nil : a = none → cap = 0
 at_ : ∀ j u, xs[j]? = some u → ∃ b off, a = some ⟨b, off, none⟩ ∧ S b ∧ w.cell? ⟨b, off + j, none⟩ = some u
theorem RowAt.below {w w' : World} {S : Nat → Prop} {a : Option Addr} {cap n : Nat} {xs : List Value} (h : RowAt w S a cap n xs) (hb : Kps S w w') : RowAt w' S a cap n xs :=
 ⟨h.le, h.lim, h.nil, fun j u hj => by
  obtain ⟨b, off, ha, hB, hc⟩ := h.at_ j u hj
  exact ⟨b, off, ha, hB, hb _ _ _ hB hc⟩⟩
theorem RowAt.mono {w : World} {S S' : Nat → Prop} {a : Option Addr} {cap n : Nat} {xs : List Value} (h : RowAt w S a cap n xs) (hb : ∀ b, S b → S' b) : RowAt w S' a cap n xs :=
 ⟨h.le, h.lim, h.nil, fun j u hj => by
  obtain ⟨b, off, ha, hB, hc⟩ := h.at_ j u hj
  exact ⟨b, off, ha, hb _ hB, hc⟩⟩
/-- an expression; its list of arguments with address and capacity -/
inductive Ex where
 | mk (kind : Int) (name : ByteArray) (n : Int) (a : Option Addr) (cap : Nat) (args : List Ex) (pos : Int)
/-- a statement -/
inductive St where
 | mk (kind : Int) (name to : ByteArray) (new : Bool) (ea : Option Addr) (ecap : Nat) (e : List Ex) (ba : Option Addr) (bcap : Nat) (body : List St) (la : Option Addr) (lcap : Nat) (els : List St) (pos : Int)
/-- a declaration -/
structure De where
 kind : Int
 name : ByteArray
 n : Int
 pa : Option Addr
 pcap : Nat
 params : List ByteArray
 ba : Option Addr
 bcap : Nat
 body : List St
 pos : Int
def Ze (l : List ByteArray) : List Value := l.map Value.string
def I64 (n : Int) : Prop := -9223372036854775808 ≤ n ∧ n ≤ 9223372036854775807
def U8 (n : Int) : Prop := 0 ≤ n ∧ n ≤ 255
/-! ### Cells of a list's element -/
theorem flat_at {α : Type} (f : α → List Value) (c : Nat) (hc : ∀ x, (f x).length = c) : ∀ (l : List α) (i j : Nat) (x : α), l[i]? = some x → j < c → (l.flatMap f)[i * c + j]? = (f x)[j]?
 | [], i, j, x, h, _ => by simp at h
 | y :: r, 0, j, x, h, hj => by
   simp at h; subst h
   rw [List.flatMap_cons, Nat.zero_mul, Nat.zero_add, List.getElem?_append_left (by rw [hc]; exact hj)]
 | y :: r, i + 1, j, x, h, hj => by
   rw [List.flatMap_cons, List.getElem?_append_right (by rw [hc, Nat.succ_mul]; omega), hc]
   have e : (i + 1) * c + j - c = i * c + j := by rw [Nat.succ_mul]; omega
   rw [e]
   exact flat_at f c hc r i j x (by simpa using h) hj
end Go.Proofs.YthiiahlgncngoaaDoorRR.Tr
namespace Go.Proofs.YthiiahlgncngoaaDoorRR.Cd
open Go Go.RowKit
open Go.Proofs.YthiiahlgncngoaaDoorRR.Lx Go.Proofs.YthiiahlgncngoaaDoorRR.Tr
structure Ins where
 op : Int
 r : Int
 a : Int
 b : Int
 n : Int
 aa : Option Addr
 acap : Nat
 args : List Int
structure Mm where
 name : ByteArray
 size : Int
 first : Int
structure Fn where
 name : ByteArray
 thread : Bool
 params : Int
 regs : Int
 ca : Option Addr
 ccap : Nat
 code : List Ins
structure Pg where
 ma : Option Addr
 mcap : Nat
 mems : List Mm
 la : Option Addr
 lcap : Nat
 locks : List ByteArray
 fa : Option Addr
 fcap : Nat
 funs : List Fn
def Ins.vals (i : Ins) : List Value := [.int .u8 i.op, .int .i64 i.r, .int .i64 i.a, .int .i64 i.b, .int .i64 i.n, .slice i.aa i.args.length i.acap]
def Mm.vals (m : Mm) : List Value := [.string m.name, .int .i64 m.size, .int .i64 m.first]
def Fn.vals (f : Fn) : List Value := [.string f.name, .bool f.thread, .int .i64 f.params, .int .i64 f.regs, .slice f.ca f.code.length f.ccap]
def Pg.vals (p : Pg) : List Value := [.slice p.ma p.mems.length p.mcap, .slice p.la p.locks.length p.lcap, .slice p.fa p.funs.length p.fcap]
def Qc (l : List Int) : List Value := l.map (Value.int .i64)
def Q8 (l : List Ins) : List Value := l.flatMap Ins.vals
def mmCells (l : List Mm) : List Value := l.flatMap Mm.vals
def Zw (l : List Fn) : List Value := l.flatMap Fn.vals
theorem Ins.vals_len (i : Ins) : i.vals.length = 6 := rfl
theorem Mm.vals_len (i : Mm) : i.vals.length = 3 := rfl
theorem Fn.vals_len (i : Fn) : i.vals.length = 5 := rfl
structure Ins.In (w : World) (S : Nat → Prop) (i : Ins) : Prop where
 op : U8 i.op
 r : I64 i.r
 a : I64 i.a
 b : I64 i.b
 n : I64 i.n
 row : RowAt w S i.aa i.acap i.args.length (Qc i.args)
 nums : ∀ x ∈ i.args, I64 x
structure Mm.In (m : Mm) : Prop where
 name : m.name.size ≤ maxLen
 size : I64 m.size
 first : I64 m.first
structure Fn.In (w : World) (S : Nat → Prop) (f : Fn) : Prop where
 name : f.name.size ≤ maxLen
 params : I64 f.params
 regs : I64 f.regs
 row : RowAt w S f.ca f.ccap f.code.length (Q8 f.code)
 code : ∀ i ∈ f.code, Ins.In w S i
structure Pg.In (w : World) (S : Nat → Prop) (p : Pg) : Prop where
 mrow : RowAt w S p.ma p.mcap p.mems.length (mmCells p.mems)
 mems : ∀ m ∈ p.mems, m.In
 lrow : RowAt w S p.la p.lcap p.locks.length (Ze p.locks)
 locks : ∀ s ∈ p.locks, s.size ≤ maxLen
 frow : RowAt w S p.fa p.fcap p.funs.length (Zw p.funs)
 funs : ∀ f ∈ p.funs, Fn.In w S f
theorem Ins.In.below {w w' : World} {S : Nat → Prop} {i : Ins} (h : Ins.In w S i) (k : Kps S w w') : Ins.In w' S i := ⟨h.op, h.r, h.a, h.b, h.n, h.row.below k, h.nums⟩
theorem Ins.In.mono {w : World} {S S' : Nat → Prop} {i : Ins} (h : Ins.In w S i) (k : ∀ b, S b → S' b) : Ins.In w S' i := ⟨h.op, h.r, h.a, h.b, h.n, h.row.mono k, h.nums⟩
theorem Fn.In.below {w w' : World} {S : Nat → Prop} {i : Fn} (h : Fn.In w S i) (k : Kps S w w') : Fn.In w' S i := ⟨h.name, h.params, h.regs, h.row.below k, fun x hx => (h.code x hx).below k⟩
theorem Pg.In.below {w w' : World} {S : Nat → Prop} {i : Pg} (h : Pg.In w S i) (k : Kps S w w') : Pg.In w' S i := ⟨h.mrow.below k, h.mems, h.lrow.below k, h.locks, h.frow.below k, fun x hx => (h.funs x hx).below k⟩
/-- an element of a row, cell by cell -/
theorem row_get {α : Type} (f : α → List Value) (c : Nat) (hc : ∀ x, (f x).length = c) (hc0 : 0 < c) {w : World} {S : Nat → Prop} {a : Option Addr} {cap : Nat} {l : List α} (h : RowAt w S a cap l.length (l.flatMap f)) (i : Nat) (e : α) (he : l[i]? = some e) :
 ∃ b off, a = some ⟨b, off, none⟩ ∧ S b ∧ ∀ j u, (f e)[j]? = some u → w.cell? ⟨b, off + (i * c + j), none⟩ = some u := by
 have key : ∀ j u, (f e)[j]? = some u → (l.flatMap f)[i * c + j]? = some u := by
  intro j u hu
  have hj : j < c := by have := (List.getElem?_eq_some_iff.1 hu).1; rw [hc] at this; exact this
  rw [flat_at f c hc l i j e he hj]; exact hu
 obtain ⟨u, hu⟩ : ∃ u, (f e)[0]? = some u := ⟨_, List.getElem?_eq_getElem (by rw [hc]; exact hc0)⟩
 obtain ⟨b, off, ha, hb, _⟩ := h.at_ _ _ (key 0 u hu)
 refine ⟨b, off, ha, hb, fun j v hv => ?_⟩
 obtain ⟨b', off', ha', _, hc⟩ := h.at_ _ _ (key j v hv)
 rw [ha] at ha'
 cases ha'
 exact hc
theorem Xa {w : World} {S : Nat → Prop} {a : Option Addr} {cap : Nat} {l : List Int} (h : RowAt w S a cap l.length (Qc l)) (i : Nat) (e : Int) (he : l[i]? = some e) :
 ∃ b off, a = some ⟨b, off, none⟩ ∧ S b ∧ w.cell? ⟨b, off + i, none⟩ = some (.int .i64 e) := by
 obtain ⟨b, off, ha, hb, hcl⟩ := h.at_ i (.int .i64 e) (by unfold Qc; rw [List.getElem?_map, he]; rfl)
 exact ⟨b, off, ha, hb, hcl⟩
theorem str_row {w : World} {S : Nat → Prop} {a : Option Addr} {cap : Nat} {l : List ByteArray} (h : RowAt w S a cap l.length (Ze l)) (i : Nat) (e : ByteArray) (he : l[i]? = some e) :
 ∃ b off, a = some ⟨b, off, none⟩ ∧ S b ∧ w.cell? ⟨b, off + i, none⟩ = some (.string e) := by
 obtain ⟨b, off, ha, hb, hcl⟩ := h.at_ i (.string e) (by unfold Ze; rw [List.getElem?_map, he]; rfl)
 exact ⟨b, off, ha, hb, hcl⟩
/-- an instruction's cells -/
theorem X1 {w : World} {S : Nat → Prop} {a : Option Addr} {cap : Nat} {l : List Ins} (h : RowAt w S a cap l.length (Q8 l)) (i : Nat) (e : Ins) (he : l[i]? = some e) :
 ∃ b off, a = some ⟨b, off, none⟩ ∧ S b ∧ w.cell? ⟨b, off + i * 6, none⟩ = some (.int .u8 e.op) ∧ w.cell? ⟨b, off + i * 6 + 1, none⟩ = some (.int .i64 e.r) ∧ w.cell? ⟨b, off + i * 6 + 2, none⟩ = some (.int .i64 e.a) ∧ w.cell? ⟨b, off + i * 6 + 3, none⟩ = some (.int .i64 e.b) ∧ w.cell? ⟨b, off + i * 6 + 4, none⟩ = some (.int .i64 e.n) ∧ w.cell? ⟨b, off + i * 6 + 5, none⟩ = some (.slice e.aa e.args.length e.acap) := by
 obtain ⟨b, off, ha, hb, hcl⟩ := row_get Ins.vals 6 Ins.vals_len (by omega) h i e he
 refine ⟨b, off, ha, hb, ?_, ?_, ?_, ?_, ?_, ?_⟩
 · have := hcl 0 _ rfl; rwa [Nat.add_zero] at this
 · have := hcl 1 _ rfl; rwa [← Nat.add_assoc] at this
 · have := hcl 2 _ rfl; rwa [← Nat.add_assoc] at this
 · have := hcl 3 _ rfl; rwa [← Nat.add_assoc] at this
 · have := hcl 4 _ rfl; rwa [← Nat.add_assoc] at this
 · have := hcl 5 _ rfl; rwa [← Nat.add_assoc] at this
theorem mm_row {w : World} {S : Nat → Prop} {a : Option Addr} {cap : Nat} {l : List Mm} (h : RowAt w S a cap l.length (mmCells l)) (i : Nat) (e : Mm) (he : l[i]? = some e) :
 ∃ b off, a = some ⟨b, off, none⟩ ∧ S b ∧ w.cell? ⟨b, off + i * 3, none⟩ = some (.string e.name) ∧ w.cell? ⟨b, off + i * 3 + 1, none⟩ = some (.int .i64 e.size) ∧ w.cell? ⟨b, off + i * 3 + 2, none⟩ = some (.int .i64 e.first) := by
 obtain ⟨b, off, ha, hb, hcl⟩ := row_get Mm.vals 3 Mm.vals_len (by omega) h i e he
 refine ⟨b, off, ha, hb, ?_, ?_, ?_⟩
 · have := hcl 0 _ rfl; rwa [Nat.add_zero] at this
 · have := hcl 1 _ rfl; rwa [← Nat.add_assoc] at this
 · have := hcl 2 _ rfl; rwa [← Nat.add_assoc] at this
theorem Yd {w : World} {S : Nat → Prop} {a : Option Addr} {cap : Nat} {l : List Fn} (h : RowAt w S a cap l.length (Zw l)) (i : Nat) (e : Fn) (he : l[i]? = some e) :
 ∃ b off, a = some ⟨b, off, none⟩ ∧ S b ∧ w.cell? ⟨b, off + i * 5, none⟩ = some (.string e.name) ∧ w.cell? ⟨b, off + i * 5 + 1, none⟩ = some (.bool e.thread) ∧ w.cell? ⟨b, off + i * 5 + 2, none⟩ = some (.int .i64 e.params) ∧ w.cell? ⟨b, off + i * 5 + 3, none⟩ = some (.int .i64 e.regs) ∧ w.cell? ⟨b, off + i * 5 + 4, none⟩ = some (.slice e.ca e.code.length e.ccap) := by
 obtain ⟨b, off, ha, hb, hcl⟩ := row_get Fn.vals 5 Fn.vals_len (by omega) h i e he
 refine ⟨b, off, ha, hb, ?_, ?_, ?_, ?_, ?_⟩
 · have := hcl 0 _ rfl; rwa [Nat.add_zero] at this
 · have := hcl 1 _ rfl; rwa [← Nat.add_assoc] at this
 · have := hcl 2 _ rfl; rwa [← Nat.add_assoc] at this
 · have := hcl 3 _ rfl; rwa [← Nat.add_assoc] at this
 · have := hcl 4 _ rfl; rwa [← Nat.add_assoc] at this
/-! what operations name -/
def hasR (op : Int) : Bool := decide (op = 1) || decide (op = 2) || decide (op = 3) || decide (op = 4) || decide (op = 5) || decide (op = 10)
def hasA (op : Int) : Bool := decide (op = 2) || decide (op = 3) || decide (op = 4) || decide (op = 5) || decide (op = 6) || decide (op = 9) || decide (op = 12) || decide (op = 13)
def hasB (op : Int) : Bool := decide (op = 4) || decide (op = 6)
def hasF (op : Int) : Bool := decide (op = 5) || decide (op = 6)
def numK (op : Int) : Int := if op = 1 then 1 else if op = 3 then 2 else if op = 4 then 3 else if op = 5 then 4 else if op = 6 then 4 else if op = 7 then 5 else if op = 8 then 5 else if op = 10 then 6 else if op = 11 then 7 else if op = 12 then 7 else 0
def Zf (op : Int) : Bool := decide (1 ≤ op) && decide (op ≤ 13)
/-- the first part of what an instruction reads -/
def rdA (i : Ins) : List Int := if hasA i.op && !(hasF i.op && decide (i.a = -1)) then [i.a] else []
def rdB (i : Ins) : List Int := if hasB i.op then [i.b] else []
def rdC (i : Ins) : List Int := if numK i.op = 6 then i.args else []
def rdP (i : Ins) : List Int := rdA i ++ (rdB i ++ rdC i)
def wrP (i : Ins) : Int × Bool := if hasR i.op then (i.r, true) else (0, false)
def glP (i : Ins) : Int × Bool := if numK i.op = 7 then (i.n, true) else (0, false)
def regsP (i : Ins) : List Int := (if hasR i.op then [i.r] else []) ++ rdP i
def bareP (i : Ins) : Bool := (hasR i.op || decide (i.r = 0)) && (hasA i.op || decide (i.a = 0)) && (hasB i.op || decide (i.b = 0))
def inP (n : Int) (m : Int) : Bool := decide (0 ≤ n) && decide (n < m)
/-- is the N of an instruction of what there is, and what is there a number of Args for? -/
def fitP (p : Pg) (f : Fn) (i : Ins) : Bool × Int :=
 if numK i.op = 1 then (true, 0)
 else if numK i.op = 2 then (decide (i.n = 5) || decide (i.n = 6), 0)
 else if numK i.op = 3 then (decide (7 ≤ i.n) && decide (i.n ≤ 17), 0)
 else if numK i.op = 4 then (inP i.n p.mems.length, 0)
 else if numK i.op = 5 then (inP i.n p.locks.length, 0)
 else if numK i.op = 7 then (inP i.n f.code.length, 0)
 else if numK i.op = 6 then
  if inP i.n p.funs.length then
   match p.funs[i.n.toNat]? with
   | some g => if g.thread then (false, 0) else (true, g.params)
   | none => (false, 0)
  else (false, 0)
 else (decide (i.n = 0), 0)
def numP (p : Pg) (f : Fn) (i : Ins) : Bool := (fitP p f i).1 && decide ((i.args.length : Int) = (fitP p f i).2)
/-- may an instruction be in a Fun? -/
def mayF (p : Pg) (f : Fn) (i : Ins) : Bool := Zf i.op && (bareP i && numP p f i && (regsP i).all fun r => inP r f.regs)
def mayI (p : Pg) (fn : Int) (i : Ins) : Bool := if inP fn p.funs.length then (match p.funs[fn.toNat]? with | some f => mayF p f i | none => false) else false
/-! sameness -/
def eqL {α : Type} (f : α → α → Bool) : List α → List α → Bool
 | [], [] => true
 | a :: r, b :: s => f a b && eqL f r s
 | _, _ => false
def Zi (a b : Ins) : Bool := decide (a.op = b.op) && decide (a.r = b.r) && decide (a.a = b.a) && decide (a.b = b.b) && decide (a.n = b.n) && decide (a.args = b.args)
def sameM (a b : Mm) : Bool := decide (a.name = b.name) && decide (a.size = b.size) && decide (a.first = b.first)
def sameF (a b : Fn) : Bool := decide (a.name = b.name) && decide (a.thread = b.thread) && decide (a.params = b.params) && decide (a.regs = b.regs) && eqL Zi a.code b.code
def sameP (a b : Pg) : Bool := eqL sameM a.mems b.mems && eqL (fun x y : ByteArray => decide (x = y)) a.locks b.locks && eqL sameF a.funs b.funs
/-! which programs may be -/
def Zp : Nat → List Fn → List Int
 | _, [] => []
 | k, f :: r => (if f.thread then [(k : Int)] else []) ++ Zp (k + 1) r
def Xw (p : Pg) : List Int := Zp 0 p.funs
def Zn (p : Pg) : List ByteArray := p.mems.map Mm.name ++ (p.locks ++ p.funs.map Fn.name)
def sizesP (l : List Mm) : Bool := l.all fun m => decide (1 ≤ m.size) && decide (m.size ≤ 1024)
def Xd (f : Fn) : Bool := decide (0 ≤ f.params) && decide (f.params ≤ if f.thread then 0 else 8) && decide (f.params ≤ f.regs) && decide (f.regs ≤ 4096)
def Zv (l : List Ins) : Int := match l.getLast? with | some i => i.op | none => 0
def Xq (p : Pg) (f : Fn) : Bool := decide (1 ≤ f.code.length) && decide (f.code.length ≤ 16384) && f.code.all (mayF p f) && (decide (Zv f.code = 11) || decide (Zv f.code = 13))
/-- each is a name, and none among those that were met -/
def nmsP (nm : ByteArray → Bool) : List ByteArray → List ByteArray → Bool
 | _, [] => true
 | met, s :: r => !(met.any fun t => decide (t = s)) && (nm s && nmsP nm (met ++ [s]) r)
theorem eqL_refl {α : Type} {f : α → α → Bool} : ∀ {l : List α}, (∀ x ∈ l, f x x = true) → eqL f l l = true
 | [], _ => rfl
 | a :: r, h => by unfold eqL; rw [h a (by simp), eqL_refl (fun x hx => h x (by simp [hx]))]; rfl
theorem sameI_refl (i : Ins) : Zi i i = true := by simp [Zi]
theorem sameM_refl (i : Mm) : sameM i i = true := by simp [sameM]
theorem eqL_symm {α : Type} {f : α → α → Bool} (hf : ∀ x y, f x y = f y x) : ∀ (l m : List α), eqL f l m = eqL f m l
 | [], [] => rfl
 | [], _ :: _ => rfl
 | _ :: _, [] => rfl
 | a :: r, b :: s => by unfold eqL; rw [hf a b, eqL_symm hf r s]
theorem sameI_symm (a b : Ins) : Zi a b = Zi b a := by
 simp only [Zi, eq_comm (a := b.op), eq_comm (a := b.r), eq_comm (a := b.a), eq_comm (a := b.b), eq_comm (a := b.n), eq_comm (a := b.args)]
theorem eqL_len {α : Type} {f : α → α → Bool} : ∀ {l m : List α}, eqL f l m = true → l.length = m.length
 | [], [], _ => rfl
 | a :: r, b :: s, h => by unfold eqL at h; simp only [Bool.and_eq_true] at h; simp [eqL_len h.2]
theorem eqL_get {α : Type} {f : α → α → Bool} : ∀ {l m : List α}, eqL f l m = true → ∀ (i : Nat) (x y : α), l[i]? = some x → m[i]? = some y → f x y = true
 | a :: r, b :: s, h, 0, x, y, hx, hy => by
   unfold eqL at h; simp only [Bool.and_eq_true] at h
   simp at hx hy; subst hx hy; exact h.1
 | a :: r, b :: s, h, i + 1, x, y, hx, hy => by
   unfold eqL at h; simp only [Bool.and_eq_true] at h
   exact eqL_get h.2 i x y (by simpa using hx) (by simpa using hy)
 | [], _, _, i, x, y, hx, _ => by simp at hx
/-! the document's own form -/
/-- ref: an instruction with what its operation names alone -/
def Q3 (i : Ins) : Ins :=
 { op := i.op, r := if hasR i.op then i.r else 0,
   a := if i.op = 2 ∨ i.op = 3 ∨ i.op = 4 ∨ i.op = 5 ∨ i.op = 6 ∨ i.op = 9 ∨ i.op = 12 ∨ i.op = 13 then i.a else 0,
   b := if i.op = 4 ∨ i.op = 6 then i.b else 0,
   n := if i.op ≠ 2 ∧ i.op ≠ 9 ∧ i.op ≠ 13 then i.n else 0,
   aa := if i.op = 10 then i.aa else none, acap := if i.op = 10 then i.acap else 0, args := if i.op = 10 then i.args else [] }
def opN (p : Pg) (f : Fn) (i : Ins) : Bool :=
 if i.op = 3 then decide (i.n = 5) || decide (i.n = 6)
 else if i.op = 4 then decide (7 ≤ i.n) && decide (i.n ≤ 17)
 else if i.op = 5 ∨ i.op = 6 then inP i.n p.mems.length
 else if i.op = 7 ∨ i.op = 8 then inP i.n p.locks.length
 else if i.op = 11 ∨ i.op = 12 then inP i.n f.code.length
 else if i.op = 10 then inP i.n p.funs.length && (match p.funs[i.n.toNat]? with | some g => !g.thread && decide ((i.args.length : Int) = g.params) | none => false)
 else true
def Zu (p : Pg) (f : Fn) (i : Ins) : Bool := Zf i.op && Zi i (Q3 i) && ((rdP i ++ if hasR i.op then [i.r] else []).all fun r => inP r f.regs) && opN p f i
theorem all_swap {f : Int → Bool} (l m : List Int) : (l ++ m).all f = (m ++ l).all f := by simp [Bool.and_comm]
theorem rmay_eq (p : Pg) (f : Fn) (i : Ins) : Zu p f i = mayF p f i := by
 unfold Zu mayF
 rw [all_swap]
 show _ = (Zf i.op && (bareP i && numP p f i && ((if hasR i.op then [i.r] else []) ++ rdP i).all fun r => inP r f.regs))
 generalize (((if hasR i.op then [i.r] else []) ++ rdP i).all fun r => inP r f.regs) = A
 by_cases hk : Zf i.op = true
 · have h13 : i.op = 1 ∨ i.op = 2 ∨ i.op = 3 ∨ i.op = 4 ∨ i.op = 5 ∨ i.op = 6 ∨ i.op = 7 ∨ i.op = 8 ∨ i.op = 9 ∨ i.op = 10 ∨ i.op = 11 ∨ i.op = 12 ∨ i.op = 13 := by
    simp [Zf] at hk; omega
   have hB : (Zf i.op && Zi i (Q3 i) && A && opN p f i) = (A && (Zi i (Q3 i) && opN p f i)) := by
    rw [hk]; cases A <;> simp
   have hC : (Zf i.op && (bareP i && numP p f i && A)) = (A && (bareP i && numP p f i)) := by
    rw [hk]; cases A <;> simp
   rw [hB, hC]
   congr 1
   clear hB hC hk
   obtain ⟨op, r, a, b, n, aa, acap, args⟩ := i
   simp only at h13
   rcases h13 with rfl | rfl | rfl | rfl | rfl | rfl | rfl | rfl | rfl | rfl | rfl | rfl | rfl
   case inr.inr.inr.inr.inr.inr.inr.inr.inr.inl =>
    simp [Zi, Q3, opN, bareP, numP, fitP, hasR, hasA, hasB, numK]
    cases h1 : inP n p.funs.length
    · simp
    · cases h2 : p.funs[n.toNat]? with
      | none => simp
      | some g => cases h3 : g.thread <;> simp [h3]
   all_goals (simp [Zi, Q3, opN, bareP, numP, fitP, hasR, hasA, hasB, numK, Bool.and_assoc, Bool.and_comm, Bool.and_left_comm])
 · have hk' : Zf i.op = false := by simpa using hk
   rw [hk']; rfl
end Go.Proofs.YthiiahlgncngoaaDoorRR.Cd
