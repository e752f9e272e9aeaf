/- Programs of blocks as they lie in memory: Phis, blocks, graphs, forms, with the addresses of their lists; when two are the same. Conditions: none. -/
import Derived.Test.YthiiahlgncngoaaDoorRRJaB
set_option maxHeartbeats 16000000
set_option maxRecDepth 100000
namespace Go.Proofs.YthiiahlgncngoaaDoorRR.Fw
open Go Go.RowKit
open Go.Proofs.YthiiahlgncngoaaDoorRR.Lx Go.Proofs.YthiiahlgncngoaaDoorRR.Tr Go.Proofs.YthiiahlgncngoaaDoorRR.Cd
abbrev Tt : Nat → Prop := fun _ => True
structure Ph where
 r : Int
 aa : Option Addr
 acap : Nat
 args : List Int
structure Bk where
 pa : Option Addr
 pcap : Nat
 phis : List Ph
 ca : Option Addr
 ccap : Nat
 code : List Ins
 fa : Option Addr
 fcap : Nat
 fm : List Int
 ta : Option Addr
 tcap : Nat
 tt : List Int
structure Gr where
 name : ByteArray
 thread : Bool
 params : Int
 regs : Int
 ba : Option Addr
 bcap : Nat
 blocks : List Bk
structure Fm where
 ma : Option Addr
 mcap : Nat
 mems : List Mm
 la : Option Addr
 lcap : Nat
 locks : List ByteArray
 fa : Option Addr
 fcap : Nat
 funs : List Gr
def Ph.vals (x : Ph) : List Value := [.int .i64 x.r, .slice x.aa x.args.length x.acap]
def Bk.vals (x : Bk) : List Value := [.slice x.pa x.phis.length x.pcap, .slice x.ca x.code.length x.ccap, .slice x.fa x.fm.length x.fcap, .slice x.ta x.tt.length x.tcap]
def Gr.vals (x : Gr) : List Value := [.string x.name, .bool x.thread, .int .i64 x.params, .int .i64 x.regs, .slice x.ba x.blocks.length x.bcap]
def Fm.vals (x : Fm) : List Value := [.slice x.ma x.mems.length x.mcap, .slice x.la x.locks.length x.lcap, .slice x.fa x.funs.length x.fcap]
def phCells (l : List Ph) : List Value := l.flatMap Ph.vals
def Qu (l : List Bk) : List Value := l.flatMap Bk.vals
def Xb (l : List Gr) : List Value := l.flatMap Gr.vals
theorem Ph.vals_len (i : Ph) : i.vals.length = 2 := rfl
theorem Bk.vals_len (i : Bk) : i.vals.length = 4 := rfl
theorem Gr.vals_len (i : Gr) : i.vals.length = 5 := rfl
structure Ph.In (w : World) (x : Ph) : Prop where
 r : I64 x.r
 row : RowAt w Tt x.aa x.acap x.args.length (Qc x.args)
 nums : ∀ y ∈ x.args, I64 y
structure Bk.In (w : World) (x : Bk) : Prop where
 prow : RowAt w Tt x.pa x.pcap x.phis.length (phCells x.phis)
 phis : ∀ y ∈ x.phis, Ph.In w y
 crow : RowAt w Tt x.ca x.ccap x.code.length (Q8 x.code)
 code : ∀ y ∈ x.code, Ins.In w Tt y
 frow : RowAt w Tt x.fa x.fcap x.fm.length (Qc x.fm)
 fnum : ∀ y ∈ x.fm, I64 y
 trow : RowAt w Tt x.ta x.tcap x.tt.length (Qc x.tt)
 tnum : ∀ y ∈ x.tt, I64 y
structure Gr.In (w : World) (x : Gr) : Prop where
 name : x.name.size ≤ maxLen
 params : I64 x.params
 regs : I64 x.regs
 row : RowAt w Tt x.ba x.bcap x.blocks.length (Qu x.blocks)
 blocks : ∀ y ∈ x.blocks, Bk.In w y
structure Fm.In (w : World) (x : Fm) : Prop where
 mrow : RowAt w Tt x.ma x.mcap x.mems.length (mmCells x.mems)
 mems : ∀ m ∈ x.mems, m.In
 lrow : RowAt w Tt x.la x.lcap x.locks.length (Ze x.locks)
 locks : ∀ s ∈ x.locks, s.size ≤ maxLen
 frow : RowAt w Tt x.fa x.fcap x.funs.length (Xb x.funs)
 funs : ∀ f ∈ x.funs, Gr.In w f
theorem Ph.In.keep {w w' : World} {x : Ph} (h : Ph.In w x) (k : Below w.heap.size w w') : Ph.In w' x := ⟨h.r, h.row.below (Kps.of_below k), h.nums⟩
theorem Bk.In.keep {w w' : World} {x : Bk} (h : Bk.In w x) (k : Below w.heap.size w w') : Bk.In w' x :=
 ⟨h.prow.below (Kps.of_below k), fun y hy => (h.phis y hy).keep k, h.crow.below (Kps.of_below k), fun y hy => (h.code y hy).below (Kps.of_below k), h.frow.below (Kps.of_below k), h.fnum, h.trow.below (Kps.of_below k), h.tnum⟩
theorem Gr.In.keep {w w' : World} {x : Gr} (h : Gr.In w x) (k : Below w.heap.size w w') : Gr.In w' x :=
 ⟨h.name, h.params, h.regs, h.row.below (Kps.of_below k), fun y hy => (h.blocks y hy).keep k⟩
theorem Fm.In.keep {w w' : World} {x : Fm} (h : Fm.In w x) (k : Below w.heap.size w w') : Fm.In w' x :=
 ⟨h.mrow.below (Kps.of_below k), h.mems, h.lrow.below (Kps.of_below k), h.locks, h.frow.below (Kps.of_below k), fun y hy => (h.funs y hy).keep k⟩
theorem Qe {w W : World} (h : Below w.heap.size w W) {b o : Nat} {v : Value} (hc : w.cell? ⟨b, o, none⟩ = some v) : W.cell? ⟨b, o, none⟩ = some v := Kps.of_below (S := Tt) h b o v trivial hc
theorem ph_row {w : World} {S : Nat → Prop} {a : Option Addr} {cap : Nat} {l : List Ph} (h : RowAt w S a cap l.length (phCells l)) (i : Nat) (e : Ph) (he : l[i]? = some e) :
 ∃ b off, a = some ⟨b, off, none⟩ ∧ S b ∧ w.cell? ⟨b, off + i * 2, none⟩ = some (.int .i64 e.r) ∧ w.cell? ⟨b, off + i * 2 + 1, none⟩ = some (.slice e.aa e.args.length e.acap) := by
 obtain ⟨b, off, ha, hb, hcl⟩ := row_get Ph.vals 2 Ph.vals_len (by omega) h i e he
 refine ⟨b, off, ha, hb, ?_, ?_⟩
 · have := hcl 0 _ rfl; rwa [Nat.add_zero] at this
 · have := hcl 1 _ rfl; rwa [← Nat.add_assoc] at this
theorem X4 {w : World} {S : Nat → Prop} {a : Option Addr} {cap : Nat} {l : List Bk} (h : RowAt w S a cap l.length (Qu l)) (i : Nat) (e : Bk) (he : l[i]? = some e) :
 ∃ b off, a = some ⟨b, off, none⟩ ∧ S b ∧ w.cell? ⟨b, off + i * 4, none⟩ = some (.slice e.pa e.phis.length e.pcap) ∧ w.cell? ⟨b, off + i * 4 + 1, none⟩ = some (.slice e.ca e.code.length e.ccap) ∧ w.cell? ⟨b, off + i * 4 + 2, none⟩ = some (.slice e.fa e.fm.length e.fcap) ∧ w.cell? ⟨b, off + i * 4 + 3, none⟩ = some (.slice e.ta e.tt.length e.tcap) := by
 obtain ⟨b, off, ha, hb, hcl⟩ := row_get Bk.vals 4 Bk.vals_len (by omega) h i e he
 refine ⟨b, off, ha, hb, ?_, ?_, ?_, ?_⟩
 · have := hcl 0 _ rfl; rwa [Nat.add_zero] at this
 · have := hcl 1 _ rfl; rwa [← Nat.add_assoc] at this
 · have := hcl 2 _ rfl; rwa [← Nat.add_assoc] at this
 · have := hcl 3 _ rfl; rwa [← Nat.add_assoc] at this
theorem gr_row {w : World} {S : Nat → Prop} {a : Option Addr} {cap : Nat} {l : List Gr} (h : RowAt w S a cap l.length (Xb l)) (i : Nat) (e : Gr) (he : l[i]? = some e) :
 ∃ b off, a = some ⟨b, off, none⟩ ∧ S b ∧ w.cell? ⟨b, off + i * 5, none⟩ = some (.string e.name) ∧ w.cell? ⟨b, off + i * 5 + 1, none⟩ = some (.bool e.thread) ∧ w.cell? ⟨b, off + i * 5 + 2, none⟩ = some (.int .i64 e.params) ∧ w.cell? ⟨b, off + i * 5 + 3, none⟩ = some (.int .i64 e.regs) ∧ w.cell? ⟨b, off + i * 5 + 4, none⟩ = some (.slice e.ba e.blocks.length e.bcap) := by
 obtain ⟨b, off, ha, hb, hcl⟩ := row_get Gr.vals 5 Gr.vals_len (by omega) h i e he
 refine ⟨b, off, ha, hb, ?_, ?_, ?_, ?_, ?_⟩
 · have := hcl 0 _ rfl; rwa [Nat.add_zero] at this
 · have := hcl 1 _ rfl; rwa [← Nat.add_assoc] at this
 · have := hcl 2 _ rfl; rwa [← Nat.add_assoc] at this
 · have := hcl 3 _ rfl; rwa [← Nat.add_assoc] at this
 · have := hcl 4 _ rfl; rwa [← Nat.add_assoc] at this
/-! sameness -/
def sameH (a b : Ph) : Bool := decide (a.r = b.r) && decide (a.args = b.args)
def Zz (a b : Bk) : Bool := eqL sameH a.phis b.phis && (eqL Zi a.code b.code && (decide (a.fm = b.fm) && decide (a.tt = b.tt)))
def Xp (a b : Gr) : Bool := decide (a.name = b.name) && (decide (a.thread = b.thread) && (decide (a.params = b.params) && (decide (a.regs = b.regs) && eqL Zz a.blocks b.blocks)))
def sameFm (a b : Fm) : Bool := eqL sameM a.mems b.mems && eqL (fun x y : ByteArray => decide (x = y)) a.locks b.locks && eqL Xp a.funs b.funs
theorem sameH_refl (i : Ph) : sameH i i = true := by simp [sameH]
theorem sameB_refl (i : Bk) : Zz i i = true := by simp [Zz, eqL_refl (fun x _ => sameH_refl x), eqL_refl (fun x _ => sameI_refl x)]
theorem sameG_refl (i : Gr) : Xp i i = true := by simp [Xp, eqL_refl (fun x _ => sameB_refl x)]
theorem sameFm_refl (i : Fm) : sameFm i i = true := by simp [sameFm, eqL_refl (fun x _ => sameM_refl x), eqL_refl (fun x _ => sameG_refl x), eqL_refl (f := fun x y : ByteArray => decide (x = y)) (fun x _ => by simp)]
theorem sameH_symm (a b : Ph) : sameH a b = sameH b a := by simp only [sameH, eq_comm (a := b.r), eq_comm (a := b.args)]
theorem sameB_symm (a b : Bk) : Zz a b = Zz b a := by simp only [Zz, eq_comm (a := b.fm), eq_comm (a := b.tt), eqL_symm sameH_symm a.phis, eqL_symm sameI_symm a.code]
/-! which graphs may be -/
def Xr (op : Int) : Bool := decide (op = 11) || decide (op = 12) || decide (op = 13)
def opCount (op : Int) : Int := if op = 12 then 2 else if op = 13 then 0 else 1
def headG (g : Gr) : Bool := decide (0 ≤ g.params) && (decide (g.params ≤ if g.thread then 0 else 8) && (decide (g.params ≤ g.regs) && (decide (g.regs ≤ 65536) && (decide (1 ≤ g.blocks.length) && decide (g.blocks.length ≤ 32768)))))
def endsB (n : Nat) (b : Bk) : Bool := decide ((b.tt.length : Int) = opCount (Zv b.code)) && (b.tt.all (fun x => inP x n) && (b.code.take (b.code.length - 1)).all (fun i => !Xr i.op))
def Zo : Nat → List Bk → Int → List Int
 | _, [], _ => []
 | k, b :: r, n => (if b.tt.contains n then [(k : Int)] else []) ++ Zo (k + 1) r n
def Zt (l : List Bk) (n : Int) : List Int := Zo 0 l n
/-- the block behind one without instructions -/
def nxt (l : List Bk) (k : Nat) : Nat := match l[k]? with | some b => (match b.tt with | x :: _ => x.toNat | [] => 0) | none => 0
def bareB (l : List Bk) (k : Nat) : Bool := match l[k]? with | some b => decide (b.code.length = 0) | none => false
/-- over blocks without instructions one comes to one that has some -/
inductive Out (l : List Bk) : Nat → Prop where
 | here (k : Nat) (h : bareB l k = false) : Out l k
 | on (k : Nat) (h : bareB l k = true) (o : Out l (nxt l k)) : Out l k
open Classical in
noncomputable def outP (l : List Bk) : Bool := decide (∀ k, k < l.length → Out l k)
def fromOk (l : List Bk) (k : Nat) : Bool := match l[k]? with | some b => decide (b.fm = Zt l k) | none => true
def fromsOk (l : List Bk) : Bool := (List.range l.length).all (fromOk l)
def firstOk (l : List Bk) : Bool := match l with | b :: _ => decide (b.fm.length = 0) | [] => true
noncomputable def waysP (l : List Bk) : Bool := fromsOk l && (firstOk l && outP l)
def phiP (n : Nat) (regs : Int) (x : Ph) : Bool := decide (x.args.length = n) && (inP x.r regs && x.args.all (fun y => inP y regs))
def phisB (regs : Int) (k : Nat) (b : Bk) : Bool := (!(decide (k = 0) && decide (0 < b.phis.length))) && b.phis.all (phiP b.fm.length regs)
def phisF (regs : Int) : Nat → List Bk → Bool
 | _, [] => true
 | k, b :: r => phisB regs k b && phisF regs (k + 1) r
def numA (i : Ins) : Bool :=
 if numK i.op = 1 then decide (i.args.length = 0)
 else if numK i.op = 2 then (decide (i.n = 5) || decide (i.n = 6)) && decide (i.args.length = 0)
 else if numK i.op = 3 then (decide (7 ≤ i.n) && decide (i.n ≤ 17)) && decide (i.args.length = 0)
 else if numK i.op = 4 then decide (0 ≤ i.n) && decide (i.args.length = 0)
 else if numK i.op = 5 then decide (0 ≤ i.n) && decide (i.args.length = 0)
 else if numK i.op = 7 then decide (i.n = 0) && decide (i.args.length = 0)
 else if numK i.op = 6 then decide (0 ≤ i.n) && decide (i.args.length ≤ 8)
 else decide (i.n = 0) && decide (i.args.length = 0)
/-- may an instruction be in a graph with so many registers, whatever there is? -/
def mayA (regs : Int) (i : Ins) : Bool := Zf i.op && (bareP i && numA i && (regsP i).all fun r => inP r regs)
def codesP (regs : Int) (l : List Bk) : Bool := l.all fun b => b.code.all (mayA regs)
noncomputable def mayG (g : Gr) : Bool := headG g && (g.blocks.all (endsB g.blocks.length) && (waysP g.blocks && (phisF g.regs 0 g.blocks && codesP g.regs g.blocks)))
/-- each Fun is a jump to itself; so many of them have their registers -/
def outFn (x : Gr) (regs : Bool) : Cd.Fn := { name := x.name, thread := x.thread, params := x.params, regs := if regs then x.regs else x.params, ca := none, ccap := 0, code := [(⟨11, 0, 0, 0, 0, none, 0, []⟩ : Ins)] }
def outFns : Nat → List Gr → List Cd.Fn
 | _, [] => []
 | k, x :: r => outFn x (decide (0 < k)) :: outFns (k - 1) r
end Go.Proofs.YthiiahlgncngoaaDoorRR.Fw
