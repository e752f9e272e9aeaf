/- Plain theory of programs of instructions: what operations name, what may be, what is the same. Conditions: none. -/
import Derived.Test.YtiicjbnocpphdaaDoorPgM
namespace Go.Proofs.YtiicjbnocpphdaaDoor.Cd
open Go Go.RowKit
open Go.Proofs.YtiicjbnocpphdaaDoor.Lx Go.Proofs.YtiicjbnocpphdaaDoor.Tr

/-! what operations name -/
def hasR (op : Int) : Bool := decide (op = 1) || decide (op = 2) || decide (op = 3) || decide (op = 4) || decide (op = 5) || decide (op = 10)
def hasA (op : Int) : Bool := decide (op = 2) || decide (op = 3) || decide (op = 4) || decide (op = 5) || decide (op = 6) || decide (op = 9) || decide (op = 12) || decide (op = 13)
def hasB (op : Int) : Bool := decide (op = 4) || decide (op = 6)
def hasF (op : Int) : Bool := decide (op = 5) || decide (op = 6)
def numK (op : Int) : Int := if op = 1 then 1 else if op = 3 then 2 else if op = 4 then 3 else if op = 5 then 4 else if op = 6 then 4 else if op = 7 then 5 else if op = 8 then 5 else if op = 10 then 6 else if op = 11 then 7 else if op = 12 then 7 else 0
def knownP (op : Int) : Bool := decide (1 ≤ op) && decide (op ≤ 13)
/-- the first part of what an instruction reads -/
def rdA (i : Ins) : List Int := if hasA i.op && !(hasF i.op && decide (i.a = -1)) then [i.a] else []
def rdB (i : Ins) : List Int := if hasB i.op then [i.b] else []
def rdC (i : Ins) : List Int := if numK i.op = 6 then i.args else []
def rdP (i : Ins) : List Int := rdA i ++ (rdB i ++ rdC i)
def wrP (i : Ins) : Int × Bool := if hasR i.op then (i.r, true) else (0, false)
def glP (i : Ins) : Int × Bool := if numK i.op = 7 then (i.n, true) else (0, false)
def regsP (i : Ins) : List Int := (if hasR i.op then [i.r] else []) ++ rdP i
def bareP (i : Ins) : Bool := (hasR i.op || decide (i.r = 0)) && (hasA i.op || decide (i.a = 0)) && (hasB i.op || decide (i.b = 0))
def inP (n : Int) (m : Int) : Bool := decide (0 ≤ n) && decide (n < m)
/-- is the N of an instruction of what there is, and what is there a number of Args for? -/
def fitP (p : Pg) (f : Fn) (i : Ins) : Bool × Int :=
  if numK i.op = 1 then (true, 0)
  else if numK i.op = 2 then (decide (i.n = 5) || decide (i.n = 6), 0)
  else if numK i.op = 3 then (decide (7 ≤ i.n) && decide (i.n ≤ 17), 0)
  else if numK i.op = 4 then (inP i.n p.mems.length, 0)
  else if numK i.op = 5 then (inP i.n p.locks.length, 0)
  else if numK i.op = 7 then (inP i.n f.code.length, 0)
  else if numK i.op = 6 then
    if inP i.n p.funs.length then
      match p.funs[i.n.toNat]? with
      | some g => if g.thread then (false, 0) else (true, g.params)
      | none => (false, 0)
    else (false, 0)
  else (decide (i.n = 0), 0)
def numP (p : Pg) (f : Fn) (i : Ins) : Bool := (fitP p f i).1 && decide ((i.args.length : Int) = (fitP p f i).2)
/-- may an instruction be in a Fun? -/
def mayF (p : Pg) (f : Fn) (i : Ins) : Bool := knownP i.op && (bareP i && numP p f i && (regsP i).all fun r => inP r f.regs)
def mayI (p : Pg) (fn : Int) (i : Ins) : Bool := if inP fn p.funs.length then (match p.funs[fn.toNat]? with | some f => mayF p f i | none => false) else false
/-! sameness -/
def eqL {α : Type} (f : α → α → Bool) : List α → List α → Bool
  | [], [] => true
  | a :: r, b :: s => f a b && eqL f r s
  | _, _ => false
def sameI (a b : Ins) : Bool := decide (a.op = b.op) && decide (a.r = b.r) && decide (a.a = b.a) && decide (a.b = b.b) && decide (a.n = b.n) && decide (a.args = b.args)
def sameM (a b : Mm) : Bool := decide (a.name = b.name) && decide (a.size = b.size) && decide (a.first = b.first)
def sameF (a b : Fn) : Bool := decide (a.name = b.name) && decide (a.thread = b.thread) && decide (a.params = b.params) && decide (a.regs = b.regs) && eqL sameI a.code b.code
def sameP (a b : Pg) : Bool := eqL sameM a.mems b.mems && eqL (fun x y : ByteArray => decide (x = y)) a.locks b.locks && eqL sameF a.funs b.funs
/-! which programs may be -/
def thrsFrom : Nat → List Fn → List Int
  | _, [] => []
  | k, f :: r => (if f.thread then [(k : Int)] else []) ++ thrsFrom (k + 1) r
def thrsP (p : Pg) : List Int := thrsFrom 0 p.funs
def namesP (p : Pg) : List ByteArray := p.mems.map Mm.name ++ (p.locks ++ p.funs.map Fn.name)
def sizesP (l : List Mm) : Bool := l.all fun m => decide (1 ≤ m.size) && decide (m.size ≤ 1024)
def headP (f : Fn) : Bool := decide (0 ≤ f.params) && decide (f.params ≤ if f.thread then 0 else 8) && decide (f.params ≤ f.regs) && decide (f.regs ≤ 4096)
def lastOp (l : List Ins) : Int := match l.getLast? with | some i => i.op | none => 0
def codeP (p : Pg) (f : Fn) : Bool := decide (1 ≤ f.code.length) && decide (f.code.length ≤ 16384) && f.code.all (mayF p f) && (decide (lastOp f.code = 11) || decide (lastOp f.code = 13))
def restP (p : Pg) : Bool := sizesP p.mems && (decide ((thrsP p).length ≤ 16) && (p.funs.all headP && p.funs.all (codeP p)))
/-- each is a name, and none among those that were met -/
def nmsP (nm : ByteArray → Bool) : List ByteArray → List ByteArray → Bool
  | _, [] => true
  | met, s :: r => !(met.any fun t => decide (t = s)) && (nm s && nmsP nm (met ++ [s]) r)

theorem eqL_refl {α : Type} {f : α → α → Bool} : ∀ {l : List α}, (∀ x ∈ l, f x x = true) → eqL f l l = true
  | [], _ => rfl
  | a :: r, h => by unfold eqL; rw [h a (by simp), eqL_refl (fun x hx => h x (by simp [hx]))]; rfl
theorem sameI_refl (i : Ins) : sameI i i = true := by simp [sameI]
theorem sameM_refl (i : Mm) : sameM i i = true := by simp [sameM]
theorem sameF_refl (f : Fn) : sameF f f = true := by
  simp [sameF, eqL_refl (fun x _ => sameI_refl x)]
theorem sameP_refl (p : Pg) : sameP p p = true := by
  simp [sameP, eqL_refl (fun x _ => sameM_refl x), eqL_refl (fun x _ => sameF_refl x), eqL_refl (f := fun x y : ByteArray => decide (x = y)) (fun x _ => by simp)]
theorem eqL_symm {α : Type} {f : α → α → Bool} (hf : ∀ x y, f x y = f y x) : ∀ (l m : List α), eqL f l m = eqL f m l
  | [], [] => rfl
  | [], _ :: _ => rfl
  | _ :: _, [] => rfl
  | a :: r, b :: s => by unfold eqL; rw [hf a b, eqL_symm hf r s]
theorem sameI_symm (a b : Ins) : sameI a b = sameI b a := by
  simp only [sameI, eq_comm (a := b.op), eq_comm (a := b.r), eq_comm (a := b.a), eq_comm (a := b.b), eq_comm (a := b.n), eq_comm (a := b.args)]
theorem sameM_symm (a b : Mm) : sameM a b = sameM b a := by
  simp only [sameM, eq_comm (a := b.name), eq_comm (a := b.size), eq_comm (a := b.first)]
theorem sameF_symm (a b : Fn) : sameF a b = sameF b a := by
  simp only [sameF, eq_comm (a := b.name), eq_comm (a := b.thread), eq_comm (a := b.params), eq_comm (a := b.regs), eqL_symm sameI_symm a.code]
theorem sameP_symm (a b : Pg) : sameP a b = sameP b a := by
  simp only [sameP, eqL_symm sameM_symm a.mems, eqL_symm sameF_symm a.funs, eqL_symm (f := fun x y : ByteArray => decide (x = y)) (fun x y => by simp only [eq_comm]) a.locks]
theorem eqL_len {α : Type} {f : α → α → Bool} : ∀ {l m : List α}, eqL f l m = true → l.length = m.length
  | [], [], _ => rfl
  | a :: r, b :: s, h => by unfold eqL at h; simp only [Bool.and_eq_true] at h; simp [eqL_len h.2]
theorem eqL_get {α : Type} {f : α → α → Bool} : ∀ {l m : List α}, eqL f l m = true → ∀ (i : Nat) (x y : α), l[i]? = some x → m[i]? = some y → f x y = true
  | a :: r, b :: s, h, 0, x, y, hx, hy => by
    unfold eqL at h; simp only [Bool.and_eq_true] at h
    simp at hx hy; subst hx hy; exact h.1
  | a :: r, b :: s, h, i + 1, x, y, hx, hy => by
    unfold eqL at h; simp only [Bool.and_eq_true] at h
    exact eqL_get h.2 i x y (by simpa using hx) (by simpa using hy)
  | [], _, _, i, x, y, hx, _ => by simp at hx
/-- one element another one -/
theorem eqL_set {α : Type} {f : α → α → Bool} (hr : ∀ x, f x x = true) : ∀ (l : List α) (k : Nat) (x y : α), l[k]? = some x → eqL f l (l.set k y) = f x y
  | a :: r, 0, x, y, h => by
    simp at h; subst h
    simp [eqL, eqL_refl (fun x _ => hr x)]
  | a :: r, k + 1, x, y, h => by
    rw [List.set_cons_succ]; unfold eqL
    rw [hr a, eqL_set hr r k x y (by simpa using h)]; rfl
/-! the document's own form -/
/-- ref: an instruction with what its operation names alone -/
def keptP (i : Ins) : Ins :=
  { op := i.op, r := if hasR i.op then i.r else 0,
    a := if i.op = 2 ∨ i.op = 3 ∨ i.op = 4 ∨ i.op = 5 ∨ i.op = 6 ∨ i.op = 9 ∨ i.op = 12 ∨ i.op = 13 then i.a else 0,
    b := if i.op = 4 ∨ i.op = 6 then i.b else 0,
    n := if i.op ≠ 2 ∧ i.op ≠ 9 ∧ i.op ≠ 13 then i.n else 0,
    aa := if i.op = 10 then i.aa else none, acap := if i.op = 10 then i.acap else 0, args := if i.op = 10 then i.args else [] }
def opN (p : Pg) (f : Fn) (i : Ins) : Bool :=
  if i.op = 3 then decide (i.n = 5) || decide (i.n = 6)
  else if i.op = 4 then decide (7 ≤ i.n) && decide (i.n ≤ 17)
  else if i.op = 5 ∨ i.op = 6 then inP i.n p.mems.length
  else if i.op = 7 ∨ i.op = 8 then inP i.n p.locks.length
  else if i.op = 11 ∨ i.op = 12 then inP i.n f.code.length
  else if i.op = 10 then inP i.n p.funs.length && (match p.funs[i.n.toNat]? with | some g => !g.thread && decide ((i.args.length : Int) = g.params) | none => false)
  else true
def rmayF (p : Pg) (f : Fn) (i : Ins) : Bool := knownP i.op && sameI i (keptP i) && ((rdP i ++ if hasR i.op then [i.r] else []).all fun r => inP r f.regs) && opN p f i
theorem all_swap {f : Int → Bool} (l m : List Int) : (l ++ m).all f = (m ++ l).all f := by simp [Bool.and_comm]
theorem rmay_eq (p : Pg) (f : Fn) (i : Ins) : rmayF p f i = mayF p f i := by
  unfold rmayF mayF
  rw [all_swap]
  show _ = (knownP i.op && (bareP i && numP p f i && ((if hasR i.op then [i.r] else []) ++ rdP i).all fun r => inP r f.regs))
  generalize (((if hasR i.op then [i.r] else []) ++ rdP i).all fun r => inP r f.regs) = A
  by_cases hk : knownP i.op = true
  · have h13 : i.op = 1 ∨ i.op = 2 ∨ i.op = 3 ∨ i.op = 4 ∨ i.op = 5 ∨ i.op = 6 ∨ i.op = 7 ∨ i.op = 8 ∨ i.op = 9 ∨ i.op = 10 ∨ i.op = 11 ∨ i.op = 12 ∨ i.op = 13 := by
      simp [knownP] at hk; omega
    have hB : (knownP i.op && sameI i (keptP i) && A && opN p f i) = (A && (sameI i (keptP i) && opN p f i)) := by
      rw [hk]; cases A <;> simp
    have hC : (knownP i.op && (bareP i && numP p f i && A)) = (A && (bareP i && numP p f i)) := by
      rw [hk]; cases A <;> simp
    rw [hB, hC]
    congr 1
    clear hB hC hk
    obtain ⟨op, r, a, b, n, aa, acap, args⟩ := i
    simp only at h13
    rcases h13 with rfl | rfl | rfl | rfl | rfl | rfl | rfl | rfl | rfl | rfl | rfl | rfl | rfl
    case inr.inr.inr.inr.inr.inr.inr.inr.inr.inl =>
      simp [sameI, keptP, opN, bareP, numP, fitP, hasR, hasA, hasB, numK]
      cases h1 : inP n p.funs.length
      · simp
      · cases h2 : p.funs[n.toNat]? with
        | none => simp
        | some g => cases h3 : g.thread <;> simp [h3]
    all_goals (simp [sameI, keptP, opN, bareP, numP, fitP, hasR, hasA, hasB, numK, Bool.and_assoc, Bool.and_comm, Bool.and_left_comm])
  · have hk' : knownP i.op = false := by simpa using hk
    rw [hk']; rfl
end Go.Proofs.YtiicjbnocpphdaaDoor.Cd
