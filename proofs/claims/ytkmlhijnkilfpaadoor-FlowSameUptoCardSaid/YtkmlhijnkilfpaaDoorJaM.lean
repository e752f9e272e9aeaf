/- Plain theory for CodeParts: an instruction in the place of another one, names turned about. Conditions: none. Programs without addresses: what may be hangs not on where their lists lie. Conditions: none. -/
import Derived.Test.YtkmlhijnkilfpaaDoorJaH
namespace Go.Proofs.YtkmlhijnkilfpaaDoor.Cd
open Go Go.RowKit
open Go.Proofs.YtkmlhijnkilfpaaDoor.Lx Go.Proofs.YtkmlhijnkilfpaaDoor.Tr

/-! ### what may be is told by how Funs look from outside -/
/-- a Fun as another one sees it -/
def faceP (f : Fn) : Bool × Int := (f.thread, f.params)
/-- two programs whose instructions see the same -/
structure Alike (p q : Pg) : Prop where
  mems : p.mems.length = q.mems.length
  locks : p.locks.length = q.locks.length
  funs : p.funs.map faceP = q.funs.map faceP
theorem Alike.get {p q : Pg} (h : Alike p q) (n : Nat) : (p.funs[n]?).map faceP = (q.funs[n]?).map faceP := by
  rw [← List.getElem?_map, ← List.getElem?_map, h.funs]
theorem Alike.len {p q : Pg} (h : Alike p q) : p.funs.length = q.funs.length := by
  have := congrArg List.length h.funs
  simpa using this
/-! ### names -/
/-! ### another instruction in the place of one -/
theorem mayP_parts {p : Pg} (h : mayP p = true) : mayNamesP p = true ∧ sizesP p.mems = true ∧ (thrsP p).length ≤ 16 ∧ p.funs.all headP = true ∧ p.funs.all (codeP p) = true := by
  unfold mayP at h
  simp only [Bool.and_eq_true, decide_eq_true_eq] at h
  exact ⟨h.1, h.2.1, h.2.2.1, h.2.2.2.1, h.2.2.2.2⟩
end Go.Proofs.YtkmlhijnkilfpaaDoor.Cd
namespace Go.Proofs.YtkmlhijnkilfpaaDoor.Cd
open Go Go.RowKit
open Go.Proofs.YtkmlhijnkilfpaaDoor.Lx Go.Proofs.YtkmlhijnkilfpaaDoor.Tr

/-! ### without addresses -/
def Ins.er (i : Ins) : Ins := { i with aa := none, acap := 0 }
def Fn.er (f : Fn) : Fn := { f with ca := none, ccap := 0, code := f.code.map Ins.er }
def Pg.er (p : Pg) : Pg := ⟨none, 0, p.mems, none, 0, p.locks, none, 0, p.funs.map Fn.er⟩
end Go.Proofs.YtkmlhijnkilfpaaDoor.Cd
