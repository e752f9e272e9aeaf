/- Plain theory for CodeParts: an instruction in the place of another one, names turned about. Conditions: none. Programs without addresses: what may be hangs not on where their lists lie. Conditions: none. -/
import Derived.Test.YtckmgefailclcaaDoorJaH
namespace Go.Proofs.YtckmgefailclcaaDoor.Cd
open Go Go.RowKit
open Go.Proofs.YtckmgefailclcaaDoor.Lx Go.Proofs.YtckmgefailclcaaDoor.Tr

/-! ### what may be is told by how Funs look from outside -/
/-- a Fun as another one sees it -/
def faceP (f : Fn) : Bool × Int := (f.thread, f.params)
/-- two programs whose instructions see the same -/
structure Alike (p q : Pg) : Prop where
  mems : p.mems.length = q.mems.length
  locks : p.locks.length = q.locks.length
  funs : p.funs.map faceP = q.funs.map faceP
theorem Alike.get {p q : Pg} (h : Alike p q) (n : Nat) : (p.funs[n]?).map faceP = (q.funs[n]?).map faceP := by
  rw [← List.getElem?_map, ← List.getElem?_map, h.funs]
theorem Alike.len {p q : Pg} (h : Alike p q) : p.funs.length = q.funs.length := by
  have := congrArg List.length h.funs
  simpa using this
theorem mayF_alike {p q : Pg} {f g : Fn} (h : Alike p q) (hl : f.code.length = g.code.length) (hr : f.regs = g.regs) (i : Ins) : mayF p f i = mayF q g i := by
  have hfit : fitP p f i = fitP q g i := by
    unfold fitP
    rw [h.mems, h.locks, h.len, hl]
    have hg := h.get i.n.toNat
    cases h1 : p.funs[i.n.toNat]? with
    | none =>
      rw [h1] at hg
      cases h2 : q.funs[i.n.toNat]? with
      | none => rfl
      | some y => rw [h2] at hg; cases hg
    | some x =>
      rw [h1] at hg
      cases h2 : q.funs[i.n.toNat]? with
      | none => rw [h2] at hg; cases hg
      | some y =>
        rw [h2] at hg
        have e : faceP x = faceP y := by simpa using hg
        have e1 : x.thread = y.thread := congrArg Prod.fst e
        have e2 : x.params = y.params := congrArg Prod.snd e
        simp only [e1, e2]
  unfold mayF numP
  rw [hfit, hr]
theorem thrs_map : ∀ (l m : List Fn) (k : Nat), l.map faceP = m.map faceP → thrsFrom k l = thrsFrom k m
  | [], [], _, _ => rfl
  | [], _ :: _, _, h => by simp at h
  | _ :: _, [], _, h => by simp at h
  | a :: r, b :: s, k, h => by
    simp only [List.map_cons, List.cons.injEq] at h
    unfold thrsFrom
    have e1 : a.thread = b.thread := congrArg Prod.fst h.1
    rw [e1, thrs_map r s (k + 1) h.2]
/-! ### names -/
/-! ### another instruction in the place of one -/
end Go.Proofs.YtckmgefailclcaaDoor.Cd
namespace Go.Proofs.YtckmgefailclcaaDoor.Cd
open Go Go.RowKit
open Go.Proofs.YtckmgefailclcaaDoor.Lx Go.Proofs.YtckmgefailclcaaDoor.Tr

/-! ### without addresses -/
def Ins.er (i : Ins) : Ins := { i with aa := none, acap := 0 }
def Fn.er (f : Fn) : Fn := { f with ca := none, ccap := 0, code := f.code.map Ins.er }
def Pg.er (p : Pg) : Pg := ⟨none, 0, p.mems, none, 0, p.locks, none, 0, p.funs.map Fn.er⟩
theorem mayF_ier (p : Pg) (f : Fn) (i : Ins) : mayF p f i.er = mayF p f i := by cases i; rfl
theorem face_er (f : Fn) : faceP f.er = faceP f := by cases f; rfl
theorem alike_er (p : Pg) : Alike p.er p := ⟨rfl, rfl, by
  show (p.funs.map Fn.er).map faceP = p.funs.map faceP
  rw [List.map_map]
  exact List.map_congr_left (fun f _ => face_er f)⟩
theorem mayF_er (p : Pg) (f : Fn) (i : Ins) : mayF p.er f.er i.er = mayF p f i := by
  rw [mayF_ier]
  exact mayF_alike (f := f.er) (g := f) (alike_er p) (by show (f.code.map Ins.er).length = _; rw [List.length_map]) rfl i
theorem lastOp_er (l : List Ins) : lastOp (l.map Ins.er) = lastOp l := by
  unfold lastOp
  rw [List.getLast?_map]
  cases l.getLast? <;> rfl
theorem codeP_er (p : Pg) (f : Fn) : codeP p.er f.er = codeP p f := by
  unfold codeP
  show (decide (1 ≤ (f.code.map Ins.er).length) && decide ((f.code.map Ins.er).length ≤ 16384) && (f.code.map Ins.er).all (mayF p.er f.er) && (decide (lastOp (f.code.map Ins.er) = 11) || decide (lastOp (f.code.map Ins.er) = 13))) = _
  rw [List.length_map, lastOp_er, List.all_map]
  have : (mayF p.er f.er ∘ Ins.er) = mayF p f := funext fun i => mayF_er p f i
  rw [this]
theorem mayP_er (p : Pg) : mayP p.er = mayP p := by
  have hn : namesP p.er = namesP p := by
    show p.mems.map Mm.name ++ (p.locks ++ (p.funs.map Fn.er).map Fn.name) = _
    rw [List.map_map]
    rfl
  have ht : thrsP p.er = thrsP p := thrs_map _ _ 0 (alike_er p).funs
  have hh : p.er.funs.all headP = p.funs.all headP := by
    show (p.funs.map Fn.er).all headP = _
    rw [List.all_map]
    rfl
  have hc : p.er.funs.all (codeP p.er) = p.funs.all (codeP p) := by
    show (p.funs.map Fn.er).all (codeP p.er) = _
    rw [List.all_map]
    have : (codeP p.er ∘ Fn.er) = codeP p := funext fun f => codeP_er p f
    rw [this]
  unfold mayP mayNamesP
  rw [hn, ht, hh, hc]
  rfl
theorem mayI_er (p : Pg) (n : Int) (i : Ins) : mayI p.er n i.er = mayI p n i := by
  unfold mayI
  show (if inP n (p.funs.map Fn.er).length = true then match (p.funs.map Fn.er)[n.toNat]? with | some f => mayF p.er f i.er | none => false else false) = _
  rw [List.length_map, List.getElem?_map]
  cases p.funs[n.toNat]? with
  | none => rfl
  | some f =>
    show (if _ then mayF p.er f.er i.er else false) = _
    rw [mayF_er]

end Go.Proofs.YtckmgefailclcaaDoor.Cd
