/- Walks of the document's own answers: stmt. Conditions: none. -/
import Derived.Test.YtolmhcdcfnoicaaDoorRfD
namespace Go.Proofs.YtolmhcdcfnoicaaDoor.Tr
open Go Go.RowKit
open Go.Proofs.YtolmhcdcfnoicaaDoor.Lx

/-- may a statement be, but for its depth? -/
def mayS (x : St) : Bool := (ptsS 0 0 1 x).all fitPt
theorem all_ptsS (x : St) (b o : Nat) (c : Int) : (ptsS b o (1 + c) x).all fitPt = mayS x := by
  rw [ptsS_up c b o 1, fit_up]
  exact fit_key _ _ (ptsS_at x b o 0 0 1)
theorem all_ptsSL : ∀ (l : List St) (b o : Nat) (c : Int), (ptsSL b o (1 + c) l).all fitPt = l.all mayS
  | [], b, o, c => by unfold ptsSL; rfl
  | e :: r, b, o, c => by
    unfold ptsSL
    rw [List.all_append, all_ptsS, all_ptsSL r, List.all_cons]
theorem mayS_eq (k : Int) (nm t2 : ByteArray) (nw : Bool) (ea : Option Addr) (ecap : Nat) (e : List Ex) (ba : Option Addr) (bcap : Nat) (body : List St) (la : Option Addr) (lcap : Nat) (els : List St) (pos : Int) :
    mayS (.mk k nm t2 nw ea ecap e ba bcap body la lcap els pos) = (fitS (.mk k nm t2 nw ea ecap e ba bcap body la lcap els pos) && e.all mayE && body.all mayS && els.all mayS) := by
  have h : mayS (.mk k nm t2 nw ea ecap e ba bcap body la lcap els pos) = (ptsS 0 0 1 (.mk k nm t2 nw ea ecap e ba bcap body la lcap els pos)).all fitPt := rfl
  rw [h]
  unfold ptsS
  rw [List.all_cons, List.all_append, List.all_append, show (1 : Int) + 1 = 2 from rfl, all_ptsL, show (2 : Int) = 1 + 1 from rfl, all_ptsSL, all_ptsSL, Bool.and_assoc, Bool.and_assoc]
  rfl
theorem fitS_iff (k : Int) (nm t2 : ByteArray) (nw : Bool) (ea : Option Addr) (ecap : Nat) (e : List Ex) (ba : Option Addr) (bcap : Nat) (body : List St) (la : Option Addr) (lcap : Nat) (els : List St) (pos : Int) :
    fitS (.mk k nm t2 nw ea ecap e ba bcap body la lcap els pos) = true ↔ 1 ≤ k ∧ k ≤ 9 ∧ fitNm nm (stName k) = true ∧ fitTo t2 nw (stTo k) = true ∧ stLeast k ≤ (e.length : Int) ∧ (e.length : Int) ≤ stMost k ∧ (stBody k = true ∨ body.length = 0) ∧ (stOther k = true ∨ els.length = 0) := by
  rw [fitS_eq]
  simp only [Bool.and_eq_true, Bool.or_eq_true, decide_eq_true_eq, and_assoc]
theorem fitTo_f (t2 : ByteArray) (nw : Bool) : fitTo t2 nw false = (t2.toList.isEmpty && !nw) := by
  unfold fitTo; rw [Lib.toList_data]; cases t2.data.toList.isEmpty <;> simp
theorem fitTo_t (t2 : ByteArray) (nw : Bool) : fitTo t2 nw true = if t2.toList.isEmpty then !nw else nme t2.data.toList := by
  unfold fitTo; rw [Lib.toList_data]; cases t2.data.toList.isEmpty <;> simp
theorem mayS_no {k : Int} {nm t2 : ByteArray} {nw : Bool} {ea : Option Addr} {ecap : Nat} {e : List Ex} {ba : Option Addr} {bcap : Nat} {body : List St} {la : Option Addr} {lcap : Nat} {els : List St} {pos : Int}
    (h : ¬ (1 ≤ k ∧ k ≤ 9 ∧ fitNm nm (stName k) = true ∧ fitTo t2 nw (stTo k) = true ∧ stLeast k ≤ (e.length : Int) ∧ (e.length : Int) ≤ stMost k ∧ (stBody k = true ∨ body.length = 0) ∧ (stOther k = true ∨ els.length = 0))) : mayS (.mk k nm t2 nw ea ecap e ba bcap body la lcap els pos) = false := by
  have hf : fitS (.mk k nm t2 nw ea ecap e ba bcap body la lcap els pos) = false := Bool.eq_false_iff.2 fun hh => h ((fitS_iff ..).1 hh)
  rw [mayS_eq, hf]; simp
theorem mayS_yes {k : Int} {nm t2 : ByteArray} {nw : Bool} {ea : Option Addr} {ecap : Nat} {e : List Ex} {ba : Option Addr} {bcap : Nat} {body : List St} {la : Option Addr} {lcap : Nat} {els : List St} {pos : Int}
    (h : 1 ≤ k ∧ k ≤ 9 ∧ fitNm nm (stName k) = true ∧ fitTo t2 nw (stTo k) = true ∧ stLeast k ≤ (e.length : Int) ∧ (e.length : Int) ≤ stMost k ∧ (stBody k = true ∨ body.length = 0) ∧ (stOther k = true ∨ els.length = 0)) : mayS (.mk k nm t2 nw ea ecap e ba bcap body la lcap els pos) = (e.all mayE && body.all mayS && els.all mayS) := by
  rw [mayS_eq, (fitS_iff ..).2 h, Bool.true_and]
end Go.Proofs.YtolmhcdcfnoicaaDoor.Tr
