/- Plain: trees without their addresses and places; what hangs on these alone. Conditions: none. -/
import Derived.Test.YtolmhcdcfnoicaaDoorTrT
namespace Go.Proofs.YtolmhcdcfnoicaaDoor.Tr
open Go Go.RowKit
open Go.Proofs.YtolmhcdcfnoicaaDoor.Lx

mutual
/-- an expression without addresses and places -/
def Ex.er : Ex → Ex
  | .mk k nm n _ _ args _ => .mk k nm n none 0 (Ex.erL args) 0
def Ex.erL : List Ex → List Ex
  | [] => []
  | e :: r => e.er :: Ex.erL r
end
mutual
def St.er : St → St
  | .mk k nm to nw _ _ e _ _ body _ _ els _ => .mk k nm to nw none 0 (Ex.erL e) none 0 (St.erL body) none 0 (St.erL els) 0
def St.erL : List St → List St
  | [] => []
  | e :: r => e.er :: St.erL r
end
def De.er (d : De) : De := ⟨d.kind, d.name, d.n, none, 0, d.params, none, 0, St.erL d.body, 0⟩
def De.erL (l : List De) : List De := l.map De.er

theorem Ex.er_eq (k : Int) (nm : ByteArray) (n : Int) (a : Option Addr) (cap : Nat) (args : List Ex) (pos : Int) : Ex.er (.mk k nm n a cap args pos) = .mk k nm n none 0 (Ex.erL args) 0 := by unfold Ex.er; rfl
theorem Ex.erL_cons (e : Ex) (r : List Ex) : Ex.erL (e :: r) = e.er :: Ex.erL r := by rw [Ex.erL]
theorem Ex.erL_nil : Ex.erL [] = [] := by unfold Ex.erL; rfl
theorem St.er_eq (k : Int) (nm to : ByteArray) (nw : Bool) (ea : Option Addr) (ecap : Nat) (e : List Ex) (ba : Option Addr) (bcap : Nat) (body : List St) (la : Option Addr) (lcap : Nat) (els : List St) (pos : Int) :
    St.er (.mk k nm to nw ea ecap e ba bcap body la lcap els pos) = .mk k nm to nw none 0 (Ex.erL e) none 0 (St.erL body) none 0 (St.erL els) 0 := by unfold St.er; rfl
theorem St.erL_cons (e : St) (r : List St) : St.erL (e :: r) = e.er :: St.erL r := by rw [St.erL]
theorem St.erL_nil : St.erL [] = [] := by unfold St.erL; rfl
theorem Ex.erL_map (l : List Ex) : Ex.erL l = l.map Ex.er := by
  induction l with
  | nil => exact Ex.erL_nil
  | cons x r ih => rw [Ex.erL_cons, ih]; rfl
theorem St.erL_map (l : List St) : St.erL l = l.map St.er := by
  induction l with
  | nil => exact St.erL_nil
  | cons x r ih => rw [St.erL_cons, ih]; rfl
theorem Ex.erL_len (l : List Ex) : (Ex.erL l).length = l.length := by rw [Ex.erL_map]; simp
theorem St.erL_len (l : List St) : (St.erL l).length = l.length := by rw [St.erL_map]; simp
theorem De.erL_len (l : List De) : (De.erL l).length = l.length := by unfold De.erL; simp

mutual
theorem sameE_er : ∀ e f, sameE e f = true ↔ e.er = f.er
  | .mk k nm n a cap args pos, .mk k' nm' n' a' cap' args' pos' => by
    rw [sameE_eq, Ex.er_eq, Ex.er_eq]
    simp only [Bool.and_eq_true, decide_eq_true_eq, sameEL_er args args', Ex.mk.injEq, true_and, and_true, and_assoc]
theorem sameEL_er : ∀ l l', sameEL l l' = true ↔ Ex.erL l = Ex.erL l'
  | [], [] => by unfold sameEL; simp
  | [], f :: r' => by unfold sameEL; rw [Ex.erL_nil, Ex.erL_cons]; simp
  | e :: r, [] => by unfold sameEL; rw [Ex.erL_nil, Ex.erL_cons]; simp
  | e :: r, f :: r' => by
    unfold sameEL
    rw [Ex.erL_cons, Ex.erL_cons]
    simp only [Bool.and_eq_true, sameE_er e f, sameEL_er r r', List.cons.injEq]
end
mutual
theorem sameS_er : ∀ e f, sameS e f = true ↔ e.er = f.er
  | .mk k nm to nw ea ecap e ba bcap body la lcap els pos, .mk k' nm' to' nw' ea' ecap' e' ba' bcap' body' la' lcap' els' pos' => by
    rw [sameS_eq, St.er_eq, St.er_eq]
    simp only [Bool.and_eq_true, decide_eq_true_eq, sameEL_er e e', sameSL_er body body', sameSL_er els els', St.mk.injEq, true_and, and_true, and_assoc]
theorem sameSL_er : ∀ l l', sameSL l l' = true ↔ St.erL l = St.erL l'
  | [], [] => by unfold sameSL; simp
  | [], f :: r' => by unfold sameSL; rw [St.erL_nil, St.erL_cons]; simp
  | e :: r, [] => by unfold sameSL; rw [St.erL_nil, St.erL_cons]; simp
  | e :: r, f :: r' => by
    unfold sameSL
    rw [St.erL_cons, St.erL_cons]
    simp only [Bool.and_eq_true, sameS_er e f, sameSL_er r r', List.cons.injEq]
end
theorem sameD_er (d e : De) : sameD d e = true ↔ d.er = e.er := by
  unfold sameD De.er
  simp only [Bool.and_eq_true, decide_eq_true_eq, sameSL_er, De.mk.injEq, true_and, and_true, and_assoc]
theorem sameDL_er : ∀ l l', sameDL l l' = true ↔ De.erL l = De.erL l'
  | [], [] => by unfold sameDL; simp
  | [], f :: r' => by unfold sameDL; simp [De.erL]
  | e :: r, [] => by unfold sameDL; simp [De.erL]
  | e :: r, f :: r' => by
    unfold sameDL
    have := sameDL_er r r'
    simp only [De.erL] at this ⊢
    simp only [Bool.and_eq_true, sameD_er e f, this, List.map_cons, List.cons.injEq]
theorem sameDL_self (l : List De) : sameDL l l = true := (sameDL_er l l).2 rfl
theorem sameDL_symm (l l' : List De) : sameDL l l' = sameDL l' l := by
  rw [Bool.eq_iff_iff, sameDL_er, sameDL_er]
  exact eq_comm
theorem sameDL_of_er {l c : List De} (h : De.erL l = De.erL c) (b : List De) : sameDL l b = sameDL c b := by
  rw [Bool.eq_iff_iff, sameDL_er, sameDL_er, h]

/-- what counts of a part -/
def Pt.key (p : Pt) : Bool × Int := (fitPt p, p.d)
theorem fitE_er : ∀ e : Ex, fitE e.er = fitE e
  | .mk k nm n a cap args pos => by rw [Ex.er_eq, fitE_eq, fitE_eq, Ex.erL_len]
theorem fitS_er : ∀ e : St, fitS e.er = fitS e
  | .mk k nm to nw ea ecap e ba bcap body la lcap els pos => by rw [St.er_eq, fitS_eq, fitS_eq, Ex.erL_len, St.erL_len, St.erL_len]
mutual
theorem ptsE_key : ∀ (e : Ex) (b o : Nat) (d : Int), (ptsE b o d e).map Pt.key = (ptsE 0 0 d e.er).map Pt.key
  | .mk k nm n a cap args pos, b, o, d => by
    have h0 := fitE_er (.mk k nm n a cap args pos)
    rw [Ex.er_eq] at h0 ⊢
    rw [ptsE_eq, ptsE_eq, List.map_cons, List.map_cons, ptsL_key args (adB a) (adO a), ptsL_key' args (adB none) (adO none)]
    simp only [Pt.key, fitPt, h0]
theorem ptsL_key : ∀ (l : List Ex) (b o : Nat) (d : Int), (ptsL b o d l).map Pt.key = (ptsL 0 0 d (Ex.erL l)).map Pt.key
  | [], b, o, d => by rw [Ex.erL_nil]; unfold ptsL; rfl
  | e :: r, b, o, d => by
    rw [Ex.erL_cons]
    unfold ptsL
    rw [List.map_append, List.map_append, ptsE_key e b o d, ptsL_key r b (o + 5) d, ptsL_key' r 0 (0 + 5) d]
theorem ptsL_key' : ∀ (l : List Ex) (b o : Nat) (d : Int), (ptsL b o d (Ex.erL l)).map Pt.key = (ptsL 0 0 d (Ex.erL l)).map Pt.key
  | [], b, o, d => by rw [Ex.erL_nil]; unfold ptsL; rfl
  | e :: r, b, o, d => by
    rw [Ex.erL_cons]
    unfold ptsL
    rw [List.map_append, List.map_append, ptsE_key' e b o d, ptsL_key' r b (o + 5) d, ptsL_key' r 0 (0 + 5) d]
theorem ptsE_key' : ∀ (e : Ex) (b o : Nat) (d : Int), (ptsE b o d e.er).map Pt.key = (ptsE 0 0 d e.er).map Pt.key
  | .mk k nm n a cap args pos, b, o, d => by
    rw [Ex.er_eq, ptsE_eq, ptsE_eq, List.map_cons, List.map_cons]
    simp only [Pt.key, fitPt]
end
mutual
theorem ptsS_key : ∀ (e : St) (b o : Nat) (d : Int), (ptsS b o d e).map Pt.key = (ptsS 0 0 d e.er).map Pt.key
  | .mk k nm to nw ea ecap e ba bcap body la lcap els pos, b, o, d => by
    have h0 := fitS_er (.mk k nm to nw ea ecap e ba bcap body la lcap els pos)
    rw [St.er_eq] at h0 ⊢
    unfold ptsS
    simp only [List.map_cons, List.map_append]
    rw [ptsL_key e (adB ea) (adO ea), ptsL_key' e (adB none) (adO none), ptsSL_key body (adB ba) (adO ba), ptsSL_key' body (adB none) (adO none), ptsSL_key els (adB la) (adO la), ptsSL_key' els (adB none) (adO none)]
    simp only [Pt.key, fitPt, h0]
theorem ptsSL_key : ∀ (l : List St) (b o : Nat) (d : Int), (ptsSL b o d l).map Pt.key = (ptsSL 0 0 d (St.erL l)).map Pt.key
  | [], b, o, d => by rw [St.erL_nil]; unfold ptsSL; rfl
  | e :: r, b, o, d => by
    rw [St.erL_cons]
    unfold ptsSL
    rw [List.map_append, List.map_append, ptsS_key e b o d, ptsSL_key r b (o + 8) d, ptsSL_key' r 0 (0 + 8) d]
theorem ptsSL_key' : ∀ (l : List St) (b o : Nat) (d : Int), (ptsSL b o d (St.erL l)).map Pt.key = (ptsSL 0 0 d (St.erL l)).map Pt.key
  | [], b, o, d => by rw [St.erL_nil]; unfold ptsSL; rfl
  | e :: r, b, o, d => by
    rw [St.erL_cons]
    unfold ptsSL
    rw [List.map_append, List.map_append, ptsS_key' e b o d, ptsSL_key' r b (o + 8) d, ptsSL_key' r 0 (0 + 8) d]
theorem ptsS_key' : ∀ (e : St) (b o : Nat) (d : Int), (ptsS b o d e.er).map Pt.key = (ptsS 0 0 d e.er).map Pt.key
  | .mk k nm to nw ea ecap e ba bcap body la lcap els pos, b, o, d => by
    rw [St.er_eq]
    unfold ptsS
    simp only [List.map_cons, List.map_append, Pt.key, fitPt]
end
theorem ptsD_key (l : List De) : (ptsD l).map Pt.key = (ptsD (De.erL l)).map Pt.key := by
  induction l with
  | nil => rfl
  | cons d r ih =>
    show ((ptsSL (adB d.ba) (adO d.ba) 1 d.body) ++ ptsD r).map Pt.key = ((ptsSL (adB none) (adO none) 1 (St.erL d.body)) ++ ptsD (De.erL r)).map Pt.key
    rw [List.map_append, List.map_append, ih, ptsSL_key d.body, ptsSL_key' d.body (adB none)]
theorem fitD_er (d : De) : fitD d.er = fitD d := by
  unfold fitD De.er
  simp only [St.erL_len]
theorem all_fit_key (l : List Pt) : l.all fitPt = (l.map Pt.key).all (·.1) := by rw [List.all_map]; rfl
theorem deepest_key (l l' : List Pt) (h : l.map Pt.key = l'.map Pt.key) : deepest l = deepest l' := by
  refine deepest_map l l' ?_
  have := congrArg (List.map Prod.snd) h
  rw [List.map_map, List.map_map] at this
  exact this
theorem fit_key (l l' : List Pt) (h : l.map Pt.key = l'.map Pt.key) : l.all fitPt = l'.all fitPt := by rw [all_fit_key, all_fit_key, h]
theorem len_key (l l' : List Pt) (h : l.map Pt.key = l'.map Pt.key) : l.length = l'.length := by
  have := congrArg List.length h
  simpa using this
theorem mayP_er (l : List De) : mayP (De.erL l) = mayP l := by
  unfold mayP
  rw [hold_all, hold_all, deepest_key _ _ (ptsD_key l).symm, fit_key _ _ (ptsD_key l).symm, De.erL_len]
  congr 2
  unfold De.erL
  rw [List.all_map]
  congr 1
  funext d
  exact fitD_er d
theorem mayP_of_er {l c : List De} (h : De.erL l = De.erL c) : mayP l = mayP c := by rw [← mayP_er l, ← mayP_er c, h]
theorem deep_of_er {l c : List De} (h : De.erL l = De.erL c) : deepest (ptsD l) = deepest (ptsD c) := by
  rw [deepest_key _ _ (ptsD_key l), deepest_key _ _ (ptsD_key c), h]
theorem len_of_er {l c : List De} (h : De.erL l = De.erL c) : (ptsD l).length = (ptsD c).length := by
  rw [len_key _ _ (ptsD_key l), len_key _ _ (ptsD_key c), h]
mutual
theorem Ex.er_sz : ∀ e : Ex, e.er.sz = e.sz
  | .mk k nm n a cap args pos => by rw [Ex.er_eq]; unfold Ex.sz; rw [Ex.erL_sz args]
theorem Ex.erL_sz : ∀ l : List Ex, Ex.szL (Ex.erL l) = Ex.szL l
  | [] => by rw [Ex.erL_nil]
  | e :: r => by rw [Ex.erL_cons]; unfold Ex.szL; rw [Ex.er_sz e, Ex.erL_sz r]
end
mutual
theorem St.er_sz : ∀ e : St, e.er.sz = e.sz
  | .mk k nm to nw ea ecap e ba bcap body la lcap els pos => by rw [St.er_eq]; unfold St.sz; rw [Ex.erL_sz e, St.erL_sz body, St.erL_sz els]
theorem St.erL_sz : ∀ l : List St, St.szL (St.erL l) = St.szL l
  | [] => by rw [St.erL_nil]
  | e :: r => by rw [St.erL_cons]; unfold St.szL; rw [St.er_sz e, St.erL_sz r]
end
theorem De.erL_sz (l : List De) : De.szL (De.erL l) = De.szL l := by
  induction l with
  | nil => rfl
  | cons d r ih =>
    show De.szL (d.er :: De.erL r) = De.szL (d :: r)
    unfold De.szL
    rw [ih]
    show St.szL (St.erL d.body) + _ = _
    rw [St.erL_sz]
theorem szL_of_er {l c : List De} (h : De.erL l = De.erL c) : De.szL l = De.szL c := by rw [← De.erL_sz l, ← De.erL_sz c, h]
end Go.Proofs.YtolmhcdcfnoicaaDoor.Tr
