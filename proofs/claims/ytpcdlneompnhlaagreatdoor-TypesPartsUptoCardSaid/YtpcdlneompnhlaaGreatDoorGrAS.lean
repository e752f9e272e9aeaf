/- Plain: trees without their addresses and places; whether a program may be hangs on these alone. Conditions: none. · The plain parser: what it reads is no larger than its tokens are many. Conditions: none. · The contract of Parse. Conditions: the text is not too long for the model; the variables that the packages read hold what they were laid with. -/
import Derived.Test.YtpcdlneompnhlaaGreatDoorTrK
import Derived.Test.YtpcdlneompnhlaaGreatDoorGrAD
import Derived.Test.YtpcdlneompnhlaaGreatDoorGrAP
import Derived.Test.YtpcdlneompnhlaaGreatDoorGrAE
import Derived.Test.YtpcdlneompnhlaaGreatDoorGrAR
namespace Go.Proofs.YtpcdlneompnhlaaGreatDoor.Tr
open Go Go.RowKit
open Go.Proofs.YtpcdlneompnhlaaGreatDoor.Lx

mutual
/-- an expression without addresses and places -/
def Ex.er : Ex → Ex
  | .mk k nm n _ _ args _ => .mk k nm n none 0 (Ex.erL args) 0
def Ex.erL : List Ex → List Ex
  | [] => []
  | e :: r => e.er :: Ex.erL r
end
mutual
def St.er : St → St
  | .mk k nm to nw _ _ e _ _ body _ _ els _ => .mk k nm to nw none 0 (Ex.erL e) none 0 (St.erL body) none 0 (St.erL els) 0
def St.erL : List St → List St
  | [] => []
  | e :: r => e.er :: St.erL r
end
def De.er (d : De) : De := ⟨d.kind, d.name, d.n, none, 0, d.params, none, 0, St.erL d.body, 0⟩
def De.erL (l : List De) : List De := l.map De.er

theorem Ex.er_eq (k : Int) (nm : ByteArray) (n : Int) (a : Option Addr) (cap : Nat) (args : List Ex) (pos : Int) : Ex.er (.mk k nm n a cap args pos) = .mk k nm n none 0 (Ex.erL args) 0 := by unfold Ex.er; rfl
theorem Ex.erL_cons (e : Ex) (r : List Ex) : Ex.erL (e :: r) = e.er :: Ex.erL r := by rw [Ex.erL]
theorem Ex.erL_nil : Ex.erL [] = [] := by unfold Ex.erL; rfl
theorem St.er_eq (k : Int) (nm to : ByteArray) (nw : Bool) (ea : Option Addr) (ecap : Nat) (e : List Ex) (ba : Option Addr) (bcap : Nat) (body : List St) (la : Option Addr) (lcap : Nat) (els : List St) (pos : Int) :
    St.er (.mk k nm to nw ea ecap e ba bcap body la lcap els pos) = .mk k nm to nw none 0 (Ex.erL e) none 0 (St.erL body) none 0 (St.erL els) 0 := by unfold St.er; rfl
theorem St.erL_cons (e : St) (r : List St) : St.erL (e :: r) = e.er :: St.erL r := by rw [St.erL]
theorem St.erL_nil : St.erL [] = [] := by unfold St.erL; rfl
theorem Ex.erL_map (l : List Ex) : Ex.erL l = l.map Ex.er := by
  induction l with
  | nil => exact Ex.erL_nil
  | cons x r ih => rw [Ex.erL_cons, ih]; rfl
theorem St.erL_map (l : List St) : St.erL l = l.map St.er := by
  induction l with
  | nil => exact St.erL_nil
  | cons x r ih => rw [St.erL_cons, ih]; rfl
theorem Ex.erL_len (l : List Ex) : (Ex.erL l).length = l.length := by rw [Ex.erL_map]; simp
theorem St.erL_len (l : List St) : (St.erL l).length = l.length := by rw [St.erL_map]; simp
theorem De.erL_len (l : List De) : (De.erL l).length = l.length := by unfold De.erL; simp

/-- what counts of a part -/
def Pt.key (p : Pt) : Bool × Int := (fitPt p, p.d)
theorem fitE_er : ∀ e : Ex, fitE e.er = fitE e
  | .mk k nm n a cap args pos => by rw [Ex.er_eq, fitE_eq, fitE_eq, Ex.erL_len]
theorem fitS_er : ∀ e : St, fitS e.er = fitS e
  | .mk k nm to nw ea ecap e ba bcap body la lcap els pos => by rw [St.er_eq, fitS_eq, fitS_eq, Ex.erL_len, St.erL_len, St.erL_len]
mutual
theorem ptsE_key : ∀ (e : Ex) (b o : Nat) (d : Int), (ptsE b o d e).map Pt.key = (ptsE 0 0 d e.er).map Pt.key
  | .mk k nm n a cap args pos, b, o, d => by
    have h0 := fitE_er (.mk k nm n a cap args pos)
    rw [Ex.er_eq] at h0 ⊢
    rw [ptsE_eq, ptsE_eq, List.map_cons, List.map_cons, ptsL_key args (adB a) (adO a), ptsL_key' args (adB none) (adO none)]
    simp only [Pt.key, fitPt, h0]
theorem ptsL_key : ∀ (l : List Ex) (b o : Nat) (d : Int), (ptsL b o d l).map Pt.key = (ptsL 0 0 d (Ex.erL l)).map Pt.key
  | [], b, o, d => by rw [Ex.erL_nil]; unfold ptsL; rfl
  | e :: r, b, o, d => by
    rw [Ex.erL_cons]
    unfold ptsL
    rw [List.map_append, List.map_append, ptsE_key e b o d, ptsL_key r b (o + 5) d, ptsL_key' r 0 (0 + 5) d]
theorem ptsL_key' : ∀ (l : List Ex) (b o : Nat) (d : Int), (ptsL b o d (Ex.erL l)).map Pt.key = (ptsL 0 0 d (Ex.erL l)).map Pt.key
  | [], b, o, d => by rw [Ex.erL_nil]; unfold ptsL; rfl
  | e :: r, b, o, d => by
    rw [Ex.erL_cons]
    unfold ptsL
    rw [List.map_append, List.map_append, ptsE_key' e b o d, ptsL_key' r b (o + 5) d, ptsL_key' r 0 (0 + 5) d]
theorem ptsE_key' : ∀ (e : Ex) (b o : Nat) (d : Int), (ptsE b o d e.er).map Pt.key = (ptsE 0 0 d e.er).map Pt.key
  | .mk k nm n a cap args pos, b, o, d => by
    rw [Ex.er_eq, ptsE_eq, ptsE_eq, List.map_cons, List.map_cons]
    simp only [Pt.key, fitPt]
end
mutual
theorem ptsS_key : ∀ (e : St) (b o : Nat) (d : Int), (ptsS b o d e).map Pt.key = (ptsS 0 0 d e.er).map Pt.key
  | .mk k nm to nw ea ecap e ba bcap body la lcap els pos, b, o, d => by
    have h0 := fitS_er (.mk k nm to nw ea ecap e ba bcap body la lcap els pos)
    rw [St.er_eq] at h0 ⊢
    unfold ptsS
    simp only [List.map_cons, List.map_append]
    rw [ptsL_key e (adB ea) (adO ea), ptsL_key' e (adB none) (adO none), ptsSL_key body (adB ba) (adO ba), ptsSL_key' body (adB none) (adO none), ptsSL_key els (adB la) (adO la), ptsSL_key' els (adB none) (adO none)]
    simp only [Pt.key, fitPt, h0]
theorem ptsSL_key : ∀ (l : List St) (b o : Nat) (d : Int), (ptsSL b o d l).map Pt.key = (ptsSL 0 0 d (St.erL l)).map Pt.key
  | [], b, o, d => by rw [St.erL_nil]; unfold ptsSL; rfl
  | e :: r, b, o, d => by
    rw [St.erL_cons]
    unfold ptsSL
    rw [List.map_append, List.map_append, ptsS_key e b o d, ptsSL_key r b (o + 8) d, ptsSL_key' r 0 (0 + 8) d]
theorem ptsSL_key' : ∀ (l : List St) (b o : Nat) (d : Int), (ptsSL b o d (St.erL l)).map Pt.key = (ptsSL 0 0 d (St.erL l)).map Pt.key
  | [], b, o, d => by rw [St.erL_nil]; unfold ptsSL; rfl
  | e :: r, b, o, d => by
    rw [St.erL_cons]
    unfold ptsSL
    rw [List.map_append, List.map_append, ptsS_key' e b o d, ptsSL_key' r b (o + 8) d, ptsSL_key' r 0 (0 + 8) d]
theorem ptsS_key' : ∀ (e : St) (b o : Nat) (d : Int), (ptsS b o d e.er).map Pt.key = (ptsS 0 0 d e.er).map Pt.key
  | .mk k nm to nw ea ecap e ba bcap body la lcap els pos, b, o, d => by
    rw [St.er_eq]
    unfold ptsS
    simp only [List.map_cons, List.map_append, Pt.key, fitPt]
end
theorem ptsD_key (l : List De) : (ptsD l).map Pt.key = (ptsD (De.erL l)).map Pt.key := by
  induction l with
  | nil => rfl
  | cons d r ih =>
    show ((ptsSL (adB d.ba) (adO d.ba) 1 d.body) ++ ptsD r).map Pt.key = ((ptsSL (adB none) (adO none) 1 (St.erL d.body)) ++ ptsD (De.erL r)).map Pt.key
    rw [List.map_append, List.map_append, ih, ptsSL_key d.body, ptsSL_key' d.body (adB none)]
theorem fitD_er (d : De) : fitD d.er = fitD d := by
  unfold fitD De.er
  simp only [St.erL_len]
theorem hold_key (l : List Pt) : l.all holdPt = (l.map Pt.key).all (fun x => decide (x.2 ≤ 60) && x.1) := by
  rw [List.all_map]
  congr 1
theorem mayP_er (l : List De) : mayP (De.erL l) = mayP l := by
  unfold mayP
  rw [hold_key, hold_key, ptsD_key l, De.erL_len]
  congr 2
  unfold De.erL
  rw [List.all_map]
  congr 1
  funext d
  exact fitD_er d
theorem mayP_of_er {l c : List De} (h : De.erL l = De.erL c) : mayP l = mayP c := by rw [← mayP_er l, ← mayP_er c, h]
end Go.Proofs.YtpcdlneompnhlaaGreatDoor.Tr

namespace Go.Proofs.YtpcdlneompnhlaaGreatDoor.Pa
open Go Go.RowKit
open Go.Proofs.YtpcdlneompnhlaaGreatDoor.Lx Go.Proofs.YtpcdlneompnhlaaGreatDoor.Tr

theorem szE_mk (k : Int) (nm : ByteArray) (n : Int) (a : Option Addr) (cap : Nat) (args : List Ex) (pos : Int) : (Ex.mk k nm n a cap args pos).sz = 1 + Ex.szL args := by unfold Ex.sz; rfl
theorem szEL_nil : Ex.szL [] = 0 := by unfold Ex.szL; rfl
theorem szEL_cons (e : Ex) (r : List Ex) : Ex.szL (e :: r) = e.sz + Ex.szL r := by rw [Ex.szL]
theorem szS_mk (k : Int) (nm to : ByteArray) (new : Bool) (x : Option Addr) (xc : Nat) (e : List Ex) (b : Option Addr) (bc : Nat) (body : List St) (y : Option Addr) (yc : Nat) (els : List St) (pos : Int) : (St.mk k nm to new x xc e b bc body y yc els pos).sz = 1 + Ex.szL e + St.szL body + St.szL els := by unfold St.sz; rfl
theorem szSL_nil : St.szL [] = 0 := by unfold St.szL; rfl
theorem szSL_cons (e : St) (r : List St) : St.szL (e :: r) = e.sz + St.szL r := by rw [St.szL]
theorem szEL_app (l r : List Ex) : Ex.szL (l ++ r) = Ex.szL l + Ex.szL r := by
  induction l with
  | nil => rw [List.nil_append, szEL_nil, Nat.zero_add]
  | cons e l ih => rw [List.cons_append, szEL_cons, szEL_cons, ih, Nat.add_assoc]
theorem szSL_app (l r : List St) : St.szL (l ++ r) = St.szL l + St.szL r := by
  induction l with
  | nil => rw [List.nil_append, szSL_nil, Nat.zero_add]
  | cons e l ih => rw [List.cons_append, szSL_cons, szSL_cons, ih, Nat.add_assoc]
theorem szD_nil : De.szL [] = 0 := by unfold De.szL; rfl
theorem szD_cons (e : De) (r : List De) : De.szL (e :: r) = St.szL e.body + De.szL r := by rw [De.szL]
theorem szD_app (l r : List De) : De.szL (l ++ r) = De.szL l + De.szL r := by
  induction l with
  | nil => rw [List.nil_append, szD_nil, Nat.zero_add]
  | cons e l ih => rw [List.cons_append, szD_cons, szD_cons, ih, Nat.add_assoc]
mutual
theorem sz_ea : ∀ e : Ex, (ea e).sz = e.sz
  | .mk k nm n a cap args pos => by rw [ea_eq, szE_mk, szE_mk, sz_eaL args]
theorem sz_eaL : ∀ l : List Ex, Ex.szL (eaL l) = Ex.szL l
  | [] => by rw [eaL_nil]
  | e :: r => by rw [eaL_cons, szEL_cons, szEL_cons, sz_ea e, sz_eaL r]
end
mutual
theorem sz_sa : ∀ e : St, (sa e).sz = e.sz
  | .mk k nm to new x xc e b bc body y yc els pos => by rw [sa_eq, szS_mk, szS_mk, sz_eaL, sz_saL body, sz_saL els]
theorem sz_saL : ∀ l : List St, St.szL (saL l) = St.szL l
  | [] => by rw [saL_nil]
  | e :: r => by rw [saL_cons, szSL_cons, szSL_cons, sz_sa e, sz_saL r]
end
theorem sz_da (l : List De) : De.szL (l.map da) = De.szL l := by
  induction l with
  | nil => rfl
  | cons d r ih => rw [List.map_cons, szD_cons, szD_cons, ih]; show St.szL (saL d.body) + _ = _; rw [sz_saL]
theorem two_sz (o : Opr) (a b : Ex) (p : Int) : (two o a b p).sz = 1 + a.sz + b.sz := by
  unfold two
  split
  · rw [szE_mk, szEL_cons, szEL_cons, szEL_nil]; omega
  · rw [szE_mk, szEL_cons, szEL_cons, szEL_nil]; omega
/-- an expression has no more parts than tokens -/
theorem ex_size (l : List Tk) : ∀ f : Nat, (∀ i e j, unaryP l f i = some (.ok e j) → e.sz + i ≤ j) ∧ (∀ i e j, atomP l f i = some (.ok e j) → e.sz + i ≤ j) ∧ (∀ m i e j, joinedP l f m i = some (.ok e j) → e.sz + i ≤ j) ∧ (∀ m k x i e j, loopP l f m k x i = some (.ok e j) → e.sz + i ≤ x.sz + j) := by
  intro f
  induction f with
  | zero =>
    refine ⟨fun i e j h => ?_, fun i e j h => ?_, fun m i e j h => ?_, fun m k x i e j h => ?_⟩
    · unfold unaryP at h; cases h
    · unfold atomP at h; cases h
    · unfold joinedP at h; cases h
    · unfold loopP at h; cases h
  | succ f ih =>
    obtain ⟨hU, hA, hJ, hL⟩ := ih
    refine ⟨fun i e j h => ?_, fun i e j h => ?_, fun m i e j h => ?_, fun m k x i e j h => ?_⟩
    · unfold unaryP at h
      split at h
      · split at h
        · rename_i q; have := hU _ _ _ q; cases h; rw [szE_mk, szEL_cons, szEL_nil]; omega
        · rename_i q; have := hU _ _ _ h; omega
      · split at h
        · split at h
          · rename_i q; have := hU _ _ _ q; cases h; rw [szE_mk, szEL_cons, szEL_nil]; omega
          · rename_i q; have := hU _ _ _ h; omega
        · exact hA _ _ _ h
    · unfold atomP at h
      split at h
      · split at h
        · rename_i q; have := numR_lt q; cases h; rw [szE_mk, szEL_nil]; omega
        · cases h
      · split at h
        · cases h; rw [szE_mk, szEL_nil]; omega
        · split at h
          · cases h; rw [szE_mk, szEL_nil]; omega
          · split at h
            · split at h
              · rename_i q
                have := hJ _ _ _ _ q
                split at h
                · cases h; omega
                · cases h
              · have := hJ _ _ _ _ h; omega
            · split at h
              · cases h
              · rename_i q
                have h1 := nameR_lt q
                split at h
                · split at h
                  · rename_i q2
                    have := hJ _ _ _ _ q2
                    split at h
                    · cases h; rw [szE_mk, szEL_cons, szEL_nil]; omega
                    · cases h
                  · have := hJ _ _ _ _ h; omega
                · cases h; rw [szE_mk, szEL_nil]; omega
    · unfold joinedP at h
      split at h
      · rename_i q; have h1 := hU _ _ _ q; have h2 := hL _ _ _ _ _ _ h; omega
      · exact hU _ _ _ h
    · unfold loopP at h
      split at h
      · cases h; omega
      · split at h
        · rename_i q; have h1 := hJ _ _ _ _ q; have h2 := hL _ _ _ _ _ _ h; rw [two_sz] at h2; omega
        · have := hJ _ _ _ _ h; omega
theorem exprR_sz {l : List Tk} {i j : Nat} {e : Ex} (h : exprR l i = .ok e j) : e.sz + i ≤ j := by
  have := exprR_some l i
  rw [h] at this
  exact (ex_size l _).2.2.1 _ _ _ _ this
theorem argsR_sz {l : List Tk} : ∀ (f : Nat) (acc : List Ex) (i : Nat) {e : List Ex} {j : Nat}, argsR l f acc i = .ok e j → Ex.szL e + i ≤ Ex.szL acc + j := by
  intro f
  induction f with
  | zero => intro acc i e j h; unfold argsR at h; cases h
  | succ f ih =>
    intro acc i e j h
    unfold argsR at h
    obtain ⟨x, k, h1, h2⟩ := Res.bind_ok h
    have := exprR_sz h1
    split at h2
    · cases h2; rw [szEL_app, szEL_cons, szEL_nil]; omega
    · obtain ⟨_, m, h3, h4⟩ := Res.bind_ok h2
      have := takeR_lt h3
      have := ih _ _ h4
      rw [szEL_app, szEL_cons, szEL_nil] at this
      omega
theorem listE_sz {l : List Tk} {i j : Nat} {e : List Ex} (h : listE l i = .ok e j) : Ex.szL e + i ≤ j := by
  unfold listE at h
  obtain ⟨_, k, h1, h2⟩ := Res.bind_ok h
  have := takeR_lt h1
  split at h2
  · cases h2; rw [szEL_nil]; omega
  · have := argsR_sz _ _ _ h2; rw [szEL_nil] at this; omega
theorem stE_sz (k : Int) (nm to : ByteArray) (new : Bool) (e : List Ex) (b c : List St) : (stE k nm to new e b c).sz = 1 + Ex.szL e + St.szL b + St.szL c := by unfold stE; rw [szS_mk]
theorem callR_sz {l : List Tk} {i j : Nat} {s : St} (h : callR l i = .ok s j) : s.sz + i ≤ j := by
  unfold callR at h
  obtain ⟨_, k, h1, h2⟩ := Res.bind_ok h
  obtain ⟨_, m, h3, h4⟩ := Res.bind_ok h2
  obtain ⟨_, n, h5, h6⟩ := Res.bind_ok h4
  have := nameR_lt h1
  have := listE_sz h3
  have := takeR_lt h5
  cases h6
  rw [stE_sz, szSL_nil]
  omega
theorem stTo_sz (to : ByteArray) (new : Bool) (s : St) : (stTo to new s).sz = s.sz := by
  obtain ⟨k1, n1, t1, nw1, ea1, ec1, e1, ba1, bc1, b1, la1, lc1, l1, p1⟩ := s
  unfold stTo
  rw [szS_mk, szS_mk]
theorem stAt_sz (p : Int) (s : St) : (stAt p s).sz = s.sz := by
  obtain ⟨k1, n1, t1, nw1, ea1, ec1, e1, ba1, bc1, b1, la1, lc1, l1, p1⟩ := s
  unfold stAt
  rw [szS_mk, szS_mk]
theorem becomesR_sz {l : List Tk} {kd : Int} {nm : ByteArray} {i j : Nat} {s : St} (h : becomesR l kd nm i = .ok s j) : s.sz + i ≤ j := by
  unfold becomesR at h
  obtain ⟨_, k, h1, h2⟩ := Res.bind_ok h
  have := takeR_lt h1
  split at h2
  · obtain ⟨_, m, h3, h4⟩ := Res.bind_ok h2
    have := callR_sz h3
    cases h4
    rw [stTo_sz]
    omega
  · obtain ⟨_, m, h3, h4⟩ := Res.bind_ok h2
    obtain ⟨_, n, h5, h6⟩ := Res.bind_ok h4
    have := exprR_sz h3
    have := takeR_lt h5
    cases h6
    rw [stE_sz, szSL_nil, szEL_cons, szEL_nil]
    omega
theorem varR_sz {l : List Tk} {i j : Nat} {s : St} (h : varR l i = .ok s j) : s.sz + i ≤ j := by
  unfold varR at h
  obtain ⟨_, k, h1, h2⟩ := Res.bind_ok h
  have := nameR_lt h1
  have := becomesR_sz h2
  omega
theorem toldR_sz {l : List Tk} {kd : Int} {i j : Nat} {s : St} (h : toldR l kd i = .ok s j) : s.sz + i ≤ j := by
  unfold toldR at h
  obtain ⟨_, k, h1, h2⟩ := Res.bind_ok h
  obtain ⟨_, n, h5, h6⟩ := Res.bind_ok h2
  have := exprR_sz h1
  have := takeR_lt h5
  cases h6
  rw [stE_sz, szSL_nil, szEL_cons, szEL_nil]
  omega
theorem nameStR_sz {l : List Tk} {i j : Nat} {s : St} (h : nameStR l i = .ok s j) : s.sz + i ≤ j := by
  unfold nameStR at h
  obtain ⟨_, k, h1, h2⟩ := Res.bind_ok h
  have := nameR_lt h1
  split at h2
  · obtain ⟨_, a, h3, h4⟩ := Res.bind_ok h2
    obtain ⟨_, b, h5, h6⟩ := Res.bind_ok h4
    obtain ⟨_, c, h7, h8⟩ := Res.bind_ok h6
    obtain ⟨_, d, h9, h10⟩ := Res.bind_ok h8
    obtain ⟨_, e, h11, h12⟩ := Res.bind_ok h10
    have := exprR_sz h3
    have := takeR_lt h5
    have := takeR_lt h7
    have := exprR_sz h9
    have := takeR_lt h11
    cases h12
    rw [stE_sz, szSL_nil, szEL_cons, szEL_cons, szEL_nil]
    omega
  · have := becomesR_sz h2; omega
theorem st_size (l : List Tk) : ∀ f : Nat, (∀ i s j, stmtR l f i = .ok s j → s.sz + i ≤ j) ∧ (∀ acc i s j, stmtsR l f acc i = .ok s j → St.szL s + i ≤ St.szL acc + j) := by
  intro f
  induction f with
  | zero =>
    refine ⟨fun i e j h => ?_, fun acc i e j h => ?_⟩
    · unfold stmtR at h; cases h
    · unfold stmtsR at h; cases h
  | succ f ih =>
    obtain ⟨hS, hB⟩ := ih
    have hBl : ∀ i s j, blockR l f i = .ok s j → St.szL s + i + 1 ≤ j := fun i s j h => by
      unfold blockR at h
      obtain ⟨_, k, h1, h2⟩ := Res.bind_ok h
      have := takeR_lt h1
      have := hB _ _ _ _ h2
      rw [szSL_nil] at this
      omega
    refine ⟨fun i s j h => ?_, fun acc i s j h => ?_⟩
    · rw [stmtR_eq] at h
      obtain ⟨t, ht⟩ := Res.at_ok h
      have hst : s.sz = t.sz := by
        rw [ht] at h
        simp only [Res.at, Res.ok.injEq] at h
        rw [← h.1, stAt_sz]
      rw [hst]
      clear h hst
      split at ht
      · have := varR_sz ht; omega
      · split at ht
        · unfold ifR at ht
          obtain ⟨_, k, h1, h2⟩ := Res.bind_ok ht
          obtain ⟨_, m, h3, h4⟩ := Res.bind_ok h2
          have := exprR_sz h1
          have := hBl _ _ _ h3
          split at h4
          · obtain ⟨_, o, h5, h6⟩ := Res.bind_ok h4
            have := hBl _ _ _ h5
            cases h6
            rw [stE_sz, szEL_cons, szEL_nil]
            omega
          · cases h4
            rw [stE_sz, szEL_cons, szEL_nil, szSL_nil]
            omega
        · split at ht
          · unfold whileR at ht
            obtain ⟨_, k, h1, h2⟩ := Res.bind_ok ht
            obtain ⟨_, m, h3, h4⟩ := Res.bind_ok h2
            have := exprR_sz h1
            have := hBl _ _ _ h3
            cases h4
            rw [stE_sz, szEL_cons, szEL_nil, szSL_nil]
            omega
          · split at ht
            · unfold withR at ht
              obtain ⟨_, k, h1, h2⟩ := Res.bind_ok ht
              obtain ⟨_, m, h3, h4⟩ := Res.bind_ok h2
              have := nameR_lt h1
              have := hBl _ _ _ h3
              cases h4
              rw [stE_sz, szEL_nil, szSL_nil]
              omega
            · split at ht
              · have := toldR_sz ht; omega
              · split at ht
                · have := callR_sz ht; omega
                · split at ht
                  · have := toldR_sz ht; omega
                  · exact nameStR_sz ht
    · unfold stmtsR at h
      split at h
      · cases h; omega
      · obtain ⟨_, k, h1, h2⟩ := Res.bind_ok h
        have := hS _ _ _ h1
        have := hB _ _ _ _ h2
        rw [szSL_app, szSL_cons, szSL_nil] at this
        omega
theorem blockR_sz {l : List Tk} {f i j : Nat} {s : List St} (h : blockR l f i = .ok s j) : St.szL s + i ≤ j := by
  unfold blockR at h
  obtain ⟨_, k, h1, h2⟩ := Res.bind_ok h
  have := takeR_lt h1
  have := (st_size l f).2 _ _ _ _ h2
  rw [szSL_nil] at this
  omega
theorem Res.atD_ok {p : Int} {r : Res De} {d : De} {j : Nat} (h : r.atD p = .ok d j) : ∃ t, r = .ok t j ∧ d.body = t.body := by
  unfold Res.atD at h
  obtain ⟨t, k, h1, h2⟩ := Res.bind_ok h
  cases h2
  exact ⟨t, h1, rfl⟩
theorem declR_sz {l : List Tk} {i j : Nat} {d : De} (h : declR l i = .ok d j) : St.szL d.body + i ≤ j := by
  have hlt := declR_lt h
  rw [declR_eq] at h
  split at h
  · obtain ⟨t, ht, hb⟩ := Res.atD_ok h
    unfold globalR at ht
    obtain ⟨_, a, h1, h2⟩ := Res.bind_ok ht
    obtain ⟨_, b, h3, h4⟩ := Res.bind_ok h2
    obtain ⟨_, c, h5, h6⟩ := Res.bind_ok h4
    obtain ⟨_, e, h7, h8⟩ := Res.bind_ok h6
    cases h8
    rw [hb]; show St.szL [] + i ≤ _; rw [szSL_nil]; omega
  · split at h
    · obtain ⟨t, ht, hb⟩ := Res.atD_ok h
      unfold arrayR at ht
      obtain ⟨_, a, h1, h2⟩ := Res.bind_ok ht
      obtain ⟨_, b, h3, h4⟩ := Res.bind_ok h2
      obtain ⟨_, c, h5, h6⟩ := Res.bind_ok h4
      obtain ⟨_, e, h7, h8⟩ := Res.bind_ok h6
      obtain ⟨_, g, h9, h10⟩ := Res.bind_ok h8
      cases h10
      rw [hb]; show St.szL [] + i ≤ _; rw [szSL_nil]; omega
    · split at h
      · obtain ⟨t, ht, hb⟩ := Res.atD_ok h
        unfold lockR at ht
        obtain ⟨_, a, h1, h2⟩ := Res.bind_ok ht
        obtain ⟨_, b, h3, h4⟩ := Res.bind_ok h2
        cases h4
        rw [hb]; show St.szL [] + i ≤ _; rw [szSL_nil]; omega
      · split at h
        · obtain ⟨t, ht, hb⟩ := Res.atD_ok h
          unfold funcR at ht
          obtain ⟨_, a, h1, h2⟩ := Res.bind_ok ht
          obtain ⟨_, b, h3, h4⟩ := Res.bind_ok h2
          obtain ⟨bd, c, h5, h6⟩ := Res.bind_ok h4
          have := nameR_lt h1
          have := listN_lt h3
          have := blockR_sz h5
          cases h6
          rw [hb]; show St.szL bd + i ≤ _; omega
        · split at h
          · obtain ⟨t, ht, hb⟩ := Res.atD_ok h
            unfold threadR at ht
            obtain ⟨_, a, h1, h2⟩ := Res.bind_ok ht
            obtain ⟨bd, b, h3, h4⟩ := Res.bind_ok h2
            have := nameR_lt h1
            have := blockR_sz h3
            cases h4
            rw [hb]; show St.szL bd + i ≤ _; omega
          · cases h
theorem declsR_sz {l : List Tk} : ∀ (f : Nat) (acc : List De) (i : Nat) {e : List De} {j : Nat}, i ≤ l.length → declsR l f acc i = .ok e j → De.szL e + i ≤ De.szL acc + j := by
  intro f
  induction f with
  | zero => intro acc i e j _ h; unfold declsR at h; cases h
  | succ f ih =>
    intro acc i e j hi h
    unfold declsR at h
    split at h
    · obtain ⟨x, k, h1, h2⟩ := Res.bind_ok h
      have := declR_sz h1
      by_cases hk : k ≤ l.length
      · have := ih _ _ hk h2
        rw [szD_app, szD_cons, szD_nil] at this
        omega
      · cases f with
        | zero => unfold declsR at h2; cases h2
        | succ f =>
          unfold declsR at h2
          rw [if_neg (by omega)] at h2
          cases h2
          rw [szD_app, szD_cons, szD_nil]
          omega
    · cases h; omega
end Go.Proofs.YtpcdlneompnhlaaGreatDoor.Pa

namespace Go.Proofs.YtpcdlneompnhlaaGreatDoor.Pa
open Go Go.RowKit
open Go.Proofs.YtpcdlneompnhlaaGreatDoor.Lx Go.Proofs.YtpcdlneompnhlaaGreatDoor.Tr

theorem lx_bound : ∀ (f : Nat) (l : List UInt8) (p : Nat) (ts : List Tok), lx f l p = .ok ts → ts.length ≤ l.length ∧ ∀ t ∈ ts, t.txt.length ≤ l.length ∧ t.pos ≤ p + l.length
  | 0, l, p, ts, h => by unfold lx at h; cases h; simp
  | f + 1, l, p, ts, h => by
    unfold lx at h
    by_cases h1 : l.drop (skp false l) = []
    · rw [if_pos h1] at h; cases h; simp
    · rw [if_neg h1] at h
      by_cases h2 : (cutL (l.drop (skp false l))).1 = 0
      · rw [if_pos h2] at h; cases h
      · rw [if_neg h2] at h
        have hb := cutL_bd _ h2
        split at h
        · rename_i us hu
          have ih := lx_bound f _ _ _ hu
          have hd : (l.drop (skp false l)).length = l.length - skp false l := List.length_drop
          have hd2 : ((l.drop (skp false l)).drop (cutL (l.drop (skp false l))).2).length = (l.drop (skp false l)).length - (cutL (l.drop (skp false l))).2 := List.length_drop
          cases h
          refine ⟨by rw [List.length_cons]; omega, fun t ht => ?_⟩
          rcases List.mem_cons.1 ht with rfl | ht
          · simp only [List.length_take]
            omega
          · have := ih.2 t ht
            omega
        · cases h
theorem res_ok {l : List UInt8} {ts : List Tok} {q : Nat} (h : res l = (ts, q, 0)) : q = 0 ∧ l.length ≤ 65536 ∧ ts.length ≤ l.length ∧ ∀ t ∈ ts, t.txt.length ≤ l.length ∧ t.pos ≤ l.length := by
  unfold res at h
  split at h
  · cases h
  · rename_i hl
    split at h
    · rename_i us hu
      cases h
      have := lx_bound _ _ _ _ hu
      exact ⟨rfl, by omega, this.1, fun t ht => ⟨(this.2 t ht).1, by have := (this.2 t ht).2; omega⟩⟩
    · cases h
/-- what Parse answers: declarations, place, number of the error -/
def parseP (s : ByteArray) : List De × Int × Int :=
  if (res s.data.toList).2.2 = 0 then
    match readR (res s.data.toList).1 s.size with
    | .bad p => ([], p, 63)
    | .ok ds _ => if mayP ds = true then (ds, 0, 0) else ([], 0, 40)
  else ([], (res s.data.toList).2.1, (res s.data.toList).2.2)
theorem de_da (d : De) : (da d).er = d.er := by
  have h : ∀ l : List St, St.erL (saL l) = St.erL l := by
    have hE : ∀ l : List Ex, Ex.erL (eaL l) = Ex.erL l := by
      have key : ∀ n (l : List Ex), Ex.szL l ≤ n → Ex.erL (eaL l) = Ex.erL l := by
        intro n
        induction n with
        | zero =>
          intro l hl
          cases l with
          | nil => rw [eaL_nil]
          | cons e r => obtain ⟨k, nm, m, a, cap, args, pos⟩ := e; rw [szEL_cons, szE_mk] at hl; omega
        | succ n ih =>
          intro l
          induction l with
          | nil => intro _; rw [eaL_nil]
          | cons e r ihr =>
            intro hl
            obtain ⟨k, nm, m, a, cap, args, pos⟩ := e
            rw [szEL_cons, szE_mk] at hl
            rw [eaL_cons, Ex.erL_cons, Ex.erL_cons, ea_eq, Ex.er_eq, Ex.er_eq, ih args (by omega), ihr (by omega)]
      exact fun l => key _ l (Nat.le_refl _)
    have key : ∀ n (l : List St), St.szL l ≤ n → St.erL (saL l) = St.erL l := by
      intro n
      induction n with
      | zero =>
        intro l hl
        cases l with
        | nil => rw [saL_nil]
        | cons e r => obtain ⟨k1, n1, t1, nw1, ea1, ec1, e1, ba1, bc1, b1, la1, lc1, l1, p1⟩ := e; rw [szSL_cons, szS_mk] at hl; omega
      | succ n ih =>
        intro l
        induction l with
        | nil => intro _; rw [saL_nil]
        | cons e r ihr =>
          intro hl
          obtain ⟨k1, n1, t1, nw1, ea1, ec1, e1, ba1, bc1, b1, la1, lc1, l1, p1⟩ := e
          rw [szSL_cons, szS_mk] at hl
          rw [saL_cons, St.erL_cons, St.erL_cons, sa_eq, St.er_eq, St.er_eq, hE, ih b1 (by omega), ih l1 (by omega), ihr (by omega)]
    exact fun l => key _ l (Nat.le_refl _)
  unfold da De.er
  rw [h]
theorem may_da (l : List De) : mayP (l.map da) = mayP l := by
  refine mayP_of_er ?_
  unfold De.erL
  rw [List.map_map]
  exact List.map_congr_left fun d _ => de_da d
set_option maxHeartbeats 4000000 in
set_option maxRecDepth 100000 in
theorem parse_c (s : ByteArray) (w : World) (hs : s.size ≤ maxLen) (tb : TbP w) (ht : TabsD w) :
    Calls Tryz.prog 8 #[.string s] w fun e w' => Below w.heap.size w w' ∧ ∃ v, e = .returned (.tuple #[v, .int .i64 (parseP s).2.1, .int .i64 (parseP s).2.2]) ∧ VDs (fun b => w.heap.size ≤ b) (parseP s).1 v w' := by
  have hT := Lib.hid (tokens_any s w hs tb.sg)
  have hsz : s.size = s.data.toList.length := Lib.size_eq s
  obtain ⟨ts, q, en, hres⟩ : ∃ ts q en, res s.data.toList = (ts, q, en) := ⟨_, _, _, rfl⟩
  have hpp : parseP s = if en = 0 then (match readR ts s.size with | .bad p => ([], p, 63) | .ok ds _ => if mayP ds = true then (ds, 0, 0) else ([], 0, 40)) else ([], (q : Int), (en : Int)) := by unfold parseP; rw [hres]
  generalize parseP s = out at hpp ⊢
  have hnil : ∀ W : World, VDs (fun b => w.heap.size ≤ b) [] (.slice none 0 0) W := fun W => ⟨[], none, 0, rfl, row_nil _ _, (fun d hd => by cases hd), rfl⟩
  replace hnil := Lib.hid hnil
  rw [hres] at hT
  simp only at hT
  by_cases he : en = 0
  · subst he
    obtain ⟨hq, hl, hlen, hts⟩ := res_ok hres
    subst hq
    rw [if_pos rfl] at hpp
    have hgl := tb.low
    have hR := Lib.hid fun (v : Value) (W : World) (hb : Below w.heap.size w W) (hown : W.ownsRow w.heap.size 69 3 v ts.length (cellsOf ts)) => read_c ts s.size v W w.heap.size hb.size hown (by omega) (fun t h => by have := hts t h; omega) (by omega) (tb.low_keep hgl hb) hgl
    have hM := Lib.hid fun (l : List De) (a : Option Addr) (cap : Nat) (W : World) (hrow : RowAt W (fun _ => True) a cap l.length (deCells l)) (hin : De.InL W (fun _ => True) l) (hsz : De.szL l ≤ 4194304) (hb : Below w.heap.size w W) => mayP_any l a cap W hrow hin hsz (ht.below hb)
    replace hpp := Lib.hid hpp
    clear hts tb ht hgl hres hsz hl hlen
    go_enter Tryz.func8, Tryz.ntmps8
    go_wp2_with fail
    refine hT.out.mono ?_
    rintro e w2 ⟨v2, rfl, hown, hb2, _⟩
    replace hown := Lib.hid hown
    replace hb2 := Lib.hid hb2
    clear hT
    go_wp2_with fail
    refine (hR.out v2 w2 hb2.out hown.out).mono ?_
    rintro e w3 ⟨hb3, hm⟩
    clear hown
    cases hrd : readR ts s.size with
    | bad p =>
      rw [hrd] at hm
      simp only at hm
      subst hm
      have hp2 := hpp.out
      rw [hrd] at hp2
      simp only at hp2
      have hB := Lib.hid (hb2.out.trans hb3)
      clear hpp
      subst hp2
      clear hrd hR hM hb2 hb3
      go_wp2_with fail
      go_ret3
      exact ⟨hB.out, _, rfl, hnil.out _⟩
    | ok ds j =>
      rw [hrd] at hm
      obtain ⟨hj, v, rfl, l, a, cap, rfl, h1, h2, rfl⟩ := hm
      have hp2 := hpp.out
      rw [hrd] at hp2
      simp only at hp2
      have hsz2 : De.szL l ≤ 4194304 := by
        unfold readR at hrd
        have := declsR_sz _ _ _ (Nat.zero_le _) hrd
        rw [sz_da, szD_nil] at this
        omega
      have hB := hb2.out.trans hb3
      have hMy := Lib.hid (hM.out l a cap w3 (h1.mono fun _ _ => trivial) (h2.mono fun _ _ => trivial) hsz2 hB)
      rw [may_da] at hp2
      replace hB := Lib.hid hB
      replace hp2 := Lib.hid hp2
      replace h1 := Lib.hid h1
      replace h2 := Lib.hid h2
      clear hpp hrd hR hM hb2 hb3 hsz2 hj
      generalize mayP l = m at hMy hp2
      go_wp2_with fail
      refine hMy.out.mono ?_
      rintro e w4 ⟨rfl, hb4⟩
      have hB4 := Lib.hid (hB.out.trans (hb4.mono hB.out.size))
      replace hb4 := Lib.hid hb4
      cases m with
      | true =>
        have hp3 := hp2.out
        rw [if_pos rfl] at hp3
        clear hp2
        subst hp3
        go_wp2_with fail
        go_ret3
        exact ⟨hB4.out, _, rfl, l, a, cap, rfl, h1.out.below (Kps.of_below hb4.out), h2.out.below (Kps.of_below hb4.out), rfl⟩
      | false =>
        have hp3 := hp2.out
        rw [if_neg (by decide)] at hp3
        clear hp2
        subst hp3
        go_wp2_with fail
        go_ret3
        exact ⟨hB4.out, _, rfl, hnil.out _⟩
  · rw [if_neg he] at hpp
    subst hpp
    have hne : ((en : Int) == 0) = false := by simp; omega
    have hne2 : ((en : Int) != 0) = true := by simp; omega
    clear ht tb hsz hres
    go_enter Tryz.func8, Tryz.ntmps8
    go_wp2_with fail
    refine hT.out.mono ?_
    rintro e w2 ⟨v2, rfl, hown, hb2, _⟩
    replace hb2 := Lib.hid hb2
    clear hown hT
    go_wp2_with fail
    go_ret3
    exact ⟨hb2.out, _, rfl, hnil.out _⟩
end Go.Proofs.YtpcdlneompnhlaaGreatDoor.Pa
