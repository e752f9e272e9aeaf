/- The plain parser of expressions: its places grow; what joined's loop keeps. Conditions: none. · The parser as plain functions on tokens: statements, declarations, programs. What values say with their places. Conditions: none. · The plain parser: its places grow, so much fuel is enough. Conditions: none. -/
import Derived.Test.YtpcdlneompnhlaaGreatDoorGrAG
namespace Go.Proofs.YtpcdlneompnhlaaGreatDoor.Pa
open Go Go.RowKit
open Go.Proofs.YtpcdlneompnhlaaGreatDoor.Lx Go.Proofs.YtpcdlneompnhlaaGreatDoor.Tr

theorem numR_le {l : List Tk} {i : Nat} {s : ByteArray} {n : Int} {j : Nat} (h : numR l i s = .ok n j) : i ≤ j := by
  unfold numR at h
  split at h
  · split at h
    · cases h; omega
    · cases h
  · cases h
theorem nameR_le {l : List Tk} {i : Nat} {s : ByteArray} {j : Nat} (h : nameR l i = .ok s j) : i ≤ j := by
  unfold nameR at h
  split at h
  · cases h; omega
  · cases h
theorem grows (l : List Tk) : ∀ f : Nat, (∀ i e j, unaryP l f i = some (.ok e j) → i ≤ j) ∧ (∀ i e j, atomP l f i = some (.ok e j) → i ≤ j) ∧ (∀ m i e j, joinedP l f m i = some (.ok e j) → i ≤ j) ∧ (∀ m k x i e j, loopP l f m k x i = some (.ok e j) → i ≤ j) := by
  intro f
  induction f with
  | zero =>
    refine ⟨fun i e j h => ?_, fun i e j h => ?_, fun m i e j h => ?_, fun m k x i e j h => ?_⟩
    · unfold unaryP at h; cases h
    · unfold atomP at h; cases h
    · unfold joinedP at h; cases h
    · unfold loopP at h; cases h
  | succ f ih =>
    obtain ⟨hU, hA, hJ, hL⟩ := ih
    refine ⟨fun i e j h => ?_, fun i e j h => ?_, fun m i e j h => ?_, fun m k x i e j h => ?_⟩
    · unfold unaryP at h
      split at h
      · split at h
        · rename_i q; have := hU _ _ _ q; cases h; omega
        · rename_i q; have := hU _ _ _ h; omega
      · split at h
        · split at h
          · rename_i q; have := hU _ _ _ q; cases h; omega
          · rename_i q; have := hU _ _ _ h; omega
        · exact hA _ _ _ h
    · unfold atomP at h
      split at h
      · split at h
        · rename_i q; have := numR_le q; cases h; omega
        · cases h
      · split at h
        · cases h; omega
        · split at h
          · cases h; omega
          · split at h
            · split at h
              · rename_i q
                have := hJ _ _ _ _ q
                split at h
                · cases h; omega
                · cases h
              · have := hJ _ _ _ _ h; omega
            · split at h
              · cases h
              · rename_i q
                have h1 := nameR_le q
                split at h
                · split at h
                  · rename_i q2
                    have := hJ _ _ _ _ q2
                    split at h
                    · cases h; omega
                    · cases h
                  · have := hJ _ _ _ _ h; omega
                · cases h; omega
    · unfold joinedP at h
      split at h
      · rename_i q; have h1 := hU _ _ _ q; have h2 := hL _ _ _ _ _ _ h; omega
      · exact hU _ _ _ h
    · unfold loopP at h
      split at h
      · cases h; omega
      · split at h
        · rename_i q; have h1 := hJ _ _ _ _ q; have h2 := hL _ _ _ _ _ _ h; omega
        · have := hJ _ _ _ _ h; omega

theorem opr_binds (s : ByteArray) : 0 ≤ (opr s).binds ∧ (opr s).binds ≤ 5 := by
  have h : ∀ l : List Opr, (∀ o ∈ l, 0 ≤ o.binds ∧ o.binds ≤ 5) → 0 ≤ (oprIn l s).binds ∧ (oprIn l s).binds ≤ 5 := by
    intro l hl
    induction l with
    | nil => show (0 : Int) ≤ 0 ∧ (0 : Int) ≤ 5; decide
    | cons o r ih =>
      unfold oprIn
      split
      · exact hl o (by simp)
      · exact ih fun o ho => hl o (by simp [ho])
  refine h oprs ?_
  unfold oprs
  decide

def nextOf (rb : Nat) (w : World) : Nat := match w.cell? ⟨rb, 1, none⟩ with | some (.int _ n) => n.toNat | _ => 0
theorem Rd.next {c : Rc} {i : Nat} {w : World} (h : Rd c i w) : nextOf c.rb w = i := by
  unfold nextOf
  rw [blk_cell h.blk (show _ = some (Value.int .i64 (i : Int)) from rfl)]
  simp

/-- what the loop of joined keeps -/
structure LI (c : Rc) (w : World) (lb f : Nat) (least : Int) (r : Res Ex) (most : Int) (ex : Ex) (j : Nat) (wr : World) : Prop where
  sp : ∃ f', f' ≤ f ∧ loopP c.l f' least most (ea ex) j = some r
  mo : 0 ≤ most ∧ most ≤ 5
  rd : Rd c j wr
  re : RE c.rb w wr
  gb : wr.heap[w.heap.size]? = some (.cells #[.int .u8 0, .string ⟨#[]⟩, .int .i64 0, .slice none 0 0, .int .i64 0] 62 (0, 0))
  lbk : wr.heap[lb]? = some (.cells ⟨ex.vals⟩ 62 (0, 0))
  ne : w.heap.size < lb
  ins : Ex.In wr (fun b => w.heap.size < b ∧ b ≠ lb) ex
/-- the loop is left -/
theorem LI.out {c : Rc} {w : World} {lb f : Nat} {least : Int} {r : Res Ex} {most : Int} {ex : Ex} {j : Nat} {wr : World} (h : LI c w lb f least r most ex j wr) (hx : (opr (tx c.l j)).binds < least ∨ most < (opr (tx c.l j)).binds) : r = .ok (ea ex) j := by
  obtain ⟨f', _, hs⟩ := h.sp
  cases f' with
  | zero => unfold loopP at hs; cases hs
  | succ f' =>
    unfold loopP at hs
    rw [if_pos hx] at hs
    cases hs
    rfl
/-- one round more -/
theorem LI.round {c : Rc} {w : World} {lb f : Nat} {least : Int} {r : Res Ex} {most : Int} {ex : Ex} {j : Nat} {wr : World} (h : LI c w lb f least r most ex j wr) (hx : ¬ ((opr (tx c.l j)).binds < least ∨ most < (opr (tx c.l j)).binds)) :
    ∃ f', f' + 1 ≤ f ∧ ((∃ p, joinedP c.l f' ((opr (tx c.l j)).binds + 1) (j + 1) = some (.bad p) ∧ r = .bad p) ∨
      ∃ x k, joinedP c.l f' ((opr (tx c.l j)).binds + 1) (j + 1) = some (.ok x k) ∧ loopP c.l f' least (if (opr (tx c.l j)).binds = 3 then 2 else (opr (tx c.l j)).binds) (two (opr (tx c.l j)) (ea ex) x (ps c.l j)) k = some r) := by
  obtain ⟨f', hf, hs⟩ := h.sp
  cases f' with
  | zero => unfold loopP at hs; cases hs
  | succ f' =>
    unfold loopP at hs
    rw [if_neg hx] at hs
    refine ⟨f', hf, ?_⟩
    cases hq : joinedP c.l f' ((opr (tx c.l j)).binds + 1) (j + 1) with
    | none => rw [hq] at hs; cases hs
    | some q =>
      rw [hq] at hs
      cases q with
      | bad p => cases hs; exact Or.inl ⟨p, rfl, rfl⟩
      | ok x k => exact Or.inr ⟨x, k, rfl, hs⟩
end Go.Proofs.YtpcdlneompnhlaaGreatDoor.Pa

namespace Go.Proofs.YtpcdlneompnhlaaGreatDoor.Pa
open Go Go.RowKit
open Go.Proofs.YtpcdlneompnhlaaGreatDoor.Lx Go.Proofs.YtpcdlneompnhlaaGreatDoor.Tr

mutual
/-- a statement without its addresses, with its places -/
def sa : St → St
  | .mk k nm to new _ _ e _ _ body _ _ els pos => .mk k nm to new none 0 (eaL e) none 0 (saL body) none 0 (saL els) pos
def saL : List St → List St
  | [] => []
  | e :: r => sa e :: saL r
end
theorem saL_nil : saL [] = [] := by unfold saL; rfl
theorem saL_cons (e : St) (r : List St) : saL (e :: r) = sa e :: saL r := by rw [saL]
theorem saL_map (l : List St) : saL l = l.map sa := by
  induction l with
  | nil => exact saL_nil
  | cons e r ih => rw [saL_cons, ih]; rfl
theorem sa_eq (k : Int) (nm to : ByteArray) (new : Bool) (x : Option Addr) (xc : Nat) (e : List Ex) (b : Option Addr) (bc : Nat) (body : List St) (y : Option Addr) (yc : Nat) (els : List St) (pos : Int) :
    sa (.mk k nm to new x xc e b bc body y yc els pos) = .mk k nm to new none 0 (eaL e) none 0 (saL body) none 0 (saL els) pos := by unfold sa; rfl
/-- a declaration without its addresses, with its places -/
def da (d : De) : De := ⟨d.kind, d.name, d.n, none, 0, d.params, none, 0, saL d.body, d.pos⟩

def VT (S : Nat → Prop) (x : St) (v : Value) (w : World) : Prop := ∃ e : St, v = .agg ⟨e.vals⟩ ∧ St.In w S e ∧ sa e = x
def VTs (S : Nat → Prop) (xs : List St) (v : Value) (w : World) : Prop := ∃ (l : List St) (a : Option Addr) (cap : Nat), v = .slice a l.length cap ∧ RowAt w S a cap l.length (stCells l) ∧ St.InL w S l ∧ saL l = xs
def VN (S : Nat → Prop) (xs : List ByteArray) (v : Value) (w : World) : Prop := ∃ (a : Option Addr) (cap : Nat), v = .slice a xs.length cap ∧ RowAt w S a cap xs.length (strCells xs) ∧ ∀ p ∈ xs, p.size ≤ maxLen
def VD (S : Nat → Prop) (x : De) (v : Value) (w : World) : Prop := ∃ e : De, v = .agg ⟨e.vals⟩ ∧ De.In w S e ∧ da e = x
def VDs (S : Nat → Prop) (xs : List De) (v : Value) (w : World) : Prop := ∃ (l : List De) (a : Option Addr) (cap : Nat), v = .slice a l.length cap ∧ RowAt w S a cap l.length (deCells l) ∧ De.InL w S l ∧ l.map da = xs

def Res.bind {α β : Type} : Res α → (α → Nat → Res β) → Res β
  | .ok x j, g => g x j
  | .bad p, _ => .bad p
def takeR (l : List Tk) (i : Nat) (s : ByteArray) : Res Unit := if tx l i = s then .ok () (i + 1) else .bad (ps l i)
def FU (l : List Tk) : Nat := 4 * l.length + 4
def exprR (l : List Tk) (i : Nat) : Res Ex := (joinedP l (FU l) 1 i).getD (.bad 0)
def stE (k : Int) (nm to : ByteArray) (new : Bool) (e : List Ex) (body els : List St) : St := .mk k nm to new none 0 e none 0 body none 0 els 0
def noB : ByteArray := ⟨#[]⟩

/-- the loop of list: of expressions, of names -/
def argsR (l : List Tk) : Nat → List Ex → Nat → Res (List Ex)
  | 0, _, _ => .bad 0
  | f + 1, acc, i => (exprR l i).bind fun e j => if tx l j = ⟨#[41]⟩ then .ok (acc ++ [e]) (j + 1) else (takeR l j ⟨#[44]⟩).bind fun _ k => argsR l f (acc ++ [e]) k
def parsR (l : List Tk) : Nat → List ByteArray → Nat → Res (List ByteArray)
  | 0, _, _ => .bad 0
  | f + 1, acc, i => (nameR l i).bind fun e j => if tx l j = ⟨#[41]⟩ then .ok (acc ++ [e]) (j + 1) else (takeR l j ⟨#[44]⟩).bind fun _ k => parsR l f (acc ++ [e]) k
def listE (l : List Tk) (i : Nat) : Res (List Ex) := (takeR l i ⟨#[40]⟩).bind fun _ j => if tx l j = ⟨#[41]⟩ then .ok [] (j + 1) else argsR l (l.length + 1) [] j
def listN (l : List Tk) (i : Nat) : Res (List ByteArray) := (takeR l i ⟨#[40]⟩).bind fun _ j => if tx l j = ⟨#[41]⟩ then .ok [] (j + 1) else parsR l (l.length + 1) [] j

def callR (l : List Tk) (i : Nat) : Res St := (nameR l i).bind fun nm j => (listE l j).bind fun es k => (takeR l k ⟨#[59]⟩).bind fun _ m => .ok (stE 8 nm noB false es [] []) m
def stTo (to : ByteArray) (new : Bool) : St → St
  | .mk k nm _ _ x xc e b bc body y yc els p => .mk k nm to new x xc e b bc body y yc els p
def becomesR (l : List Tk) (kind : Int) (name : ByteArray) (i : Nat) : Res St := (takeR l i ⟨#[61]⟩).bind fun _ j =>
  if tx l j = ⟨#[99, 97, 108, 108]⟩ then (callR l (j + 1)).bind fun s k => .ok (stTo name (decide (kind = 1)) s) k
  else (exprR l j).bind fun e k => (takeR l k ⟨#[59]⟩).bind fun _ m => .ok (stE kind name noB false [e] [] []) m
def varR (l : List Tk) (i : Nat) : Res St := (nameR l i).bind fun nm j => becomesR l 1 nm j
def nameStR (l : List Tk) (i : Nat) : Res St := (nameR l i).bind fun nm j => if tx l j = ⟨#[91]⟩ then
    (exprR l (j + 1)).bind fun p k => (takeR l k ⟨#[93]⟩).bind fun _ m => (takeR l m ⟨#[61]⟩).bind fun _ n => (exprR l n).bind fun v q => (takeR l q ⟨#[59]⟩).bind fun _ r => .ok (stE 3 nm noB false [p, v] [] []) r
  else becomesR l 2 nm j
def toldR (l : List Tk) (kind : Int) (i : Nat) : Res St := (exprR l i).bind fun e j => (takeR l j ⟨#[59]⟩).bind fun _ k => .ok (stE kind noB noB false [e] [] []) k

def wVar : ByteArray := ⟨#[118, 97, 114]⟩
def wIf : ByteArray := ⟨#[105, 102]⟩
def wWhile : ByteArray := ⟨#[119, 104, 105, 108, 101]⟩
def wWith : ByteArray := ⟨#[119, 105, 116, 104]⟩
def wPrint : ByteArray := ⟨#[112, 114, 105, 110, 116]⟩
def wCall : ByteArray := ⟨#[99, 97, 108, 108]⟩
def wReturn : ByteArray := ⟨#[114, 101, 116, 117, 114, 110]⟩
def wElse : ByteArray := ⟨#[101, 108, 115, 101]⟩
def wGlobal : ByteArray := ⟨#[103, 108, 111, 98, 97, 108]⟩
def wArray : ByteArray := ⟨#[97, 114, 114, 97, 121]⟩
def wLock : ByteArray := ⟨#[108, 111, 99, 107]⟩
def wFunc : ByteArray := ⟨#[102, 117, 110, 99]⟩
def wThread : ByteArray := ⟨#[116, 104, 114, 101, 97, 100]⟩

def stAt (p : Int) : St → St
  | .mk k nm to new x xc e b bc body y yc els _ => .mk k nm to new x xc e b bc body y yc els p
def Res.at (p : Int) : Res St → Res St
  | .ok s j => .ok (stAt p s) j
  | .bad q => .bad q
mutual
/-- a statement, by so much fuel -/
def stmtR (l : List Tk) : Nat → Nat → Res St
  | 0, _ => .bad 0
  | f + 1, i => Res.at (ps l i) (
    if tx l i = wVar then varR l (i + 1)
    else if tx l i = wIf then (exprR l (i + 1)).bind fun e j => (takeR l j ⟨#[123]⟩).bind fun _ k => (stmtsR l f [] k).bind fun b m =>
      if tx l m = wElse then (takeR l (m + 1) ⟨#[123]⟩).bind fun _ n => (stmtsR l f [] n).bind fun c q => .ok (stE 4 noB noB false [e] b c) q
      else .ok (stE 4 noB noB false [e] b []) m
    else if tx l i = wWhile then (exprR l (i + 1)).bind fun e j => (takeR l j ⟨#[123]⟩).bind fun _ k => (stmtsR l f [] k).bind fun b m => .ok (stE 5 noB noB false [e] b []) m
    else if tx l i = wWith then (nameR l (i + 1)).bind fun nm j => (takeR l j ⟨#[123]⟩).bind fun _ k => (stmtsR l f [] k).bind fun b m => .ok (stE 6 nm noB false [] b []) m
    else if tx l i = wPrint then toldR l 7 (i + 1)
    else if tx l i = wCall then callR l (i + 1)
    else if tx l i = wReturn then toldR l 9 (i + 1)
    else nameStR l i)
/-- statements up to } -/
def stmtsR (l : List Tk) : Nat → List St → Nat → Res (List St)
  | 0, _, _ => .bad 0
  | f + 1, acc, i => if tx l i = ⟨#[125]⟩ then .ok acc (i + 1) else (stmtR l f i).bind fun s j => stmtsR l f (acc ++ [s]) j
end
def blockR (l : List Tk) (f i : Nat) : Res (List St) := (takeR l i ⟨#[123]⟩).bind fun _ k => stmtsR l f [] k
def SF (l : List Tk) : Nat := 2 * l.length + 4

def deE (k : Int) (nm : ByteArray) (n : Int) (params : List ByteArray) (body : List St) (pos : Int) : De := ⟨k, nm, n, none, 0, params, none, 0, body, pos⟩
def declR (l : List Tk) (i : Nat) : Res De :=
  if tx l i = wGlobal then (nameR l (i + 1)).bind fun nm j => (takeR l j ⟨#[61]⟩).bind fun _ k => (if tx l k = ⟨#[45]⟩ then numR l (k + 1) ⟨#[45]⟩ else numR l k ⟨#[]⟩).bind fun n m => (takeR l m ⟨#[59]⟩).bind fun _ q => .ok (deE 1 nm n [] [] (ps l i)) q
  else if tx l i = wArray then (nameR l (i + 1)).bind fun nm j => (takeR l j ⟨#[91]⟩).bind fun _ k => (numR l k ⟨#[]⟩).bind fun n m => (takeR l m ⟨#[93]⟩).bind fun _ q => (takeR l q ⟨#[59]⟩).bind fun _ r => .ok (deE 2 nm n [] [] (ps l i)) r
  else if tx l i = wLock then (nameR l (i + 1)).bind fun nm j => (takeR l j ⟨#[59]⟩).bind fun _ k => .ok (deE 3 nm 0 [] [] (ps l i)) k
  else if tx l i = wFunc then (nameR l (i + 1)).bind fun nm j => (listN l j).bind fun p k => (blockR l (SF l) k).bind fun b m => .ok (deE 4 nm 0 p b (ps l i)) m
  else if tx l i = wThread then (nameR l (i + 1)).bind fun nm j => (blockR l (SF l) j).bind fun b m => .ok (deE 5 nm 0 [] b (ps l i)) m
  else .bad (ps l i)
def declsR (l : List Tk) : Nat → List De → Nat → Res (List De)
  | 0, _, _ => .bad 0
  | f + 1, acc, i => if i + 1 < l.length then (declR l i).bind fun d j => declsR l f (acc ++ [d]) j else .ok acc i
end Go.Proofs.YtpcdlneompnhlaaGreatDoor.Pa

namespace Go.Proofs.YtpcdlneompnhlaaGreatDoor.Pa
open Go Go.RowKit
open Go.Proofs.YtpcdlneompnhlaaGreatDoor.Lx Go.Proofs.YtpcdlneompnhlaaGreatDoor.Tr

theorem tx_lt {l : List Tk} {i : Nat} {s : ByteArray} (h : tx l i = s) (hs : s ≠ ⟨#[]⟩) : i < l.length := by
  by_cases hl : i < l.length
  · exact hl
  · exfalso
    apply hs
    rw [← h]
    unfold tx
    rw [List.getElem?_eq_none (by omega)]
    rfl
theorem tx_lt' {l : List Tk} {i : Nat} (h : tx l i ≠ ⟨#[]⟩) : i < l.length := tx_lt rfl h
theorem numR_lt {l : List Tk} {i : Nat} {s : ByteArray} {n : Int} {j : Nat} (h : numR l i s = .ok n j) : j = i + 1 := by
  unfold numR at h
  split at h
  · split at h
    · cases h; rfl
    · cases h
  · cases h
theorem nameR_lt {l : List Tk} {i : Nat} {s : ByteArray} {j : Nat} (h : nameR l i = .ok s j) : j = i + 1 := by
  unfold nameR at h
  split at h
  · cases h; rfl
  · cases h
theorem takeR_lt {l : List Tk} {i : Nat} {s : ByteArray} {u : Unit} {j : Nat} (h : takeR l i s = .ok u j) : j = i + 1 := by
  unfold takeR at h
  split at h
  · cases h; rfl
  · cases h
theorem growsS (l : List Tk) : ∀ f : Nat, (∀ i e j, unaryP l f i = some (.ok e j) → i < j) ∧ (∀ i e j, atomP l f i = some (.ok e j) → i < j) ∧ (∀ m i e j, joinedP l f m i = some (.ok e j) → i < j) ∧ (∀ m k x i e j, loopP l f m k x i = some (.ok e j) → i ≤ j) := by
  intro f
  induction f with
  | zero =>
    refine ⟨fun i e j h => ?_, fun i e j h => ?_, fun m i e j h => ?_, fun m k x i e j h => ?_⟩
    · unfold unaryP at h; cases h
    · unfold atomP at h; cases h
    · unfold joinedP at h; cases h
    · unfold loopP at h; cases h
  | succ f ih =>
    obtain ⟨hU, hA, hJ, hL⟩ := ih
    refine ⟨fun i e j h => ?_, fun i e j h => ?_, fun m i e j h => ?_, fun m k x i e j h => ?_⟩
    · unfold unaryP at h
      split at h
      · split at h
        · rename_i q; have := hU _ _ _ q; cases h; omega
        · rename_i q; have := hU _ _ _ h; omega
      · split at h
        · split at h
          · rename_i q; have := hU _ _ _ q; cases h; omega
          · rename_i q; have := hU _ _ _ h; omega
        · exact hA _ _ _ h
    · unfold atomP at h
      split at h
      · split at h
        · rename_i q; have := numR_lt q; cases h; omega
        · cases h
      · split at h
        · cases h; omega
        · split at h
          · cases h; omega
          · split at h
            · split at h
              · rename_i q
                have := hJ _ _ _ _ q
                split at h
                · cases h; omega
                · cases h
              · have := hJ _ _ _ _ h; omega
            · split at h
              · cases h
              · rename_i q
                have h1 := nameR_lt q
                split at h
                · split at h
                  · rename_i q2
                    have := hJ _ _ _ _ q2
                    split at h
                    · cases h; omega
                    · cases h
                  · have := hJ _ _ _ _ h; omega
                · cases h; omega
    · unfold joinedP at h
      split at h
      · rename_i q; have h1 := hU _ _ _ q; have h2 := hL _ _ _ _ _ _ h; omega
      · exact hU _ _ _ h
    · unfold loopP at h
      split at h
      · cases h; omega
      · split at h
        · rename_i q; have h1 := hJ _ _ _ _ q; have h2 := hL _ _ _ _ _ _ h; omega
        · have := hJ _ _ _ _ h; omega
theorem opr_none : (opr ⟨#[]⟩).binds = 0 := by decide
theorem opr_lt {l : List Tk} {i : Nat} (h : 1 ≤ (opr (tx l i)).binds) : i < l.length := by
  apply tx_lt'
  intro he
  rw [he, opr_none] at h
  omega
/-- so much fuel is enough -/
theorem enough (l : List Tk) : ∀ f : Nat, (∀ i, 4 * (l.length - i) + 3 ≤ f → unaryP l f i ≠ none) ∧ (∀ i, 4 * (l.length - i) + 2 ≤ f → atomP l f i ≠ none) ∧ (∀ m i, 1 ≤ m → 4 * (l.length - i) + 4 ≤ f → joinedP l f m i ≠ none) ∧ (∀ m k x i, 1 ≤ m → 4 * (l.length - i) + 1 ≤ f → loopP l f m k x i ≠ none) := by
  intro f
  induction f with
  | zero => exact ⟨fun i h => by omega, fun i h => by omega, fun m i _ h => by omega, fun m k x i _ h => by omega⟩
  | succ f ih =>
    obtain ⟨hU, hA, hJ, hL⟩ := ih
    refine ⟨fun i h => ?_, fun i h => ?_, fun m i hm h => ?_, fun m k x i hm h => ?_⟩
    · unfold unaryP
      split
      · rename_i q
        have := tx_lt q (by decide)
        split
        · exact fun h => by cases h
        · exact hU _ (by omega)
      · split
        · rename_i q
          have := tx_lt q (by decide)
          split
          · exact fun h => by cases h
          · exact hU _ (by omega)
        · exact hA _ (by omega)
    · unfold atomP
      split
      · split <;> exact fun h => by cases h
      · split
        · exact fun h => by cases h
        · split
          · exact fun h => by cases h
          · split
            · rename_i q
              have := tx_lt q (by decide)
              split
              · exact fun h => by cases h
              · exact hJ _ _ (by omega) (by omega)
            · split
              · exact fun h => by cases h
              · rename_i q
                have h1 := nameR_lt q
                split
                · rename_i q3
                  have := tx_lt q3 (by decide)
                  split
                  · exact fun h => by cases h
                  · exact hJ _ _ (by omega) (by omega)
                · exact fun h => by cases h
    · unfold joinedP
      split
      · rename_i q; have h1 := (growsS l f).1 _ _ _ q; exact hL _ _ _ _ hm (by omega)
      · exact hU _ (by omega)
    · unfold loopP
      split
      · exact fun h => by cases h
      · rename_i hc
        have hb : 1 ≤ (opr (tx l i)).binds := by omega
        have hlt := opr_lt hb
        split
        · rename_i q; have h1 := (growsS l f).2.2.1 _ _ _ _ q; exact hL _ _ _ _ hm (by omega)
        · exact hJ _ _ (by omega) (by omega)
theorem exprR_some (l : List Tk) (i : Nat) : joinedP l (FU l) 1 i = some (exprR l i) := by
  have h := (enough l (FU l)).2.2.1 1 i (by omega) (by unfold FU; omega)
  unfold exprR
  cases hq : joinedP l (FU l) 1 i with
  | none => exact absurd hq h
  | some r => rfl
theorem exprR_lt {l : List Tk} {i j : Nat} {e : Ex} (h : exprR l i = .ok e j) : i < j := by
  have := exprR_some l i
  rw [h] at this
  exact (growsS l _).2.2.1 _ _ _ _ this
theorem Res.bind_ok {α β : Type} {r : Res α} {g : α → Nat → Res β} {y : β} {k : Nat} (h : r.bind g = .ok y k) : ∃ x j, r = .ok x j ∧ g x j = .ok y k := by
  cases r with
  | ok x j => exact ⟨x, j, rfl, h⟩
  | bad p => cases h
theorem argsR_lt {l : List Tk} : ∀ (f : Nat) (acc : List Ex) (i : Nat) {e : List Ex} {j : Nat}, argsR l f acc i = .ok e j → i < j := by
  intro f
  induction f with
  | zero => intro acc i e j h; unfold argsR at h; cases h
  | succ f ih =>
    intro acc i e j h
    unfold argsR at h
    obtain ⟨x, k, h1, h2⟩ := Res.bind_ok h
    have := exprR_lt h1
    split at h2
    · cases h2; omega
    · obtain ⟨_, m, h3, h4⟩ := Res.bind_ok h2
      have := takeR_lt h3
      have := ih _ _ h4
      omega
theorem parsR_lt {l : List Tk} : ∀ (f : Nat) (acc : List ByteArray) (i : Nat) {e : List ByteArray} {j : Nat}, parsR l f acc i = .ok e j → i < j := by
  intro f
  induction f with
  | zero => intro acc i e j h; unfold parsR at h; cases h
  | succ f ih =>
    intro acc i e j h
    unfold parsR at h
    obtain ⟨x, k, h1, h2⟩ := Res.bind_ok h
    have := nameR_lt h1
    split at h2
    · cases h2; omega
    · obtain ⟨_, m, h3, h4⟩ := Res.bind_ok h2
      have := takeR_lt h3
      have := ih _ _ h4
      omega
theorem listE_lt {l : List Tk} {i j : Nat} {e : List Ex} (h : listE l i = .ok e j) : i < j := by
  unfold listE at h
  obtain ⟨_, k, h1, h2⟩ := Res.bind_ok h
  have := takeR_lt h1
  split at h2
  · cases h2; omega
  · have := argsR_lt _ _ _ h2; omega
theorem listN_lt {l : List Tk} {i j : Nat} {e : List ByteArray} (h : listN l i = .ok e j) : i < j := by
  unfold listN at h
  obtain ⟨_, k, h1, h2⟩ := Res.bind_ok h
  have := takeR_lt h1
  split at h2
  · cases h2; omega
  · have := parsR_lt _ _ _ h2; omega
theorem callR_lt {l : List Tk} {i j : Nat} {s : St} (h : callR l i = .ok s j) : i < j := by
  unfold callR at h
  obtain ⟨_, k, h1, h2⟩ := Res.bind_ok h
  obtain ⟨_, m, h3, h4⟩ := Res.bind_ok h2
  obtain ⟨_, n, h5, h6⟩ := Res.bind_ok h4
  have := nameR_lt h1
  have := listE_lt h3
  have := takeR_lt h5
  cases h6
  omega
theorem becomesR_lt {l : List Tk} {kd : Int} {nm : ByteArray} {i j : Nat} {s : St} (h : becomesR l kd nm i = .ok s j) : i < j := by
  unfold becomesR at h
  obtain ⟨_, k, h1, h2⟩ := Res.bind_ok h
  have := takeR_lt h1
  split at h2
  · obtain ⟨_, m, h3, h4⟩ := Res.bind_ok h2
    have := callR_lt h3
    cases h4
    omega
  · obtain ⟨_, m, h3, h4⟩ := Res.bind_ok h2
    obtain ⟨_, n, h5, h6⟩ := Res.bind_ok h4
    have := exprR_lt h3
    have := takeR_lt h5
    cases h6
    omega
theorem varR_lt {l : List Tk} {i j : Nat} {s : St} (h : varR l i = .ok s j) : i < j := by
  unfold varR at h
  obtain ⟨_, k, h1, h2⟩ := Res.bind_ok h
  have := nameR_lt h1
  have := becomesR_lt h2
  omega
theorem toldR_lt {l : List Tk} {kd : Int} {i j : Nat} {s : St} (h : toldR l kd i = .ok s j) : i < j := by
  unfold toldR at h
  obtain ⟨_, k, h1, h2⟩ := Res.bind_ok h
  obtain ⟨_, n, h5, h6⟩ := Res.bind_ok h2
  have := exprR_lt h1
  have := takeR_lt h5
  cases h6
  omega
theorem nameStR_lt {l : List Tk} {i j : Nat} {s : St} (h : nameStR l i = .ok s j) : i < j := by
  unfold nameStR at h
  obtain ⟨_, k, h1, h2⟩ := Res.bind_ok h
  have := nameR_lt h1
  split at h2
  · obtain ⟨_, a, h3, h4⟩ := Res.bind_ok h2
    obtain ⟨_, b, h5, h6⟩ := Res.bind_ok h4
    obtain ⟨_, c, h7, h8⟩ := Res.bind_ok h6
    obtain ⟨_, d, h9, h10⟩ := Res.bind_ok h8
    obtain ⟨_, e, h11, h12⟩ := Res.bind_ok h10
    have := exprR_lt h3
    have := takeR_lt h5
    have := takeR_lt h7
    have := exprR_lt h9
    have := takeR_lt h11
    cases h12
    omega
  · have := becomesR_lt h2; omega
theorem Res.at_ok {p : Int} {r : Res St} {s : St} {j : Nat} (h : r.at p = .ok s j) : ∃ t, r = .ok t j := by
  cases r with
  | ok t k => cases h; exact ⟨t, rfl⟩
  | bad q => cases h
theorem stmts_grow (l : List Tk) : ∀ f : Nat, (∀ i s j, stmtR l f i = .ok s j → i < j) ∧ (∀ acc i s j, stmtsR l f acc i = .ok s j → i < j) := by
  intro f
  induction f with
  | zero =>
    refine ⟨fun i e j h => ?_, fun acc i e j h => ?_⟩
    · unfold stmtR at h; cases h
    · unfold stmtsR at h; cases h
  | succ f ih =>
    obtain ⟨hS, hB⟩ := ih
    refine ⟨fun i s j h => ?_, fun acc i s j h => ?_⟩
    · unfold stmtR at h
      obtain ⟨t, h⟩ := Res.at_ok h
      split at h
      · have := varR_lt h; omega
      · split at h
        · obtain ⟨_, k, h1, h2⟩ := Res.bind_ok h
          obtain ⟨_, m, h3, h4⟩ := Res.bind_ok h2
          obtain ⟨_, n, h5, h6⟩ := Res.bind_ok h4
          have := exprR_lt h1
          have := takeR_lt h3
          have := hB _ _ _ _ h5
          split at h6
          · obtain ⟨_, o, h7, h8⟩ := Res.bind_ok h6
            obtain ⟨_, q, h9, h10⟩ := Res.bind_ok h8
            have := takeR_lt h7
            have := hB _ _ _ _ h9
            cases h10
            omega
          · cases h6; omega
        · split at h
          · obtain ⟨_, k, h1, h2⟩ := Res.bind_ok h
            obtain ⟨_, m, h3, h4⟩ := Res.bind_ok h2
            obtain ⟨_, n, h5, h6⟩ := Res.bind_ok h4
            have := exprR_lt h1
            have := takeR_lt h3
            have := hB _ _ _ _ h5
            cases h6; omega
          · split at h
            · obtain ⟨_, k, h1, h2⟩ := Res.bind_ok h
              obtain ⟨_, m, h3, h4⟩ := Res.bind_ok h2
              obtain ⟨_, n, h5, h6⟩ := Res.bind_ok h4
              have := nameR_lt h1
              have := takeR_lt h3
              have := hB _ _ _ _ h5
              cases h6; omega
            · split at h
              · have := toldR_lt h; omega
              · split at h
                · have := callR_lt h; omega
                · split at h
                  · have := toldR_lt h; omega
                  · exact nameStR_lt h
    · unfold stmtsR at h
      split at h
      · cases h; omega
      · obtain ⟨_, k, h1, h2⟩ := Res.bind_ok h
        have := hS _ _ _ h1
        have := hB _ _ _ _ h2
        omega
theorem blockR_lt {l : List Tk} {f i j : Nat} {s : List St} (h : blockR l f i = .ok s j) : i < j := by
  unfold blockR at h
  obtain ⟨_, k, h1, h2⟩ := Res.bind_ok h
  have := takeR_lt h1
  have := (stmts_grow l f).2 _ _ _ _ h2
  omega
theorem declR_lt {l : List Tk} {i j : Nat} {d : De} (h : declR l i = .ok d j) : i < j := by
  unfold declR at h
  split at h
  · obtain ⟨_, a, h1, h2⟩ := Res.bind_ok h
    obtain ⟨_, b, h3, h4⟩ := Res.bind_ok h2
    obtain ⟨_, c, h5, h6⟩ := Res.bind_ok h4
    obtain ⟨_, e, h7, h8⟩ := Res.bind_ok h6
    have := nameR_lt h1
    have := takeR_lt h3
    have := takeR_lt h7
    cases h8
    split at h5
    · have := numR_lt h5; omega
    · have := numR_lt h5; omega
  · split at h
    · obtain ⟨_, a, h1, h2⟩ := Res.bind_ok h
      obtain ⟨_, b, h3, h4⟩ := Res.bind_ok h2
      obtain ⟨_, c, h5, h6⟩ := Res.bind_ok h4
      obtain ⟨_, e, h7, h8⟩ := Res.bind_ok h6
      obtain ⟨_, g, h9, h10⟩ := Res.bind_ok h8
      have := nameR_lt h1
      have := takeR_lt h3
      have := numR_lt h5
      have := takeR_lt h7
      have := takeR_lt h9
      cases h10
      omega
    · split at h
      · obtain ⟨_, a, h1, h2⟩ := Res.bind_ok h
        obtain ⟨_, b, h3, h4⟩ := Res.bind_ok h2
        have := nameR_lt h1
        have := takeR_lt h3
        cases h4
        omega
      · split at h
        · obtain ⟨_, a, h1, h2⟩ := Res.bind_ok h
          obtain ⟨_, b, h3, h4⟩ := Res.bind_ok h2
          obtain ⟨_, c, h5, h6⟩ := Res.bind_ok h4
          have := nameR_lt h1
          have := listN_lt h3
          have := blockR_lt h5
          cases h6
          omega
        · split at h
          · obtain ⟨_, a, h1, h2⟩ := Res.bind_ok h
            obtain ⟨_, b, h3, h4⟩ := Res.bind_ok h2
            have := nameR_lt h1
            have := blockR_lt h3
            cases h4
            omega
          · cases h
end Go.Proofs.YtpcdlneompnhlaaGreatDoor.Pa
