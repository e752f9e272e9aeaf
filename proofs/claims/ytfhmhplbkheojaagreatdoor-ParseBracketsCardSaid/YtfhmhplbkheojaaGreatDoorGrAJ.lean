/- The plain parser on two rows of tokens that are alike but for their places: statements, declarations, programs. Conditions: none. · What a method that reads has of its own: blocks of memory, values that say trees; how calls, stores and new memory keep it. Conditions: none. -/
import Derived.Test.YtfhmhplbkheojaaGreatDoorGrAI
namespace Go.Proofs.YtfhmhplbkheojaaGreatDoor.Pa
open Go Go.RowKit
open Go.Proofs.YtfhmhplbkheojaaGreatDoor.Lx Go.Proofs.YtfhmhplbkheojaaGreatDoor.Tr

mutual
/-- a statement, its places turned by g -/
def sg (g : Int → Int) : St → St
  | .mk k nm to new x xc e b bc body y yc els pos => .mk k nm to new x xc (egL g e) b bc (sgL g body) y yc (sgL g els) (g pos)
def sgL (g : Int → Int) : List St → List St
  | [] => []
  | e :: r => sg g e :: sgL g r
end
theorem sg_eq (g : Int → Int) (k : Int) (nm to : ByteArray) (new : Bool) (x : Option Addr) (xc : Nat) (e : List Ex) (b : Option Addr) (bc : Nat) (body : List St) (y : Option Addr) (yc : Nat) (els : List St) (pos : Int) :
    sg g (.mk k nm to new x xc e b bc body y yc els pos) = .mk k nm to new x xc (egL g e) b bc (sgL g body) y yc (sgL g els) (g pos) := by unfold sg; rfl
theorem sgL_nil (g : Int → Int) : sgL g [] = [] := by unfold sgL; rfl
theorem sgL_cons (g : Int → Int) (e : St) (r : List St) : sgL g (e :: r) = sg g e :: sgL g r := by rw [sgL]
theorem sgL_map (g : Int → Int) (l : List St) : sgL g l = l.map (sg g) := by
  induction l with
  | nil => exact sgL_nil g
  | cons e r ih => rw [sgL_cons, ih]; rfl
def dg (g : Int → Int) (d : De) : De := ⟨d.kind, d.name, d.n, d.pa, d.pcap, d.params, d.ba, d.bcap, sgL g d.body, g d.pos⟩

mutual
def gS : St → Bool
  | .mk _ _ _ _ _ _ e _ _ body _ _ els _ => gL e && gSL body && gSL els
def gSL : List St → Bool
  | [] => true
  | e :: r => gS e && gSL r
end
theorem gS_eq (k : Int) (nm to : ByteArray) (new : Bool) (x : Option Addr) (xc : Nat) (e : List Ex) (b : Option Addr) (bc : Nat) (body : List St) (y : Option Addr) (yc : Nat) (els : List St) (pos : Int) :
    gS (.mk k nm to new x xc e b bc body y yc els pos) = (gL e && gSL body && gSL els) := by unfold gS; rfl
theorem gSL_nil : gSL [] = true := by unfold gSL; rfl
theorem gSL_cons (e : St) (r : List St) : gSL (e :: r) = (gS e && gSL r) := by rw [gSL]
theorem gSL_all (l : List St) : gSL l = l.all gS := by
  induction l with
  | nil => rw [gSL_nil]; rfl
  | cons e r ih => rw [gSL_cons, ih]; rfl
def XLg (g g' : Int → Int) (e e' : List Ex) : Prop := egL g' e' = egL g e ∧ gL e = true
theorem XLg.snoc {g g' : Int → Int} {a a' : List Ex} {e e' : Ex} (h : XLg g g' a a') (k : XEg g g' e e') : XLg g g' (a ++ [e]) (a' ++ [e']) := by
  obtain ⟨h, h2⟩ := h
  obtain ⟨k, k2⟩ := k
  constructor
  · rw [egL_map, egL_map] at *
    rw [List.map_append, List.map_append, h, List.map_cons, List.map_cons, k]; rfl
  · rw [gL_all] at *
    rw [List.all_append, h2]
    simp [k2]
/-- statements, alike but for their own place -/
def XT0 (g g' : Int → Int) (s s' : St) : Prop := (∀ p p', g' p' = g p → sg g' (stAt p' s') = sg g (stAt p s)) ∧ gS s = true
def XT (g g' : Int → Int) (s s' : St) : Prop := sg g' s' = sg g s ∧ gS s = true
def XTL (g g' : Int → Int) (s s' : List St) : Prop := sgL g' s' = sgL g s ∧ gSL s = true
theorem XTL.snoc {g g' : Int → Int} {a a' : List St} {e e' : St} (h : XTL g g' a a') (k : XT g g' e e') : XTL g g' (a ++ [e]) (a' ++ [e']) := by
  obtain ⟨h, h2⟩ := h
  obtain ⟨k, k2⟩ := k
  constructor
  · rw [sgL_map, sgL_map] at *
    rw [List.map_append, List.map_append, h, List.map_cons, List.map_cons, k]; rfl
  · rw [gSL_all] at *
    rw [List.all_append, h2]
    simp [k2]
theorem XTL.nil (g g' : Int → Int) : XTL g g' [] [] := ⟨by rw [sgL_nil, sgL_nil], gSL_nil⟩
theorem XLg.nil (g g' : Int → Int) : XLg g g' [] [] := ⟨by rw [egL_nil, egL_nil], gL_nil⟩
theorem XLg.one {g g' : Int → Int} {e e' : Ex} (k : XEg g g' e e') : XLg g g' [e] [e'] := (XLg.nil g g').snoc k
theorem XLg.two {g g' : Int → Int} {e e' a a' : Ex} (k : XEg g g' e e') (m : XEg g g' a a') : XLg g g' [e, a] [e', a'] := ((XLg.nil g g').snoc k).snoc m
theorem stE_lk {g g' : Int → Int} {k : Int} {nm to : ByteArray} {new : Bool} {e e' : List Ex} {b b' c c' : List St} (h1 : XLg g g' e e') (h2 : XTL g g' b b') (h3 : XTL g g' c c') : XT0 g g' (stE k nm to new e b c) (stE k nm to new e' b' c') := by
  refine ⟨fun p p' hp => ?_, by unfold stE; rw [gS_eq, h1.2, h2.2, h3.2]; rfl⟩
  unfold stE stAt
  simp only
  rw [sg_eq, sg_eq, h1.1, h2.1, h3.1, hp]
theorem stTo_at (to : ByteArray) (new : Bool) (p : Int) (s : St) : stAt p (stTo to new s) = stTo to new (stAt p s) := by cases s; rfl
theorem sg_to (g : Int → Int) (to : ByteArray) (new : Bool) (s : St) : sg g (stTo to new s) = stTo to new (sg g s) := by
  cases s
  unfold stTo
  simp only
  rw [sg_eq, sg_eq]
theorem stTo_lk {g g' : Int → Int} {to : ByteArray} {new : Bool} {s s' : St} (h : XT0 g g' s s') : XT0 g g' (stTo to new s) (stTo to new s') := by
  refine ⟨fun p p' hp => by rw [stTo_at, stTo_at, sg_to, sg_to, h.1 p p' hp], ?_⟩
  have := h.2
  cases s
  unfold stTo
  simp only
  rw [gS_eq] at *
  exact this
theorem gS_at (p : Int) (s : St) : gS (stAt p s) = gS s := by
  cases s
  unfold stAt
  simp only
  rw [gS_eq, gS_eq]

theorem argsR_lk {g g' : Int → Int} {l l' : List Tk} (H : Tw g g' l l') : ∀ (f : Nat) (acc acc' : List Ex) (i : Nat), i < l.length → l.length - i ≤ f → XLg g g' acc acc' → Lk g g' l.length (XLg g g') (argsR l f acc i) (argsR l' f acc' i)
  | 0, acc, acc', i, hi, hf, ha => by omega
  | f + 1, acc, acc', i, hi, hf, ha => by
    unfold argsR
    refine (exprR_lk H hi).bind fun e e' j hj he hr => ?_
    have hg := exprR_lt hr
    simp only [H.tx]
    refine lk_if (fun h => ⟨rfl, H.nxt (by rw [h]; decide), ha.snoc he⟩) (fun _ => ?_)
    refine (takeR_lk H hj (by decide)).bind fun _ _ k hk _ hr2 => ?_
    have hg2 := takeR_lt hr2
    exact argsR_lk H f _ _ k hk (by omega) (ha.snoc he)
theorem parsR_lk {g g' : Int → Int} {l l' : List Tk} (H : Tw g g' l l') : ∀ (f : Nat) (acc : List ByteArray) (i : Nat), i < l.length → l.length - i ≤ f → Lk g g' l.length Eqq (parsR l f acc i) (parsR l' f acc i)
  | 0, acc, i, hi, hf => by omega
  | f + 1, acc, i, hi, hf => by
    unfold parsR
    refine (nameR_lk H hi).bind fun e e' j hj he hr => ?_
    obtain ⟨rfl, _⟩ := he
    have hg := nameR_lt hr
    simp only [H.tx]
    refine lk_if (fun h => ⟨rfl, H.nxt (by rw [h]; decide), rfl⟩) (fun _ => ?_)
    refine (takeR_lk H hj (by decide)).bind fun _ _ k hk _ hr2 => ?_
    have hg2 := takeR_lt hr2
    exact parsR_lk H f _ k hk (by omega)
theorem listE_lk {g g' : Int → Int} {l l' : List Tk} (H : Tw g g' l l') {i : Nat} (hi : i < l.length) : Lk g g' l.length (XLg g g') (listE l i) (listE l' i) := by
  unfold listE
  refine (takeR_lk H hi (by decide)).bind fun _ _ j hj _ _ => ?_
  simp only [H.tx, H.len]
  exact lk_if (fun h => ⟨rfl, H.nxt (by rw [h]; decide), XLg.nil g g'⟩) (fun _ => argsR_lk H _ _ _ j hj (by omega) (XLg.nil g g'))
theorem listN_lk {g g' : Int → Int} {l l' : List Tk} (H : Tw g g' l l') {i : Nat} (hi : i < l.length) : Lk g g' l.length Eqq (listN l i) (listN l' i) := by
  unfold listN
  refine (takeR_lk H hi (by decide)).bind fun _ _ j hj _ _ => ?_
  simp only [H.tx, H.len]
  exact lk_if (fun h => ⟨rfl, H.nxt (by rw [h]; decide), rfl⟩) (fun _ => parsR_lk H _ _ j hj (by omega))
theorem callR_lk {g g' : Int → Int} {l l' : List Tk} (H : Tw g g' l l') {i : Nat} (hi : i < l.length) : Lk g g' l.length (XT0 g g') (callR l i) (callR l' i) := by
  unfold callR
  refine (nameR_lk H hi).bind fun nm _ j hj he _ => ?_
  obtain ⟨rfl, _⟩ := he
  refine (listE_lk H hj).bind fun es es' k hk he _ => ?_
  refine (takeR_lk H hk (by decide)).bind fun _ _ m hm _ _ => ?_
  exact ⟨rfl, hm, stE_lk he (XTL.nil _ _) (XTL.nil _ _)⟩
theorem becomesR_lk {g g' : Int → Int} {l l' : List Tk} (H : Tw g g' l l') {i : Nat} (hi : i < l.length) (k : Int) (nm : ByteArray) : Lk g g' l.length (XT0 g g') (becomesR l k nm i) (becomesR l' k nm i) := by
  unfold becomesR
  refine (takeR_lk H hi (by decide)).bind fun _ _ j hj _ _ => ?_
  simp only [H.tx]
  refine lk_if (fun h => ?_) (fun _ => ?_)
  · refine (callR_lk H (H.nxt (by rw [h]; decide))).bind fun s s' q hq hs _ => ?_
    exact ⟨rfl, hq, stTo_lk hs⟩
  · refine (exprR_lk H hj).bind fun e e' q hq he _ => ?_
    refine (takeR_lk H hq (by decide)).bind fun _ _ m hm _ _ => ?_
    exact ⟨rfl, hm, stE_lk (XLg.one he) (XTL.nil _ _) (XTL.nil _ _)⟩
theorem varR_lk {g g' : Int → Int} {l l' : List Tk} (H : Tw g g' l l') {i : Nat} (hi : i < l.length) : Lk g g' l.length (XT0 g g') (varR l i) (varR l' i) := by
  unfold varR
  refine (nameR_lk H hi).bind fun nm _ j hj he _ => ?_
  obtain ⟨rfl, _⟩ := he
  exact becomesR_lk H hj _ _
theorem toldR_lk {g g' : Int → Int} {l l' : List Tk} (H : Tw g g' l l') {i : Nat} (hi : i < l.length) (k : Int) : Lk g g' l.length (XT0 g g') (toldR l k i) (toldR l' k i) := by
  unfold toldR
  refine (exprR_lk H hi).bind fun e e' q hq he _ => ?_
  refine (takeR_lk H hq (by decide)).bind fun _ _ m hm _ _ => ?_
  exact ⟨rfl, hm, stE_lk (XLg.one he) (XTL.nil _ _) (XTL.nil _ _)⟩
theorem nameStR_lk {g g' : Int → Int} {l l' : List Tk} (H : Tw g g' l l') {i : Nat} (hi : i < l.length) : Lk g g' l.length (XT0 g g') (nameStR l i) (nameStR l' i) := by
  unfold nameStR
  refine (nameR_lk H hi).bind fun nm _ j hj he _ => ?_
  obtain ⟨rfl, _⟩ := he
  simp only [H.tx]
  refine lk_if (fun h => ?_) (fun _ => becomesR_lk H hj _ _)
  refine (exprR_lk H (H.nxt (by rw [h]; decide))).bind fun p p' k hk hp _ => ?_
  refine (takeR_lk H hk (by decide)).bind fun _ _ m hm _ _ => ?_
  refine (takeR_lk H hm (by decide)).bind fun _ _ n hn _ _ => ?_
  refine (exprR_lk H hn).bind fun v v' q hq hv _ => ?_
  refine (takeR_lk H hq (by decide)).bind fun _ _ r hr _ _ => ?_
  exact ⟨rfl, hr, stE_lk (XLg.two hp hv) (XTL.nil _ _) (XTL.nil _ _)⟩
theorem at_lk {g g' : Int → Int} {n : Nat} {p p' : Int} (hp : g' p' = g p) {r r' : Res St} (h : Lk g g' n (XT0 g g') r r') : Lk g g' n (XT g g') (r.at p) (r'.at p') := by
  cases r with
  | ok e j =>
    cases r' with
    | ok e' j' => obtain ⟨rfl, h1, h2⟩ := h; exact ⟨rfl, h1, h2.1 p p' hp, by rw [gS_at]; exact h2.2⟩
    | bad p' => exact h.elim
  | bad p =>
    cases r' with
    | ok e' j' => exact h.elim
    | bad p' => exact h

set_option maxHeartbeats 1000000 in
theorem stmts_lk {g g' : Int → Int} {l l' : List Tk} (H : Tw g g' l l') : ∀ f : Nat,
    (∀ i, i < l.length → 2 * (l.length - i) + 1 ≤ f → Lk g g' l.length (XT g g') (stmtR l f i) (stmtR l' f i)) ∧
    (∀ acc acc' i, i < l.length → 2 * (l.length - i) + 2 ≤ f → XTL g g' acc acc' → Lk g g' l.length (XTL g g') (stmtsR l f acc i) (stmtsR l' f acc' i)) := by
  intro f
  induction f with
  | zero => exact ⟨fun i hi h => by omega, fun acc acc' i hi h => by omega⟩
  | succ f ih =>
    obtain ⟨hS, hL⟩ := ih
    refine ⟨fun i hi hf => ?_, fun acc acc' i hi hf ha => ?_⟩
    · unfold stmtR
      refine at_lk (H.ps i hi) ?_
      simp only [H.tx]
      refine lk_if (fun h => varR_lk H (H.nxt (by rw [h]; decide))) (fun _ => ?_)
      refine lk_if (fun h => ?_) (fun _ => ?_)
      · refine (exprR_lk H (H.nxt (by rw [h]; decide))).bind fun e e' j hj he hr => ?_
        have g1 := exprR_lt hr
        refine (takeR_lk H hj (by decide)).bind fun _ _ k hk _ hr2 => ?_
        have g2 := takeR_lt hr2
        refine (hL [] [] k hk (by omega) (XTL.nil _ _)).bind fun b b' m hm hb hr3 => ?_
        have g3 := (stmts_grow l f).2 _ _ _ _ hr3
        refine lk_if (fun h2 => ?_) (fun _ => ⟨rfl, hm, stE_lk (XLg.one he) hb (XTL.nil _ _)⟩)
        refine (takeR_lk H (H.nxt (by rw [h2]; decide)) (by decide)).bind fun _ _ n hn _ hr4 => ?_
        have g4 := takeR_lt hr4
        refine (hL [] [] n hn (by omega) (XTL.nil _ _)).bind fun c c' q hq hc _ => ?_
        exact ⟨rfl, hq, stE_lk (XLg.one he) hb hc⟩
      refine lk_if (fun h => ?_) (fun _ => ?_)
      · refine (exprR_lk H (H.nxt (by rw [h]; decide))).bind fun e e' j hj he hr => ?_
        have g1 := exprR_lt hr
        refine (takeR_lk H hj (by decide)).bind fun _ _ k hk _ hr2 => ?_
        have g2 := takeR_lt hr2
        refine (hL [] [] k hk (by omega) (XTL.nil _ _)).bind fun b b' m hm hb hr3 => ?_
        exact ⟨rfl, hm, stE_lk (XLg.one he) hb (XTL.nil _ _)⟩
      refine lk_if (fun h => ?_) (fun _ => ?_)
      · refine (nameR_lk H (H.nxt (by rw [h]; decide))).bind fun e e' j hj he hr => ?_
        obtain ⟨rfl, _⟩ := he
        have g1 := nameR_lt hr
        refine (takeR_lk H hj (by decide)).bind fun _ _ k hk _ hr2 => ?_
        have g2 := takeR_lt hr2
        refine (hL [] [] k hk (by omega) (XTL.nil _ _)).bind fun b b' m hm hb hr3 => ?_
        exact ⟨rfl, hm, stE_lk (XLg.nil _ _) hb (XTL.nil _ _)⟩
      refine lk_if (fun h => toldR_lk H (H.nxt (by rw [h]; decide)) _) (fun _ => ?_)
      refine lk_if (fun h => callR_lk H (H.nxt (by rw [h]; decide))) (fun _ => ?_)
      exact lk_if (fun h => toldR_lk H (H.nxt (by rw [h]; decide)) _) (fun _ => nameStR_lk H hi)
    · unfold stmtsR
      simp only [H.tx]
      refine lk_if (fun h => ⟨rfl, H.nxt (by rw [h]; decide), ha⟩) (fun _ => ?_)
      refine (hS i hi (by omega)).bind fun s s' j hj hs hr => ?_
      have g1 := (stmts_grow l f).1 _ _ _ hr
      exact hL _ _ j hj (by omega) (ha.snoc hs)
theorem blockR_lk {g g' : Int → Int} {l l' : List Tk} (H : Tw g g' l l') {i : Nat} (hi : i < l.length) : Lk g g' l.length (XTL g g') (blockR l (SF l) i) (blockR l' (SF l') i) := by
  have hf : SF l' = SF l := by unfold SF; rw [H.len]
  rw [hf]
  unfold blockR
  refine (takeR_lk H hi (by decide)).bind fun _ _ k hk _ _ => ?_
  exact (stmts_lk H (SF l)).2 [] [] k hk (by unfold SF; omega) (XTL.nil _ _)

def XD (g g' : Int → Int) (d d' : De) : Prop := dg g' d' = dg g d ∧ gSL d.body = true
def XDL (g g' : Int → Int) (d d' : List De) : Prop := d'.map (dg g') = d.map (dg g) ∧ ∀ x ∈ d, gSL x.body = true
theorem XDL.snoc {g g' : Int → Int} {a a' : List De} {e e' : De} (h : XDL g g' a a') (k : XD g g' e e') : XDL g g' (a ++ [e]) (a' ++ [e']) := by
  obtain ⟨h, h2⟩ := h
  obtain ⟨k, k2⟩ := k
  constructor
  · rw [List.map_append, List.map_append, h, List.map_cons, List.map_cons, k]; rfl
  · intro x hx
    rcases List.mem_append.1 hx with hx | hx
    · exact h2 x hx
    · rw [List.mem_singleton.1 hx]; exact k2
theorem deE_lk {g g' : Int → Int} {k : Int} {nm : ByteArray} {n : Int} {ps : List ByteArray} {b b' : List St} {p p' : Int} (h : XTL g g' b b') (hp : g' p' = g p) : XD g g' (deE k nm n ps b p) (deE k nm n ps b' p') := by
  refine ⟨?_, h.2⟩
  unfold deE dg
  simp only
  rw [h.1, hp]
set_option maxHeartbeats 1000000 in
theorem declR_lk {g g' : Int → Int} {l l' : List Tk} (H : Tw g g' l l') {i : Nat} (hi : i < l.length) : Lk g g' l.length (XD g g') (declR l i) (declR l' i) := by
  unfold declR
  simp only [H.tx]
  refine lk_if (fun h => ?_) (fun _ => ?_)
  · refine (nameR_lk H (H.nxt (by rw [h]; decide))).bind fun e e' j hj he _ => ?_
    obtain ⟨rfl, _⟩ := he
    refine (takeR_lk H hj (by decide)).bind fun _ _ k hk _ _ => ?_
    have hnum : Lk g g' l.length Eqq (if tx l k = ⟨#[45]⟩ then numR l (k + 1) ⟨#[45]⟩ else numR l k ⟨#[]⟩) (if tx l' k = ⟨#[45]⟩ then numR l' (k + 1) ⟨#[45]⟩ else numR l' k ⟨#[]⟩) := by
      simp only [H.tx]
      exact lk_if (fun h => numR_lk H (H.nxt (by rw [h]; decide)) _) (fun _ => numR_lk H hk _)
    simp only [H.tx] at hnum
    refine hnum.bind fun n n' m hm hn _ => ?_
    cases hn
    refine (takeR_lk H hm (by decide)).bind fun _ _ q hq _ _ => ?_
    exact ⟨rfl, hq, deE_lk (XTL.nil _ _) (H.ps i hi)⟩
  refine lk_if (fun h => ?_) (fun _ => ?_)
  · refine (nameR_lk H (H.nxt (by rw [h]; decide))).bind fun e e' j hj he _ => ?_
    obtain ⟨rfl, _⟩ := he
    refine (takeR_lk H hj (by decide)).bind fun _ _ k hk _ _ => ?_
    refine (numR_lk H hk _).bind fun n n' m hm hn _ => ?_
    cases hn
    refine (takeR_lk H hm (by decide)).bind fun _ _ q hq _ _ => ?_
    refine (takeR_lk H hq (by decide)).bind fun _ _ r hr _ _ => ?_
    exact ⟨rfl, hr, deE_lk (XTL.nil _ _) (H.ps i hi)⟩
  refine lk_if (fun h => ?_) (fun _ => ?_)
  · refine (nameR_lk H (H.nxt (by rw [h]; decide))).bind fun e e' j hj he _ => ?_
    obtain ⟨rfl, _⟩ := he
    refine (takeR_lk H hj (by decide)).bind fun _ _ k hk _ _ => ?_
    exact ⟨rfl, hk, deE_lk (XTL.nil _ _) (H.ps i hi)⟩
  refine lk_if (fun h => ?_) (fun _ => ?_)
  · refine (nameR_lk H (H.nxt (by rw [h]; decide))).bind fun e e' j hj he _ => ?_
    obtain ⟨rfl, _⟩ := he
    refine (listN_lk H hj).bind fun p p' k hk hp _ => ?_
    cases hp
    refine (blockR_lk H hk).bind fun b b' m hm hb _ => ?_
    exact ⟨rfl, hm, deE_lk hb (H.ps i hi)⟩
  refine lk_if (fun h => ?_) (fun _ => ?_)
  · refine (nameR_lk H (H.nxt (by rw [h]; decide))).bind fun e e' j hj he _ => ?_
    obtain ⟨rfl, _⟩ := he
    refine (blockR_lk H hj).bind fun b b' m hm hb _ => ?_
    exact ⟨rfl, hm, deE_lk hb (H.ps i hi)⟩
  exact H.ps i hi
theorem declsR_lk {g g' : Int → Int} {l l' : List Tk} (H : Tw g g' l l') : ∀ (f : Nat) (acc acc' : List De) (i : Nat), i < l.length → l.length - i ≤ f → XDL g g' acc acc' → Lk g g' l.length (XDL g g') (declsR l f acc i) (declsR l' f acc' i)
  | 0, acc, acc', i, hi, hf, ha => by omega
  | f + 1, acc, acc', i, hi, hf, ha => by
    unfold declsR
    rw [H.len]
    refine lk_if (fun _ => ?_) (fun _ => ⟨rfl, hi, ha⟩)
    refine (declR_lk H hi).bind fun d d' j hj hd hr => ?_
    have g1 := declR_lt hr
    exact declsR_lk H f _ _ j hj (by omega) (ha.snoc hd)
end Go.Proofs.YtfhmhplbkheojaaGreatDoor.Pa

namespace Go.Proofs.YtfhmhplbkheojaaGreatDoor.Pa
open Go Go.RowKit
open Go.Proofs.YtfhmhplbkheojaaGreatDoor.Lx Go.Proofs.YtfhmhplbkheojaaGreatDoor.Tr

mutual
theorem StIn.there {w : World} {S : Nat → Prop} : ∀ e, St.In w S e → St.In w (fun b => S b ∧ b < w.heap.size) e
  | .mk k nm to new ea ecap e ba bcap body la lcap els pos, h => by
    unfold St.In at h ⊢
    obtain ⟨h1, h2, h3, h4, h5, h6, h7, h8, h9, h10⟩ := h
    exact ⟨h1, h2, h3, h4, row_there h5, InL.there _ h6, row_there h7, StInL.there _ h8, row_there h9, StInL.there _ h10⟩
theorem StInL.there {w : World} {S : Nat → Prop} : ∀ l, St.InL w S l → St.InL w (fun b => S b ∧ b < w.heap.size) l
  | [], _ => by unfold St.InL; trivial
  | e :: r, h => by
    unfold St.InL at h ⊢
    exact ⟨StIn.there e h.1, StInL.there r h.2⟩
end
theorem DeIn.there {w : World} {S : Nat → Prop} {d : De} (h : De.In w S d) : De.In w (fun b => S b ∧ b < w.heap.size) d :=
  ⟨h.1, h.2.1, h.2.2.1, h.2.2.2.1, row_there h.2.2.2.2.1, h.2.2.2.2.2.1, row_there h.2.2.2.2.2.2.1, StInL.there _ h.2.2.2.2.2.2.2⟩

/-- a fact on values, in blocks of S -/
structure Fact where
  P : (Nat → Prop) → World → Prop
  mono : ∀ {S S' : Nat → Prop} {W : World}, (∀ b, S b → S' b) → P S W → P S' W
  keep : ∀ {S : Nat → Prop} {W W' : World}, Kps S W W' → P S W → P S W'
  there : ∀ {S : Nat → Prop} {W : World}, P S W → P (fun b => S b ∧ b < W.heap.size) W
def Fact.X (e : Ex) : Fact := ⟨fun S W => Ex.In W S e, fun h => Ex.In.mono h e, fun h => Ex.In.below h e, In.there e⟩
def Fact.Xs (l : List Ex) (a : Option Addr) (cap : Nat) : Fact :=
  ⟨fun S W => RowAt W S a cap l.length (exCells l) ∧ Ex.InL W S l, fun h k => ⟨k.1.mono h, Ex.InL.mono h _ k.2⟩, fun h k => ⟨k.1.below h, Ex.InL.below h _ k.2⟩, fun k => ⟨row_there k.1, InL.there _ k.2⟩⟩
def Fact.T (e : St) : Fact := ⟨fun S W => St.In W S e, fun h => St.In.mono h e, fun h => St.In.below h e, StIn.there e⟩
def Fact.Ts (l : List St) (a : Option Addr) (cap : Nat) : Fact :=
  ⟨fun S W => RowAt W S a cap l.length (stCells l) ∧ St.InL W S l, fun h k => ⟨k.1.mono h, St.InL.mono h _ k.2⟩, fun h k => ⟨k.1.below h, St.InL.below h _ k.2⟩, fun k => ⟨row_there k.1, StInL.there _ k.2⟩⟩
def Fact.N (l : List ByteArray) (a : Option Addr) (cap : Nat) : Fact :=
  ⟨fun S W => RowAt W S a cap l.length (strCells l), fun h k => k.mono h, fun h k => k.below h, fun k => row_there k⟩
def Fact.D (d : De) : Fact := ⟨fun S W => De.In W S d, fun h k => k.mono h, fun h k => k.below h, fun k => DeIn.there k⟩
def Fact.Ds (l : List De) (a : Option Addr) (cap : Nat) : Fact :=
  ⟨fun S W => RowAt W S a cap l.length (deCells l) ∧ De.InL W S l, fun h k => ⟨k.1.mono h, k.2.mono h⟩, fun h k => ⟨k.1.below h, k.2.below h⟩, fun k => ⟨row_there k.1, fun d hd => DeIn.there (k.2 d hd)⟩⟩

/-- a method's frame: the reader stands at token i; own blocks with what they hold; facts on values -/
structure Fr (c : Rc) (w0 : World) (i : Nat) (bs : List (Nat × Obj)) (fs : List Fact) (W : World) : Prop where
  rd : Rd c i W
  lo : Low c w0.heap.size
  re : RE c.rb w0 W
  bl : ∀ x ∈ bs, W.heap[x.1]? = some x.2 ∧ w0.heap.size ≤ x.1
  nd : (bs.map Prod.fst).Nodup
  ft : ∀ f ∈ fs, f.P (fun b => w0.heap.size ≤ b ∧ b < W.heap.size ∧ ∀ x ∈ bs, b ≠ x.1) W
theorem Fr.start {c : Rc} {w : World} {i : Nat} (h : Rd c i w) : Fr c w i [] [] w := ⟨h, h.low, RE.refl _ _, by simp, by simp, by simp⟩
theorem Fr.hd {c : Rc} {w0 W : World} {i b : Nat} {o : Obj} {bs : List (Nat × Obj)} {fs : List Fact} (h : Fr c w0 i ((b, o) :: bs) fs W) : W.heap[b]? = some o := (h.bl (b, o) (by simp)).1
theorem Fr.hd2 {c : Rc} {w0 W : World} {i b : Nat} {o : Obj} {x : Nat × Obj} {bs : List (Nat × Obj)} {fs : List Fact} (h : Fr c w0 i (x :: (b, o) :: bs) fs W) : W.heap[b]? = some o := (h.bl (b, o) (by simp)).1
theorem Fr.hd3 {c : Rc} {w0 W : World} {i b : Nat} {o : Obj} {x y : Nat × Obj} {bs : List (Nat × Obj)} {fs : List Fact} (h : Fr c w0 i (x :: y :: (b, o) :: bs) fs W) : W.heap[b]? = some o := (h.bl (b, o) (by simp)).1
theorem Fr.swap {c : Rc} {w0 W : World} {i : Nat} {x y : Nat × Obj} {bs : List (Nat × Obj)} {fs : List Fact} (h : Fr c w0 i (x :: y :: bs) fs W) : Fr c w0 i (y :: x :: bs) fs W := by
  have hm : ∀ z, z ∈ y :: x :: bs ↔ z ∈ x :: y :: bs := fun z => by simp only [List.mem_cons]; constructor <;> (rintro (h | h | h) <;> simp [h])
  refine ⟨h.rd, h.lo, h.re, fun z hz => h.bl z ((hm z).1 hz), ?_, fun f hf => f.mono (fun b hb => ⟨hb.1, hb.2.1, fun z hz => hb.2.2 z ((hm z).1 hz)⟩) (h.ft f hf)⟩
  have := h.nd
  simp only [List.map_cons, List.nodup_cons, List.mem_cons, not_or] at this ⊢
  exact ⟨⟨fun e => this.1.1 e.symm, this.2.1⟩, this.1.2, this.2.2⟩
theorem Fr.drewN {c : Rc} {w0 W : World} {i : Nat} {bs : List (Nat × Obj)} {fs : List Fact} (h : Fr c w0 i bs fs W) (n : Nat) : Fr c w0 i bs fs (W.drewN n) :=
  ⟨h.rd.drewN n, h.lo, h.re.trans (RE.drewN W n), h.bl, h.nd, fun f hf => by have := f.keep (W := W) (W' := W.drewN n) (fun _ _ _ _ hc => hc) (h.ft f hf); exact this⟩
/-- more memory -/
theorem Fr.ext {c : Rc} {w0 W W' : World} {i : Nat} {bs : List (Nat × Obj)} {fs : List Fact} (h : Fr c w0 i bs fs W) (hb : Below W.heap.size W W') : Fr c w0 i bs fs W' :=
  ⟨h.rd.ext hb, h.lo, h.re.trans (RE.of_below hb), fun x hx => ⟨(hb.block _ (cells_lt (h.bl x hx).1)).trans (h.bl x hx).1, (h.bl x hx).2⟩, h.nd,
    fun f hf => f.mono (fun _ hk => ⟨hk.1, Nat.lt_of_lt_of_le hk.2.1 hb.size, hk.2.2⟩) (f.keep (Kps.of_below hb) (h.ft f hf))⟩
theorem Fr.add {c : Rc} {w0 W : World} {i : Nat} {bs : List (Nat × Obj)} {fs : List Fact} (h : Fr c w0 i bs fs W) (f : Fact) (hf : f.P (fun b => w0.heap.size ≤ b ∧ b < W.heap.size ∧ ∀ x ∈ bs, b ≠ x.1) W) : Fr c w0 i bs (f :: fs) W :=
  ⟨h.rd, h.lo, h.re, h.bl, h.nd, fun g hg => by
    rcases List.mem_cons.1 hg with rfl | hg
    · exact hf
    · exact h.ft g hg⟩
theorem Fr.alloc {c : Rc} {w0 W : World} {i : Nat} {bs : List (Nat × Obj)} {fs : List Fact} (h : Fr c w0 i bs fs W) (vs : Array Value) (T : TypeId) : Fr c w0 i ((W.heap.size, .cells vs T (0, 0)) :: bs) fs (W.alloc (.cells vs T)) := by
  have hb : Below W.heap.size W (W.alloc (.cells vs T)) := (Below.refl _ _).alloc (Nat.le_refl _) _
  have h1 := h.ext hb
  refine ⟨h1.rd, h1.lo, h1.re, fun x hx => ?_, ?_, fun f hf => ?_⟩
  · rcases List.mem_cons.1 hx with rfl | hx
    · exact ⟨World.alloc_heap_new W _, h.re.size⟩
    · exact h1.bl x hx
  · simp only [List.map_cons, List.nodup_cons]
    refine ⟨fun hm => ?_, h.nd⟩
    obtain ⟨x, hx, he⟩ := List.mem_map.1 hm
    have := cells_lt (h.bl x hx).1
    omega
  · refine f.mono (fun b hb2 => ⟨hb2.1, Nat.lt_of_lt_of_le hb2.2.1 hb.size, fun x hx => ?_⟩) (f.keep (Kps.alloc _ _) (h.ft f hf))
    rcases List.mem_cons.1 hx with rfl | hx
    · exact Nat.ne_of_lt hb2.2.1
    · exact hb2.2.2 x hx
theorem Fr.set {c : Rc} {w0 W : World} {i b : Nat} {vs : Array Value} {T : TypeId} {fr : Nat × Nat} {bs : List (Nat × Obj)} {fs : List Fact} (h : Fr c w0 i ((b, .cells vs T fr) :: bs) fs W) (k : Nat) (v : Value) :
    Fr c w0 i ((b, .cells (vs.setIfInBounds k v) T fr) :: bs) fs (W.setCell ⟨b, k, none⟩ v) := by
  have hge := (h.bl (b, .cells vs T fr) (by simp)).2
  have hb : Below w0.heap.size W (W.setCell ⟨b, k, none⟩ v) := (Below.refl _ _).setCell hge v
  have hn := h.nd
  simp only [List.map_cons, List.nodup_cons] at hn
  refine ⟨h.rd.keep h.lo hb, h.lo, ⟨hb.os.trans h.re.os, hb.tape.trans h.re.tape, hb.output.trans h.re.output, Nat.le_trans h.re.size hb.size, fun k hk hne => (hb.block k hk).trans (h.re.block k hk hne)⟩, fun x hx => ?_, ?_, fun f hf => ?_⟩
  · rcases List.mem_cons.1 hx with rfl | hx
    · exact ⟨heap_set h.hd k v, hge⟩
    · have h2 := h.bl x (List.mem_cons_of_mem _ hx)
      refine ⟨?_, h2.2⟩
      rw [Below.heap_setCell _ _ _ _ (fun e => hn.1 (List.mem_map.2 ⟨x, hx, e⟩))]
      exact h2.1
  · simp only [List.map_cons, List.nodup_cons]
    exact hn
  · refine f.mono (fun a ha => ⟨ha.1, Nat.lt_of_lt_of_le ha.2.1 hb.size, fun x hx => ?_⟩) (f.keep (S := fun a => w0.heap.size ≤ a ∧ a < W.heap.size ∧ ∀ x ∈ (b, Obj.cells vs T fr) :: bs, a ≠ x.1) (fun a o u ha hc => ?_) (h.ft f hf))
    · rcases List.mem_cons.1 hx with rfl | hx
      · exact ha.2.2 (b, .cells vs T fr) (by simp)
      · exact ha.2.2 x (List.mem_cons_of_mem _ hx)
    · have hne : a ≠ b := ha.2.2 (b, .cells vs T fr) (by simp)
      exact (World.cell?_of_block (w := W) (a := ⟨a, o, none⟩) (Below.heap_setCell _ _ _ _ hne)).trans hc
theorem Fr.call {c : Rc} {w0 W w' : World} {i j : Nat} {bs : List (Nat × Obj)} {fs : List Fact} (h : Fr c w0 i bs fs W) (hre : RE c.rb W w') (hR : Rd c j w') : Fr c w0 j bs fs w' := by
  refine ⟨hR, h.lo, h.re.trans hre, fun x hx => ⟨hre.blk (h.bl x hx).1 (fun e => by have := h.lo.rb; have := (h.bl x hx).2; omega), (h.bl x hx).2⟩, h.nd, fun f hf => ?_⟩
  refine f.mono (fun b hk => ⟨hk.1, Nat.lt_of_lt_of_le hk.2.1 hre.size, hk.2.2⟩) (f.keep (fun a o u ha hc => hre.kps a o u (fun e => ?_) hc) (h.ft f hf))
  have := h.lo.rb; have := ha.1; omega
theorem Fr.fact {c : Rc} {w0 W w' : World} {i j : Nat} {bs : List (Nat × Obj)} {fs : List Fact} (h : Fr c w0 i bs fs W) (hre : RE c.rb W w') (hR : Rd c j w') (f : Fact) (hf : f.P (fun b => W.heap.size ≤ b) w') : Fr c w0 j bs (f :: fs) w' := by
  refine (h.call hre hR).add f (f.mono (fun b hb => ⟨Nat.le_trans h.re.size hb.1, hb.2, fun x hx e => ?_⟩) (f.there hf))
  have := cells_lt (h.bl x hx).1
  have := hb.1
  omega
theorem Fr.fct {c : Rc} {w0 W : World} {i : Nat} {bs : List (Nat × Obj)} {fs : List Fact} (h : Fr c w0 i bs fs W) {f : Fact} (hf : f ∈ fs) : f.P (fun b => w0.heap.size ≤ b) W := f.mono (fun _ hb => hb.1) (h.ft f hf)
theorem row_nil (w : World) (S : Nat → Prop) : RowAt w S none 0 0 [] := ⟨Nat.le_refl _, by decide, fun _ => rfl, fun j u hj => by simp at hj⟩
/-- a row made of one expression -/
theorem Fr.row1 {c : Rc} {w0 W : World} {i : Nat} {bs : List (Nat × Obj)} {fs : List Fact} (h : Fr c w0 i bs fs W) (e : Ex) (T : TypeId) (he : Fact.X e ∈ fs) : Fr c w0 i bs (Fact.Xs [e] (some ⟨W.heap.size, 0, none⟩) 1 :: fs) (W.alloc (.cells ⟨exCells [e]⟩ T)) := by
  have hb : Below W.heap.size W (W.alloc (.cells ⟨exCells [e]⟩ T)) := (Below.refl _ _).alloc (Nat.le_refl _) _
  have h1 := h.ext hb
  refine h1.add _ ⟨row_new (Nat.le_refl _) (by decide) ⟨h.re.size, by simp, fun x hx hh => ?_⟩ (World.alloc_heap_new W _), ?_⟩
  · have := cells_lt (h.bl x hx).1; omega
  · unfold Ex.InL Ex.InL
    exact ⟨h1.ft _ he, trivial⟩
theorem Fr.row2 {c : Rc} {w0 W : World} {i : Nat} {bs : List (Nat × Obj)} {fs : List Fact} (h : Fr c w0 i bs fs W) (e e2 : Ex) (T : TypeId) (he : Fact.X e ∈ fs) (he2 : Fact.X e2 ∈ fs) : Fr c w0 i bs (Fact.Xs [e, e2] (some ⟨W.heap.size, 0, none⟩) 2 :: fs) (W.alloc (.cells ⟨exCells [e, e2]⟩ T)) := by
  have hb : Below W.heap.size W (W.alloc (.cells ⟨exCells [e, e2]⟩ T)) := (Below.refl _ _).alloc (Nat.le_refl _) _
  have h1 := h.ext hb
  refine h1.add _ ⟨row_new (Nat.le_refl _) (by decide) ⟨h.re.size, by simp, fun x hx hh => ?_⟩ (World.alloc_heap_new W _), ?_⟩
  · have := cells_lt (h.bl x hx).1; omega
  · unfold Ex.InL Ex.InL Ex.InL
    exact ⟨h1.ft _ he, h1.ft _ he2, trivial⟩
/-- eight stores into the first own block -/
theorem Fr.set8 {c : Rc} {w0 W : World} {i g : Nat} {a0 b0 c0 d0 e0 f0 g0 h0 : Value} {T : TypeId} {fr : Nat × Nat} {bs : List (Nat × Obj)} {fs : List Fact} (h : Fr c w0 i ((g, .cells #[a0, b0, c0, d0, e0, f0, g0, h0] T fr) :: bs) fs W) (a b cc d e f gg hh : Value) :
    Fr c w0 i ((g, .cells #[a, b, cc, d, e, f, gg, hh] T fr) :: bs) fs ((((((((W.setCell ⟨g, 0, none⟩ a).setCell ⟨g, 1, none⟩ b).setCell ⟨g, 2, none⟩ cc).setCell ⟨g, 3, none⟩ d).setCell ⟨g, 4, none⟩ e).setCell ⟨g, 5, none⟩ f).setCell ⟨g, 6, none⟩ gg).setCell ⟨g, 7, none⟩ hh) := by
  have := (((((((h.set 0 a).set 1 b).set 2 cc).set 3 d).set 4 e).set 5 f).set 6 gg).set 7 hh
  simpa using this
theorem Fr.set6 {c : Rc} {w0 W : World} {i g : Nat} {a0 b0 c0 d0 e0 f0 : Value} {T : TypeId} {fr : Nat × Nat} {bs : List (Nat × Obj)} {fs : List Fact} (h : Fr c w0 i ((g, .cells #[a0, b0, c0, d0, e0, f0] T fr) :: bs) fs W) (a b cc d e f : Value) :
    Fr c w0 i ((g, .cells #[a, b, cc, d, e, f] T fr) :: bs) fs ((((((W.setCell ⟨g, 0, none⟩ a).setCell ⟨g, 1, none⟩ b).setCell ⟨g, 2, none⟩ cc).setCell ⟨g, 3, none⟩ d).setCell ⟨g, 4, none⟩ e).setCell ⟨g, 5, none⟩ f) := by
  have := (((((h.set 0 a).set 1 b).set 2 cc).set 3 d).set 4 e).set 5 f
  simpa using this
theorem Fr.set5 {c : Rc} {w0 W : World} {i g : Nat} {a0 b0 c0 d0 e0 : Value} {T : TypeId} {fr : Nat × Nat} {bs : List (Nat × Obj)} {fs : List Fact} (h : Fr c w0 i ((g, .cells #[a0, b0, c0, d0, e0] T fr) :: bs) fs W) (a b cc d e : Value) :
    Fr c w0 i ((g, .cells #[a, b, cc, d, e] T fr) :: bs) fs (((((W.setCell ⟨g, 0, none⟩ a).setCell ⟨g, 1, none⟩ b).setCell ⟨g, 2, none⟩ cc).setCell ⟨g, 3, none⟩ d).setCell ⟨g, 4, none⟩ e) := by
  have := ((((h.set 0 a).set 1 b).set 2 cc).set 3 d).set 4 e
  simpa using this

/-! ### how calls end -/
theorem Post.two {α : Type} {c : Rc} {V : α → Value → World → Prop} {W w' : World} {r : Res α} {e : Ending} (h : Post c V W r e w') :
    (∃ p, r = .bad p ∧ e = badE p ∧ RE c.rb W w') ∨ ∃ x j v, r = .ok x j ∧ e = .returned v ∧ V x v w' ∧ Rd c j w' ∧ RE c.rb W w' := by
  cases r with
  | ok x j => obtain ⟨v, h1, h2, h3, h4⟩ := h; exact .inr ⟨x, j, v, rfl, h1, h2, h3, h4⟩
  | bad p => exact .inl ⟨p, rfl, h.1, h.2⟩
theorem Rd.tok {c : Rc} {i : Nat} {w : World} (h : Rd c i w) : ∃ t, c.l[i]? = some t ∧ tx c.l i = t.txt ∧ ps c.l i = t.pos ∧ kd c.l i = t.kind := by
  have ht : c.l[i]? = some (c.l[i]'h.lt) := List.getElem?_eq_getElem h.lt
  exact ⟨_, ht, tx_of ht, ps_of ht, kd_of ht⟩
theorem at_c {c : Rc} {i : Nat} {w : World} (h : Rd c i w) : Calls Tryz.prog 163 #[.pointer (some ⟨c.rb, 0, none⟩)] w fun e w' => e = .returned (.int .i64 (ps c.l i)) ∧ ∃ n, w' = w.drewN n := by
  obtain ⟨t, ht, h1, h2, h3⟩ := h.tok
  rw [h2]
  exact at_any c i t w h ht
theorem refuse_c {c : Rc} {i : Nat} {w : World} (h : Rd c i w) : Calls Tryz.prog 165 #[.pointer (some ⟨c.rb, 0, none⟩)] w fun e w' => e = badE (ps c.l i) ∧ ∃ n, w' = w.drewN n := by
  obtain ⟨t, ht, h1, h2, h3⟩ := h.tok
  rw [h2]
  exact refuse_any c i t w h ht
theorem take_c {c : Rc} {i : Nat} {w : World} (h : Rd c i w) (s : ByteArray) (hs : s ≠ ⟨#[]⟩) : Calls Tryz.prog 154 #[.pointer (some ⟨c.rb, 0, none⟩), .string s] w (Post c (fun _ v _ => v = .tuple #[]) w (takeR c.l i s)) := by
  obtain ⟨t, ht, h1, h2, h3⟩ := h.tok
  unfold takeR
  rw [h1, h2]
  by_cases hx : t.txt = s
  · rw [if_pos hx]
    subst hx
    refine (take_yes c i t w h ht (h.more ht hs)).mono ?_
    rintro e w' ⟨rfl, hR, hE⟩
    exact ⟨_, rfl, rfl, hR, hE⟩
  · rw [if_neg hx]
    refine (take_no c i t s w h ht hx).mono ?_
    rintro e w' ⟨rfl, n, rfl⟩
    exact ⟨rfl, RE.drewN w n⟩
theorem passes_c {c : Rc} {i : Nat} {w : World} (h : Rd c i w) (s : ByteArray) (hs : s ≠ ⟨#[]⟩) : Calls Tryz.prog 155 #[.pointer (some ⟨c.rb, 0, none⟩), .string s] w fun e w' =>
    RE c.rb w w' ∧ ((tx c.l i = s ∧ e = .returned (.bool true) ∧ Rd c (i + 1) w') ∨ (¬ tx c.l i = s ∧ e = .returned (.bool false) ∧ Rd c i w')) := by
  obtain ⟨t, ht, h1, h2, h3⟩ := h.tok
  rw [h1]
  by_cases hx : t.txt = s
  · subst hx
    refine (passes_yes c i t w h ht (h.more ht hs)).mono ?_
    rintro e w' ⟨rfl, hR, hE⟩
    exact ⟨hE, .inl ⟨rfl, rfl, hR⟩⟩
  · refine (passes_no c i t s w h ht hx).mono ?_
    rintro e w' ⟨rfl, n, rfl⟩
    exact ⟨RE.drewN w n, .inr ⟨hx, rfl, h.drewN n⟩⟩
theorem name_c {c : Rc} {i : Nat} {w : World} (h : Rd c i w) : Calls Tryz.prog 153 #[.pointer (some ⟨c.rb, 0, none⟩)] w (Post c (fun x v _ => v = .string x ∧ x.size ≤ maxLen) w (nameR c.l i)) := by
  obtain ⟨t, ht, h1, h2, h3⟩ := h.tok
  unfold nameR
  rw [h1, h2]
  cases hn : nme t.txt.data.toList with
  | true =>
    rw [if_pos rfl]
    have hne : ¬ t.txt = ⟨#[]⟩ := fun e => by rw [e] at hn; exact absurd hn (by decide)
    refine (name_yes c i t w h ht (h.more ht hne) hn).mono ?_
    rintro e w' ⟨rfl, hR, hE⟩
    exact ⟨_, rfl, ⟨rfl, by have := (h.txs t (List.mem_of_getElem? ht)).1; unfold maxLen; omega⟩, hR, hE⟩
  | false =>
    rw [if_neg (by decide)]
    refine (name_no c i t w h ht hn).mono ?_
    rintro e w' ⟨rfl, hE⟩
    exact ⟨rfl, hE⟩
theorem parse_i64 {l : List UInt8} {n : Int} (h : Lib.parseIntB 64 l = .ok n) : I64 n := by
  unfold Lib.parseIntB at h
  cases l with
  | nil => cases h
  | cons a r =>
    simp only at h
    split at h
    · cases h
    · cases h
    · rename_i u hu
      by_cases hneg : a.toNat = 45
      · simp only [hneg, not_true, false_and, if_false, true_and] at h
        split at h
        · cases h
        · rename_i hx
          simp only [if_true, Lib.NumEnd.ok.injEq] at h
          unfold I64
          omega
      · simp only [hneg, not_false_iff, true_and, false_and, if_false] at h
        split at h
        · cases h
        · rename_i hx
          simp only [Lib.NumEnd.ok.injEq] at h
          unfold I64
          omega
theorem number_c {c : Rc} {i : Nat} {w : World} (h : Rd c i w) (s : ByteArray) (hs : s.size ≤ 10) : Calls Tryz.prog 156 #[.pointer (some ⟨c.rb, 0, none⟩), .string s] w (Post c (fun x v _ => v = .int .i64 x ∧ I64 x) w (numR c.l i s)) := by
  obtain ⟨t, ht, h1, h2, h3⟩ := h.tok
  unfold numR
  rw [h1, h2, h3]
  have happ : (s ++ t.txt).data.toList = s.data.toList ++ t.txt.data.toList := by simp
  cases hn : Lib.parseIntB 64 (s.data.toList ++ t.txt.data.toList)
  case ok n =>
    simp only
    by_cases hk : t.kind = 2
    · rw [if_pos hk]
      have hmore : i + 1 < c.l.length := by
        by_cases he : i + 1 = c.l.length
        · have := (h.last i t ht he).2; omega
        · have := h.lt; omega
      refine (number_ok c i t s w h ht hs hmore hk n (by rw [happ]; exact hn)).mono ?_
      rintro e w' ⟨rfl, hR, hE⟩
      exact ⟨_, rfl, ⟨rfl, parse_i64 hn⟩, hR, hE⟩
    · rw [if_neg hk]
      refine (number_kind c i t s w h ht hs hk n (by rw [happ]; exact hn)).mono ?_
      rintro e w' ⟨rfl, hE⟩
      exact ⟨rfl, hE⟩
  all_goals
    refine (number_bad c i t s w h ht hs (by rw [happ, hn]; intro n e; cases e)).mono ?_
    rintro e w' ⟨rfl, hE⟩
    exact ⟨rfl, hE⟩
end Go.Proofs.YtfhmhplbkheojaaGreatDoor.Pa
