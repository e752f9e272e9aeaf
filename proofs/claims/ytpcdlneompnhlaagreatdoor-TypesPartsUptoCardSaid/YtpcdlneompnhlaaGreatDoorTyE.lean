/- Plain: what is said of statements; how a call turns the looker; walk of declare. Conditions: the looker lies in memory. -/
import Derived.Test.YtpcdlneompnhlaaGreatDoorTyD
namespace Go.Proofs.YtpcdlneompnhlaaGreatDoor.Ty
open Go Go.RowKit
open Go.Proofs.YtpcdlneompnhlaaGreatDoor.Lx Go.Proofs.YtpcdlneompnhlaaGreatDoor.Tr

/-- what the looker has gathered -/
structure PS where
  dec : List (ByteArray × Unit)
  kn : List (ByteArray × Int)
  calls : List (List Nat)
def Ls.ps (s : Ls) : PS := ⟨s.dec, s.kn, s.calls.map CRow.l⟩
/-- a list with a name's value put in -/
def putA {β : Type} : List (ByteArray × β) → ByteArray → β → List (ByteArray × β)
  | [], s, v => [(s, v)]
  | x :: r, s, v => if x.1 = s then (s, v) :: r else x :: putA r s v
def declK (D : List (ByteArray × Nat)) (p : PS) (nm : ByteArray) (k at_ : Int) : Except (Int × Int) PS :=
  if (findA p.dec nm).isSome = true ∨ (findA D nm).isSome = true then .error (at_, 64) else .ok { p with dec := putA p.dec nm (), kn := putA p.kn nm k }
theorem putV_map {β : Type} (f : β → Value) : ∀ (L : List (ByteArray × β)) (s : ByteArray) (v : β), putV (L.map fun x => (x.1, f x.2)) s (f v) = (putA L s v).map fun x => (x.1, f x.2)
  | [], _, _ => rfl
  | x :: r, s, v => by
    show (if x.1 = s then (s, f v) :: r.map (fun x => (x.1, f x.2)) else (x.1, f x.2) :: putV (r.map fun x => (x.1, f x.2)) s (f v)) = (if x.1 = s then (s, v) :: r else x :: putA r s v).map fun x => (x.1, f x.2)
    rw [putV_map f r s v]
    split <;> rfl
def answerK (D : List (ByteArray × Nat)) (K : List (ByteArray × Int)) (to : ByteArray) (at_ : Int) : Except (Int × Int) Unit :=
  match findA K to with
  | none => match findA D to with
    | none => .error (at_, 64)
    | some _ => .error (at_, 65)
  | some k => if k = 1 then .ok () else .error (at_, 65)
def setAt (l : List (List Nat)) (i : Nat) (x : List Nat) : List (List Nat) := l.set i x
/-- a call's callee is gathered -/
def addCall (calls : List (List Nat)) (pos i : Nat) : List (List Nat) :=
  match calls[pos]? with
  | none => calls
  | some r => if i ∈ r then calls else calls.set pos (r ++ [i])
def callK (ds : List De) (D : List (ByteArray × Nat)) (pos : Nat) (p : PS) (nm to : ByteArray) (new : Bool) (e : List Ex) (at_ : Int) : Except (Int × Int) PS :=
  match findK ds D p.kn nm 4 at_ with
  | .error q => .error q
  | .ok i => match ds[i]? with
    | none => .error (at_, 65)
    | some d => if d.params.length ≠ e.length then .error (at_, 65) else
      match wantK ds D p.kn 1 e with
      | .error q => .error q
      | .ok _ =>
        if new = true then declK D { p with calls := addCall p.calls pos i } to 1 at_
        else if to = ⟨#[]⟩ then .ok { p with calls := addCall p.calls pos i }
        else match answerK D p.kn to at_ with
          | .error q => .error q
          | .ok _ => .ok { p with calls := addCall p.calls pos i }
mutual
def stK (ds : List De) (D : List (ByteArray × Nat)) (pos : Nat) (last : Bool) (p : PS) : St → Except (Int × Int) PS
  | .mk k nm to new _ _ e _ _ body _ _ els at_ =>
    if k = 1 then
      match e with
      | [] => .error (0, 65)
      | x :: _ => match exK ds D p.kn x with
        | .error q => .error q
        | .ok t => declK D p nm t at_
    else if k = 2 then
      match varK ds D p.kn nm at_ with
      | .error q => .error q
      | .ok t => match wantK ds D p.kn t e with
        | .error q => .error q
        | .ok _ => .ok p
    else if k = 3 then
      match findK ds D p.kn nm 2 at_ with
      | .error q => .error q
      | .ok _ => match wantK ds D p.kn 1 e with
        | .error q => .error q
        | .ok _ => .ok p
    else if k = 4 ∨ k = 5 then
      match wantK ds D p.kn 2 e with
      | .error q => .error q
      | .ok _ => match listK ds D pos false p body with
        | .error q => .error q
        | .ok p1 => match listK ds D pos false { p1 with kn := p.kn } els with
          | .error q => .error q
          | .ok p2 => .ok { p2 with kn := p.kn }
    else if k = 6 then
      match findK ds D p.kn nm 3 at_ with
      | .error q => .error q
      | .ok _ => match listK ds D pos false p body with
        | .error q => .error q
        | .ok p1 => .ok { p1 with kn := p.kn }
    else if k = 7 then
      match wantK ds D p.kn 1 e with
      | .error q => .error q
      | .ok _ => .ok p
    else if k = 8 then callK ds D pos p nm to new e at_
    else if last = true then
      match wantK ds D p.kn 1 e with
      | .error q => .error q
      | .ok _ => .ok p
    else .error (at_, 65)
def listK (ds : List De) (D : List (ByteArray × Nat)) (pos : Nat) (whole : Bool) (p : PS) : List St → Except (Int × Int) PS
  | [] => .ok p
  | x :: r => match stK ds D pos (whole && r.isEmpty) p x with
    | .error q => .error q
    | .ok p1 => listK ds D pos whole p1 r
end
def blockK (ds : List De) (D : List (ByteArray × Nat)) (pos : Nat) (p : PS) (l : List St) : Except (Int × Int) PS :=
  match listK ds D pos false p l with
  | .error q => .error q
  | .ok p1 => .ok { p1 with kn := p.kn }
theorem stK_eq (ds : List De) (D : List (ByteArray × Nat)) (pos : Nat) (last : Bool) (p : PS) (k : Int) (nm to : ByteArray) (new : Bool) (ea : Option Addr) (ec : Nat) (e : List Ex) (ba : Option Addr) (bc : Nat) (body : List St) (la : Option Addr) (lc : Nat) (els : List St) (at_ : Int) :
    stK ds D pos last p (.mk k nm to new ea ec e ba bc body la lc els at_) =
    if k = 1 then
      match e with
      | [] => .error (0, 65)
      | x :: _ => match exK ds D p.kn x with
        | .error q => .error q
        | .ok t => declK D p nm t at_
    else if k = 2 then
      match varK ds D p.kn nm at_ with
      | .error q => .error q
      | .ok t => match wantK ds D p.kn t e with
        | .error q => .error q
        | .ok _ => .ok p
    else if k = 3 then
      match findK ds D p.kn nm 2 at_ with
      | .error q => .error q
      | .ok _ => match wantK ds D p.kn 1 e with
        | .error q => .error q
        | .ok _ => .ok p
    else if k = 4 ∨ k = 5 then
      match wantK ds D p.kn 2 e with
      | .error q => .error q
      | .ok _ => match blockK ds D pos p body with
        | .error q => .error q
        | .ok p1 => blockK ds D pos p1 els
    else if k = 6 then
      match findK ds D p.kn nm 3 at_ with
      | .error q => .error q
      | .ok _ => blockK ds D pos p body
    else if k = 7 then
      match wantK ds D p.kn 1 e with
      | .error q => .error q
      | .ok _ => .ok p
    else if k = 8 then callK ds D pos p nm to new e at_
    else if last = true then
      match wantK ds D p.kn 1 e with
      | .error q => .error q
      | .ok _ => .ok p
    else .error (at_, 65) := by
  conv => lhs; unfold stK
  unfold blockK
  repeat' split
  all_goals first | rfl | simp_all
theorem listK_nil (ds : List De) (D : List (ByteArray × Nat)) (pos : Nat) (whole : Bool) (p : PS) : listK ds D pos whole p [] = .ok p := by unfold listK; rfl
theorem listK_cons (ds : List De) (D : List (ByteArray × Nat)) (pos : Nat) (whole : Bool) (p : PS) (x : St) (r : List St) : listK ds D pos whole p (x :: r) = match stK ds D pos (whole && r.isEmpty) p x with
    | .error q => .error q
    | .ok p1 => listK ds D pos whole p1 r := by
  conv => lhs; unfold listK

/-! ### how a call turns the looker -/
def Tch (c : Lc) (s : Ls) (b : Nat) : Prop := b = c.lb ∨ b = c.cb ∨ b = s.db ∨ b = s.kb ∨ ∃ r ∈ s.calls, r.val.ownBlock = some b
structure StepS (c : Lc) (s : Ls) (w : World) (s' : Ls) (w' : World) : Prop where
  lk : Lk c s' w'
  pos : s'.pos = s.pos
  db : s'.db = s.db
  kb : s'.kb = s.kb
  below : Below c.B w w'
  same : ∀ b, b < w.heap.size → ¬ Tch c s b → w'.heap[b]? = w.heap[b]?
  rows : ∀ r' ∈ s'.calls, ∀ b, r'.val.ownBlock = some b → (∃ r ∈ s.calls, r.val.ownBlock = some b) ∨ w.heap.size ≤ b
def PostS (c : Lc) (s : Ls) (w : World) (r : Except (Int × Int) PS) (e : Ending) (w' : World) : Prop := match r with
  | .ok p => e = .returned (.tuple #[]) ∧ ∃ s', StepS c s w s' w' ∧ s'.ps = p
  | .error q => e = badT q.1 q.2 ∧ Below c.B w w'
theorem Lk.low {c : Lc} {s : Ls} {w : World} (h : Lk c s w) : c.B ≤ w.heap.size := Nat.le_of_lt (Nat.lt_of_le_of_lt h.hi.1 (cells_lt h.blk))
theorem StepS.of_ext {c : Lc} {s : Ls} {w w' : World} (h : Lk c s w) (hb : Below w.heap.size w w') : StepS c s w s w' :=
  ⟨h.ext hb, rfl, rfl, rfl, hb.mono h.low, fun b hb' _ => hb.block b hb', fun r hr _ hb' => .inl ⟨r, hr, hb'⟩⟩
theorem StepS.trans {c : Lc} {s s1 s2 : Ls} {w w1 w2 : World} (h : StepS c s w s1 w1) (k : StepS c s1 w1 s2 w2) : StepS c s w s2 w2 where
  lk := k.lk
  pos := k.pos.trans h.pos
  db := k.db.trans h.db
  kb := k.kb.trans h.kb
  below := h.below.trans k.below
  same := fun b hb hn => by
    refine (k.same b (Nat.lt_of_lt_of_le hb h.below.size) (fun ht => ?_)).trans (h.same b hb hn)
    rcases ht with e | e | e | e | ⟨r, hr, e⟩
    · exact hn (.inl e)
    · exact hn (.inr (.inl e))
    · exact hn (.inr (.inr (.inl (e.trans h.db))))
    · exact hn (.inr (.inr (.inr (.inl (e.trans h.kb)))))
    · rcases h.rows r hr b e with ⟨r0, hr0, e0⟩ | hge
      · exact hn (.inr (.inr (.inr (.inr ⟨r0, hr0, e0⟩))))
      · omega
  rows := fun r hr b hb => by
    rcases k.rows r hr b hb with ⟨r1, hr1, e1⟩ | hge
    · exact h.rows r1 hr1 b e1
    · exact .inr (Nat.le_trans h.below.size hge)
theorem StepS.ext {c : Lc} {s s1 : Ls} {w w1 w2 : World} (h : StepS c s w s1 w1) (hb : Below w1.heap.size w1 w2) : StepS c s w s1 w2 := h.trans (StepS.of_ext h.lk hb)
/-- a block that is not the looker's stays -/
theorem StepS.blk {c : Lc} {s s1 : Ls} {w w1 : World} (h : StepS c s w s1 w1) {b : Nat} {o : Obj} (ho : w.heap[b]? = some o) (hn : ¬ Tch c s b) : w1.heap[b]? = some o := (h.same b (cells_lt ho) hn).trans ho
/-- a new block is not the looker's -/
theorem Lk.tch_lt {c : Lc} {s : Ls} {w : World} (h : Lk c s w) {b : Nat} (hb : Tch c s b) : b < w.heap.size := by
  rcases hb with e | e | e | e | ⟨r, hr, e⟩
  · rw [e]; exact cells_lt h.blk
  · rw [e]; exact cells_lt h.cbl
  · rw [e]; exact h.md.lt
  · rw [e]; exact h.mq.lt
  · obtain ⟨i, hi⟩ := List.mem_iff_getElem?.1 hr
    exact own_lt (h.rows i r hi).1 e

/-- a store into a map keyed by texts, at the operation -/
theorem wpList_putS {P : Program} (w : World) {ops : Array Oper} {rest : List Oper} {o : Oper} {a : Act} {Q : Exit → Act → World → Prop}
    (hg : o.guard = none) (m x v : Operand) (t : TypeId) (hop : o.op = Op.mapUpdate t m x v) (k e : TypeId) (hk : P.underlying k = some .string) (ht : P.underlying t = some (.map k e)) (b : Nat) (L : List (ByteArray × Value))
    (hm : a.eval m = .map (some b)) (h : MpS w b L) (s : ByteArray) (hs : s.size ≤ maxLen) (hx : a.eval x = .string s) (val : Value) (hv : a.eval v = val)
    (hK : ∀ w', MpS w' b (putV L s val) → w.grownBy w' (some b) → wpList P ops Q rest (a.put o.dst undef) w') :
    wpList P ops Q (o :: rest) a w := by
  refine wpList_plain hg fun K' hK' => ?_
  obtain ⟨w', hrun, r1, r2⟩ := put_run hk ht h s hs val
  unfold Oper.wp
  simp [execOp, hop, hm, hx, hv, hrun, Result.andThen]
  exact hK' _ _ (hK w' r1 r2)
theorem grown_below {w w' : World} {B b : Nat} (h : w.grownBy w' (some b)) (hb : B ≤ b) (hB : B ≤ w.heap.size) : Below B w w' :=
  ⟨h.os, h.tape, h.output, h.size, fun i hi => h.block i (by omega) (by simp; omega)⟩
theorem zero_u (V : World) : (zeroValue 181).run Tryz.prog V = .ok (.agg #[]) V := zero_unit V
theorem look_d {c : Lc} {s : Ls} {w : World} (h : Lk c s w) (nm : ByteArray) (hn : nm.size ≤ maxLen) : (Instr.lookup 124 (.map (some s.db)) (.string nm) true).run Tryz.prog w = .ok (match findA s.dec nm with | some _ => .tuple #[.agg #[], .bool true] | none => .tuple #[.agg #[], .bool false]) w := by
  have := look_run (k := 9) (e := 181) (t := 124) (by kernel_rfl) (by kernel_rfl) (zero_unit w) h.md nm hn true
  rw [findV_map (fun _ : Unit => Value.agg #[])] at this
  rw [this]
  cases findA s.dec nm <;> rfl
theorem tch_maps {c : Lc} {s : Ls} {w : World} (h : Lk c s w) {b : Nat} {es : Array MapEntry} {k : Nat} (hb : w.heap[b]? = some (.map es k)) (h1 : b ≠ s.db) (h2 : b ≠ s.kb) : ¬ Tch c s b := by
  rintro (e | e | e | e | ⟨r, hr, e⟩)
  · rw [e, h.blk] at hb; cases hb
  · rw [e, h.cbl] at hb; cases hb
  · exact h1 e
  · exact h2 e
  · obtain ⟨i, hi⟩ := List.mem_iff_getElem?.1 hr
    rcases (h.rows i r hi).1.2 with ⟨hv, _⟩ | ⟨g, cap, cur, hv, _, hg, _⟩
    · rw [hv] at e; cases e
    · rw [hv] at e
      cases e
      rw [hg] at hb
      cases hb
end Go.Proofs.YtpcdlneompnhlaaGreatDoor.Ty
