/- The looker of names and types in memory; plain: what it says of expressions. Conditions: none. -/
import Derived.Test.YtjpmgnpjdikdnaaGreatDoorMpL
import Derived.Test.YtjpmgnpjdikdnaaGreatDoorTrK
namespace Go.Proofs.YtjpmgnpjdikdnaaGreatDoor.Ty
open Go Go.RowKit
open Go.Proofs.YtjpmgnpjdikdnaaGreatDoor.Lx Go.Proofs.YtjpmgnpjdikdnaaGreatDoor.Tr

/-- what a list of names says of one -/
def findA {β : Type} : List (ByteArray × β) → ByteArray → Option β
  | [], _ => none
  | x :: r, s => if x.1 = s then some x.2 else findA r s
theorem findV_map {β : Type} (f : β → Value) : ∀ (L : List (ByteArray × β)) (s : ByteArray), findV (L.map fun x => (x.1, f x.2)) s = (findA L s).map f
  | [], _ => rfl
  | x :: r, s => by
    show (if x.1 = s then some (f x.2) else findV (r.map fun x => (x.1, f x.2)) s) = (if x.1 = s then some x.2 else findA r s).map f
    rw [findV_map f r s]
    split <;> rfl
theorem findA_mem {β : Type} : ∀ {L : List (ByteArray × β)} {s : ByteArray} {b : β}, findA L s = some b → (s, b) ∈ L
  | x :: r, s, b, h => by
    unfold findA at h
    split at h
    · rename_i hx
      cases h
      rw [← hx]; simp
    · exact List.mem_cons_of_mem _ (findA_mem h)

structure Lc where
  lb : Nat
  pa : Option Addr
  pcap : Nat
  ds : List De
  dm : Nat
  cb : Nat
  B : Nat
  D : List (ByteArray × Nat)
structure CRow where
  val : Value
  l : List Nat
structure Ls where
  pos : Nat
  db : Nat
  kb : Nat
  dec : List (ByteArray × Unit)
  kn : List (ByteArray × Int)
  calls : List CRow
  last : Bool
def fnV (n : Nat) : Value := .func (.func n) #[] #[]
/-- what each Kind of expressions, and of statements, asks -/
def exF (k : Nat) : Nat := if k = 3 then 156 else if k = 4 then 157 else if k = 2 ∨ k = 6 ∨ k = 16 ∨ k = 17 then 155 else if 12 ≤ k ∧ k ≤ 15 then 158 else 154
def stF (k : Nat) : Nat := if k = 1 then 159 else if k = 2 then 160 else if k = 3 then 161 else if k = 4 ∨ k = 5 then 162 else if k = 6 then 163 else if k = 7 then 164 else if k = 8 then 165 else 166
def exFs : List Value := .nilFunc :: (List.range 17).map fun k => fnV (exF (k + 1))
def stFs : List Value := .nilFunc :: (List.range 9).map fun k => fnV (stF (k + 1))
def lkVals (c : Lc) (s : Ls) : Array Value := ⟨[.slice c.pa c.ds.length c.pcap, .map (some c.dm)] ++ exFs ++ stFs ++ [.slice (some ⟨c.cb, 0, none⟩) c.ds.length c.ds.length, .int .i64 s.pos, .map (some s.db), .map (some s.kb), .bool s.last]⟩
structure Lk (c : Lc) (s : Ls) (w : World) : Prop where
  blk : w.heap[c.lb]? = some (.cells (lkVals c s) 161 (0, 0))
  mD : MpS w c.dm (c.D.map fun x => (x.1, .int .i64 x.2))
  md : MpS w s.db (s.dec.map fun x => (x.1, .agg #[]))
  mq : MpS w s.kb (s.kn.map fun x => (x.1, .int .u8 x.2))
  row : RowAt w (fun b => b < c.B) c.pa c.pcap c.ds.length (deCells c.ds)
  ins : De.InL w (fun b => b < c.B) c.ds
  dlt : ∀ x ∈ c.D, x.2 < c.ds.length
  cbl : w.heap[c.cb]? = some (.cells ⟨s.calls.map CRow.val⟩ 64 (0, 0))
  cln : s.calls.length = c.ds.length
  rows : ∀ (i : Nat) (r : CRow), s.calls[i]? = some r → w.ownsRow c.B 3 1 r.val r.l.length (r.l.map fun n : Nat => Value.int .i64 (n : Int)) ∧ (∀ n ∈ r.l, n < c.ds.length) ∧ ∀ b, r.val.ownBlock = some b → b ≠ c.lb ∧ b ≠ c.cb
  rone : ∀ (i j : Nat) (ri rj : CRow) (b : Nat), s.calls[i]? = some ri → s.calls[j]? = some rj → ri.val.ownBlock = some b → rj.val.ownBlock = some b → i = j
  rnd : ∀ r ∈ s.calls, r.l.Nodup
  few : c.ds.length ≤ 256
  hi : c.B ≤ c.lb ∧ c.B ≤ c.dm ∧ c.B ≤ c.cb ∧ c.B ≤ s.db ∧ c.B ≤ s.kb
  ne : c.dm ≠ s.db ∧ c.dm ≠ s.kb ∧ s.db ≠ s.kb ∧ c.lb ≠ c.cb
theorem own_lt {w : World} {base : Nat} {e : TypeId} {size n b : Nat} {v : Value} {xs : List Value} (h : w.ownsRow base e size v n xs) (hb : v.ownBlock = some b) : b < w.heap.size := by
  rcases h.2 with ⟨rfl, _⟩ | ⟨g, cap, cur, rfl, _, hg, _⟩
  · cases hb
  · cases hb
    exact (Array.getElem?_eq_some_iff.1 hg).1
theorem own_keep {w w' : World} {base : Nat} {e : TypeId} {size n : Nat} {v : Value} {xs : List Value} (h : w.ownsRow base e size v n xs) (hk : ∀ b, v.ownBlock = some b → w'.heap[b]? = w.heap[b]?) : w'.ownsRow base e size v n xs := by
  refine ⟨h.1, ?_⟩
  rcases h.2 with hn | ⟨g, cap, cur, rfl, hb, hg, rest⟩
  · exact .inl hn
  · exact .inr ⟨g, cap, cur, rfl, hb, (hk g rfl).trans hg, rest⟩
/-- all that was there stays -/
theorem Lk.ext {c : Lc} {s : Ls} {w w' : World} (h : Lk c s w) (hb : Below w.heap.size w w') : Lk c s w' where
  blk := (hb.block _ (Array.getElem?_eq_some_iff.1 h.blk).1).trans h.blk
  mD := h.mD.below hb h.mD.lt
  md := h.md.below hb h.md.lt
  mq := h.mq.below hb h.mq.lt
  row := h.row.below (Kps.of_below hb)
  ins := De.InL.below (Kps.of_below hb) h.ins
  dlt := h.dlt
  cbl := (hb.block _ (Array.getElem?_eq_some_iff.1 h.cbl).1).trans h.cbl
  cln := h.cln
  rows := fun i r hr => ⟨own_keep (h.rows i r hr).1 fun _ hb' => hb.block _ (own_lt (h.rows i r hr).1 hb'), (h.rows i r hr).2⟩
  rone := h.rone
  rnd := h.rnd
  few := h.few
  hi := h.hi
  ne := h.ne
theorem lk_cell {w : World} {b : Nat} {vs : Array Value} {t : TypeId} {fr : Nat × Nat} {k : Nat} {v : Value} (h : w.heap[b]? = some (.cells vs t fr)) (hv : vs[k]? = some v) : w.cell? ⟨b, k, none⟩ = some v := blk_cell h hv

/-! ### what is said of expressions -/
def Bd (α : Type) : Type := Except (Int × Int) α
def findK (ds : List De) (D : List (ByteArray × Nat)) (K : List (ByteArray × Int)) (nm : ByteArray) (kind at_ : Int) : Except (Int × Int) Nat :=
  match findA D nm with
  | none => match findA K nm with
    | none => .error (at_, 64)
    | some _ => .error (at_, 65)
  | some i => match ds[i]? with
    | some d => if d.kind = kind then .ok i else .error (at_, 65)
    | none => .error (at_, 65)
def varK (ds : List De) (D : List (ByteArray × Nat)) (K : List (ByteArray × Int)) (nm : ByteArray) (at_ : Int) : Except (Int × Int) Int :=
  match findA K nm with
  | some k => .ok k
  | none => match findK ds D K nm 1 at_ with
    | .error p => .error p
    | .ok _ => .ok 1
def posE : Ex → Int
  | .mk _ _ _ _ _ _ pos => pos
mutual
def exK (ds : List De) (D : List (ByteArray × Nat)) (K : List (ByteArray × Int)) : Ex → Except (Int × Int) Int
  | .mk k nm _ _ _ args pos =>
    if k = 3 then varK ds D K nm pos
    else if k = 4 then
      match findK ds D K nm 2 pos with
      | .error p => .error p
      | .ok _ => match wantK ds D K 1 args with
        | .error p => .error p
        | .ok _ => .ok 1
    else if k = 2 ∨ k = 6 ∨ k = 16 ∨ k = 17 then
      match wantK ds D K 2 args with
      | .error p => .error p
      | .ok _ => .ok 2
    else if 12 ≤ k ∧ k ≤ 15 then
      match wantK ds D K 1 args with
      | .error p => .error p
      | .ok _ => .ok 2
    else
      match wantK ds D K 1 args with
      | .error p => .error p
      | .ok _ => .ok 1
def wantK (ds : List De) (D : List (ByteArray × Nat)) (K : List (ByteArray × Int)) (t : Int) : List Ex → Except (Int × Int) Unit
  | [] => .ok ()
  | e :: r => match exK ds D K e with
    | .error p => .error p
    | .ok k => if k = t then wantK ds D K t r else .error (posE e, 65)
end
theorem exK_eq (ds : List De) (D : List (ByteArray × Nat)) (K : List (ByteArray × Int)) (k : Int) (nm : ByteArray) (n : Int) (a : Option Addr) (cap : Nat) (args : List Ex) (pos : Int) : exK ds D K (.mk k nm n a cap args pos) =
    if k = 3 then varK ds D K nm pos
    else if k = 4 then
      match findK ds D K nm 2 pos with
      | .error p => .error p
      | .ok _ => match wantK ds D K 1 args with
        | .error p => .error p
        | .ok _ => .ok 1
    else if k = 2 ∨ k = 6 ∨ k = 16 ∨ k = 17 then
      match wantK ds D K 2 args with
      | .error p => .error p
      | .ok _ => .ok 2
    else if 12 ≤ k ∧ k ≤ 15 then
      match wantK ds D K 1 args with
      | .error p => .error p
      | .ok _ => .ok 2
    else
      match wantK ds D K 1 args with
      | .error p => .error p
      | .ok _ => .ok 1 := by
  conv => lhs; unfold exK
theorem wantK_nil (ds : List De) (D : List (ByteArray × Nat)) (K : List (ByteArray × Int)) (t : Int) : wantK ds D K t [] = .ok () := by unfold wantK; rfl
theorem wantK_cons (ds : List De) (D : List (ByteArray × Nat)) (K : List (ByteArray × Int)) (t : Int) (e : Ex) (r : List Ex) : wantK ds D K t (e :: r) = match exK ds D K e with
    | .error p => .error p
    | .ok k => if k = t then wantK ds D K t r else .error (posE e, 65) := by
  conv => lhs; unfold wantK
/-- a fault that is thrown -/
def badT (at_ err : Int) : Ending := .panicked [{ v := .iface 148 (.agg #[.int .i64 at_, .int .i64 err]), recovered := false }]
/-- how a call ends that says something of a type -/
def PostK (w : World) (r : Except (Int × Int) Int) (e : Ending) (w' : World) : Prop := Below w.heap.size w w' ∧ match r with
  | .ok k => e = .returned (.int .u8 k)
  | .error p => e = badT p.1 p.2
def PostW (w : World) (r : Except (Int × Int) Unit) (e : Ending) (w' : World) : Prop := Below w.heap.size w w' ∧ match r with
  | .ok _ => e = .returned (.tuple #[])
  | .error p => e = badT p.1 p.2
end Go.Proofs.YtjpmgnpjdikdnaaGreatDoor.Ty
