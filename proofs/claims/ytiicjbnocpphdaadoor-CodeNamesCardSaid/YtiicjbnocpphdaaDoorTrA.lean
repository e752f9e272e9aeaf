/- Trees of programs as they lie in memory: expressions, statements and declarations with the addresses of their lists. Conditions: none. -/
import Derived.Test.YtiicjbnocpphdaaDoorNmH
import Derived.Below
namespace Go.Proofs.YtiicjbnocpphdaaDoor.Tr
open Go Go.RowKit
open Go.Proofs.YtiicjbnocpphdaaDoor.Lx

/-- the cells of some blocks read on as they read -/
def Kps (S : Nat → Prop) (A B : World) : Prop := ∀ b o v, S b → A.cell? ⟨b, o, none⟩ = some v → B.cell? ⟨b, o, none⟩ = some v
theorem Kps.refl (S : Nat → Prop) (A : World) : Kps S A A := fun _ _ _ _ h => h
theorem Kps.trans {S : Nat → Prop} {A B C : World} (h : Kps S A B) (k : Kps S B C) : Kps S A C := fun b o v hs hc => k b o v hs (h b o v hs hc)
theorem Kps.of_below {S : Nat → Prop} {A B : World} (h : Below A.heap.size A B) : Kps S A B := fun b o _ _ hc => (h.cell (p := ⟨b, o, none⟩) (World.block_lt_of_cell? _ _ hc)).trans hc
theorem Kps.mono {S S' : Nat → Prop} {A B : World} (h : Kps S A B) (hs : ∀ b, S' b → S b) : Kps S' A B := fun b o v hb hc => h b o v (hs b hb) hc
theorem Kps.alloc {S : Nat → Prop} (A : World) (o : Obj) : Kps S A (A.alloc o) := Kps.of_below ((Below.refl _ _).alloc (Nat.le_refl _) _)

/-- a list's cells lie from its address on, in a block of S -/
structure RowAt (w : World) (S : Nat → Prop) (a : Option Addr) (cap n : Nat) (xs : List Value) : Prop where
  le : n ≤ cap
  lim : cap ≤ maxLen
  nil : a = none → cap = 0
  at_ : ∀ j u, xs[j]? = some u → ∃ b off, a = some ⟨b, off, none⟩ ∧ S b ∧ w.cell? ⟨b, off + j, none⟩ = some u

theorem RowAt.below {w w' : World} {S : Nat → Prop} {a : Option Addr} {cap n : Nat} {xs : List Value} (h : RowAt w S a cap n xs) (hb : Kps S w w') : RowAt w' S a cap n xs :=
  ⟨h.le, h.lim, h.nil, fun j u hj => by
    obtain ⟨b, off, ha, hB, hc⟩ := h.at_ j u hj
    exact ⟨b, off, ha, hB, hb _ _ _ hB hc⟩⟩
theorem RowAt.mono {w : World} {S S' : Nat → Prop} {a : Option Addr} {cap n : Nat} {xs : List Value} (h : RowAt w S a cap n xs) (hb : ∀ b, S b → S' b) : RowAt w S' a cap n xs :=
  ⟨h.le, h.lim, h.nil, fun j u hj => by
    obtain ⟨b, off, ha, hB, hc⟩ := h.at_ j u hj
    exact ⟨b, off, ha, hb _ hB, hc⟩⟩

/-- an expression; its list of arguments with address and capacity -/
inductive Ex where
  | mk (kind : Int) (name : ByteArray) (n : Int) (a : Option Addr) (cap : Nat) (args : List Ex) (pos : Int)
/-- a statement -/
inductive St where
  | mk (kind : Int) (name to : ByteArray) (new : Bool) (ea : Option Addr) (ecap : Nat) (e : List Ex) (ba : Option Addr) (bcap : Nat) (body : List St) (la : Option Addr) (lcap : Nat) (els : List St) (pos : Int)
/-- a declaration -/
structure De where
  kind : Int
  name : ByteArray
  n : Int
  pa : Option Addr
  pcap : Nat
  params : List ByteArray
  ba : Option Addr
  bcap : Nat
  body : List St
  pos : Int

def Ex.vals : Ex → List Value
  | .mk k nm n a cap args pos => [.int .u8 k, .string nm, .int .i64 n, .slice a args.length cap, .int .i64 pos]
def St.vals : St → List Value
  | .mk k nm to new ea ecap e ba bcap body la lcap els pos => [.int .u8 k, .string nm, .string to, .bool new, .slice ea e.length ecap, .slice ba body.length bcap, .slice la els.length lcap, .int .i64 pos]
def De.vals (d : De) : List Value := [.int .u8 d.kind, .string d.name, .int .i64 d.n, .slice d.pa d.params.length d.pcap, .slice d.ba d.body.length d.bcap, .int .i64 d.pos]
def exCells (l : List Ex) : List Value := l.flatMap Ex.vals
def stCells (l : List St) : List Value := l.flatMap St.vals
def deCells (l : List De) : List Value := l.flatMap De.vals
def strCells (l : List ByteArray) : List Value := l.map Value.string

def I64 (n : Int) : Prop := -9223372036854775808 ≤ n ∧ n ≤ 9223372036854775807
def U8 (n : Int) : Prop := 0 ≤ n ∧ n ≤ 255

mutual
/-- an expression's parts lie in the world, in blocks of S -/
def Ex.In (w : World) (S : Nat → Prop) : Ex → Prop
  | .mk k nm n a cap args pos => U8 k ∧ nm.size ≤ maxLen ∧ I64 n ∧ I64 pos ∧ RowAt w S a cap args.length (exCells args) ∧ Ex.InL w S args
def Ex.InL (w : World) (S : Nat → Prop) : List Ex → Prop
  | [] => True
  | e :: r => Ex.In w S e ∧ Ex.InL w S r
end
mutual
def St.In (w : World) (S : Nat → Prop) : St → Prop
  | .mk k nm to _ ea ecap e ba bcap body la lcap els pos => U8 k ∧ nm.size ≤ maxLen ∧ to.size ≤ maxLen ∧ I64 pos ∧ RowAt w S ea ecap e.length (exCells e) ∧ Ex.InL w S e ∧
      RowAt w S ba bcap body.length (stCells body) ∧ St.InL w S body ∧ RowAt w S la lcap els.length (stCells els) ∧ St.InL w S els
def St.InL (w : World) (S : Nat → Prop) : List St → Prop
  | [] => True
  | e :: r => St.In w S e ∧ St.InL w S r
end
def De.In (w : World) (S : Nat → Prop) (d : De) : Prop :=
  U8 d.kind ∧ d.name.size ≤ maxLen ∧ I64 d.n ∧ I64 d.pos ∧ RowAt w S d.pa d.pcap d.params.length (strCells d.params) ∧ (∀ p ∈ d.params, p.size ≤ maxLen) ∧ RowAt w S d.ba d.bcap d.body.length (stCells d.body) ∧ St.InL w S d.body
def De.InL (w : World) (S : Nat → Prop) (l : List De) : Prop := ∀ d ∈ l, De.In w S d

mutual
theorem Ex.In.below {w w' : World} {S : Nat → Prop} (hb : Kps S w w') : ∀ e, Ex.In w S e → Ex.In w' S e
  | .mk k nm n a cap args pos, h => by
    unfold Ex.In at h ⊢
    exact ⟨h.1, h.2.1, h.2.2.1, h.2.2.2.1, h.2.2.2.2.1.below hb, Ex.InL.below hb args h.2.2.2.2.2⟩
theorem Ex.InL.below {w w' : World} {S : Nat → Prop} (hb : Kps S w w') : ∀ l, Ex.InL w S l → Ex.InL w' S l
  | [], _ => by unfold Ex.InL; trivial
  | e :: r, h => by
    unfold Ex.InL at h ⊢
    exact ⟨Ex.In.below hb e h.1, Ex.InL.below hb r h.2⟩
end
mutual
theorem St.In.below {w w' : World} {S : Nat → Prop} (hb : Kps S w w') : ∀ e, St.In w S e → St.In w' S e
  | .mk k nm to new ea ecap e ba bcap body la lcap els pos, h => by
    unfold St.In at h ⊢
    obtain ⟨h1, h2, h3, h4, h5, h6, h7, h8, h9, h10⟩ := h
    exact ⟨h1, h2, h3, h4, h5.below hb, Ex.InL.below hb _ h6, h7.below hb, St.InL.below hb _ h8, h9.below hb, St.InL.below hb _ h10⟩
theorem St.InL.below {w w' : World} {S : Nat → Prop} (hb : Kps S w w') : ∀ l, St.InL w S l → St.InL w' S l
  | [], _ => by unfold St.InL; trivial
  | e :: r, h => by
    unfold St.InL at h ⊢
    exact ⟨St.In.below hb e h.1, St.InL.below hb r h.2⟩
end
mutual
theorem Ex.In.mono {w : World} {S S' : Nat → Prop} (hb : ∀ b, S b → S' b) : ∀ e, Ex.In w S e → Ex.In w S' e
  | .mk k nm n a cap args pos, h => by
    unfold Ex.In at h ⊢
    exact ⟨h.1, h.2.1, h.2.2.1, h.2.2.2.1, h.2.2.2.2.1.mono hb, Ex.InL.mono hb args h.2.2.2.2.2⟩
theorem Ex.InL.mono {w : World} {S S' : Nat → Prop} (hb : ∀ b, S b → S' b) : ∀ l, Ex.InL w S l → Ex.InL w S' l
  | [], _ => by unfold Ex.InL; trivial
  | e :: r, h => by
    unfold Ex.InL at h ⊢
    exact ⟨Ex.In.mono hb e h.1, Ex.InL.mono hb r h.2⟩
end
mutual
theorem St.In.mono {w : World} {S S' : Nat → Prop} (hb : ∀ b, S b → S' b) : ∀ e, St.In w S e → St.In w S' e
  | .mk k nm to new ea ecap e ba bcap body la lcap els pos, h => by
    unfold St.In at h ⊢
    obtain ⟨h1, h2, h3, h4, h5, h6, h7, h8, h9, h10⟩ := h
    exact ⟨h1, h2, h3, h4, h5.mono hb, Ex.InL.mono hb _ h6, h7.mono hb, St.InL.mono hb _ h8, h9.mono hb, St.InL.mono hb _ h10⟩
theorem St.InL.mono {w : World} {S S' : Nat → Prop} (hb : ∀ b, S b → S' b) : ∀ l, St.InL w S l → St.InL w S' l
  | [], _ => by unfold St.InL; trivial
  | e :: r, h => by
    unfold St.InL at h ⊢
    exact ⟨St.In.mono hb e h.1, St.InL.mono hb r h.2⟩
end
theorem De.In.below {w w' : World} {S : Nat → Prop} (hb : Kps S w w') {d : De} (h : De.In w S d) : De.In w' S d :=
  ⟨h.1, h.2.1, h.2.2.1, h.2.2.2.1, h.2.2.2.2.1.below hb, h.2.2.2.2.2.1, h.2.2.2.2.2.2.1.below hb, St.InL.below hb _ h.2.2.2.2.2.2.2⟩
theorem De.InL.below {w w' : World} {S : Nat → Prop} (hb : Kps S w w') {l : List De} (h : De.InL w S l) : De.InL w' S l := fun d hd => (h d hd).below hb
theorem De.In.mono {w : World} {S S' : Nat → Prop} (hb : ∀ b, S b → S' b) {d : De} (h : De.In w S d) : De.In w S' d :=
  ⟨h.1, h.2.1, h.2.2.1, h.2.2.2.1, h.2.2.2.2.1.mono hb, h.2.2.2.2.2.1, h.2.2.2.2.2.2.1.mono hb, St.InL.mono hb _ h.2.2.2.2.2.2.2⟩
theorem De.InL.mono {w : World} {S S' : Nat → Prop} (hb : ∀ b, S b → S' b) {l : List De} (h : De.InL w S l) : De.InL w S' l := fun d hd => (h d hd).mono hb

theorem Ex.InL.get {w : World} {S : Nat → Prop} : ∀ {l : List Ex} {i : Nat} {e : Ex}, Ex.InL w S l → l[i]? = some e → Ex.In w S e
  | x :: r, 0, e, h, he => by
    unfold Ex.InL at h
    simp at he; subst he; exact h.1
  | x :: r, i + 1, e, h, he => by
    unfold Ex.InL at h
    exact Ex.InL.get h.2 (by simpa using he)
theorem St.InL.get {w : World} {S : Nat → Prop} : ∀ {l : List St} {i : Nat} {e : St}, St.InL w S l → l[i]? = some e → St.In w S e
  | x :: r, 0, e, h, he => by
    unfold St.InL at h
    simp at he; subst he; exact h.1
  | x :: r, i + 1, e, h, he => by
    unfold St.InL at h
    exact St.InL.get h.2 (by simpa using he)

/-! ### Cells of a list's element -/
theorem flat_at {α : Type} (f : α → List Value) (c : Nat) (hc : ∀ x, (f x).length = c) : ∀ (l : List α) (i j : Nat) (x : α), l[i]? = some x → j < c → (l.flatMap f)[i * c + j]? = (f x)[j]?
  | [], i, j, x, h, _ => by simp at h
  | y :: r, 0, j, x, h, hj => by
    simp at h; subst h
    rw [List.flatMap_cons, Nat.zero_mul, Nat.zero_add, List.getElem?_append_left (by rw [hc]; exact hj)]
  | y :: r, i + 1, j, x, h, hj => by
    rw [List.flatMap_cons, List.getElem?_append_right (by rw [hc, Nat.succ_mul]; omega), hc]
    have e : (i + 1) * c + j - c = i * c + j := by rw [Nat.succ_mul]; omega
    rw [e]
    exact flat_at f c hc r i j x (by simpa using h) hj
theorem Ex.vals_len (e : Ex) : e.vals.length = 5 := by cases e; rfl
theorem St.vals_len (e : St) : e.vals.length = 8 := by cases e; rfl
theorem De.vals_len (e : De) : e.vals.length = 6 := rfl
theorem ex_row {w : World} {S : Nat → Prop} {a : Option Addr} {cap : Nat} {l : List Ex} (h : RowAt w S a cap l.length (exCells l)) (i : Nat) (e : Ex) (he : l[i]? = some e) :
    ∃ b off, a = some ⟨b, off, none⟩ ∧ S b ∧ ∀ j u, e.vals[j]? = some u → w.cell? ⟨b, off + (i * 5 + j), none⟩ = some u := by
  have key : ∀ j u, e.vals[j]? = some u → (exCells l)[i * 5 + j]? = some u := by
    intro j u hu
    have hj : j < 5 := by have := (List.getElem?_eq_some_iff.1 hu).1; rw [Ex.vals_len] at this; exact this
    rw [exCells, flat_at Ex.vals 5 Ex.vals_len l i j e he hj]; exact hu
  obtain ⟨u, hu⟩ : ∃ u, e.vals[0]? = some u := ⟨_, List.getElem?_eq_getElem (by rw [Ex.vals_len]; omega)⟩
  obtain ⟨b, off, ha, hb, _⟩ := h.at_ _ _ (key 0 u hu)
  refine ⟨b, off, ha, hb, fun j v hv => ?_⟩
  obtain ⟨b', off', ha', _, hc⟩ := h.at_ _ _ (key j v hv)
  rw [ha] at ha'
  cases ha'
  exact hc
theorem st_row {w : World} {S : Nat → Prop} {a : Option Addr} {cap : Nat} {l : List St} (h : RowAt w S a cap l.length (stCells l)) (i : Nat) (e : St) (he : l[i]? = some e) :
    ∃ b off, a = some ⟨b, off, none⟩ ∧ S b ∧ ∀ j u, e.vals[j]? = some u → w.cell? ⟨b, off + (i * 8 + j), none⟩ = some u := by
  have key : ∀ j u, e.vals[j]? = some u → (stCells l)[i * 8 + j]? = some u := by
    intro j u hu
    have hj : j < 8 := by have := (List.getElem?_eq_some_iff.1 hu).1; rw [St.vals_len] at this; exact this
    rw [stCells, flat_at St.vals 8 St.vals_len l i j e he hj]; exact hu
  obtain ⟨u, hu⟩ : ∃ u, e.vals[0]? = some u := ⟨_, List.getElem?_eq_getElem (by rw [St.vals_len]; omega)⟩
  obtain ⟨b, off, ha, hb, _⟩ := h.at_ _ _ (key 0 u hu)
  refine ⟨b, off, ha, hb, fun j v hv => ?_⟩
  obtain ⟨b', off', ha', _, hc⟩ := h.at_ _ _ (key j v hv)
  rw [ha] at ha'
  cases ha'
  exact hc
theorem de_row {w : World} {S : Nat → Prop} {a : Option Addr} {cap : Nat} {l : List De} (h : RowAt w S a cap l.length (deCells l)) (i : Nat) (e : De) (he : l[i]? = some e) :
    ∃ b off, a = some ⟨b, off, none⟩ ∧ S b ∧ ∀ j u, e.vals[j]? = some u → w.cell? ⟨b, off + (i * 6 + j), none⟩ = some u := by
  have key : ∀ j u, e.vals[j]? = some u → (deCells l)[i * 6 + j]? = some u := by
    intro j u hu
    have hj : j < 6 := by have := (List.getElem?_eq_some_iff.1 hu).1; rw [De.vals_len] at this; exact this
    rw [deCells, flat_at De.vals 6 De.vals_len l i j e he hj]; exact hu
  obtain ⟨u, hu⟩ : ∃ u, e.vals[0]? = some u := ⟨_, List.getElem?_eq_getElem (by rw [De.vals_len]; omega)⟩
  obtain ⟨b, off, ha, hb, _⟩ := h.at_ _ _ (key 0 u hu)
  refine ⟨b, off, ha, hb, fun j v hv => ?_⟩
  obtain ⟨b', off', ha', _, hc⟩ := h.at_ _ _ (key j v hv)
  rw [ha] at ha'
  cases ha'
  exact hc
end Go.Proofs.YtiicjbnocpphdaaDoor.Tr
