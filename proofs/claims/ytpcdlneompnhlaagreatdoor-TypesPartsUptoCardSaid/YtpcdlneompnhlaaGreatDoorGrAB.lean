/- Walks of lex.Reserved and lex.Name: each returns what its plain function says. Conditions: lex.signs holds its list. · Trees of programs as they lie in memory: expressions, statements and declarations with the addresses of their lists. Conditions: none. · A region that draws its order, walked once in the order of the text, where a guard may be a Bool that is not decided. Conditions: none. · Walks of lex.blank, strings.IndexByte, strings.Clone and lex.idle: each returns what its plain function says (Clone: makes new memory alone). Conditions: the place is within the text. -/
import Derived.Test.YtpcdlneompnhlaaGreatDoorGrAA
import Derived.Below
import Derived.Deep.Quiet
import Derived.Deep.QuietTactic
import Derived.LoopTactic
import Derived.WalkLawsBesides
import Derived.WalkSpells
import Derived.BigQuiet
import Derived.Lib.Walk
import Derived.Lib.BufferWrite
import Derived.Lib.UnsafeStr
import Derived.Laws.MakeOwn
namespace Go.Proofs.YtpcdlneompnhlaaGreatDoor.Lx
open Go Go.RowKit

theorem SignsIn.below {w w' : World} {B : Nat} (h : SignsIn w) (hB : 0 < B) (hb : Below B w w') : SignsIn w' := by
  obtain ⟨t, fr, hg⟩ := h
  exact ⟨t, fr, (hb.block 0 hB).trans hg⟩
theorem cut_at (s : ByteArray) (a k e : Nat) (hke : cutKE s a = (k, e)) (w : World) (hs : s.size ≤ maxLen) (h1 : a < s.size) (hsg : SignsIn w) :
    Calls Tryz.prog 36 #[.string s, .int .i64 (a : Int)] w fun en w' => en = .returned (.tuple #[.int .u8 (k : Int), .int .i64 (e : Int)]) ∧ Below w.heap.size w w' := by
  have h := cut_any s (a : Int) w hs (by omega) (by omega) hsg
  rw [Int.toNat_natCast, hke] at h
  exact h

def words : List (List UInt8) := [[103, 108, 111, 98, 97, 108], [97, 114, 114, 97, 121], [108, 111, 99, 107], [102, 117, 110, 99], [116, 104, 114, 101, 97, 100], [118, 97, 114], [105, 102], [101, 108, 115, 101], [119, 104, 105, 108, 101], [119, 105, 116, 104], [112, 114, 105, 110, 116], [99, 97, 108, 108], [114, 101, 116, 117, 114, 110], [116, 114, 117, 101], [102, 97, 108, 115, 101]]
/-- is a text a reserved word? -/
def rsv (l : List UInt8) : Bool := words.contains l
/-- is a text a name? -/
def nme (l : List UInt8) : Bool := !l.isEmpty && !rsv l && ((cutL l).1 == 1) && ((cutL l).2 == l.length)

theorem of_toList {s : ByteArray} {l : List UInt8} (h : s.toList = l) : s = ⟨l.toArray⟩ := by
  rw [Lib.toList_data] at h; rw [← h, Lib.mk_data]

set_option maxHeartbeats 1600000 in
set_option maxRecDepth 100000 in
theorem reserved_no (s : ByteArray) (w : World) (h : rsv s.data.toList = false) :
    Calls Tryz.prog 47 #[.string s] w fun e w' => e = .returned (.bool false) ∧ w = w' := by
  rw [← Lib.toList_data] at h
  have h' : ∀ x ∈ words, (s.toList == x) = false := by
    intro x hx
    simp only [rsv, List.contains_eq_any_beq, List.any_eq_false] at h
    have := h x hx
    rw [Bool.eq_false_iff]
    intro e; apply this
    simpa using e
  have h0 : (s.toList == ([103, 108, 111, 98, 97, 108] : List UInt8)) = false := h' _ (by decide)
  have h1 : (s.toList == ([97, 114, 114, 97, 121] : List UInt8)) = false := h' _ (by decide)
  have h2 : (s.toList == ([108, 111, 99, 107] : List UInt8)) = false := h' _ (by decide)
  have h3 : (s.toList == ([102, 117, 110, 99] : List UInt8)) = false := h' _ (by decide)
  have h4 : (s.toList == ([116, 104, 114, 101, 97, 100] : List UInt8)) = false := h' _ (by decide)
  have h5 : (s.toList == ([118, 97, 114] : List UInt8)) = false := h' _ (by decide)
  have h6 : (s.toList == ([105, 102] : List UInt8)) = false := h' _ (by decide)
  have h7 : (s.toList == ([101, 108, 115, 101] : List UInt8)) = false := h' _ (by decide)
  have h8 : (s.toList == ([119, 104, 105, 108, 101] : List UInt8)) = false := h' _ (by decide)
  have h9 : (s.toList == ([119, 105, 116, 104] : List UInt8)) = false := h' _ (by decide)
  have h10 : (s.toList == ([112, 114, 105, 110, 116] : List UInt8)) = false := h' _ (by decide)
  have h11 : (s.toList == ([99, 97, 108, 108] : List UInt8)) = false := h' _ (by decide)
  have h12 : (s.toList == ([114, 101, 116, 117, 114, 110] : List UInt8)) = false := h' _ (by decide)
  have h13 : (s.toList == ([116, 114, 117, 101] : List UInt8)) = false := h' _ (by decide)
  have h14 : (s.toList == ([102, 97, 108, 115, 101] : List UInt8)) = false := h' _ (by decide)
  clear h h'
  go_enter Tryz.func47, Tryz.ntmps47
  go_wp2
  go_ret
  exact ⟨rfl, rfl⟩
set_option maxHeartbeats 1600000 in
set_option maxRecDepth 100000 in
theorem reserved_yes (s : ByteArray) (w : World) (h : rsv s.data.toList = true) :
    Calls Tryz.prog 47 #[.string s] w fun e w' => e = .returned (.bool true) ∧ w = w' := by
  have h' : s.toList ∈ words := by
    rw [Lib.toList_data]
    simpa [rsv] using h
  simp only [words, List.mem_cons, List.not_mem_nil, or_false] at h'
  rcases h' with h' | h' | h' | h' | h' | h' | h' | h' | h' | h' | h' | h' | h' | h' | h'
  all_goals
    have hs := of_toList h'
    subst hs
    clear h h'
    go_enter Tryz.func47, Tryz.ntmps47
    go_wp2
    go_ret
    exact ⟨rfl, rfl⟩
theorem reserved_any (s : ByteArray) (w : World) :
    Calls Tryz.prog 47 #[.string s] w fun e w' => e = .returned (.bool (rsv s.data.toList)) ∧ w = w' := by
  cases h : rsv s.data.toList
  · exact reserved_no s w h
  · exact reserved_yes s w h

theorem nme_of (s : ByteArray) (hne : 0 < s.size) (hr : rsv s.data.toList = false) (k e : Nat) (hke : cutKE s 0 = (k, e)) : nme s.data.toList = (((k : Int) == 1) && ((e : Int) == (s.size : Int))) := by
  have hn : s.data.toList ≠ [] := by intro h; rw [Lib.size_eq, h] at hne; simp at hne
  have hl := Lib.size_eq s
  unfold cutKE at hke
  rw [List.drop_zero] at hke
  have e1 : nme s.data.toList = (((cutL s.data.toList).1 == 1) && ((cutL s.data.toList).2 == s.size)) := by
    unfold nme; rw [hr, ← hl]
    cases hx : s.data.toList with
    | nil => exact absurd hx hn
    | cons a r => simp
  rw [e1]
  by_cases hc : (cutL s.data.toList).1 = 0
  · rw [if_pos hc] at hke
    obtain ⟨h1, h2⟩ := Prod.mk.inj hke
    rw [hc, ← h1]; rfl
  · rw [if_neg hc] at hke
    obtain ⟨h1, h2⟩ := Prod.mk.inj hke
    rw [h1, ← h2, Bool.eq_iff_iff]
    simp
    omega
set_option maxHeartbeats 1600000 in
set_option maxRecDepth 100000 in
theorem name_any (s : ByteArray) (w : World) (hs : s.size ≤ maxLen) (hsg : SignsIn w) :
    Calls Tryz.prog 25 #[.string s] w fun e w' => e = .returned (.bool (nme s.data.toList)) ∧ Below w.heap.size w w' := by
  by_cases h0 : s.size = 0
  · have hs : s = ⟨#[]⟩ := by
      apply ByteArray.ext
      exact Array.eq_empty_of_size_eq_zero h0
    subst hs
    go_enter Tryz.func25, Tryz.ntmps25
    go_wp2
    go_ret
    exact ⟨rfl, Below.refl _ _⟩
  · have he : (s.toList == []) = false := by
      rw [Bool.eq_false_iff]; intro e; apply h0; rw [Lib.size_eq, ← Lib.toList_data]; simpa using e
    have he1 : s.toList.isEmpty = false := by
      rw [Bool.eq_false_iff]; intro e; apply h0; rw [Lib.size_eq, ← Lib.toList_data]; simpa using e
    obtain ⟨k, e, hke⟩ : ∃ k e, cutKE s 0 = (k, e) := ⟨_, _, rfl⟩
    cases hr : rsv s.data.toList
    · have HN := Lib.hid (nme_of s (by omega) hr k e hke)
      replace hr := Lib.hid hr
      replace hke := Lib.hid hke
      have hs' := Lib.hid hs
      clear hs
      go_enter Tryz.func25, Tryz.ntmps25
      go_wp2_with (first
        | (go_at_call 47; refine (reserved_no _ _ hr.out).mono ?_; rintro e w' ⟨rfl, rfl⟩)
        | (go_at_call 36; refine (cut_at s 0 k e hke.out _ hs'.out (by omega) hsg).mono ?_; rintro e w' ⟨rfl, hb⟩))
      all_goals
        go_ret
        exact ⟨ret_bool (by rw [HN.out]; simp [*]), hb⟩
    · have HN : Hid (nme s.data.toList = false) := Lib.hid (by unfold nme; rw [hr]; simp)
      replace hr := Lib.hid hr
      go_enter Tryz.func25, Tryz.ntmps25
      go_wp2_with (first
        | (go_at_call 47; refine (reserved_yes _ _ hr.out).mono ?_; rintro e w' ⟨rfl, rfl⟩))
      go_ret
      exact ⟨ret_bool HN.out.symm, Below.refl _ _⟩
end Go.Proofs.YtpcdlneompnhlaaGreatDoor.Lx

namespace Go.Proofs.YtpcdlneompnhlaaGreatDoor.Tr
open Go Go.RowKit
open Go.Proofs.YtpcdlneompnhlaaGreatDoor.Lx

/-- the cells of some blocks read on as they read -/
def Kps (S : Nat → Prop) (A B : World) : Prop := ∀ b o v, S b → A.cell? ⟨b, o, none⟩ = some v → B.cell? ⟨b, o, none⟩ = some v
theorem Kps.refl (S : Nat → Prop) (A : World) : Kps S A A := fun _ _ _ _ h => h
theorem Kps.trans {S : Nat → Prop} {A B C : World} (h : Kps S A B) (k : Kps S B C) : Kps S A C := fun b o v hs hc => k b o v hs (h b o v hs hc)
theorem Kps.of_below {S : Nat → Prop} {A B : World} (h : Below A.heap.size A B) : Kps S A B := fun b o _ _ hc => (h.cell (p := ⟨b, o, none⟩) (World.block_lt_of_cell? _ _ hc)).trans hc
theorem Kps.mono {S S' : Nat → Prop} {A B : World} (h : Kps S A B) (hs : ∀ b, S' b → S b) : Kps S' A B := fun b o v hb hc => h b o v (hs b hb) hc
theorem Kps.alloc {S : Nat → Prop} (A : World) (o : Obj) : Kps S A (A.alloc o) := Kps.of_below ((Below.refl _ _).alloc (Nat.le_refl _) _)

/-- a list's cells lie from its address on, in a block of S -/
structure RowAt (w : World) (S : Nat → Prop) (a : Option Addr) (cap n : Nat) (xs : List Value) : Prop where
  le : n ≤ cap
  lim : cap ≤ maxLen
  nil : a = none → cap = 0
  at_ : ∀ j u, xs[j]? = some u → ∃ b off, a = some ⟨b, off, none⟩ ∧ S b ∧ w.cell? ⟨b, off + j, none⟩ = some u

theorem RowAt.below {w w' : World} {S : Nat → Prop} {a : Option Addr} {cap n : Nat} {xs : List Value} (h : RowAt w S a cap n xs) (hb : Kps S w w') : RowAt w' S a cap n xs :=
  ⟨h.le, h.lim, h.nil, fun j u hj => by
    obtain ⟨b, off, ha, hB, hc⟩ := h.at_ j u hj
    exact ⟨b, off, ha, hB, hb _ _ _ hB hc⟩⟩
theorem RowAt.mono {w : World} {S S' : Nat → Prop} {a : Option Addr} {cap n : Nat} {xs : List Value} (h : RowAt w S a cap n xs) (hb : ∀ b, S b → S' b) : RowAt w S' a cap n xs :=
  ⟨h.le, h.lim, h.nil, fun j u hj => by
    obtain ⟨b, off, ha, hB, hc⟩ := h.at_ j u hj
    exact ⟨b, off, ha, hb _ hB, hc⟩⟩

/-- an expression; its list of arguments with address and capacity -/
inductive Ex where
  | mk (kind : Int) (name : ByteArray) (n : Int) (a : Option Addr) (cap : Nat) (args : List Ex) (pos : Int)
/-- a statement -/
inductive St where
  | mk (kind : Int) (name to : ByteArray) (new : Bool) (ea : Option Addr) (ecap : Nat) (e : List Ex) (ba : Option Addr) (bcap : Nat) (body : List St) (la : Option Addr) (lcap : Nat) (els : List St) (pos : Int)
/-- a declaration -/
structure De where
  kind : Int
  name : ByteArray
  n : Int
  pa : Option Addr
  pcap : Nat
  params : List ByteArray
  ba : Option Addr
  bcap : Nat
  body : List St
  pos : Int

def Ex.vals : Ex → List Value
  | .mk k nm n a cap args pos => [.int .u8 k, .string nm, .int .i64 n, .slice a args.length cap, .int .i64 pos]
def St.vals : St → List Value
  | .mk k nm to new ea ecap e ba bcap body la lcap els pos => [.int .u8 k, .string nm, .string to, .bool new, .slice ea e.length ecap, .slice ba body.length bcap, .slice la els.length lcap, .int .i64 pos]
def De.vals (d : De) : List Value := [.int .u8 d.kind, .string d.name, .int .i64 d.n, .slice d.pa d.params.length d.pcap, .slice d.ba d.body.length d.bcap, .int .i64 d.pos]
def exCells (l : List Ex) : List Value := l.flatMap Ex.vals
def stCells (l : List St) : List Value := l.flatMap St.vals
def deCells (l : List De) : List Value := l.flatMap De.vals
def strCells (l : List ByteArray) : List Value := l.map Value.string

def I64 (n : Int) : Prop := -9223372036854775808 ≤ n ∧ n ≤ 9223372036854775807
def U8 (n : Int) : Prop := 0 ≤ n ∧ n ≤ 255

mutual
/-- an expression's parts lie in the world, in blocks of S -/
def Ex.In (w : World) (S : Nat → Prop) : Ex → Prop
  | .mk k nm n a cap args pos => U8 k ∧ nm.size ≤ maxLen ∧ I64 n ∧ I64 pos ∧ RowAt w S a cap args.length (exCells args) ∧ Ex.InL w S args
def Ex.InL (w : World) (S : Nat → Prop) : List Ex → Prop
  | [] => True
  | e :: r => Ex.In w S e ∧ Ex.InL w S r
end
mutual
def St.In (w : World) (S : Nat → Prop) : St → Prop
  | .mk k nm to _ ea ecap e ba bcap body la lcap els pos => U8 k ∧ nm.size ≤ maxLen ∧ to.size ≤ maxLen ∧ I64 pos ∧ RowAt w S ea ecap e.length (exCells e) ∧ Ex.InL w S e ∧
      RowAt w S ba bcap body.length (stCells body) ∧ St.InL w S body ∧ RowAt w S la lcap els.length (stCells els) ∧ St.InL w S els
def St.InL (w : World) (S : Nat → Prop) : List St → Prop
  | [] => True
  | e :: r => St.In w S e ∧ St.InL w S r
end
def De.In (w : World) (S : Nat → Prop) (d : De) : Prop :=
  U8 d.kind ∧ d.name.size ≤ maxLen ∧ I64 d.n ∧ I64 d.pos ∧ RowAt w S d.pa d.pcap d.params.length (strCells d.params) ∧ (∀ p ∈ d.params, p.size ≤ maxLen) ∧ RowAt w S d.ba d.bcap d.body.length (stCells d.body) ∧ St.InL w S d.body
def De.InL (w : World) (S : Nat → Prop) (l : List De) : Prop := ∀ d ∈ l, De.In w S d

mutual
theorem Ex.In.below {w w' : World} {S : Nat → Prop} (hb : Kps S w w') : ∀ e, Ex.In w S e → Ex.In w' S e
  | .mk k nm n a cap args pos, h => by
    unfold Ex.In at h ⊢
    exact ⟨h.1, h.2.1, h.2.2.1, h.2.2.2.1, h.2.2.2.2.1.below hb, Ex.InL.below hb args h.2.2.2.2.2⟩
theorem Ex.InL.below {w w' : World} {S : Nat → Prop} (hb : Kps S w w') : ∀ l, Ex.InL w S l → Ex.InL w' S l
  | [], _ => by unfold Ex.InL; trivial
  | e :: r, h => by
    unfold Ex.InL at h ⊢
    exact ⟨Ex.In.below hb e h.1, Ex.InL.below hb r h.2⟩
end
mutual
theorem St.In.below {w w' : World} {S : Nat → Prop} (hb : Kps S w w') : ∀ e, St.In w S e → St.In w' S e
  | .mk k nm to new ea ecap e ba bcap body la lcap els pos, h => by
    unfold St.In at h ⊢
    obtain ⟨h1, h2, h3, h4, h5, h6, h7, h8, h9, h10⟩ := h
    exact ⟨h1, h2, h3, h4, h5.below hb, Ex.InL.below hb _ h6, h7.below hb, St.InL.below hb _ h8, h9.below hb, St.InL.below hb _ h10⟩
theorem St.InL.below {w w' : World} {S : Nat → Prop} (hb : Kps S w w') : ∀ l, St.InL w S l → St.InL w' S l
  | [], _ => by unfold St.InL; trivial
  | e :: r, h => by
    unfold St.InL at h ⊢
    exact ⟨St.In.below hb e h.1, St.InL.below hb r h.2⟩
end
mutual
theorem Ex.In.mono {w : World} {S S' : Nat → Prop} (hb : ∀ b, S b → S' b) : ∀ e, Ex.In w S e → Ex.In w S' e
  | .mk k nm n a cap args pos, h => by
    unfold Ex.In at h ⊢
    exact ⟨h.1, h.2.1, h.2.2.1, h.2.2.2.1, h.2.2.2.2.1.mono hb, Ex.InL.mono hb args h.2.2.2.2.2⟩
theorem Ex.InL.mono {w : World} {S S' : Nat → Prop} (hb : ∀ b, S b → S' b) : ∀ l, Ex.InL w S l → Ex.InL w S' l
  | [], _ => by unfold Ex.InL; trivial
  | e :: r, h => by
    unfold Ex.InL at h ⊢
    exact ⟨Ex.In.mono hb e h.1, Ex.InL.mono hb r h.2⟩
end
mutual
theorem St.In.mono {w : World} {S S' : Nat → Prop} (hb : ∀ b, S b → S' b) : ∀ e, St.In w S e → St.In w S' e
  | .mk k nm to new ea ecap e ba bcap body la lcap els pos, h => by
    unfold St.In at h ⊢
    obtain ⟨h1, h2, h3, h4, h5, h6, h7, h8, h9, h10⟩ := h
    exact ⟨h1, h2, h3, h4, h5.mono hb, Ex.InL.mono hb _ h6, h7.mono hb, St.InL.mono hb _ h8, h9.mono hb, St.InL.mono hb _ h10⟩
theorem St.InL.mono {w : World} {S S' : Nat → Prop} (hb : ∀ b, S b → S' b) : ∀ l, St.InL w S l → St.InL w S' l
  | [], _ => by unfold St.InL; trivial
  | e :: r, h => by
    unfold St.InL at h ⊢
    exact ⟨St.In.mono hb e h.1, St.InL.mono hb r h.2⟩
end
theorem De.In.below {w w' : World} {S : Nat → Prop} (hb : Kps S w w') {d : De} (h : De.In w S d) : De.In w' S d :=
  ⟨h.1, h.2.1, h.2.2.1, h.2.2.2.1, h.2.2.2.2.1.below hb, h.2.2.2.2.2.1, h.2.2.2.2.2.2.1.below hb, St.InL.below hb _ h.2.2.2.2.2.2.2⟩
theorem De.InL.below {w w' : World} {S : Nat → Prop} (hb : Kps S w w') {l : List De} (h : De.InL w S l) : De.InL w' S l := fun d hd => (h d hd).below hb
theorem De.In.mono {w : World} {S S' : Nat → Prop} (hb : ∀ b, S b → S' b) {d : De} (h : De.In w S d) : De.In w S' d :=
  ⟨h.1, h.2.1, h.2.2.1, h.2.2.2.1, h.2.2.2.2.1.mono hb, h.2.2.2.2.2.1, h.2.2.2.2.2.2.1.mono hb, St.InL.mono hb _ h.2.2.2.2.2.2.2⟩
theorem De.InL.mono {w : World} {S S' : Nat → Prop} (hb : ∀ b, S b → S' b) {l : List De} (h : De.InL w S l) : De.InL w S' l := fun d hd => (h d hd).mono hb

theorem Ex.InL.get {w : World} {S : Nat → Prop} : ∀ {l : List Ex} {i : Nat} {e : Ex}, Ex.InL w S l → l[i]? = some e → Ex.In w S e
  | x :: r, 0, e, h, he => by
    unfold Ex.InL at h
    simp at he; subst he; exact h.1
  | x :: r, i + 1, e, h, he => by
    unfold Ex.InL at h
    exact Ex.InL.get h.2 (by simpa using he)
theorem St.InL.get {w : World} {S : Nat → Prop} : ∀ {l : List St} {i : Nat} {e : St}, St.InL w S l → l[i]? = some e → St.In w S e
  | x :: r, 0, e, h, he => by
    unfold St.InL at h
    simp at he; subst he; exact h.1
  | x :: r, i + 1, e, h, he => by
    unfold St.InL at h
    exact St.InL.get h.2 (by simpa using he)

/-! ### Cells of a list's element -/
theorem flat_at {α : Type} (f : α → List Value) (c : Nat) (hc : ∀ x, (f x).length = c) : ∀ (l : List α) (i j : Nat) (x : α), l[i]? = some x → j < c → (l.flatMap f)[i * c + j]? = (f x)[j]?
  | [], i, j, x, h, _ => by simp at h
  | y :: r, 0, j, x, h, hj => by
    simp at h; subst h
    rw [List.flatMap_cons, Nat.zero_mul, Nat.zero_add, List.getElem?_append_left (by rw [hc]; exact hj)]
  | y :: r, i + 1, j, x, h, hj => by
    rw [List.flatMap_cons, List.getElem?_append_right (by rw [hc, Nat.succ_mul]; omega), hc]
    have e : (i + 1) * c + j - c = i * c + j := by rw [Nat.succ_mul]; omega
    rw [e]
    exact flat_at f c hc r i j x (by simpa using h) hj
theorem Ex.vals_len (e : Ex) : e.vals.length = 5 := by cases e; rfl
theorem St.vals_len (e : St) : e.vals.length = 8 := by cases e; rfl
theorem De.vals_len (e : De) : e.vals.length = 6 := rfl
theorem ex_row {w : World} {S : Nat → Prop} {a : Option Addr} {cap : Nat} {l : List Ex} (h : RowAt w S a cap l.length (exCells l)) (i : Nat) (e : Ex) (he : l[i]? = some e) :
    ∃ b off, a = some ⟨b, off, none⟩ ∧ S b ∧ ∀ j u, e.vals[j]? = some u → w.cell? ⟨b, off + (i * 5 + j), none⟩ = some u := by
  have key : ∀ j u, e.vals[j]? = some u → (exCells l)[i * 5 + j]? = some u := by
    intro j u hu
    have hj : j < 5 := by have := (List.getElem?_eq_some_iff.1 hu).1; rw [Ex.vals_len] at this; exact this
    rw [exCells, flat_at Ex.vals 5 Ex.vals_len l i j e he hj]; exact hu
  obtain ⟨u, hu⟩ : ∃ u, e.vals[0]? = some u := ⟨_, List.getElem?_eq_getElem (by rw [Ex.vals_len]; omega)⟩
  obtain ⟨b, off, ha, hb, _⟩ := h.at_ _ _ (key 0 u hu)
  refine ⟨b, off, ha, hb, fun j v hv => ?_⟩
  obtain ⟨b', off', ha', _, hc⟩ := h.at_ _ _ (key j v hv)
  rw [ha] at ha'
  cases ha'
  exact hc
theorem st_row {w : World} {S : Nat → Prop} {a : Option Addr} {cap : Nat} {l : List St} (h : RowAt w S a cap l.length (stCells l)) (i : Nat) (e : St) (he : l[i]? = some e) :
    ∃ b off, a = some ⟨b, off, none⟩ ∧ S b ∧ ∀ j u, e.vals[j]? = some u → w.cell? ⟨b, off + (i * 8 + j), none⟩ = some u := by
  have key : ∀ j u, e.vals[j]? = some u → (stCells l)[i * 8 + j]? = some u := by
    intro j u hu
    have hj : j < 8 := by have := (List.getElem?_eq_some_iff.1 hu).1; rw [St.vals_len] at this; exact this
    rw [stCells, flat_at St.vals 8 St.vals_len l i j e he hj]; exact hu
  obtain ⟨u, hu⟩ : ∃ u, e.vals[0]? = some u := ⟨_, List.getElem?_eq_getElem (by rw [St.vals_len]; omega)⟩
  obtain ⟨b, off, ha, hb, _⟩ := h.at_ _ _ (key 0 u hu)
  refine ⟨b, off, ha, hb, fun j v hv => ?_⟩
  obtain ⟨b', off', ha', _, hc⟩ := h.at_ _ _ (key j v hv)
  rw [ha] at ha'
  cases ha'
  exact hc
theorem de_row {w : World} {S : Nat → Prop} {a : Option Addr} {cap : Nat} {l : List De} (h : RowAt w S a cap l.length (deCells l)) (i : Nat) (e : De) (he : l[i]? = some e) :
    ∃ b off, a = some ⟨b, off, none⟩ ∧ S b ∧ ∀ j u, e.vals[j]? = some u → w.cell? ⟨b, off + (i * 6 + j), none⟩ = some u := by
  have key : ∀ j u, e.vals[j]? = some u → (deCells l)[i * 6 + j]? = some u := by
    intro j u hu
    have hj : j < 6 := by have := (List.getElem?_eq_some_iff.1 hu).1; rw [De.vals_len] at this; exact this
    rw [deCells, flat_at De.vals 6 De.vals_len l i j e he hj]; exact hu
  obtain ⟨u, hu⟩ : ∃ u, e.vals[0]? = some u := ⟨_, List.getElem?_eq_getElem (by rw [De.vals_len]; omega)⟩
  obtain ⟨b, off, ha, hb, _⟩ := h.at_ _ _ (key 0 u hu)
  refine ⟨b, off, ha, hb, fun j v hv => ?_⟩
  obtain ⟨b', off', ha', _, hc⟩ := h.at_ _ _ (key j v hv)
  rw [ha] at ha'
  cases ha'
  exact hc
end Go.Proofs.YtpcdlneompnhlaaGreatDoor.Tr

namespace Go.Proofs.YtpcdlneompnhlaaGreatDoor.Qg
open Go

/-- what a guarded operation leaves: its value where it is wanted, else nothing -/
def gv (c want : Bool) (v : Value) : Value := if c = want then v else undef
theorem gv_eq {c want : Bool} {v : Value} (h : c = want) : gv c want v = v := if_pos h

section
variable {P : Program} {ops : Array Oper} {C : World → Prop} {Q : Act → Prop} {a : Act} {o : Oper} {rest : List Oper}

theorem q_val {v : Value} {a' : Act} (hg : o.guard = none) (hv : ∀ w, C w → (execOp a.eval o).run P w = .ok (.value v) w) (ha : a.put o.dst v = a')
    (h : wpQuiet P ops C Q rest a') : wpQuiet P ops C Q (o :: rest) a := by
  unfold wpQuiet
  have hw : Region.wanted o (yielded ops a.tmps) = true := by unfold Region.wanted; rw [hg]
  rw [if_pos hw]
  subst ha
  exact ⟨v, fun w hC => by unfold Oper.quietAt; rw [hv w hC]; exact ⟨rfl, rfl⟩, h⟩

theorem q_call {v : Value} {a' : Act} {f : FuncId} {args : Array Value} (hg : o.guard = none) (hv : ∀ w, C w → (execOp a.eval o).run P w = .ok (.enter f args) w)
    (hc : ∀ w, C w → Calls P f args w (fun e w' => e = .returned v ∧ C w')) (ha : a.put o.dst v = a')
    (h : wpQuiet P ops C Q rest a') : wpQuiet P ops C Q (o :: rest) a := by
  unfold wpQuiet
  have hw : Region.wanted o (yielded ops a.tmps) = true := by unfold Region.wanted; rw [hg]
  rw [if_pos hw]
  subst ha
  exact ⟨v, fun w hC => by unfold Oper.quietAt; rw [hv w hC]; exact ⟨rfl, hc w hC⟩, h⟩

theorem wanted_g {j : Nat} {want c : Bool} (hg : o.guard = some (j, want)) (hy : yielded ops a.tmps j = some c) : Region.wanted o (yielded ops a.tmps) = decide (c = want) := by
  unfold Region.wanted
  rw [hg]
  simp only [hy]
  cases c <;> cases want <;> rfl

theorem g_val {v : Value} {a' : Act} {j : Nat} {want c : Bool} (hg : o.guard = some (j, want)) (hy : yielded ops a.tmps j = some c)
    (hv : c = want → ∀ w, C w → (execOp a.eval o).run P w = .ok (.value v) w) (ha : a.put o.dst (gv c want v) = a')
    (h : wpQuiet P ops C Q rest a') : wpQuiet P ops C Q (o :: rest) a := by
  unfold wpQuiet
  rw [wanted_g hg hy]
  subst ha
  by_cases hc : c = want
  · rw [gv_eq hc] at h
    simp only [hc, decide_true, if_true]
    exact ⟨v, fun w hC => by unfold Oper.quietAt; rw [hv hc w hC]; exact ⟨rfl, rfl⟩, h⟩
  · unfold gv at h
    rw [if_neg hc] at h
    simp only [hc, decide_false, Bool.false_eq_true, if_false]
    exact h

theorem g_call {v : Value} {a' : Act} {j : Nat} {want c : Bool} {f : FuncId} {args : Array Value} (hg : o.guard = some (j, want)) (hy : yielded ops a.tmps j = some c)
    (hv : c = want → ∀ w, C w → (execOp a.eval o).run P w = .ok (.enter f args) w)
    (hcl : c = want → ∀ w, C w → Calls P f args w (fun e w' => e = .returned v ∧ C w')) (ha : a.put o.dst (gv c want v) = a')
    (h : wpQuiet P ops C Q rest a') : wpQuiet P ops C Q (o :: rest) a := by
  unfold wpQuiet
  rw [wanted_g hg hy]
  subst ha
  by_cases hc : c = want
  · rw [gv_eq hc] at h
    simp only [hc, decide_true, if_true]
    exact ⟨v, fun w hC => by unfold Oper.quietAt; rw [hv hc w hC]; exact ⟨rfl, hcl hc w hC⟩, h⟩
  · unfold gv at h
    rw [if_neg hc] at h
    simp only [hc, decide_false, Bool.false_eq_true, if_false]
    exact h

theorem t_val {v : Value} {a' : Act} (hw : Region.wanted o (yielded ops a.tmps) = true) (hv : ∀ w, C w → (execOp a.eval o).run P w = .ok (.value v) w) (ha : a.put o.dst v = a')
    (h : wpQuiet P ops C Q rest a') : wpQuiet P ops C Q (o :: rest) a := by
  unfold wpQuiet
  rw [if_pos hw]
  subst ha
  exact ⟨v, fun w hC => by unfold Oper.quietAt; rw [hv w hC]; exact ⟨rfl, rfl⟩, h⟩
theorem t_call {v : Value} {a' : Act} {f : FuncId} {args : Array Value} (hw : Region.wanted o (yielded ops a.tmps) = true) (hv : ∀ w, C w → (execOp a.eval o).run P w = .ok (.enter f args) w)
    (hc : ∀ w, C w → Calls P f args w (fun e w' => e = .returned v ∧ C w')) (ha : a.put o.dst v = a')
    (h : wpQuiet P ops C Q rest a') : wpQuiet P ops C Q (o :: rest) a := by
  unfold wpQuiet
  rw [if_pos hw]
  subst ha
  exact ⟨v, fun w hC => by unfold Oper.quietAt; rw [hv w hC]; exact ⟨rfl, hc w hC⟩, h⟩
theorem t_skip {a' : Act} (hw : Region.wanted o (yielded ops a.tmps) = false) (ha : a.put o.dst undef = a')
    (h : wpQuiet P ops C Q rest a') : wpQuiet P ops C Q (o :: rest) a := by
  unfold wpQuiet
  rw [hw]
  subst ha
  simpa using h
theorem run_v {P : Program} {s : Sem Value} {x : Value} {w : World} (h : s.run P w = .ok x w) : (do pure (Next.value (← s)) : Sem Next).run P w = .ok (.value x) w := by simp [h]

/-- a call of a function by its name is entered -/
theorem run_call {P : Program} {a : Act} {o : Oper} {f : FuncId} {xs : Array Operand} {ts : Array TypeId} {args : Array Value} {w : World}
    (ho : o.op = .call { callee := .value (.func f), args := xs, argTypes := ts }) (hx : xs.map a.eval = args) (hf : ∀ (ys : Array Value) (w : World), (callFunc f ys).run P w = .ok (.enter f ys) w) :
    (execOp a.eval o).run P w = .ok (.enter f args) w := by
  have h1 : a.eval (.func f) = Value.func (.func f) #[] #[] := rfl
  subst hx
  unfold execOp
  simp only [ho, resolve, h1, Deferred.ofValue, Sem.run_bind, Sem.run_pure, Result.andThen, invoke]
  simp [hf]
theorem run_call0 {P : Program} {a : Act} {o : Oper} {f : FuncId} {ts : Array TypeId} {w : World}
    (ho : o.op = .call { callee := .value (.func f), args := #[], argTypes := ts }) (hf : ∀ (xs : Array Value) (w : World), (callFunc f xs).run P w = .ok (.enter f xs) w) :
    (execOp a.eval o).run P w = .ok (.enter f #[]) w := run_call ho (by simp) hf
theorem run_call1 {P : Program} {a : Act} {o : Oper} {f : FuncId} {x : Operand} {ts : Array TypeId} {u : Value} {w : World}
    (ho : o.op = .call { callee := .value (.func f), args := #[x], argTypes := ts }) (hx : a.eval x = u) (hf : ∀ (xs : Array Value) (w : World), (callFunc f xs).run P w = .ok (.enter f xs) w) :
    (execOp a.eval o).run P w = .ok (.enter f #[u]) w := run_call ho (by simp [hx]) hf
theorem run_call2 {P : Program} {a : Act} {o : Oper} {f : FuncId} {x y : Operand} {ts : Array TypeId} {u v : Value} {w : World}
    (ho : o.op = .call { callee := .value (.func f), args := #[x, y], argTypes := ts }) (hx : a.eval x = u) (hy : a.eval y = v) (hf : ∀ (xs : Array Value) (w : World), (callFunc f xs).run P w = .ok (.enter f xs) w) :
    (execOp a.eval o).run P w = .ok (.enter f #[u, v]) w := run_call ho (by simp [hx, hy]) hf
theorem run_call3 {P : Program} {a : Act} {o : Oper} {f : FuncId} {x y z : Operand} {ts : Array TypeId} {u v t : Value} {w : World}
    (ho : o.op = .call { callee := .value (.func f), args := #[x, y, z], argTypes := ts }) (hx : a.eval x = u) (hy : a.eval y = v) (hz : a.eval z = t) (hf : ∀ (xs : Array Value) (w : World), (callFunc f xs).run P w = .ok (.enter f xs) w) :
    (execOp a.eval o).run P w = .ok (.enter f #[u, v, t]) w := run_call ho (by simp [hx, hy, hz]) hf
theorem run_len {P : Program} {a : Act} {o : Oper} {x : Operand} {ts : Array TypeId} {v u : Value} {w : World}
    (ho : o.op = .call { callee := .builtin .len, args := #[x], argTypes := ts }) (hx : a.eval x = v) (hl : (Builtin.len_ ts o.type #[v]).run P w = .ok u w) : (execOp a.eval o).run P w = .ok (.value u) w := by
  unfold execOp
  simp [ho, hx, resolve, invoke, builtin, hl]

/-- what '||' picks -/
theorem pick_or {c d : Bool} : (if c then Value.bool true else gv c false (.bool d)) = .bool (c || d) := by cases c <;> simp [gv]
/-- what '&&' picks -/
theorem pick_and {c d : Bool} : (if c then gv c true (.bool d) else Value.bool false) = .bool (c && d) := by cases c <;> simp [gv]
end
end Go.Proofs.YtpcdlneompnhlaaGreatDoor.Qg

namespace Go.Proofs.YtpcdlneompnhlaaGreatDoor.Lx
open Go Go.RowKit

set_option maxHeartbeats 400000 in
theorem blank_any (c : UInt8) (w : World) :
    Calls Tryz.prog 71 #[.int .u8 (c.toNat : Int)] w fun e w' => e = .returned (.bool (blk c)) ∧ w = w' := by
  go_enter Tryz.func71, Tryz.ntmps71
  go_wp2
  all_goals
    go_ret
    refine ⟨ret_bool ?_, rfl⟩
    rw [Bool.eq_iff_iff]
    simp [blk] <;> omega

def ixB (s : ByteArray) : Int := Lib.indexByte s.data.toList 10
set_option maxRecDepth 100000 in
set_option maxHeartbeats 400000 in
theorem slIndexByte_any (s : ByteArray) (w : World) :
    Calls Tryz.prog 115 #[.string s, .int .u8 10] w fun e w' => e = .returned (.int .i64 (ixB s)) ∧ w = w' := by
  go_enter Tryz.func115, Tryz.ntmps115
  go_wp2
  rw [run_callFunc_extern Tryz.func159 (by kernel_rfl) (by kernel_rfl) (by kernel_rfl) (e := Extern.BytealgIndexByte.indexByte) (by kernel_rfl), Lib.run_indexByteString]
  simp only [Result.andThen]
  rw [Oper.upon_value]
  go_wp2
  go_ret
  exact ⟨rfl, rfl⟩
set_option maxRecDepth 100000 in
set_option maxHeartbeats 400000 in
theorem indexByte_any (s : ByteArray) (w : World) :
    Calls Tryz.prog 72 #[.string s, .int .u8 10] w fun e w' => e = .returned (.int .i64 (ixB s)) ∧ w = w' := by
  go_enter Tryz.func72, Tryz.ntmps72
  go_wp2_with (go_at_call 115; refine (slIndexByte_any _ _).mono ?_; rintro e w' ⟨rfl, rfl⟩)
  go_ret
  exact ⟨rfl, rfl⟩

/-- does a text begin by another one? -/
theorem info_u8 : (Tryz.prog.info? 5).map (fun i => (i.zero, i.size, i.bytes)) = some (some (.int .u8 0), 1, 1) := by kernel_rfl
set_option maxHeartbeats 4000000 in
set_option maxRecDepth 100000 in
theorem slClone_any (s : ByteArray) (w : World) (hlim : s.size ≤ 281474976710656) :
    Calls Tryz.prog 79 #[.string s] w fun e w' => e = .returned (.string s) ∧ Below w.heap.size w w' := by
  by_cases h0 : s.size = 0
  · have hs : s = ⟨#[]⟩ := by
      apply ByteArray.ext
      exact Array.eq_empty_of_size_eq_zero h0
    subst hs
    go_enter Tryz.func79, Tryz.ntmps79
    go_wp2
    go_ret
    exact ⟨rfl, Below.refl _ _⟩
  · have t40 := Tryz.underlying72
    obtain ⟨i0, hi, hz0, hz1, hz2⟩ := info_parts info_u8
    have hinfo : (Tryz.prog.info? 5).map (·.size) = some 1 := by rw [hi]; simp [hz1]
    have hco : Tryz.prog.cellsOf 5 = 1 := by simp [Program.cellsOf, hi, hz1]
    obtain ⟨M, hM⟩ : ∃ M, M = madeCells (Value.int .u8 0).cells (((s.size : Nat) : Int).toNat * i0.size) := ⟨_, rfl⟩
    have hMs : M.size = s.size := by rw [hM, size_madeCells, hz1]; simp
    have hmk : ∀ W : World, (Instr.makeSlice 72 (.int .i64 (s.size : Int)) (.int .i64 (s.size : Int))).run Tryz.prog W = .ok (.slice (some ⟨W.heap.size, 0, none⟩) s.size s.size) (W.alloc (.cells M 5)) := fun W => by
      have h := run_make (P := Tryz.prog) W 72 5 i0 (.int .u8 0) t40 hi hz0 .i64 .i64 (s.size : Int) (s.size : Int) (by omega) (by omega) (by rw [hz2]; omega) (by omega)
      rw [← hM] at h
      simpa using h
    clear hM
    have hcp := Lib.run_copy_row_string (P := Tryz.prog) (w.alloc (.cells M 5)) 72 9 3 5 w.heap.size 0 s.size s.size s M 5 t40 hinfo (heap_alloc_new w _) (Nat.le_refl _) (by omega)
    obtain ⟨Y, hY⟩ : ∃ Y, Y = (M.toList.take 0 ++ Lib.byteCells s.data.toList ++ M.toList.drop (0 + s.size)).toArray := ⟨_, rfl⟩
    rw [← hY] at hcp
    have hYl : Y.toList = Lib.byteCells s.data.toList := by
      rw [hY, List.toList_toArray, List.take_zero, List.nil_append, List.drop_of_length_le (by rw [Array.length_toList]; omega), List.append_nil]
    have hYs : Y.size = s.size := by rw [← Array.length_toList, hYl, Lib.byteCells_length, ← Lib.size_eq]
    have hgY : ((w.alloc (.cells M 5)).setRow w.heap.size Y).heap[w.heap.size]? = some (.cells Y 5 (0, 0)) := setRow_heap _ _ M _ 5 (0, 0) (heap_alloc_new w _)
    have hne : s.data.toList ≠ [] := fun e => h0 (by rw [Lib.size_eq, e]; rfl)
    have hUS := Lib.run_unsafeString_row (P := Tryz.prog) ((w.alloc (.cells M 5)).setRow w.heap.size Y) 143 3 9 5 Tryz.underlying143 hco w.heap.size Y.size (by unfold World.shape?; rw [hgY]) s.data.toList hne (by rw [← Lib.size_eq]; omega) (by rw [← Lib.size_eq]; omega)
      (fun j x hx => Lib.cells_of_row hgY Y.size j _ (by rw [List.take_of_length_le (by rw [Array.length_toList]; exact Nat.le_refl _), hYl]; simp [Lib.byteCells, hx]))
    rw [← Lib.size_eq] at hUS
    clear hY
    go_enter Tryz.func79, Tryz.ntmps79
    go_wp2
    go_ret
    have hb1 : Below w.heap.size w (w.alloc (.cells M 5)) := (Below.refl _ w).alloc (Nat.le_refl _) _
    have hb2 : Below w.heap.size (w.alloc (.cells M 5)) ((w.alloc (.cells M 5)).setRow w.heap.size Y) := ⟨rfl, rfl, rfl, by simp, fun k hk => setRow_other _ _ _ _ (by omega)⟩
    exact ⟨rfl, Lib.below_freeze (hb1.trans hb2) (p := ⟨w.heap.size, 0, none⟩) (Nat.le_refl _) _⟩

set_option maxHeartbeats 400000 in
theorem clone_any (s : ByteArray) (w : World) (hlim : s.size ≤ 281474976710656) :
    Calls Tryz.prog 37 #[.string s] w fun e w' => e = .returned (.string s) ∧ Below w.heap.size w w' := by
  go_enter Tryz.func37, Tryz.ntmps37
  go_wp2_with (go_at_call 79; refine (slClone_any _ _ hlim).mono ?_; rintro e w' ⟨rfl, hb⟩)
  go_ret
  exact ⟨rfl, hb⟩
/-- where idle ends, from a place on -/
def idl (s : ByteArray) (k : Nat) : Nat := k + skp false (s.data.toList.drop k)
theorem idl_le (s : ByteArray) (k : Nat) (h : k ≤ s.size) : idl s k ≤ s.size := by
  have := skp_le false (s.data.toList.drop k)
  rw [List.length_drop, ← Lib.size_eq] at this
  unfold idl; omega
theorem idl_end (s : ByteArray) (k : Nat) (h : k = s.size) : idl s k = k := by
  subst h; unfold idl
  rw [List.drop_of_length_le (by rw [← Lib.size_eq]; omega), skp_nil]; omega
theorem idl_blk (s : ByteArray) (k : Nat) (h : k < s.size) (hb : blk s[k] = true) : idl s (k + 1) = idl s k := by
  unfold idl; rw [drop_cons s k h, skp_false_cons, if_pos hb]; omega
theorem idl_stop (s : ByteArray) (k : Nat) (h : k < s.size) (hb : blk s[k] = false) (hh : ¬ s[k].toNat = 35) : idl s k = k := by
  unfold idl; rw [drop_cons s k h, skp_false_cons, if_neg (by simp [hb]), if_neg hh]; omega
theorem skp_35 (s : ByteArray) (k : Nat) (h : k < s.size) (hh : s[k].toNat = 35) : skp false (s.data.toList.drop k) = skp true (s.data.toList.drop k) := by
  rw [drop_cons s k h, skp_false_cons, skp_true_cons, if_neg (by simp [blk, hh]), if_pos hh, if_neg (by omega)]
/-- the place of the next line's end, from a place on; -1: there is none -/
def nl (s : ByteArray) (k : Nat) : Int := ixB (s.extract k s.size)
theorem nl_drop (s : ByteArray) (k : Nat) : nl s k = Lib.indexByte (s.data.toList.drop k) 10 := by
  unfold nl ixB; rw [Lib.extract_data, List.take_of_length_le (by rw [List.length_drop, ← Lib.size_eq]; omega)]
theorem idl_none (s : ByteArray) (k : Nat) (h : k < s.size) (hh : s[k].toNat = 35) (hn : nl s k < 0) : idl s k = s.size := by
  rw [nl_drop] at hn
  have := Lib.indexByte_ge (s.data.toList.drop k) 10
  unfold idl; rw [skp_35 s k h hh, skp_true_none _ (by omega), List.length_drop, ← Lib.size_eq]; omega
theorem idl_some (s : ByteArray) (k n : Nat) (h : k < s.size) (hh : s[k].toNat = 35) (hn : nl s k = n) : idl s (k + n) = idl s k ∧ k + n < s.size ∧ 0 < n := by
  rw [nl_drop] at hn
  have h1 := skp_true_some _ n hn
  have h2 := indexByte_lt _ n hn
  rw [List.length_drop, ← Lib.size_eq] at h2
  rw [List.drop_drop] at h1
  refine ⟨?_, by omega, ?_⟩
  · unfold idl; rw [skp_35 s k h hh, h1]; omega
  · rw [drop_cons s k h] at hn
    unfold Lib.indexByte at hn
    split at hn
    · rename_i e; have e : s[k] = 10 := by simpa using e
      rw [e] at hh; exact absurd hh (by decide)
    · split at hn
      · omega
      · rename_i e
        have := Lib.indexByte_ge (s.data.toList.drop (k + 1)) 10
        have h3 : Lib.indexByte (s.data.toList.drop (k + 1)) 10 ≠ -1 := by intro e2; apply e; simp [e2]
        omega
theorem nl_bd (s : ByteArray) (k : Nat) (h : k ≤ s.size) : -1 ≤ nl s k ∧ (k : Int) + nl s k ≤ s.size := by
  rw [nl_drop]
  have h1 := Lib.indexByte_ge (s.data.toList.drop k) 10
  refine ⟨h1, ?_⟩
  by_cases h2 : Lib.indexByte (s.data.toList.drop k) 10 < 0
  · omega
  · obtain ⟨n, hn⟩ := Int.eq_ofNat_of_zero_le (show 0 ≤ Lib.indexByte (s.data.toList.drop k) 10 by omega)
    have h3 := indexByte_lt _ n hn
    rw [List.length_drop, ← Lib.size_eq] at h3
    omega

set_option maxHeartbeats 800000 in
theorem idle_any (s : ByteArray) (a : Int) (w : World) (hs : s.size ≤ maxLen) (h0 : 0 ≤ a) (h1 : a ≤ s.size) :
    Calls Tryz.prog 35 #[.string s, .int .i64 a] w fun e w' => e = .returned (.int .i64 (idl s a.toNat : Int)) ∧ w = w' := by
  obtain ⟨k0, rfl⟩ := Int.eq_ofNat_of_zero_le h0
  rw [Int.toNat_natCast]
  unfold maxLen at hs
  have hk0 : k0 ≤ s.size := by omega
  clear h0 h1
  go_enter Tryz.func35, Tryz.ntmps35
  go_wp2
  go_loop [1] (fun i => ∃ k : Nat, k ≤ s.size ∧ i = .int .i64 k ∧ idl s k = idl s k0) (fun i => s.size - (intOf i).toNat)
  case atStart => exact ⟨k0, hk0, rfl, rfl⟩
  case round =>
    obtain ⟨k, hk, rfl, hI⟩ := hrel
    have HI := Lib.hid hI
    clear hI hk0
    by_cases hlt : k < s.size
    · have Hblk := Lib.hid (idl_blk s k hlt)
      have Hstop := Lib.hid (idl_stop s k hlt)
      have Hnone := Lib.hid (idl_none s k hlt)
      have Hsome := Lib.hid (fun n => idl_some s k n hlt)
      have hnb : -1 ≤ ixB (s.extract k s.size) ∧ (k : Int) + ixB (s.extract k s.size) ≤ s.size := nl_bd s k hk
      obtain ⟨hnb1, hnb2⟩ := hnb
      go_wp2_with (first
        | (go_at_call 71; refine (blank_any _ _).mono ?_; rintro e w' ⟨rfl, rfl⟩)
        | (go_at_call 72; refine (indexByte_any _ _).mono ?_; rintro e w' ⟨rfl, rfl⟩))
      · have hb : blk s[k] = true := by assumption
        go_round
        case rel => exact ⟨k + 1, by omega, by go_num, by rw [Hblk.out hb, HI.out]⟩
        case measure => simp [intOf]; omega
      · have hh : ((s[k].toNat : Int) == 35) = true := by assumption
        have hh : s[k].toNat = 35 := by have : (s[k].toNat : Int) = 35 := by simpa using hh
                                        omega
        have hn : ixB (s.extract k s.size) < 0 := by assumption
        go_ret
        exact ⟨ret_int (by rw [← HI.out, Hnone.out hh hn]), rfl⟩
      · have hh : ((s[k].toNat : Int) == 35) = true := by assumption
        have hh : s[k].toNat = 35 := by have : (s[k].toNat : Int) = 35 := by simpa using hh
                                        omega
        have hn : 0 ≤ ixB (s.extract k s.size) := by assumption
        obtain ⟨n, hn⟩ := Int.eq_ofNat_of_zero_le hn
        obtain ⟨q1, q2, q3⟩ := Hsome.out n hh hn
        go_round
        case rel => exact ⟨k + n, by omega, by rw [hn]; go_num, by rw [q1, HI.out]⟩
        case measure => rw [hn]; simp [intOf]; omega
      · have hb : blk s[k] = false := by assumption
        have hh : ((s[k].toNat : Int) == 35) = false := by assumption
        have hh : ¬ s[k].toNat = 35 := by intro e; rw [e] at hh; simp at hh
        go_ret
        exact ⟨ret_int (by rw [← HI.out, Hstop.out hb hh]), rfl⟩
    · go_wp2
      go_ret
      refine ⟨ret_int ?_, rfl⟩
      rw [← HI.out, idl_end s k (by omega)]
end Go.Proofs.YtpcdlneompnhlaaGreatDoor.Lx
