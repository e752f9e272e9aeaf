/- The walk through a graph in memory: the graph, and what is met so far. Conditions: none. -/
import Derived.Test.YtiaecobjbckhoaaDbF
import Derived.Test.YtiaecobjbckhoaaDmB
set_option linter.unusedVariables false
set_option linter.unusedSimpArgs false
namespace Go.Proofs.Ytiaecobjbckhoaa.Db
open Go Go.RowKit
open Go.WideShapes Go.MapKept Dm

/-- a list by its head -/
structure Tl where
  a : Option Addr
  cap : Nat
  l : List Int
def Tl.vals (x : Tl) : List Value := [.slice x.a x.l.length x.cap]
def tlCells (T : List Tl) : List Value := T.flatMap Tl.vals
theorem Tl.vals_len (x : Tl) : x.vals.length = 1 := rfl
/-- a graph in memory, below B -/
structure ToM (B : Nat) (a : Option Addr) (cap : Nat) (T : List Tl) (W : World) : Prop where
  row : RowAt W (fun b => b < B) a cap T.length (tlCells T)
  rows : ∀ x ∈ T, RowAt W (fun b => b < B) x.a x.cap x.l.length (numCells x.l)
def tos (T : List Tl) (b : Nat) : List Int := (T.getD b ⟨none, 0, []⟩).l
theorem kps_below {B : Nat} {W W' : World} (h : Below B W W') : Kps (fun b => b < B) W W' := fun b o v hb hc => by
  have := h.block b hb
  rw [World.cell?_of_block (w := W) this]; exact hc
theorem ToM.keep {B : Nat} {a : Option Addr} {cap : Nat} {T : List Tl} {W W' : World} (h : ToM B a cap T W) (hb : Below B W W') : ToM B a cap T W' :=
  ⟨h.row.below (kps_below hb), fun x hx => (h.rows x hx).below (kps_below hb)⟩
theorem tl_row {w : World} {S : Nat → Prop} {a : Option Addr} {cap : Nat} {l : List Tl} (h : RowAt w S a cap l.length (tlCells l)) (i : Nat) (e : Tl) (he : l[i]? = some e) :
    ∃ b off, a = some ⟨b, off, none⟩ ∧ S b ∧ w.cell? ⟨b, off + i, none⟩ = some (.slice e.a e.l.length e.cap) := by
  obtain ⟨b, off, ha, hb, hcl⟩ := row_get Tl.vals 1 Tl.vals_len (by omega) h i e he
  refine ⟨b, off, ha, hb, ?_⟩
  have := hcl 0 _ rfl
  simpa using this
theorem numS_row {w : World} {S : Nat → Prop} {a : Option Addr} {cap : Nat} {l : List Int} (h : RowAt w S a cap l.length (numCells l)) (i : Nat) (e : Int) (he : l[i]? = some e) :
    ∃ b off, a = some ⟨b, off, none⟩ ∧ S b ∧ w.cell? ⟨b, off + i, none⟩ = some (.int .i64 e) := by
  obtain ⟨b, off, ha, hb, hc⟩ := h.at_ i (.int .i64 e) (by unfold numCells; rw [List.getElem?_map, he]; rfl)
  exact ⟨b, off, ha, hb, hc⟩

/-- how long the lists may become -/
structure Bd (n : Nat) (s : Th) : Prop where
  m : s.met.length + left n s ≤ n
  o : s.over.length = s.met.length
  l : s.low.length = s.met.length
theorem on_bd {n b : Nat} {s : Th} {o : Int} (h : Bd n s) (hb : b < n) (hr : s.rank b < 0) : Bd n (s.on b o) := by
  have h1 := left_on (o := o) hb hr
  have h2 := h.m
  have h3 := h.o
  have h4 := h.l
  refine ⟨?_, ?_, ?_⟩
  · have : (s.on b o).met.length = s.met.length + 1 := by simp [Th.on]
    omega
  · simp [Th.on, h3]
  · simp [Th.on, h4]
theorem come_bd {n : Nat} {S : Nat → List Int} (hS : ∀ b, b < n → ∀ t ∈ S b, 0 ≤ t ∧ t < (n : Int)) : ∀ (q : Nat) (s : Th) (b : Nat) (o : Int), Bd n s → b < n → Bd n (come q S s b o) ∧ left n (come q S s b o) ≤ left n s := by
  intro q
  induction q with
  | zero => intro s b o h _; exact ⟨h, Nat.le_refl _⟩
  | succ q ih =>
    intro s b o h hb
    unfold come
    split
    · exact ⟨h, Nat.le_refl _⟩
    · rename_i hr
      have h1 := left_on (o := o) hb (show s.rank b < 0 by omega)
      have : ∀ (l : List Int), (∀ t ∈ l, 0 ≤ t ∧ t < (n : Int)) → ∀ s1, Bd n s1 → Bd n (l.foldl (fun s t => come q S s t.toNat (s.rank b)) s1) ∧ left n (l.foldl (fun s t => come q S s t.toNat (s.rank b)) s1) ≤ left n s1 := by
        intro l
        induction l with
        | nil => intro _ s1 h1; exact ⟨h1, Nat.le_refl _⟩
        | cons t r ihl =>
          intro hl s1 h1
          have ht := hl t (by simp)
          obtain ⟨k1, k2⟩ := ih s1 t.toNat (s1.rank b) h1 (by omega)
          obtain ⟨k3, k4⟩ := ihl (fun u hu => hl u (by simp [hu])) _ k1
          exact ⟨k3, Nat.le_trans k4 k2⟩
      obtain ⟨k1, k2⟩ := this (S b) (hS b hb) (s.on b o) (on_bd h hb (by omega))
      exact ⟨k1, by omega⟩
/-- what is met so far, in memory -/
structure ThM (B pr pw pt pc wb gr n : Nat) (ta : Option Addr) (tcap : Nat) (s : Th) (W : World) : Prop where
  cR : W.cell? ⟨pr, 0, none⟩ = some (.slice (some ⟨gr, 0, none⟩) n n)
  cW : W.cell? ⟨pw, 0, none⟩ = some (.pointer (some ⟨wb, 0, none⟩))
  cT : W.cell? ⟨pt, 0, none⟩ = some (.slice ta n tcap)
  cC : W.cell? ⟨pc, 0, none⟩ = some (.func (.func 36) #[] #[.pointer (some ⟨pr, 0, none⟩), .pointer (some ⟨pw, 0, none⟩), .pointer (some ⟨pt, 0, none⟩), .pointer (some ⟨pc, 0, none⟩)])
  rank : InR gr n s.rank W
  ex : ∃ vm vo vl, W.heap[wb]? = some (.cells #[vm, vo, vl, .slice none 0 0] 58 (0, 0)) ∧ W.ownsRow B 3 1 vm s.met.length (numCells s.met) ∧ W.ownsRow B 3 1 vo s.over.length (numCells s.over) ∧ W.ownsRow B 3 1 vl s.low.length (numCells s.low) ∧ Apt vm vo ∧ Apt vm vl ∧ Apt vo vl
  lt : pr < B ∧ pw < B ∧ pt < B ∧ pc < B ∧ wb < B ∧ gr < B ∧ B ≤ W.heap.size
  ne : pr ≠ gr ∧ pw ≠ gr ∧ pt ≠ gr ∧ pc ≠ gr ∧ pr ≠ wb ∧ pw ≠ wb ∧ pt ≠ wb ∧ pc ≠ wb ∧ gr ≠ wb
  n : n ≤ 32768
end Go.Proofs.Ytiaecobjbckhoaa.Db
