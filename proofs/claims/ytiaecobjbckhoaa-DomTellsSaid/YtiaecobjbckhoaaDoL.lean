/- A graph with a way less, in the making: what lies in memory; and what comes of it. Conditions: none. -/
import Derived.Test.YtiaecobjbckhoaaDoK
import Derived.Test.YtiaecobjbckhoaaDbF
set_option linter.unusedVariables false
set_option linter.unusedSimpArgs false
namespace Go.Proofs.Ytiaecobjbckhoaa.Db
open Go Go.RowKit
open Go.WideShapes Go.MapKept

theorem below_gr {W0 w w' : World} {q : Option Nat} (h : Below W0.heap.size W0 w) (hg : w.grownBy w' q) (hq : ∀ b, q = some b → W0.heap.size ≤ b) : Below W0.heap.size W0 w' :=
  ⟨hg.os.trans h.os, hg.tape.trans h.tape, hg.output.trans h.output, Nat.le_trans h.size hg.size, fun i hi => (hg.block i (Nat.lt_of_lt_of_le hi h.size) (fun e => by have := hq i e.symm; omega)).trans (h.block i hi)⟩
/-- a row put together of two parts of another one -/
structure FwC (c r : Nat) (l : List Int) (W0 : World) (b0 : Bool) (s0 : Value) (b7 : Bool) (s7 : Value) (b15 : Bool) (s15 : Value) (b16 : Bool) (s16 : Value) (w : World) : Prop where
  fr : Below W0.heap.size W0 w
  r0 : b0 = true → b7 = false → w.ownsRow W0.heap.size 3 1 s0 0 []
  r7 : b7 = true → b15 = false → w.ownsRow W0.heap.size 3 1 s7 c (numCells (l.take c))
  r15 : b15 = true → w.ownsRow W0.heap.size 3 1 s15 (c + r) (numCells (l.take c ++ l.drop (c + 1)))
  e16 : b16 = true → s16 = s15
section
variable {c r : Nat} {l : List Int} {W0 : World} {s0 s7 s15 s16 : Value} {w w' : World} {v' : Value}
theorem FwC.start (W0 : World) : FwC c r l W0 false s0 false s7 false s15 false s16 W0 :=
  ⟨Below.refl _ _, fun e => (by cases e), fun e => (by cases e), fun e => (by cases e), fun e => (by cases e)⟩
theorem FwC.lit (h : FwC c r l W0 false s0 false s7 false s15 false s16 w) : FwC c r l W0 true (.slice (some ⟨w.heap.size, 0, none⟩) 0 0) false s7 false s15 false s16 (w.alloc (.cells #[] 3)) :=
  ⟨h.fr.trans ((b_alloc _ _).mono h.fr.size), fun _ _ => lit_own w _ h.fr.size, fun e => (by cases e), fun e => (by cases e), fun e => (by cases e)⟩
theorem FwC.ap7 (h : FwC c r l W0 true s0 false s7 false s15 false s16 w) (ho : w'.ownsRow W0.heap.size 3 1 v' (0 + c) ([] ++ numCells (l.take c))) (hg : w.grownBy w' s0.ownBlock) : FwC c r l W0 true s0 true v' false s15 false s16 w' :=
  ⟨below_gr h.fr hg fun b e => ((h.r0 rfl rfl).lt b e).1, fun _ e => (by cases e), fun _ _ => by rw [Nat.zero_add, List.nil_append] at ho; exact ho, fun e => (by cases e), fun e => (by cases e)⟩
theorem FwC.ap15 (h : FwC c r l W0 true s0 true s7 false s15 false s16 w) (ho : w'.ownsRow W0.heap.size 3 1 v' (c + r) (numCells (l.take c) ++ numCells (l.drop (c + 1)))) (hg : w.grownBy w' s7.ownBlock) : FwC c r l W0 true s0 true s7 true v' false s16 w' :=
  ⟨below_gr h.fr hg fun b e => ((h.r7 rfl rfl).lt b e).1, fun _ e => (by cases e), fun _ e => (by cases e), fun _ => by unfold numCells at ho ⊢; rw [List.map_append]; exact ho, fun e => (by cases e)⟩
theorem FwC.fin (h : FwC c r l W0 true s0 true s7 true s15 false s16 w) : FwC c r l W0 true s0 true s7 true s15 true s15 w := ⟨h.fr, h.r0, h.r7, h.r15, fun _ => rfl⟩
end
/-- lists of one's own, in a row of one's own -/
structure LsM (B : Nat) (v : Value) (X : List Tl) (W : World) : Prop where
  head : W.ownsRow B 33 1 v X.length (tlCells X)
  rows : ∀ x ∈ X, W.ownsRow B 3 1 (.slice x.a x.l.length x.cap) x.l.length (numCells x.l)
theorem own_ty {B : Nat} {v u : Value} {m k : Nat} {xs ys : List Value} {W : World} (h : W.ownsRow B 33 1 v m xs) (h' : W.ownsRow B 3 1 u k ys) {q : Nat} (hq : v.ownBlock = some q) : u.ownBlock ≠ some q := by
  rcases h.2 with ⟨rfl, _⟩ | ⟨g, cap, cur, rfl, _, hg, _⟩
  · cases hq
  · have : g = q := by simpa [Value.ownBlock] using hq
    subst this
    exact own_ne hg h'
theorem LsM.keep {B : Nat} {v : Value} {X : List Tl} {W W' : World} (h : LsM B v X W) (hb : Below W.heap.size W W') : LsM B v X W' :=
  ⟨own_below h.head hb, fun x hx => own_below (h.rows x hx) hb⟩
theorem LsM.app {B : Nat} {v v' : Value} {X : List Tl} {x : Tl} {W W' : World} (h : LsM B v X W) (hx : W.ownsRow B 3 1 (.slice x.a x.l.length x.cap) x.l.length (numCells x.l)) (ho : W'.ownsRow B 33 1 v' (X.length + 1) (tlCells X ++ x.vals)) (hg : W.grownBy W' v.ownBlock) : LsM B v' (X ++ [x]) W' := by
  have kp : ∀ {u : Value} {k : Nat} {ys : List Value}, W.ownsRow B 3 1 u k ys → W'.ownsRow B 3 1 u k ys := fun {u k ys} hu => by
    refine ⟨hu.1, ?_⟩
    rcases hu.2 with h1 | ⟨g, cap, cur, he, hB, hgg, hr⟩
    · exact .inl h1
    · refine .inr ⟨g, cap, cur, he, hB, (hg.block g (Array.getElem?_eq_some_iff.1 hgg).1 (fun e => ?_)).trans hgg, hr⟩
      exact own_ty h.head hu e.symm (by rw [he]; rfl)
  refine ⟨by rw [List.length_append]; unfold tlCells at ho ⊢; rw [List.flatMap_append]; simpa using ho, fun y hy => ?_⟩
  rw [List.mem_append, List.mem_singleton] at hy
  rcases hy with hy | rfl
  · exact kp (h.rows y hy)
  · exact kp hx
theorem own_rowT {B : Nat} {e : TypeId} {a : Option Addr} {n cap : Nat} {xs : List Value} {w : World} (h : w.ownsRow B e 1 (.slice a n cap) n xs) : RowAt w (fun b => b < w.heap.size) a cap n xs := by
  obtain ⟨a', cap', he, hr⟩ := row_own h
  cases he
  exact row_lt (hr.mono fun _ _ => trivial)
theorem LsM.to {B : Nat} {v : Value} {X : List Tl} {W : World} (h : LsM B v X W) : ∃ a cap, v = .slice a X.length cap ∧ ToM W.heap.size a cap X W := by
  obtain ⟨a, cap, rfl, hr⟩ := row_own h.head
  exact ⟨a, cap, rfl, row_lt (hr.mono fun _ _ => trivial), fun x hx => own_rowT (h.rows x hx)⟩
/-- the lists with a way less -/
def lessR (T : List Tl) (f c i : Nat) : List Int := if i = f then (tos T i).take c ++ (tos T i).drop (c + 1) else tos T i
def lessL (T : List Tl) (f c n : Nat) : List (List Int) := (List.range n).map (lessR T f c)
theorem less_sub (T : List Tl) (f c i : Nat) : ∀ t ∈ lessR T f c i, t ∈ tos T i := fun t h => by
  unfold lessR at h
  split at h
  · rw [List.mem_append] at h
    rcases h with h | h
    · exact List.mem_of_mem_take h
    · exact List.mem_of_mem_drop h
  · exact h
theorem less_len (T : List Tl) (f c i : Nat) : (lessR T f c i).length ≤ (tos T i).length := by
  unfold lessR
  split
  · rw [List.length_append, List.length_take, List.length_drop]; omega
  · exact Nat.le_refl _
theorem tos_map {X : List Tl} {L : List (List Int)} (h : X.map (·.l) = L) (b : Nat) : tos X b = L.getD b [] := by
  subst h
  unfold tos
  rw [List.getD_eq_getElem?_getD, List.getD_eq_getElem?_getD, List.getElem?_map]
  rcases X[b]? with _ | x <;> rfl
theorem tos_less {T X : List Tl} {f c n : Nat} (h : X.map (·.l) = lessL T f c n) {b : Nat} (hb : b < n) : tos X b = lessR T f c b := by
  rw [tos_map h]
  unfold lessL
  rw [List.getD_eq_getElem?_getD, List.getElem?_map, List.getElem?_range hb]
  rfl
theorem tos_out {X : List Tl} {b : Nat} (h : X.length ≤ b) : tos X b = [] := by
  unfold tos
  rw [List.getD_eq_getElem?_getD, List.getElem?_eq_none h]
  rfl
theorem gf_mayL {n : Nat} {X : List Tl} (hX : X.length = n) (hn : 0 < n) (hn2 : n ≤ 32768) (h : ∀ b, b < n → ∀ t ∈ tos X b, 0 ≤ t ∧ t < (n : Int)) : mayL n X = true := by
  unfold mayL
  simp only [Bool.and_eq_true, decide_eq_true_eq, Bool.not_eq_true']
  refine ⟨hn, hn2, ?_⟩
  rw [List.any_eq_false]
  intro x hx
  obtain ⟨b, hb⟩ := List.mem_iff_getElem?.1 hx
  have hbn := (List.getElem?_eq_some_iff.1 hb).1
  have ht : tos X b = x.l := by unfold tos; rw [List.getD_eq_getElem?_getD, hb]; rfl
  have : x.l.any (badN n) = false := by
    rw [List.any_eq_false]
    intro t htm
    have := h b (by omega) t (by rw [ht]; exact htm)
    unfold badN
    simp
    omega
  simpa using this
/-- with a way less -/
theorem less_gf {n : Nat} {T X : List Tl} {f c : Nat} (H : Gf n T) (h : X.map (·.l) = lessL T f c n) : X.length = n ∧ (∀ b, b < n → ∀ t ∈ tos X b, 0 ≤ t ∧ t < (n : Int)) ∧ (∀ b, ∀ t ∈ tos X b, t ∈ tos T b) ∧ ∀ b, (tos X b).length ≤ (tos T b).length := by
  have hl : X.length = n := by have := congrArg List.length h; unfold lessL at this; simpa using this
  refine ⟨hl, fun b hb t ht => ?_, fun b t ht => ?_, fun b => ?_⟩
  · rw [tos_less h hb] at ht
    exact H.in_ b hb t (less_sub T f c b t ht)
  · by_cases hb : b < n
    · rw [tos_less h hb] at ht
      exact less_sub T f c b t ht
    · rw [tos_out (by omega)] at ht; cases ht
  · by_cases hb : b < n
    · rw [tos_less h hb]; exact less_len T f c b
    · rw [tos_out (by omega)]; exact Nat.zero_le _
theorem less_tree {n : Nat} {T X : List Tl} (H : Gf n T) (H' : Gf n X) (hs : ∀ b, ∀ t ∈ tos X b, t ∈ tos T b) : (∀ b : Nat, (tre n X).reach (b : Int) = true → (tre n T).reach (b : Int) = true) ∧ ∀ a b : Nat, (tre n X).reach (b : Int) = true → (tre n T).above (a : Int) (b : Int) = true → (tre n X).above (a : Int) (b : Int) = true := by
  refine ⟨fun b h => (H.reach b).2 (((H'.reach b).1 h).mono hs fun _ h => h), fun a b h h' => (H'.above a b).2 ⟨(H'.reach b).1 h, fun hc => ((H.above a b).1 h').2 (hc.mono hs fun _ h => h)⟩⟩
end Go.Proofs.Ytiaecobjbckhoaa.Db
