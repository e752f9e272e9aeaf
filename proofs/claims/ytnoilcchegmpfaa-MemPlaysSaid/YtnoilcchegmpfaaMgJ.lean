/- A step that is done to both memories: what comes of it. Conditions: none. -/
import Derived.Test.YtnoilcchegmpfaaMgI
import Derived.Test.YtnoilcchegmpfaaMeT0
namespace Go.Proofs.Ytnoilcchegmpfaa.Me
open Go Go.RowKit

/-- a package's memory and a document's lie in the world, alike, apart from one another -/
structure Pair (w : World) (m : Mm) (d : Dm) : Prop where
  i : m.In w
  j : d.In w
  a : Alike m d
  ap : ∀ b, m.foot b → ¬ d.foot b
  lt : ∀ b, d.foot b → b < w.heap.size
theorem Pair.keep {w w' : World} {m : Mm} {d : Dm} (h : Pair w m d) (hs : w.heap.size ≤ w'.heap.size) (h1 : ∀ b, m.foot b → w'.heap[b]? = w.heap[b]?) (h2 : ∀ b, d.foot b → w'.heap[b]? = w.heap[b]?) : Pair w' m d := ⟨h.i.keep h1, h.j.keep h2, h.a, h.ap, fun b hb => Nat.lt_of_lt_of_le (h.lt b hb) hs⟩
theorem Pair.below {w w' : World} {m : Mm} {d : Dm} (h : Pair w m d) (hb : Below w.heap.size w w') : Pair w' m d := ⟨h.i.below hb, h.j.below hb, h.a, h.ap, fun b h2 => Nat.lt_of_lt_of_le (h.lt b h2) hb.size⟩
/-- how a step of the package's memory ends -/
def PostM (m : Mm) (w : World) (err : Int) (C' : List (List Int)) (h' : Int → Option Int) (e : Ending) (w' : World) : Prop :=
  e = .returned (.int .i64 err) ∧ ∃ m' : Mm, m'.In w' ∧ m'.C = C' ∧ m'.h = h' ∧ m'.locks = m.locks ∧ m'.n ≤ m.n + 1 ∧ m'.mb = m.mb ∧ (∀ b, m'.foot b ↔ m.foot b) ∧ (∀ b, ¬ m.foot b → w'.heap[b]? = w.heap[b]?) ∧ ∀ B, (∀ b, m.foot b → B ≤ b) → Below B w w'
theorem PostM.of_S {m : Mm} {w w' : World} {a i v : Int} {e : Ending} (h : PostS m w a i v e w') : PostM m w (getP m.C a i).2 (setC m.C a i v) m.h e w' := by
  obtain ⟨he, m', q1, q2, q3, q4, q5, q6, q7, q8, q9⟩ := h
  exact ⟨he, m', q1, q2, q3, q4, by omega, q6, q7, q8, q9⟩
theorem PostM.of_T {m : Mm} {w w' : World} {err : Int} {h' : Int → Option Int} {e : Ending} (h : PostT m w err h' e w') : PostM m w err m.C h' e w' := by
  obtain ⟨he, m', q1, q2, q3, q4, q5, q6, q7, q8, q9⟩ := h
  exact ⟨he, m', q1, q2, q3, q4, q5, q6, q7, q8, q9⟩
/-- both memories behind a step -/
def PostB (m : Mm) (d : Dm) (w : World) (C' : List (List Int)) (h' : Int → Option Int) (w' : World) : Prop :=
  ∃ (m' : Mm) (d' : Dm), Pair w' m' d' ∧ m'.C = C' ∧ m'.h = h' ∧ m'.locks = m.locks ∧ m'.n ≤ m.n + 1 ∧ m'.mb = m.mb ∧ d'.mb = d.mb ∧ (∀ b, m'.foot b ↔ m.foot b) ∧ (∀ b, d'.foot b ↔ d.foot b) ∧ (∀ b, b < w.heap.size → ¬ m.foot b → ¬ d.foot b → w'.heap[b]? = w.heap[b]?) ∧ ∀ B, (∀ b, m.foot b → B ≤ b) → (∀ b, d.foot b → B ≤ b) → Below B w w'
theorem PostB.same {m : Mm} {d : Dm} {w : World} (h : Pair w m d) : PostB m d w m.C m.h w :=
  ⟨m, d, h, rfl, rfl, rfl, Nat.le_succ _, rfl, rfl, fun _ => Iff.rfl, fun _ => Iff.rfl, fun _ _ _ _ => rfl, fun _ _ _ => Below.refl _ _⟩
theorem PostB.new {m : Mm} {d : Dm} {w : World} {o : Obj} {w' : World} {C' : List (List Int)} {h' : Int → Option Int} (hp : Pair w m d) (h : PostB m d (w.alloc o).drew C' h' w') : PostB m d w C' h' w' := by
  obtain ⟨m', d', q1, q2, q3, q4, q5, q6, q7, q8, q9, q10, q11⟩ := h
  have e : (w.alloc o).drew.heap.size = w.heap.size + 1 := by show (w.alloc o).heap.size = _; simp
  exact ⟨m', d', q1, q2, q3, q4, q5, q6, q7, q8, q9, fun b hb b1 b2 => (q10 b (by omega) b1 b2).trans (Below.heap_alloc w o b hb), fun B b1 b2 => (((Below.refl B w).alloc (by have := b1 _ (Or.inl rfl); have := cells_lt hp.i.blk; omega) o).drew).trans (q11 B b1 b2)⟩
theorem Pair.mid {w w1 : World} {m : Mm} {d : Dm} (h : Pair w m d) {err : Int} {C' : List (List Int)} {h' : Int → Option Int} {e : Ending} (h1 : PostM m w err C' h' e w1) : d.In w1 := by
  obtain ⟨he, m', q1, q2, q3, q4, q5, q6, q7, q8, q9⟩ := h1
  exact h.j.keep fun b hb => q8 b (fun hm => h.ap b hm hb)
theorem Pair.both {w w1 w2 : World} {m : Mm} {d : Dm} (h : Pair w m d) {err err' : Int} {C' : List (List Int)} {h' : Int → Option Int} {e e' : Ending} (h1 : PostM m w err C' h' e w1) (h2 : PostD d w1 err' C' h' e' w2) (ho : ∀ i, i < 0 ∨ m.locks ≤ i → h' i = none) : PostB m d w C' h' w2 := by
  obtain ⟨he, m', q1, q2, q3, q4, q5, q6, q7, q8, q9⟩ := h1
  obtain ⟨he', d', r1, r2, r3, r4, r5, r6, r7, r8⟩ := h2
  refine ⟨m', d', ⟨q1.keep fun b hb => r7 b (fun hd => h.ap b ((q7 b).1 hb) hd), r1, ⟨by rw [q2, r2], by rw [q4, r4, h.a.k], by rw [q3, r3], fun i hi => by rw [q3]; exact ho i (by rw [← q4]; exact hi)⟩, fun b h1 h2 => h.ap b ((q7 b).1 h1) ((r6 b).1 h2), fun b hb => Nat.lt_of_lt_of_le (h.lt b ((r6 b).1 hb)) ((q9 0 (fun _ _ => Nat.zero_le _)).trans (r8 0 (fun _ _ => Nat.zero_le _))).size⟩, q2, q3, q4, q5, q6, r5, q7, r6, fun b _ b1 b2 => (r7 b b2).trans (q8 b b1), fun B b1 b2 => (q9 B b1).trans (r8 B b2)⟩
/-- what a step makes of cells, and of who holds what -/
def takeL (locks : Int) (h : Int → Option Int) (k who : Int) : Int → Option Int := if takeE locks h k = 0 then fun j => if j = k then some who else h j else h
def giveL (locks : Int) (h : Int → Option Int) (k who : Int) : Int → Option Int := if giveE locks h k who = 0 then fun j => if j = k then none else h j else h
def Sp.C (s : Sp) (C : List (List Int)) : List (List Int) := if s.kind = 0 then setC C s.at_ s.here s.v else C
def Sp.H (s : Sp) (locks : Int) (h : Int → Option Int) : Int → Option Int := if s.kind = 1 then takeL locks h s.at_ s.here else if s.kind = 2 then giveL locks h s.at_ s.here else h
theorem takeL_out {locks : Int} {h : Int → Option Int} {k who : Int} (ho : ∀ i, i < 0 ∨ locks ≤ i → h i = none) : ∀ i, i < 0 ∨ locks ≤ i → takeL locks h k who i = none := by
  intro i hi
  unfold takeL
  split
  · next ht =>
    have hk : ¬ (k < 0 ∨ locks ≤ k) := fun hk => by unfold takeE at ht; rw [if_pos hk] at ht; omega
    have : ¬ i = k := fun e => hk (e ▸ hi)
    simp only [this, if_false]
    exact ho i hi
  · exact ho i hi
theorem giveL_out {locks : Int} {h : Int → Option Int} {k who : Int} (ho : ∀ i, i < 0 ∨ locks ≤ i → h i = none) : ∀ i, i < 0 ∨ locks ≤ i → giveL locks h k who i = none := by
  intro i hi
  unfold giveL
  split
  · show (if i = k then none else h i) = none
    split
    · rfl
    · exact ho i hi
  · exact ho i hi
/-- a step's calls, of the package's memory, and of the document's behind it -/
theorem Pair.set_ {w : World} {m : Mm} {d : Dm} (h : Pair w m d) (a i v : Int) :
    Calls Try.prog 13 #[.pointer (some ⟨m.mb, 0, none⟩), .int .i64 a, .int .i64 i, .int .i64 v] w (PostM m w (getP m.C a i).2 (setC m.C a i v) m.h) :=
  (Set_c h.i a i v).mono fun _ _ q => .of_S q
theorem Pair.set2 {w w1 : World} {m : Mm} {d : Dm} (h : Pair w m d) (a i v : Int) {e : Ending} (h1 : PostM m w (getP m.C a i).2 (setC m.C a i v) m.h e w1) :
    Calls Try.prog 23 #[.pointer (some ⟨d.mb, 0, none⟩), .int .i64 a, .int .i64 i, .int .i64 v] w1 fun e' w2 => e' = .returned (.int .i64 (getP m.C a i).2) ∧ PostB m d w (setC m.C a i v) m.h w2 :=
  (dSet_c (h.mid h1) a i v).mono fun _ _ q => by
    rw [← h.a.c, ← h.a.h] at q
    exact ⟨q.1, h.both h1 q h.a.out⟩
theorem Pair.take_ {w : World} {m : Mm} {d : Dm} (h : Pair w m d) (hn : m.n < 1000000) (k who : Int) (hw : I64 who) :
    Calls Try.prog 14 #[.pointer (some ⟨m.mb, 0, none⟩), .int .i64 k, .int .i64 who] w (PostM m w (takeE m.locks m.h k) m.C (takeL m.locks m.h k who)) :=
  (Take_c h.i hn k who hw).mono fun _ _ q => .of_T q
theorem Pair.take2 {w w1 : World} {m : Mm} {d : Dm} (h : Pair w m d) (k who : Int) {e : Ending} (h1 : PostM m w (takeE m.locks m.h k) m.C (takeL m.locks m.h k who) e w1) :
    Calls Try.prog 24 #[.pointer (some ⟨d.mb, 0, none⟩), .int .i64 k, .int .i64 who] w1 fun e' w2 => e' = .returned (.int .i64 (takeE m.locks m.h k)) ∧ PostB m d w m.C (takeL m.locks m.h k who) w2 :=
  (dTake_c (h.mid h1) k who).mono fun _ _ q => by
    have e : dtakeH d k who = takeL m.locks m.h k who := by unfold dtakeH takeL; rw [h.a.k, h.a.h]
    rw [e, ← h.a.k, ← h.a.c, ← h.a.h] at q
    exact ⟨q.1, h.both h1 q (takeL_out h.a.out)⟩
theorem Pair.give_ {w : World} {m : Mm} {d : Dm} (h : Pair w m d) (k who : Int) :
    Calls Try.prog 25 #[.pointer (some ⟨m.mb, 0, none⟩), .int .i64 k, .int .i64 who] w (PostM m w (giveE m.locks m.h k who) m.C (giveL m.locks m.h k who)) :=
  (Give_c h.i k who).mono fun _ _ q => .of_T q
theorem Pair.give2 {w w1 : World} {m : Mm} {d : Dm} (h : Pair w m d) (k who : Int) {e : Ending} (h1 : PostM m w (giveE m.locks m.h k who) m.C (giveL m.locks m.h k who) e w1) :
    Calls Try.prog 26 #[.pointer (some ⟨d.mb, 0, none⟩), .int .i64 k, .int .i64 who] w1 fun e' w2 => e' = .returned (.int .i64 (giveE m.locks m.h k who)) ∧ PostB m d w m.C (giveL m.locks m.h k who) w2 :=
  (dGive_c (h.mid h1) k who).mono fun _ _ q => by
    have e : dgiveH d k who = giveL m.locks m.h k who := by unfold dgiveH giveL; rw [h.a.k, h.a.h]
    rw [e, ← h.a.k, ← h.a.c, ← h.a.h] at q
    exact ⟨q.1, h.both h1 q (giveL_out h.a.out)⟩
theorem Pair.get_ {w : World} {m : Mm} {d : Dm} (h : Pair w m d) (a i : Int) :
    Calls Try.prog 17 #[.pointer (some ⟨m.mb, 0, none⟩), .int .i64 a, .int .i64 i] w fun e w' => e = gets m.C a i ∧ w' = w := Get_c h.i a i
theorem Pair.get2 {w : World} {m : Mm} {d : Dm} (h : Pair w m d) (a i : Int) :
    Calls Try.prog 27 #[.pointer (some ⟨d.mb, 0, none⟩), .int .i64 a, .int .i64 i] w fun e w' => e = gets m.C a i ∧ w' = w := by
  rw [h.a.c]
  exact dGet_c h.j a i
end Go.Proofs.Ytnoilcchegmpfaa.Me
