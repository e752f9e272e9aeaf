/- Two pairs of memories, a memory and its copy, of the package and of the document: what the law does to them. Conditions: none. -/
import Derived.Test.YtnoilcchegmpfaaMgO
import Derived.Test.YtnoilcchegmpfaaMgM
namespace Go.Proofs.Ytnoilcchegmpfaa.Me
open Go Go.RowKit

/-- a memory and its copy, each of the package and of the document; the cells and holders of both -/
def Two (w V : World) (mb db cb yb : Nat) (L : Int) (C : List (List Int)) (h : Int → Option Int) (C' : List (List Int)) (h' : Int → Option Int) (n : Nat) : Prop :=
  Below w.heap.size w V ∧ ∃ (m : Mm) (d : Dm) (c : Mm) (y : Dm), m.mb = mb ∧ d.mb = db ∧ c.mb = cb ∧ y.mb = yb ∧ Pair V m d ∧ Pair V c y ∧ (m.C = C ∧ m.h = h ∧ m.locks = L ∧ m.n ≤ n) ∧ (c.C = C' ∧ c.h = h' ∧ c.locks = L ∧ c.n ≤ n) ∧
    (∀ b, m.foot b ∨ d.foot b → w.heap.size ≤ b) ∧ (∀ b, c.foot b ∨ y.foot b → w.heap.size ≤ b) ∧ ∀ b, m.foot b ∨ d.foot b → ¬ (c.foot b ∨ y.foot b)
theorem Two.below {w V V' : World} {mb db cb yb : Nat} {L : Int} {C C' : List (List Int)} {h h' : Int → Option Int} {n : Nat} (T : Two w V mb db cb yb L C h C' h' n) (hb : Below V.heap.size V V') : Two w V' mb db cb yb L C h C' h' n := by
  obtain ⟨h0, m, d, c, y, e1, e2, e3, e4, p1, p2, q1, q2, f1, f2, f3⟩ := T
  exact ⟨h0.trans (hb.mono h0.size), m, d, c, y, e1, e2, e3, e4, p1.below hb, p2.below hb, q1, q2, f1, f2, f3⟩
theorem Pair.foot_lt {V : World} {m : Mm} {d : Dm} (p : Pair V m d) {b : Nat} (h : m.foot b ∨ d.foot b) : b < V.heap.size := h.elim p.i.foot_lt (p.lt b)
theorem Two.do1 {w V : World} {mb db cb yb : Nat} {L : Int} {C C' : List (List Int)} {h h' : Int → Option Int} {n : Nat} (T : Two w V mb db cb yb L C h C' h' n) (hn : n < 1000000) (s : Sp) (hs : s.In) :
    Calls Try.prog 9 #[.agg #[.int .u8 s.kind, .int .i64 s.at_, .int .i64 s.here, .int .i64 s.v], .pointer (some ⟨mb, 0, none⟩), .pointer (some ⟨db, 0, none⟩)] V fun e V' => e = .returned (.bool true) ∧ Two w V' mb db cb yb L (s.C C) (s.H L h) C' h' (n + 1) := by
  obtain ⟨h0, m, d, c, y, rfl, rfl, e3, e4, p1, p2, ⟨rfl, rfl, rfl, q14⟩, ⟨q21, q22, q23, q24⟩, f1, f2, f3⟩ := T
  refine (do_c p1 (by omega) s hs).mono fun e V' ⟨he, m', d', r1, r2, r3, r4, r5, r6, r7, r8, r9, r10, r11⟩ => ⟨he, h0.trans (r11 _ (fun b hb => f1 b (.inl hb)) (fun b hb => f1 b (.inr hb))), m', d', c, y, r6, r7, e3, e4, r1, p2.keep ?_ ?_ ?_, ⟨r2, r3, r4, by omega⟩, ⟨q21, q22, q23, by omega⟩, fun b hb => f1 b (hb.imp (r8 b).1 (r9 b).1), f2, fun b hb => f3 b (hb.imp (r8 b).1 (r9 b).1)⟩
  · exact (r11 0 (fun _ _ => Nat.zero_le _) (fun _ _ => Nat.zero_le _)).size
  · exact fun b hb => r10 b (p2.foot_lt (.inl hb)) (fun e => f3 b (.inl e) (.inl hb)) (fun e => f3 b (.inr e) (.inl hb))
  · exact fun b hb => r10 b (p2.foot_lt (.inr hb)) (fun e => f3 b (.inl e) (.inr hb)) (fun e => f3 b (.inr e) (.inr hb))
theorem Two.turn {w V : World} {mb db cb yb : Nat} {L : Int} {C C' : List (List Int)} {h h' : Int → Option Int} {n : Nat} (T : Two w V mb db cb yb L C h C' h' n) : Two w V cb yb mb db L C' h' C h n := by
  obtain ⟨h0, m, d, c, y, e1, e2, e3, e4, p1, p2, q1, q2, f1, f2, f3⟩ := T
  exact ⟨h0, c, y, m, d, e3, e4, e1, e2, p2, p1, q2, q1, f2, f1, fun b hb hb' => f3 b hb' hb⟩
theorem Two.do2 {w V : World} {mb db cb yb : Nat} {L : Int} {C C' : List (List Int)} {h h' : Int → Option Int} {n : Nat} (T : Two w V mb db cb yb L C h C' h' n) (hn : n < 1000000) (s : Sp) (hs : s.In) :
    Calls Try.prog 9 #[.agg #[.int .u8 s.kind, .int .i64 s.at_, .int .i64 s.here, .int .i64 s.v], .pointer (some ⟨cb, 0, none⟩), .pointer (some ⟨yb, 0, none⟩)] V fun e V' => e = .returned (.bool true) ∧ Two w V' mb db cb yb L C h (s.C C') (s.H L h') (n + 1) :=
  (T.turn.do1 hn s hs).mono fun _ _ ⟨h1, h2⟩ => ⟨h1, h2.turn⟩
theorem Two.same1 {w V : World} {mb db cb yb : Nat} {L : Int} {C C' : List (List Int)} {h h' : Int → Option Int} {n : Nat} (T : Two w V mb db cb yb L C h C' h' n) :
    Calls Try.prog 10 #[.pointer (some ⟨mb, 0, none⟩), .pointer (some ⟨db, 0, none⟩)] V fun e V' => e = .returned (.bool true) ∧ Two w V' mb db cb yb L C h C' h' n := by
  have T' := T
  obtain ⟨h0, m, d, c, y, rfl, rfl, e3, e4, p1, p2, q1, q2, f1, f2, f3⟩ := T
  exact (same_c p1.i p1.j p1.a).mono fun _ _ ⟨h1, h2⟩ => ⟨h1, T'.below h2⟩
theorem Two.same2 {w V : World} {mb db cb yb : Nat} {L : Int} {C C' : List (List Int)} {h h' : Int → Option Int} {n : Nat} (T : Two w V mb db cb yb L C h C' h' n) :
    Calls Try.prog 10 #[.pointer (some ⟨cb, 0, none⟩), .pointer (some ⟨yb, 0, none⟩)] V fun e V' => e = .returned (.bool true) ∧ Two w V' mb db cb yb L C h C' h' n :=
  T.turn.same1.mono fun _ _ ⟨h1, h2⟩ => ⟨h1, h2.turn⟩
theorem Two.eqm {w V : World} {mb db cb yb : Nat} {L : Int} {C C' : List (List Int)} {h h' : Int → Option Int} {n : Nat} (T : Two w V mb db cb yb L C h C' h' n) {q : Bool} (hq : q = true ↔ C = C' ∧ h = h') :
    Calls Try.prog 11 #[.pointer (some ⟨mb, 0, none⟩), .pointer (some ⟨cb, 0, none⟩)] V fun e V' => e = .returned (.bool q) ∧ Two w V' mb db cb yb L C h C' h' n := by
  have T' := T
  obtain ⟨h0, m, d, c, y, rfl, e2, rfl, e4, p1, p2, ⟨rfl, rfl, rfl, q14⟩, ⟨rfl, rfl, q23, q24⟩, f1, f2, f3⟩ := T
  refine (Same_c p1.i p2.i).mono fun e V' ⟨⟨r, h1, h2⟩, h3⟩ => ⟨?_, T'.below h3⟩
  have : r = q := by
    rw [Bool.eq_iff_iff, h2, hq]
    exact ⟨fun ⟨a, b⟩ => ⟨a, funext b⟩, fun ⟨a, b⟩ => ⟨a, fun i => by rw [b]⟩⟩
  rw [h1, this]
theorem Two.eqd {w V : World} {mb db cb yb : Nat} {L : Int} {C C' : List (List Int)} {h h' : Int → Option Int} {n : Nat} (T : Two w V mb db cb yb L C h C' h' n) {q : Bool} (hq : q = true ↔ C = C' ∧ h = h') :
    Calls Try.prog 12 #[.pointer (some ⟨db, 0, none⟩), .pointer (some ⟨yb, 0, none⟩)] V fun e V' => e = .returned (.bool q) ∧ Two w V' mb db cb yb L C h C' h' n := by
  have T' := T
  obtain ⟨h0, m, d, c, y, e1, rfl, e3, rfl, p1, p2, ⟨rfl, rfl, rfl, q14⟩, ⟨rfl, rfl, q23, q24⟩, f1, f2, f3⟩ := T
  refine (dSame_c p1.j p2.j).mono fun e V' ⟨⟨r, h1, h2⟩, h3⟩ => ⟨?_, T'.below h3⟩
  have : r = q := by
    rw [Bool.eq_iff_iff, h2, hq]
    unfold SameP
    rw [← p1.a.c, ← p2.a.c, ← p1.a.h, ← p2.a.h]
    have k1 := p1.a.k
    have k2 := p2.a.k
    refine ⟨fun ⟨a, b, g⟩ => ⟨a, funext fun i => ?_⟩, fun ⟨a, b⟩ => ⟨a, by omega, fun i _ => by rw [b]⟩⟩
    by_cases hi : i < 0 ∨ m.locks ≤ i
    · rw [p1.a.out i hi, p2.a.out i (by omega)]
    · have := g i.toNat (by omega)
      rw [show ((i.toNat : Nat) : Int) = i by omega] at this
      exact this
  rw [h1, this]
/-- a memory, and its copy that is made -/
theorem Two.start {w V V1 V2 : World} {m : Mm} {d : Dm} {n : Nat} (h0 : Below w.heap.size w V) (p : Pair V m d) (hn : m.n ≤ n) (f1 : ∀ b, m.foot b ∨ d.foot b → w.heap.size ≤ b) {e e' : Ending} (h1 : PostP m V e V1) (h2 : PostDc d V1 e' V2) :
    ∃ cb yb, e = .returned (.pointer (some ⟨cb, 0, none⟩)) ∧ e' = .returned (.pointer (some ⟨yb, 0, none⟩)) ∧ Two w V2 m.mb d.mb cb yb m.locks m.C m.h m.C m.h n := by
  obtain ⟨b1, c, rfl, c1, c2, c3, c4, c5, c6⟩ := h1
  obtain ⟨b2, y, rfl, y1, y2, y3, y4, y5⟩ := h2
  have hs := h0.size
  have hs1 := b1.size
  have c1' := c1.below b2
  refine ⟨_, _, rfl, rfl, (h0.trans (b1.mono hs)).trans (b2.mono (by omega)), m, d, c, y, rfl, rfl, rfl, rfl, (p.below b1).below b2, ⟨c1', y1, ⟨by rw [c2, y2, p.a.c], by rw [c4, y4, p.a.k], by rw [c3, y3, p.a.h], fun i hi => by rw [c3]; exact p.a.out i (by rw [← c4]; exact hi)⟩, fun b k1 k2 => ?_, fun b hb => (y5 b hb).2⟩, ⟨rfl, rfl, rfl, hn⟩, ⟨c2, c3, c4, by omega⟩, f1, fun b hb => ?_, fun b hb hb' => ?_⟩
  · have := c1.foot_lt k1
    have := (y5 b k2).1
    omega
  · rcases hb with hb | hb
    · have := c6 b hb; omega
    · have := (y5 b hb).1; omega
  · have := p.foot_lt hb
    rcases hb' with hb' | hb'
    · have := c6 b hb'; omega
    · have := (y5 b hb').1; omega
end Go.Proofs.Ytnoilcchegmpfaa.Me
