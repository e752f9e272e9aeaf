/- Walk of DomAbove. Conditions: the graph lies in memory. -/
import Derived.Test.YtiaecobjbckhoaaDoB
set_option linter.unusedVariables false
set_option linter.unusedSimpArgs false
namespace Go.Proofs.Ytiaecobjbckhoaa.Db
open Go Go.RowKit
open Go.WideShapes Go.MapKept

theorem long_no {T : List Tl} (h : longP T = false) : T.length ≤ 40 ∧ (∀ b, (tos T b).length ≤ 60) ∧ (T.map fun x => x.l.length).sum ≤ 200 := by
  unfold longP at h
  simp only [Bool.or_eq_false_iff, decide_eq_false_iff_not] at h
  obtain ⟨h1, h2, h3⟩ := h
  refine ⟨by omega, fun b => ?_, by omega⟩
  unfold tos
  rw [List.getD_eq_getElem?_getD]
  rcases hx : T[b]? with _ | x
  · exact Nat.zero_le _
  · rw [List.any_eq_false] at h2
    have := h2 x (List.mem_of_getElem? hx)
    simpa using this
section
variable {n : Nat} {T : List Tl}
theorem Gf.nat (H : Gf n T) {x : Int} (h : (tre n T).reach x = true) : ∃ a : Nat, x = a ∧ a < n := Tp.reach_in h
theorem ab_re {t : Tp} {x y : Int} (h : t.above x y = true) : t.reach x = true ∧ t.reach y = true := by
  unfold Tp.above at h
  simp only [Bool.and_eq_true] at h
  exact ⟨h.1, h.2.1⟩
theorem Gf.self (H : Gf n T) (x : Int) : (tre n T).above x x = (tre n T).reach x := by
  rcases h : (tre n T).reach x with _ | _
  · unfold Tp.above; rw [h]; rfl
  · obtain ⟨a, rfl, _⟩ := H.nat h
    exact (H.above a a).2 ⟨(H.reach a).1 h, fun hc => hc.ok rfl⟩
theorem Gf.zero (H : Gf n T) (x : Int) : (tre n T).above 0 x = (tre n T).reach x := by
  rcases h : (tre n T).reach x with _ | _
  · unfold Tp.above; rw [h]; simp
  · obtain ⟨a, rfl, _⟩ := H.nat h
    refine (H.above 0 a).2 ⟨(H.reach a).1 h, fun hc => ?_⟩
    have : ∀ y, ¬Cm (tos T) (fun y => y ≠ 0) y := by
      intro y hy
      induction hy with
      | start h => exact h rfl
      | go _ _ _ ih => exact ih
    exact this a hc
theorem Gf.ab (H : Gf n T) {x y : Int} (h : (tre n T).above x y = true) : ∃ a b : Nat, x = a ∧ y = b ∧ Un n (nxt n T) 0 a ∧ Un n (nxt n T) 0 b ∧ Un n (nxt n T) a b := by
  obtain ⟨h1, h2⟩ := ab_re h
  obtain ⟨a, rfl, _⟩ := H.nat h1
  obtain ⟨b, rfl, _⟩ := H.nat h2
  exact ⟨a, b, rfl, rfl, (H.hn.above a b).1 h⟩
theorem Gf.anti (H : Gf n T) {x y : Int} (h : (tre n T).above x y = true) (h' : (tre n T).above y x = true) : x = y := by
  obtain ⟨a, b, rfl, rfl, _, _, h3⟩ := H.ab h
  obtain ⟨b', a', hb, ha, _, _, h4⟩ := H.ab h'
  have e1 : b' = b := by omega
  have e2 : a' = a := by omega
  subst e1 e2
  cases h3 with
  | here => rfl
  | @step _ p hc he hu =>
    have h5 := hu.ht_le H.hn
    have h6 := h4.ht_le H.hn
    rcases H.hn.up b' hc with h7 | ⟨q, h7, _, h8⟩
    · omega
    · have : q = p := by omega
      subst this; omega
theorem Gf.tra (H : Gf n T) {x y z : Int} (h : (tre n T).above x y = true) (h' : (tre n T).above y z = true) : (tre n T).above x z = true := by
  obtain ⟨a, b, rfl, rfl, h1, _, h3⟩ := H.ab h
  obtain ⟨b', c, hb, rfl, _, h2, h4⟩ := H.ab h'
  have e1 : b' = b := by omega
  subst e1
  exact (H.hn.above a c).2 ⟨h1, h2, h3.trans h4⟩
theorem Gf.lin (H : Gf n T) {x y z : Int} (h : (tre n T).above x z = true) (h' : (tre n T).above y z = true) : (tre n T).above x y = true ∨ (tre n T).above y x = true := by
  obtain ⟨a, c, rfl, rfl, h1, _, h3⟩ := H.ab h
  obtain ⟨b, c', rfl, hc, h2, _, h4⟩ := H.ab h'
  have e1 : c' = c := by omega
  subst e1
  rcases h3.linear h4 with h5 | h5
  · exact .inl ((H.hn.above a b).2 ⟨h1, h2, h5⟩)
  · exact .inr ((H.hn.above b a).2 ⟨h2, h1, h5⟩)
end
/-- what is asked of a tree, behind its making -/
structure Ask (tb : Nat) (t : Tp) (w1 : World) : Prop where
  re : ∀ (x : Int) (V : World), Hid (Below w1.heap.size w1 V) → Calls Try.prog 16 #[.pointer (some ⟨tb, 0, none⟩), .int .i64 x] V fun e w' => e = .returned (.bool (t.reach x)) ∧ w' = V
  nx : ∀ (x : Int) (V : World), Hid (Below w1.heap.size w1 V) → Calls Try.prog 17 #[.pointer (some ⟨tb, 0, none⟩), .int .i64 x] V fun e w' => e = .returned (.int .i64 (t.nextP x)) ∧ w' = V
  ab : ∀ (x y : Int) (V : World), Hid (Below w1.heap.size w1 V) → Calls Try.prog 21 #[.pointer (some ⟨tb, 0, none⟩), .int .i64 x, .int .i64 y] V fun e w' => e = .returned (.bool (t.above x y)) ∧ Hid (Below V.heap.size V w' ∧ w'.heap = V.heap) ∧ Hid (Below w1.heap.size w1 w')
  ki : ∀ (x : Int) (V : World), Hid (Below w1.heap.size w1 V) → Calls Try.prog 19 #[.pointer (some ⟨tb, 0, none⟩), .int .i64 x] V fun e w' => ∃ v, e = .returned v ∧ w'.ownsRow V.heap.size 3 1 v (t.kids x).length (numCells (t.kids x)) ∧ Below V.heap.size V w'
  od : ∀ (V : World), Hid (Below w1.heap.size w1 V) → Calls Try.prog 14 #[.pointer (some ⟨tb, 0, none⟩)] V fun e w' => ∃ v, e = .returned v ∧ w'.ownsRow V.heap.size 3 1 v t.order.length (numCells t.order) ∧ Below V.heap.size V w'
  abq : ∀ (x y : Int) (V : World), Hid (Below w1.heap.size w1 V) → Calls Try.prog 21 #[.pointer (some ⟨tb, 0, none⟩), .int .i64 x, .int .i64 y] V fun e w' => e = .returned (.bool (t.above x y)) ∧ ∃ k, w' = V.drewN k
theorem ask_of {tb gp ge gn cp ce cn : Nat} {oa : Option Addr} {oc : Nat} {t : Tp} {w1 : World} (h : TreM tb gp ge gn cp ce cn oa oc t w1) (hk : t.ok) (hl : t.order.length ≤ 32768) : Ask tb t w1 := by
  refine ⟨fun x V hb => reached_c tb gp ge gn cp ce cn oa oc t x V (h.keep hb.out), fun x V hb => next_c tb gp ge gn cp ce cn oa oc t x V (h.keep hb.out), fun x y V hb => (above_c tb gp ge gn cp ce cn oa oc t x y V (h.keep hb.out)).mono ?_, fun x V hb => kids_c tb gp ge gn cp ce cn oa oc t x V (h.keep hb.out) hk hl, fun V hb => order_c tb gp ge gn cp ce cn oa oc t V (h.keep hb.out) hl, fun x y V hb => above_c tb gp ge gn cp ce cn oa oc t x y V (h.keep hb.out)⟩
  rintro e w' ⟨he, k, rfl⟩
  exact ⟨he, Lib.hid ⟨below_drawN _ _, rfl⟩, Lib.hid (hb.out.trans ((below_drawN _ _).mono hb.out.size))⟩
/-- Of, as the statements ask it: small graphs -/
theorem of_law {T : List Tl} (n tcap : Nat) (ta : Option Addr) (w : World) (hT : T.length = n) (hg : ToM w.heap.size ta tcap T w) (hlong : longP T = false) :
    Calls Try.prog 11 #[.slice ta n tcap] w fun e w' => Below w.heap.size w w' ∧ ((mayL n T = false ∧ e = .returned (.tuple #[.pointer none, .int .i64 4])) ∨
      (mayL n T = true ∧ Gf n T ∧ ∃ tb, e = .returned (.tuple #[.pointer (some ⟨tb, 0, none⟩), .int .i64 0]) ∧ w.heap.size ≤ tb ∧ Ask tb (tre n T) w')) := by
  obtain ⟨h1, h2, _⟩ := long_no hlong
  rcases hm : mayL n T with _ | _
  · exact (of_no n tcap ta w hT hg hm).mono fun e w' ⟨h, h'⟩ => ⟨h', .inl ⟨rfl, h⟩⟩
  · obtain ⟨H, hn⟩ := mayL_gf hT hm
    refine (of_yes n tcap 60 ta w hT hg hm h2 (by omega)).mono ?_
    rintro e w' ⟨tb, gp, ge, gn, oa, oc, he, hTm, hb, hw⟩
    exact ⟨hw, .inr ⟨rfl, H, tb, he, hb, ask_of hTm H.hn.ok (Nat.le_trans H.hn.len hn)⟩⟩
end Go.Proofs.Ytiaecobjbckhoaa.Db
