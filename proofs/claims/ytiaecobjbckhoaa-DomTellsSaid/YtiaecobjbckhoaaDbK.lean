/- Walks of a tree's methods Reached, Next, Above, Order. Conditions: the tree lies in memory. -/
import Derived.Test.YtiaecobjbckhoaaDbB
import Derived.Test.YtiaecobjbckhoaaQtA
set_option linter.unusedVariables false
set_option linter.unusedSimpArgs false
namespace Go.Proofs.Ytiaecobjbckhoaa.Db
open Go Go.RowKit
open Go.WideShapes Go.MapKept

/-- a tree -/
structure Tp where
  n : Nat
  order : List Int
  place : Nat → Int
  end_ : Nat → Int
  next : Nat → Int
def Tp.reach (t : Tp) (b : Int) : Bool := decide (0 ≤ b) && (decide (b < t.n) && decide (0 ≤ t.place b.toNat))
def Tp.nextP (t : Tp) (b : Int) : Int := if t.reach b = true then t.next b.toNat else -1
def Tp.above (t : Tp) (a b : Int) : Bool := t.reach a && (t.reach b && (decide (t.place a.toNat ≤ t.place b.toNat) && decide (t.place b.toNat < t.end_ a.toNat)))
structure TreM (tb gp ge gn cp ce cn : Nat) (oa : Option Addr) (oc : Nat) (t : Tp) (W : World) : Prop where
  c0 : W.cell? ⟨tb, 0, none⟩ = some (.slice oa t.order.length oc)
  c1 : W.cell? ⟨tb, 1, none⟩ = some (.slice (some ⟨gp, 0, none⟩) t.n cp)
  c2 : W.cell? ⟨tb, 2, none⟩ = some (.slice (some ⟨ge, 0, none⟩) t.n ce)
  c3 : W.cell? ⟨tb, 3, none⟩ = some (.slice (some ⟨gn, 0, none⟩) t.n cn)
  place : InR gp t.n t.place W
  end_ : InR ge t.n t.end_ W
  next : InR gn t.n t.next W
  order : RowAt W Tt oa oc t.order.length (numCells t.order)
  cap : t.n ≤ 32768 ∧ t.n ≤ cp ∧ cp ≤ maxLen ∧ t.n ≤ ce ∧ ce ≤ maxLen ∧ t.n ≤ cn ∧ cn ≤ maxLen
theorem TreM.keep {tb gp ge gn cp ce cn : Nat} {oa : Option Addr} {oc : Nat} {t : Tp} {W W' : World} (h : TreM tb gp ge gn cp ce cn oa oc t W) (hb : Below W.heap.size W W') : TreM tb gp ge gn cp ce cn oa oc t W' := by
  have c : ∀ {b o v}, W.cell? ⟨b, o, none⟩ = some v → W'.cell? ⟨b, o, none⟩ = some v := fun hc => (hb.cell (p := ⟨_, _, none⟩) (World.block_lt_of_cell? _ _ hc)).trans hc
  exact ⟨c h.c0, c h.c1, c h.c2, c h.c3, h.place.at_ (hb.block _ h.place.lt), h.end_.at_ (hb.block _ h.end_.lt), h.next.at_ (hb.block _ h.next.lt), h.order.below (Kps.of_below hb), h.cap⟩
set_option maxHeartbeats 4000000 in
set_option maxRecDepth 100000 in
theorem reached_c (tb gp ge gn cp ce cn : Nat) (oa : Option Addr) (oc : Nat) (t : Tp) (b : Int) (W : World) (h : TreM tb gp ge gn cp ce cn oa oc t W) :
    Calls Try.prog 16 #[.pointer (some ⟨tb, 0, none⟩), .int .i64 b] W fun e w' => e = .returned (.bool (t.reach b)) ∧ w' = W := by
  have c1 := h.c1
  obtain ⟨k1, k2, k3, _⟩ := h.cap
  unfold Tp.reach
  by_cases h0 : 0 ≤ b
  · by_cases h1 : b < t.n
    · obtain ⟨x, rfl⟩ : ∃ x : Nat, b = x := ⟨b.toNat, by omega⟩
      obtain ⟨t1, _⟩ := h.place.get (show x < t.n by omega)
      rw [Int.toNat_natCast]
      generalize t.place x = p at *
      have hx0 : decide ((0 : Int) ≤ (x : Int)) = true := by simp
      have hx1 : decide ((x : Int) < (t.n : Int)) = true := by simpa using h1
      clear h
      go_enter Try.func16, Try.ntmps16
      go_wp2_with fail
      go_ret
      exact ⟨by simp [h1], rfl⟩
    · have hx1 : decide (b < (t.n : Int)) = false := by simpa using h1
      have hx0 : decide ((0 : Int) ≤ b) = true := by simpa using h0
      clear h
      go_enter Try.func16, Try.ntmps16
      go_wp2_with fail
      go_ret
      exact ⟨by simp [h1], rfl⟩
  · have hx0 : decide ((0 : Int) ≤ b) = false := by simpa using h0
    clear h
    go_enter Try.func16, Try.ntmps16
    go_wp2_with fail
    go_ret
    exact ⟨by simp [h0], rfl⟩
theorem Tp.reach_in {t : Tp} {b : Int} (h : t.reach b = true) : ∃ x : Nat, b = x ∧ x < t.n := by
  unfold Tp.reach at h
  simp only [Bool.and_eq_true, decide_eq_true_eq] at h
  exact ⟨b.toNat, by omega, by omega⟩
set_option maxHeartbeats 4000000 in
set_option maxRecDepth 100000 in
theorem next_c (tb gp ge gn cp ce cn : Nat) (oa : Option Addr) (oc : Nat) (t : Tp) (b : Int) (W : World) (h : TreM tb gp ge gn cp ce cn oa oc t W) :
    Calls Try.prog 17 #[.pointer (some ⟨tb, 0, none⟩), .int .i64 b] W fun e w' => e = .returned (.int .i64 (t.nextP b)) ∧ w' = W := by
  have hc := Lib.hid (reached_c tb gp ge gn cp ce cn oa oc t b W h)
  have c3 := h.c3
  obtain ⟨k1, k2, k3, k4, k5, k6, k7⟩ := h.cap
  unfold Tp.nextP
  cases hr : t.reach b
  · rw [hr] at hc
    clear h
    go_enter Try.func17, Try.ntmps17
    go_wp2_with fail
    refine hc.out.mono ?_
    rintro e w3 ⟨rfl, rfl⟩
    go_wp2_with fail
    go_ret
    exact ⟨by simp, rfl⟩
  · rw [hr] at hc
    obtain ⟨x, rfl, hx⟩ := Tp.reach_in hr
    obtain ⟨t1, _⟩ := h.next.get hx
    have hx0 : (0 : Int) ≤ (x : Int) := by omega
    have hx1 : (x : Int) < (t.n : Int) := by omega
    rw [Int.toNat_natCast]
    generalize t.next x = p at *
    clear h
    go_enter Try.func17, Try.ntmps17
    go_wp2_with fail
    refine hc.out.mono ?_
    rintro e w3 ⟨rfl, rfl⟩
    go_wp2_with fail
    go_ret
    exact ⟨by simp, rfl⟩
set_option maxHeartbeats 4000000 in
set_option maxRecDepth 100000 in
theorem above_c (tb gp ge gn cp ce cn : Nat) (oa : Option Addr) (oc : Nat) (t : Tp) (a b : Int) (W : World) (h : TreM tb gp ge gn cp ce cn oa oc t W) :
    Calls Try.prog 21 #[.pointer (some ⟨tb, 0, none⟩), .int .i64 a, .int .i64 b] W fun e w' => e = .returned (.bool (t.above a b)) ∧ ∃ k, w' = W.drewN k := by
  have hkp := fun k => h.keep (W' := W.drewN k) ((Below.refl _ _).trans ⟨rfl, rfl, rfl, Nat.le_refl _, fun _ _ => rfl⟩)
  have hca := Lib.hid (fun k => reached_c tb gp ge gn cp ce cn oa oc t a (W.drewN k) (hkp k))
  have hcb := Lib.hid (fun k => reached_c tb gp ge gn cp ce cn oa oc t b (W.drewN k) (hkp k))
  have c1 := h.c1
  have c2 := h.c2
  obtain ⟨k1, k2, k3, k4, k5, k6, k7⟩ := h.cap
  have hpl := Lib.hid h.place
  have hen := Lib.hid h.end_
  unfold Tp.above
  clear h hkp
  cases hra : t.reach a
  · rw [hra] at hca
    go_enter Try.func21, Try.ntmps21
    go_wp2_with fail
    go_quiet (first | with_reducible exact Calls.quiet_of_same (hca.out _) | with_reducible exact Calls.quiet_of_same (hcb.out _))
    go_wp2_with fail
    go_ret
    exact ⟨by simp, _, rfl⟩
  · rw [hra] at hca
    cases hrb : t.reach b
    · rw [hrb] at hcb
      go_enter Try.func21, Try.ntmps21
      go_wp2_with fail
      go_quiet (first | with_reducible exact Calls.quiet_of_same (hca.out _) | with_reducible exact Calls.quiet_of_same (hcb.out _))
      go_wp2_with fail
      go_ret
      exact ⟨by simp, _, rfl⟩
    · rw [hrb] at hcb
      obtain ⟨x, rfl, hx⟩ := Tp.reach_in hra
      obtain ⟨y, rfl, hy⟩ := Tp.reach_in hrb
      have hx0 : (0 : Int) ≤ (x : Int) := by omega
      have hx1 : (x : Int) < (t.n : Int) := by omega
      have hy0 : (0 : Int) ≤ (y : Int) := by omega
      have hy1 : (y : Int) < (t.n : Int) := by omega
      obtain ⟨t1, _⟩ := hpl.out.get hx
      obtain ⟨t2, _⟩ := hpl.out.get hy
      obtain ⟨t3, _⟩ := hen.out.get hx
      rw [Int.toNat_natCast, Int.toNat_natCast]
      clear hpl hen hra hrb
      generalize t.place x = px at *
      generalize t.place y = py at *
      generalize t.end_ x = ex at *
      by_cases h1 : px ≤ py
      · have hd1 : decide (px ≤ py) = true := by simpa using h1
        go_enter Try.func21, Try.ntmps21
        go_wp2_with fail
        go_quiet (first | with_reducible exact Calls.quiet_of_same (hca.out _) | with_reducible exact Calls.quiet_of_same (hcb.out _))
        go_wp2_with fail
        go_ret
        exact ⟨by simp [h1], _, rfl⟩
      · have hd1 : decide (px ≤ py) = false := by simpa using h1
        go_enter Try.func21, Try.ntmps21
        go_wp2_with fail
        go_quiet (first | with_reducible exact Calls.quiet_of_same (hca.out _) | with_reducible exact Calls.quiet_of_same (hcb.out _))
        go_wp2_with fail
        go_ret
        exact ⟨by first | (simp [h1]; done) | (simp; omega), _, rfl⟩
end Go.Proofs.Ytiaecobjbckhoaa.Db
