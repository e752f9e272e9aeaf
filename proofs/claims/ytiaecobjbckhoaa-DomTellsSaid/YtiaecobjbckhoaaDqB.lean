/- The document's tree, read; walks of bobbinref12's Is, Next. Conditions: it lies in memory. -/
import Derived.Test.YtiaecobjbckhoaaDqA
set_option linter.unusedVariables false
set_option linter.unusedSimpArgs false
namespace Go.Proofs.Ytiaecobjbckhoaa.Db
open Go Go.RowKit
open Go.WideShapes Go.MapKept

/-- the document's tree by its cells -/
structure RtC (tb gh hcap gr n : Nat) (t : Tp) (rw_ : Nat → Nat) (W : World) : Prop where
  c0 : W.cell? ⟨tb, 0, none⟩ = some (.slice (some ⟨gh, 0, none⟩) n hcap)
  c1 : W.cell? ⟨tb, 1, none⟩ = some (.slice (some ⟨gr, 0, none⟩) n n)
  re : ∀ x, x < n → W.cell? ⟨gr, x, none⟩ = some (.bool (t.reach (x : Int)))
  hd : ∀ a, a < n → W.cell? ⟨gh, a, none⟩ = some (.slice (some ⟨rw_ a, 0, none⟩) n n)
  ab : ∀ a b, a < n → b < n → W.cell? ⟨rw_ a, b, none⟩ = some (.bool (t.above (a : Int) (b : Int)))
  cap : n ≤ hcap ∧ hcap ≤ maxLen ∧ n ≤ 32768
  n_ : t.n = n
theorem RtC.keep {tb gh hcap gr n : Nat} {t : Tp} {rw_ : Nat → Nat} {W W' : World} (h : RtC tb gh hcap gr n t rw_ W) (hb : Below W.heap.size W W') : RtC tb gh hcap gr n t rw_ W' := by
  have c : ∀ {b o v}, W.cell? ⟨b, o, none⟩ = some v → W'.cell? ⟨b, o, none⟩ = some v := fun hc => (hb.cell (p := ⟨_, _, none⟩) (World.block_lt_of_cell? _ _ hc)).trans hc
  exact ⟨c h.c0, c h.c1, fun x hx => c (h.re x hx), fun a ha => c (h.hd a ha), fun a b ha hb => c (h.ab a b ha hb), h.cap, h.n_⟩
theorem rtC_of {n : Nat} {t : Tp} {w w' : World} {tb : Nat} (h : RofR n t w tb w') (hn0 : 0 < n) (hn : n ≤ 32768) (htn : t.n = n) : ∃ gh hcap gr rw_, RtC tb gh hcap gr n t rw_ w' := by
  obtain ⟨gr, G, v, hG, hR, _⟩ := h
  have hh := hR.head
  rcases hh.2 with ⟨_, h0⟩ | ⟨gh, hcap, cur, rfl, hB, hg, h1, h2, h3, h4⟩
  · omega
  · rw [hG] at h1 h4
    have hd : ∀ a, a < n → w'.cell? ⟨gh, a, none⟩ = some (.slice (some ⟨G.getD a 0, 0, none⟩) n n) := fun a ha => by
      have hga : G[a]? = some (G[a]'(by omega)) := List.getElem?_eq_getElem (by omega)
      have e : (cur.toList.take (n * 1))[a]? = some (rowV n (G.getD a 0)) := by
        rw [h4, List.getElem?_map, hga, List.getD_eq_getElem?_getD, hga]
        rfl
      rw [List.getElem?_take, if_pos (by omega)] at e
      exact blk_cell hg (by simpa [rowV] using e)
    refine ⟨gh, hcap, gr, fun a => G.getD a 0, ?_, blk_cell (j := 1) hR.c rfl, fun x hx => (hR.reach.get hx).1, hd, fun a b ha hb => ?_, ⟨h1, h2, hn⟩, htn⟩
    · rw [← hG]; exact blk_cell (j := 0) hR.c rfl
    · have hga : G[a]? = some (G[a]'(by omega)) := List.getElem?_eq_getElem (by omega)
      have := (hR.rows a _ hga).get hb
      rw [show G.getD a 0 = G[a]'(by omega) by rw [List.getD_eq_getElem?_getD, hga]; rfl]
      exact this.1
theorem re_out {t : Tp} {x : Int} (h : ¬(0 ≤ x ∧ x < (t.n : Int))) : t.reach x = false := by
  unfold Tp.reach
  by_cases h0 : 0 ≤ x
  · have : ¬ x < (t.n : Int) := fun e => h ⟨h0, e⟩
    simp [this]
  · simp [h0]
theorem ab_out {t : Tp} {x y : Int} (h : ¬(0 ≤ x ∧ x < (t.n : Int)) ∨ ¬(0 ≤ y ∧ y < (t.n : Int))) : t.above x y = false := by
  rcases hb : t.above x y with _ | _
  · rfl
  · obtain ⟨h1, h2⟩ := ab_re hb
    rcases h with h | h
    · rw [re_out h] at h1; cases h1
    · rw [re_out h] at h2; cases h2
set_option maxHeartbeats 4000000 in
set_option maxRecDepth 100000 in
theorem ris_c (tb gh hcap gr n : Nat) (t : Tp) (rw_ : Nat → Nat) (x y : Int) (w : World) (h : RtC tb gh hcap gr n t rw_ w) :
    Calls Try.prog 22 #[.pointer (some ⟨tb, 0, none⟩), .int .i64 x, .int .i64 y] w fun e w' => e = .returned (.bool (t.above x y)) ∧ w' = w := by
  obtain ⟨k1, k2, k3⟩ := h.cap
  have c0 := h.c0
  have hn := h.n_
  by_cases hx : 0 ≤ x
  · by_cases hy : 0 ≤ y
    · by_cases hxn : x < (n : Int)
      · by_cases hyn : y < (n : Int)
        · obtain ⟨a, rfl⟩ : ∃ a : Nat, x = a := ⟨x.toNat, by omega⟩
          obtain ⟨b, rfl⟩ : ∃ b : Nat, y = b := ⟨y.toNat, by omega⟩
          have c2 := h.hd a (by omega)
          have c3 := h.ab a b (by omega) (by omega)
          generalize t.above (a : Int) (b : Int) = r at *
          clear h
          go_enter Try.func22, Try.ntmps22
          go_wp2_with fail
          go_ret
          exact ⟨by simp, rfl⟩
        · have hF := Lib.hid (ab_out (t := t) (x := x) (y := y) (.inr (by rw [hn]; omega)))
          clear h
          go_enter Try.func22, Try.ntmps22
          go_wp2_with fail
          go_ret
          exact ⟨by rw [hF.out]; rfl, rfl⟩
      · have hF := Lib.hid (ab_out (t := t) (x := x) (y := y) (.inl (by rw [hn]; omega)))
        clear h
        go_enter Try.func22, Try.ntmps22
        go_wp2_with fail
        go_ret
        exact ⟨by rw [hF.out]; rfl, rfl⟩
    · have hF := Lib.hid (ab_out (t := t) (x := x) (y := y) (.inr (by omega)))
      clear h
      go_enter Try.func22, Try.ntmps22
      go_wp2_with fail
      go_ret
      exact ⟨by rw [hF.out]; rfl, rfl⟩
  · have hF := Lib.hid (ab_out (t := t) (x := x) (y := y) (.inl (by omega)))
    clear h
    go_enter Try.func22, Try.ntmps22
    go_wp2_with fail
    go_ret
    exact ⟨by rw [hF.out]; rfl, rfl⟩
end Go.Proofs.Ytiaecobjbckhoaa.Db
/- Walk of bobbinref12's Next. Conditions: the tree lies in memory, and is a graph's. -/
set_option linter.unusedVariables false
set_option linter.unusedSimpArgs false
namespace Go.Proofs.Ytiaecobjbckhoaa.Db
open Go Go.RowKit
open Go.WideShapes Go.MapKept

/-- is none that is above b, but b, not above a? of the first ones -/
def leastP (t : Tp) (b a k : Nat) : Bool := (List.range k).all fun c => decide (c = b) || (!t.above (c : Int) (b : Int) || t.above (c : Int) (a : Int))
theorem leastP_succ (t : Tp) (b a k : Nat) : leastP t b a (k + 1) = (leastP t b a k && (decide (k = b) || (!t.above (k : Int) (b : Int) || t.above (k : Int) (a : Int)))) := by
  unfold leastP
  rw [List.range_succ, List.all_append]
  simp
/-- what Next looks for -/
def hitP (t : Tp) (n b a : Nat) : Bool := !decide (a = b) && (t.above (a : Int) (b : Int) && leastP t b a n)
section
variable {n : Nat} {T : List Tl}
theorem Gf.hit (H : Gf n T) {b a : Nat} (hb : Un n (nxt n T) 0 b) (ha : a < n) : hitP (tre n T) n b a = true ↔ nxt n T b = (a : Int) := by
  have ab : ∀ x y : Nat, (tre n T).above (x : Int) (y : Int) = true ↔ Un n (nxt n T) 0 x ∧ Un n (nxt n T) 0 y ∧ Un n (nxt n T) x y := fun x y => H.hn.above x y
  unfold hitP leastP
  simp only [Bool.and_eq_true, Bool.not_eq_true', decide_eq_false_iff_not, List.all_eq_true, List.mem_range, Bool.or_eq_true, decide_eq_true_eq]
  constructor
  · rintro ⟨h1, h2, h3⟩
    obtain ⟨_, _, h4⟩ := (ab a b).1 h2
    have hb0 : b ≠ 0 := fun e => by subst e; exact h1 (h4.root H.hn)
    obtain ⟨p, p1, p2, p3, p4, p5⟩ := H.hn.nx_some hb hb0
    have hap : Un n (nxt n T) a p := by
      cases h4 with
      | here => exact absurd rfl h1
      | @step _ q _ he hu =>
        have : q = p := by omega
        subst this; exact hu
    have hpb : Un n (nxt n T) p b := .step p4 p1 .here
    rcases h3 p p2 with h5 | h5 | h5
    · subst h5; omega
    · have := (ab p b).2 ⟨p5, hb, hpb⟩
      rw [h5] at this; cases this
    · obtain ⟨_, _, h6⟩ := (ab p a).1 h5
      have := hap.asym H.hn h6
      subst this
      exact p1
  · intro h
    have hb0 : b ≠ 0 := fun e => by subst e; rw [H.nxt_none (.inl rfl)] at h; omega
    obtain ⟨p, p1, p2, p3, p4, p5⟩ := H.hn.nx_some hb hb0
    have : p = a := by omega
    subst this
    refine ⟨fun e => by subst e; omega, (ab p b).2 ⟨p5, hb, .step p4 p1 .here⟩, fun c hc => ?_⟩
    by_cases e : c = b
    · exact .inl e
    · rcases hcb : (tre n T).above (c : Int) (b : Int) with _ | _
      · exact .inr (.inl rfl)
      · obtain ⟨h1, _, h2⟩ := (ab c b).1 hcb
        refine .inr (.inr ((ab c p).2 ⟨h1, p5, ?_⟩))
        cases h2 with
        | here => exact absurd rfl e
        | @step _ q _ he hu =>
          have : q = p := by omega
          subst this; exact hu
end
end Go.Proofs.Ytiaecobjbckhoaa.Db
/- Walk of bobbinref12's Next. Conditions: the tree lies in memory, and is a graph's. -/
set_option linter.unusedVariables false
set_option linter.unusedSimpArgs false
namespace Go.Proofs.Ytiaecobjbckhoaa.Db
open Go Go.RowKit
open Go.WideShapes Go.MapKept

set_option maxHeartbeats 8000000 in
set_option maxRecDepth 100000 in
theorem rnext_c {T : List Tl} (tb gh hcap gr n : Nat) (rw_ : Nat → Nat) (H : Gf n T) (y : Int) (w : World) (h : RtC tb gh hcap gr n (tre n T) rw_ w) :
    Calls Try.prog 18 #[.pointer (some ⟨tb, 0, none⟩), .int .i64 y] w fun e w' => e = .returned (.int .i64 ((tre n T).nextP y)) ∧ w' = w := by
  obtain ⟨k1, k2, k3⟩ := h.cap
  have c0 := h.c0
  have c1 := h.c1
  have htn := h.n_
  have hno : (tre n T).reach y = false → (tre n T).nextP y = -1 := fun e => by unfold Tp.nextP; rw [e]; rfl
  by_cases hy0 : y < 0
  · have hF := Lib.hid (hno (re_out (by omega)))
    clear h hno H
    go_enter Try.func18, Try.ntmps18
    go_wp2_with fail
    go_ret
    exact ⟨by rw [hF.out]; rfl, rfl⟩
  by_cases hyn : (n : Int) ≤ y
  · have hF := Lib.hid (hno (re_out (by rw [htn]; omega)))
    clear h hno H
    go_enter Try.func18, Try.ntmps18
    go_wp2_with fail
    go_ret
    exact ⟨by rw [hF.out]; rfl, rfl⟩
  obtain ⟨b, rfl⟩ : ∃ b : Nat, y = b := ⟨y.toNat, by omega⟩
  have hbn : b < n := by omega
  have hrb := h.re b hbn
  have hb1 : (b : Int) < (n : Int) := by omega
  have hb2 : ¬ ((n : Int) ≤ (b : Int)) := by omega
  have hb0 : ¬ ((b : Int) < 0) := by omega
  have hb00 : (0 : Int) ≤ (b : Int) := by omega
  clear hyn hy0
  rcases hr : (tre n T).reach (b : Int) with _ | _
  · have hF := Lib.hid (hno hr)
    rw [hr] at hrb
    clear h hno H hr
    go_enter Try.func18, Try.ntmps18
    go_wp2_with fail
    go_ret
    exact ⟨by rw [hF.out]; rfl, rfl⟩
  · have hu : Un n (nxt n T) 0 b := (H.hn.reach b).1 hr
    have hnx : (tre n T).nextP (b : Int) = nxt n T b := by unfold Tp.nextP; rw [hr, if_pos rfl, Int.toNat_natCast]; rfl
    have hhit := Lib.hid (fun a (ha : a < n) => H.hit hu ha)
    have hup := Lib.hid (H.hn.up b hbn)
    rw [hr] at hrb
    generalize nxt n T b = nb at *
    rw [hnx]
    have hhd := Lib.hid h.hd
    have habc := Lib.hid h.ab
    generalize tre n T = t at *
    replace hr := Lib.hid hr
    replace hnx := Lib.hid hnx
    clear h hno H hu
    go_enter Try.func18, Try.ntmps18
    go_wp2_with fail
    have hd1 : decide (n ≤ b) = false := by simp; omega
    have hd2 : decide ((b : Int) < 0) = false := by simp
    have hd3 : decide ((n : Int) ≤ (b : Int)) = false := by simp; omega
    try simp only [hd1, hd2, hd3, Bool.or_false, Bool.false_or]
    clear hd1 hd2 hd3 hb2 hb0 hrb
    replace hbn := Lib.hid hbn
    go_loopw [5] (fun i wr => ∃ k : Nat, k ≤ n ∧ i = .int .i64 k ∧ Hid (∀ a, a < k → hitP t n b a = false) ∧ wr = w) (fun i _ => n - (intOf i).toNat)
    case atStart => exact ⟨0, Nat.zero_le _, rfl, Lib.hid (fun a h => by omega), rfl⟩
    case round =>
      obtain ⟨k, hk, rfl, hall, hw⟩ := hrel
      have hw := hw.symm
      subst hw
      by_cases hkn : k < n
      · have hk1' : (k : Int) < (n : Int) := by omega
        have hk0 : (0 : Int) ≤ (k : Int) := by omega
        have cd := hhd.out k hkn
        have cab := habc.out k b hkn hbn.out
        have hnext : hitP t n b k = false → Hid (∀ a, a < k + 1 → hitP t n b a = false) := fun hk => Lib.hid fun a ha => by
          by_cases e : a = k
          · subst e; exact hk
          · exact hall.out a (by omega)
        by_cases hkb : k = b
        · have hke : ((k : Int) == (b : Int)) = true := by simp [hkb]
          have hall2 := hnext (by unfold hitP; simp [hkb])
          replace hkb := Lib.hid hkb
          clear hnext hall
          go_wp2_with fail
          go_roundw
          case rel => exact ⟨k + 1, by omega, by go_num, hall2, trivial⟩
          case measure => simp [intOf]; omega
        · have hke : ((k : Int) == (b : Int)) = false := by simp; omega
          rcases hab : t.above (k : Int) (b : Int) with _ | _
          · have hall2 := hnext (by unfold hitP; rw [hab]; simp)
            rw [hab] at cab
            clear hnext hall
            go_wp2_with fail
            go_roundw
            case rel => exact ⟨k + 1, by omega, by go_num, hall2, trivial⟩
            case measure => simp [intOf]; omega
          · rw [hab] at cab
            have hkb' := Lib.hid hkb
            have hab' := Lib.hid hab
            have hnext' := Lib.hid hnext
            clear hkb hab hnext
            go_wp2_with fail
            go_loopw [6, 7] (fun v i wr => ∃ j : Nat, j ≤ n ∧ i = .int .i64 j ∧ v = .bool (leastP t b k j) ∧ wr = w) (fun _ i _ => n - (intOf i).toNat)
            case atStart => exact ⟨0, Nat.zero_le _, rfl, rfl, rfl⟩
            case round =>
              obtain ⟨j, hj, rfl, rfl, hw⟩ := hrel
              have hw := hw.symm
              subst hw
              by_cases hjn : j < n
              · have hj1 : (j : Int) < (n : Int) := by omega
                have hj0 : (0 : Int) ≤ (j : Int) := by omega
                have cj := hhd.out j hjn
                have cjb := habc.out j b hjn hbn.out
                have cjk := habc.out j k hjn hkn
                have hsu := Lib.hid (leastP_succ t b k j)
                generalize hlp : leastP t b k j = lp at *
                replace hlp := Lib.hid hlp
                by_cases hjb : j = b
                · have hjd : ((j : Int) != (b : Int)) = false := by simp [hjb]
                  have hs2 : Hid (leastP t b k (j + 1) = lp) := Lib.hid (by rw [hsu.out]; simp [hjb])
                  replace hjb := Lib.hid hjb
                  go_wp2_with fail
                  go_roundw
                  case rel => exact ⟨j + 1, by omega, by go_num, by rw [hs2.out], trivial⟩
                  case measure => simp [intOf]; omega
                · have hjd : ((j : Int) != (b : Int)) = true := by simp; omega
                  rcases hjab : t.above (j : Int) (b : Int) with _ | _
                  · rw [hjab] at cjb
                    have hs2 : Hid (leastP t b k (j + 1) = lp) := Lib.hid (by rw [hsu.out, hjab]; simp)
                    clear hjab
                    go_wp2_with fail
                    go_roundw
                    case rel => exact ⟨j + 1, by omega, by go_num, by rw [hs2.out], trivial⟩
                    case measure => simp [intOf]; omega
                  · rw [hjab] at cjb
                    rcases hjak : t.above (j : Int) (k : Int) with _ | _
                    · rw [hjak] at cjk
                      have hs2 : Hid (leastP t b k (j + 1) = false) := Lib.hid (by rw [hsu.out, hjab, hjak]; simp [hjb])
                      clear hjab hjak
                      go_wp2_with fail
                      go_roundw
                      case rel => exact ⟨j + 1, by omega, by go_num, by rw [hs2.out], trivial⟩
                      case measure => simp [intOf]; omega
                    · rw [hjak] at cjk
                      have hs2 : Hid (leastP t b k (j + 1) = lp) := Lib.hid (by rw [hsu.out, hjab, hjak]; simp)
                      clear hjab hjak
                      go_wp2_with fail
                      go_roundw
                      case rel => exact ⟨j + 1, by omega, by go_num, by rw [hs2.out], trivial⟩
                      case measure => simp [intOf]; omega
              · have hjn2 : ¬ ((j : Int) < (n : Int)) := by omega
                have hjn3 : j = n := by omega
                have hlv : Hid (leastP t b k j = hitP t n b k) := Lib.hid (by unfold hitP; rw [hab'.out, hjn3]; simp [hkb'.out])
                rcases hh : hitP t n b k with _ | _
                · have hall2 := hnext'.out hh
                  rw [hlv.out, hh]
                  clear hall hh
                  go_wp2_with fail
                  go_roundw
                  case rel => exact ⟨k + 1, by omega, by go_num, hall2, trivial⟩
                  case measure => simp [intOf]; omega
                · have hfin := Lib.hid ((hhit.out k hkn).1 hh)
                  rw [hlv.out, hh]
                  clear hall hh
                  go_wp2_with fail
                  go_ret
                  exact ⟨by rw [hfin.out]; rfl, rfl⟩
      · have hkn2 : ¬ ((k : Int) < (n : Int)) := by omega
        have hfin : Hid (nb = -1) := Lib.hid (by
          rcases hup.out with h1 | ⟨p, h1, h2, _⟩
          · exact h1
          · have h3 := (hhit.out p h2).2 h1
            rw [hall.out p (by omega)] at h3
            cases h3)
        clear hall
        go_wp2_with fail
        go_ret
        exact ⟨by rw [hfin.out]; rfl, rfl⟩
end Go.Proofs.Ytiaecobjbckhoaa.Db
/- Walks of bobbinref12's Kids, From. Conditions: the tree lies in memory, and is a graph's. -/
set_option linter.unusedVariables false
set_option linter.unusedSimpArgs false
namespace Go.Proofs.Ytiaecobjbckhoaa.Db
open Go Go.RowKit
open Go.WideShapes Go.MapKept

def kidB (t : Tp) (b : Int) (c : Nat) : Bool := !decide (c = 0) && (t.reach (c : Int) && decide (t.nextP (c : Int) = b))
def kidR (t : Tp) (b : Int) : Nat → List Int
  | 0 => []
  | k + 1 => kidR t b k ++ (if kidB t b k = true then [(k : Int)] else [])
theorem kidR_len (t : Tp) (b : Int) : ∀ k, (kidR t b k).length ≤ k
  | 0 => Nat.le_refl _
  | k + 1 => by
    have := kidR_len t b k
    unfold kidR
    rw [List.length_append]
    split <;> simp <;> omega
section
variable {n : Nat} {T : List Tl}
theorem Gf.kidR (H : Gf n T) (b : Nat) : ∀ k, k ≤ n → Db.kidR (tre n T) (b : Int) k = kidsP (nxt n T) k b := by
  intro k
  induction k with
  | zero => intro _; rfl
  | succ k ih =>
    intro hk
    have e1 : Db.kidR (tre n T) (b : Int) (k + 1) = Db.kidR (tre n T) (b : Int) k ++ (if kidB (tre n T) (b : Int) k = true then [(k : Int)] else []) := rfl
    have e2 : kidsP (nxt n T) (k + 1) b = kidsP (nxt n T) k b ++ if nxt n T k = (b : Int) then [(k : Int)] else [] := rfl
    rw [e1, e2, ih (by omega)]
    congr 1
    have hiff : kidB (tre n T) (b : Int) k = true ↔ nxt n T k = (b : Int) := by
      unfold kidB
      simp only [Bool.and_eq_true, Bool.not_eq_true', decide_eq_false_iff_not, decide_eq_true_eq]
      have hnp : (tre n T).reach (k : Int) = true → (tre n T).nextP (k : Int) = nxt n T k := fun h => by unfold Tp.nextP; rw [h, if_pos rfl, Int.toNat_natCast]; rfl
      constructor
      · rintro ⟨_, h2, h3⟩; rw [← hnp h2]; exact h3
      · intro h
        have h0 : k ≠ 0 := fun e => by subst e; rw [H.nxt_none (.inl rfl)] at h; omega
        have hr : (tre n T).reach (k : Int) = true := (H.reach k).2 (Classical.byContradiction fun hc => by rw [H.nxt_none (.inr hc)] at h; omega)
        exact ⟨h0, hr, by rw [hnp hr]; exact h⟩
    by_cases h : nxt n T k = (b : Int)
    · rw [if_pos h, if_pos (hiff.2 h)]
    · rw [if_neg h, if_neg (fun e => h (hiff.1 e))]
theorem Gf.kids_eq (H : Gf n T) (b : Nat) : (tre n T).kids (b : Int) = Db.kidR (tre n T) (b : Int) n := by
  rw [H.kidR b n (Nat.le_refl _)]
  have := H.hn.kids b
  unfold tre
  rw [this]
  split
  · rfl
  · rename_i hr
    rcases hk : kidsP (nxt n T) n b with _ | ⟨x, r⟩
    · rfl
    · exfalso
      obtain ⟨y, _, h2, h3⟩ := kidsP_in (nxt n T) b n x (by rw [hk]; exact List.mem_cons_self)
      have hy : Cm (tos T) (fun _ => True) y := Classical.byContradiction fun hc => by rw [H.nxt_none (.inr hc)] at h3; omega
      have hy0 : y ≠ 0 := fun e => by subst e; rw [H.nxt_none (.inl rfl)] at h3; omega
      obtain ⟨p, p1, _, _, p4, _⟩ := H.nxt_some hy hy0
      have : p = b := by omega
      subst this
      exact hr ((H.reach p).2 p4)
end
set_option maxHeartbeats 8000000 in
set_option maxRecDepth 100000 in
theorem rkids_c {T : List Tl} (tb gh hcap gr n : Nat) (rw_ : Nat → Nat) (H : Gf n T) (y : Int) (w : World) (h : RtC tb gh hcap gr n (tre n T) rw_ w) :
    Calls Try.prog 20 #[.pointer (some ⟨tb, 0, none⟩), .int .i64 y] w fun e w' => ∃ v, e = .returned v ∧ w'.ownsRow w.heap.size 3 1 v (kidR (tre n T) y n).length (numCells (kidR (tre n T) y n)) ∧ Below w.heap.size w w' := by
  obtain ⟨k1, k2, k3⟩ := h.cap
  obtain ⟨i0, hi0, hz0, hz1, hz2⟩ := info_i
  have hnc := Lib.hid (fun x V (hb : Below w.heap.size w V) => rnext_c tb gh hcap gr n rw_ H x V (h.keep hb))
  have hk := Lib.hid (fun V (hb : Below w.heap.size w V) => h.keep hb)
  have hst : Hid (w.ownsRow w.heap.size 3 1 (.slice none 0 0) (kidR (tre n T) y 0).length (numCells (kidR (tre n T) y 0)) ∧ Below w.heap.size w w) := Lib.hid ⟨World.ownsRow_nil _ _ _ _, Below.refl _ _⟩
  have hlen := Lib.hid (fun k => kidR_len (tre n T) y k)
  clear h H
  generalize tre n T = t at *
  go_enter Try.func20, Try.ntmps20
  go_wp2_with fail
  go_loopw [5, 6] (fun v i wr => ∃ k : Nat, k ≤ n ∧ i = .int .i64 k ∧ (∃ a cap, v = .slice a (kidR t y k).length cap) ∧ Hid (wr.ownsRow w.heap.size 3 1 v (kidR t y k).length (numCells (kidR t y k)) ∧ Below w.heap.size w wr)) (fun _ i _ => n - (intOf i).toNat)
  case atStart => exact ⟨0, Nat.zero_le _, rfl, ⟨none, 0, rfl⟩, hst⟩
  case round =>
    clear hst
    obtain ⟨k, hkk, rfl, ⟨la, lcap, rfl⟩, hX⟩ := hrel
    have hR := hk.out wr hX.out.2
    have c0 := hR.c0
    have c1 := hR.c1
    have hll := hlen.out k
    by_cases hkn : k < n
    · have hk1 : (k : Int) < (n : Int) := by omega
      have hk0 : (0 : Int) ≤ (k : Int) := by omega
      have cre := hR.re k hkn
      have hsu : Hid (kidR t y (k + 1) = kidR t y k ++ (if kidB t y k = true then [(k : Int)] else [])) := Lib.hid rfl
      have hnk := Lib.hid (hnc.out (k : Int) wr hX.out.2)
      generalize hl : kidR t y k = l at *
      replace hl := Lib.hid hl
      have hno : Hid (kidB t y k = false → kidR t y (k + 1) = l) := Lib.hid fun e => by rw [hsu.out, e]; simp
      clear hR
      by_cases hkz : k = 0
      · have hkd : ((k : Int) != 0) = false := by simp [hkz]
        have hs2 := Lib.hid (hno.out (by unfold kidB; simp [hkz]))
        have hst2 : Hid (wr.ownsRow w.heap.size 3 1 (.slice la l.length lcap) (kidR t y (k + 1)).length (numCells (kidR t y (k + 1))) ∧ Below w.heap.size w wr) := Lib.hid (by rw [hs2.out]; exact hX.out)
        have hsh : ∃ a cap, Value.slice la l.length lcap = .slice a (kidR t y (k + 1)).length cap := ⟨la, lcap, by rw [hs2.out]⟩
        replace hkz := Lib.hid hkz
        clear hX hno hnk
        go_wp2_with fail
        go_roundw
        case rel => exact ⟨k + 1, by omega, by go_num, hsh, hst2⟩
        case measure => simp [intOf]; omega
      · have hkd : ((k : Int) != 0) = true := by simp; omega
        rcases hrk : t.reach (k : Int) with _ | _
        · rw [hrk] at cre
          have hs2 := Lib.hid (hno.out (by unfold kidB; rw [hrk]; simp))
          have hst2 : Hid (wr.ownsRow w.heap.size 3 1 (.slice la l.length lcap) (kidR t y (k + 1)).length (numCells (kidR t y (k + 1))) ∧ Below w.heap.size w wr) := Lib.hid (by rw [hs2.out]; exact hX.out)
          have hsh : ∃ a cap, Value.slice la l.length lcap = .slice a (kidR t y (k + 1)).length cap := ⟨la, lcap, by rw [hs2.out]⟩
          clear hX hno hnk hrk
          go_wp2_with fail
          go_roundw
          case rel => exact ⟨k + 1, by omega, by go_num, hsh, hst2⟩
          case measure => simp [intOf]; omega
        · rw [hrk] at cre
          by_cases hny : t.nextP (k : Int) = y
          · have hyes : Hid (kidR t y (k + 1) = l ++ [(k : Int)]) := Lib.hid (by rw [hsu.out]; unfold kidB; rw [hrk]; simp [hny, hkz])
            have hny2 : (t.nextP (k : Int) == y) = true := by simp [hny]
            have hown6 := Lib.hid (own_below hX.out.1 (b_alloc wr (.cells #[.int .i64 (k : Int)] 3)))
            have g6 : (wr.alloc (.cells #[.int .i64 (k : Int)] 3)).heap[wr.heap.size]? = some (.cells #[.int .i64 (k : Int)] 3 (0, 0)) := blk_new _ _ rfl
            have hrow6 : RowAt (wr.alloc (.cells #[.int .i64 (k : Int)] 3)) Tt (some ⟨wr.heap.size, 0, none⟩) 1 1 [.int .i64 (k : Int)] := row_blk 1 g6 (by decide) trivial
            have hz6 : w.heap.size ≤ (wr.alloc (.cells #[.int .i64 (k : Int)] 3)).heap.size := by have := hX.out.2.size; simp; omega
            have hb6 := Lib.hid hX.out.2
            replace hny := Lib.hid hny
            replace hkz := Lib.hid hkz
            replace hrk := Lib.hid hrk
            clear hX hno g6
            go_wp2_with fail
            refine hnk.out.mono ?_
            rintro _ w5 ⟨rfl, hw5⟩
            have hw5 := hw5.symm
            subst hw5
            clear hnk
            go_wp2_with (at_builtin; refine wpList_append_rowN _ rfl _ _ 33 rfl w.heap.size 3 i0 _ 1 8 Try.underlying33 hi0 hz0 hz1 hz2 rfl (by decide) _ _ _ rfl hown6.out (some ⟨wr.heap.size, 0, none⟩) 1 1 [.int .i64 (k : Int)] rfl rfl hrow6 (one_int _) ?d1 ?d2 ?d3 ?_)
            case d1 => unfold maxLen; omega
            case d2 => omega
            case d3 => first | exact hz6 | (simpa using hz6)
            intro v2 w7 ho2 hg2 _
            obtain ⟨a7, cap7, rfl, _⟩ := row_own ho2
            have hb7 : Below w.heap.size w w7 := below_gr (hb6.out.trans ((b_alloc _ _).mono hb6.out.size)) hg2 (fun b e => (hown6.out.lt b e).1)
            have ho3 : w7.ownsRow w.heap.size 3 1 (.slice a7 (l.length + 1) cap7) (kidR t y (k + 1)).length (numCells (kidR t y (k + 1))) := by rw [hyes.out, List.length_append, num_snoc]; exact ho2
            have hst2 := Lib.hid (⟨ho3, hb7⟩ : w7.ownsRow w.heap.size 3 1 (.slice a7 (l.length + 1) cap7) (kidR t y (k + 1)).length (numCells (kidR t y (k + 1))) ∧ Below w.heap.size w w7)
            have hsh : ∃ a cap, Value.slice a7 (l.length + 1) cap7 = .slice a (kidR t y (k + 1)).length cap := ⟨a7, cap7, by rw [hyes.out, List.length_append]; rfl⟩
            clear hown6 hrow6 hz6 ho2 hg2 hb7 ho3 hb6
            go_wp2_with fail
            go_roundw
            case rel => exact ⟨k + 1, by omega, by go_num, hsh, hst2⟩
            case measure => simp [intOf]; omega
          · have hny2 : (t.nextP (k : Int) == y) = false := by simpa using hny
            have hs2 := Lib.hid (hno.out (by unfold kidB; simp [hny]))
            have hst2 : Hid (wr.ownsRow w.heap.size 3 1 (.slice la l.length lcap) (kidR t y (k + 1)).length (numCells (kidR t y (k + 1))) ∧ Below w.heap.size w wr) := Lib.hid (by rw [hs2.out]; exact hX.out)
            have hsh : ∃ a cap, Value.slice la l.length lcap = .slice a (kidR t y (k + 1)).length cap := ⟨la, lcap, by rw [hs2.out]⟩
            replace hkz := Lib.hid hkz
            replace hrk := Lib.hid hrk
            replace hny := Lib.hid hny
            clear hX hno
            go_wp2_with fail
            refine hnk.out.mono ?_
            rintro _ w5 ⟨rfl, hw5⟩
            have hw5 := hw5.symm
            subst hw5
            clear hnk
            go_wp2_with fail
            go_roundw
            case rel => exact ⟨k + 1, by omega, by go_num, hsh, hst2⟩
            case measure => simp [intOf]; omega
    · have hkn2 : ¬ ((k : Int) < (n : Int)) := by omega
      have hkn3 : k = n := by omega
      subst hkn3
      have hX2 := hX
      clear hX hR
      go_wp2_with fail
      go_ret
      exact ⟨_, rfl, hX2.out.1, hX2.out.2⟩
end Go.Proofs.Ytiaecobjbckhoaa.Db
/- Walk of bobbinref12's From. Conditions: the tree lies in memory, and is a graph's. -/
set_option linter.unusedVariables false
set_option linter.unusedSimpArgs false
namespace Go.Proofs.Ytiaecobjbckhoaa.Db
open Go Go.RowKit
open Go.WideShapes Go.MapKept

section
variable {n : Nat} {next : Nat → Int} {ht : Nat → Nat}
theorem Hn.lst_len (H : Hn n next ht) {b : Nat} (hb : b < n) : (lst n next b).length ≤ n := by
  have h : ((List.range n).map fun (k : Nat) => (k : Int)).length = n := by simp
  refine Nat.le_trans (?_ : _ ≤ ((List.range n).map fun (k : Nat) => (k : Int)).length) (Nat.le_of_eq h)
  refine List.Nodup.length_le_of_subset (H.nodup b) fun x hx => ?_
  obtain ⟨y, rfl, hu⟩ := (H.mem b x).1 hx
  exact List.mem_map.2 ⟨y, List.mem_range.2 (H.un_lt hu hb), rfl⟩
end
def fromP (n : Nat) (next : Nat → Int) (b : Nat) (L : List Int) (i : Nat) : List Int := (b : Int) :: (L.take i).flatMap fun k => lst n next k.toNat
theorem fromP_succ (n : Nat) (next : Nat → Int) (b : Nat) (L : List Int) (i : Nat) {x : Int} (h : L[i]? = some x) : fromP n next b L (i + 1) = fromP n next b L i ++ lst n next x.toNat := by
  unfold fromP
  rw [List.take_add_one, h]
  simp
theorem num_app (l r : List Int) : numCells (l ++ r) = numCells l ++ numCells r := by unfold numCells; rw [List.map_append]
set_option maxHeartbeats 8000000 in
set_option maxRecDepth 100000 in
theorem rfrom_c {T : List Tl} (tb gh hcap gr n : Nat) (rw_ : Nat → Nat) (H : Gf n T) : ∀ (q b : Nat) (w : World), hgt n T b < q → b < n → RtC tb gh hcap gr n (tre n T) rw_ w →
    Calls Try.prog 15 #[.pointer (some ⟨tb, 0, none⟩), .int .i64 (b : Int)] w fun e w' => ∃ v, e = .returned v ∧ w'.ownsRow w.heap.size 3 1 v (lst n (nxt n T) b).length (numCells (lst n (nxt n T) b)) ∧ Below w.heap.size w w' := by
  intro q
  induction q with
  | zero => intro b w h; omega
  | succ q ih =>
    intro b w hq hbn h
    obtain ⟨k1, k2, k3⟩ := h.cap
    obtain ⟨i0, hi0, hz0, hzz, hz2⟩ := info_i
    have hb1 : Below w.heap.size w (w.alloc (.cells #[.int .i64 (b : Int)] 3)) := b_alloc _ _
    have hki := Lib.hid (rkids_c tb gh hcap gr n rw_ H (b : Int) _ (h.keep hb1))
    rw [H.kidR b n (Nat.le_refl _)] at hki
    have hL : Hid (∀ x ∈ kidsP (nxt n T) n b, ∃ y : Nat, x = y ∧ y < n ∧ hgt n T y < q) := Lib.hid fun x hx => by
      obtain ⟨y, e, h1, h2, h3⟩ := H.hn.kid hx
      exact ⟨y, e, h1, by omega⟩
    have hlst : Hid (lst n (nxt n T) b = fromP n (nxt n T) b (kidsP (nxt n T) n b) (kidsP (nxt n T) n b).length) := Lib.hid (by rw [H.hn.eq b]; unfold fromP; rw [List.take_length])
    have hlen : Hid (∀ i, (fromP n (nxt n T) b (kidsP (nxt n T) n b) i).length ≤ n) := Lib.hid fun i => by
      refine Nat.le_trans ?_ (H.hn.lst_len hbn)
      rw [H.hn.eq b]
      unfold fromP
      rw [List.length_cons, List.length_cons]
      have e1 := List.take_append_drop i (kidsP (nxt n T) n b)
      have e2 : (kidsP (nxt n T) n b).flatMap (fun k => lst n (nxt n T) k.toNat) = ((kidsP (nxt n T) n b).take i).flatMap (fun k => lst n (nxt n T) k.toNat) ++ ((kidsP (nxt n T) n b).drop i).flatMap (fun k => lst n (nxt n T) k.toNat) := by
        rw [← List.flatMap_append, e1]
      rw [e2, List.length_append]
      omega
    have hlen2 := Lib.hid (fun y (hy : y < n) => H.hn.lst_len hy)
    have hLl : Hid ((kidsP (nxt n T) n b).length ≤ n) := Lib.hid (kidsP_len _ _ _)
    have hrec := Lib.hid (fun (y : Nat) V (h1 : hgt n T y < q) (h2 : y < n) (h3 : Below w.heap.size w V) => ih y V h1 h2 (h.keep h3))
    have hg0 : (w.alloc (.cells #[.int .i64 (b : Int)] 3)).heap[w.heap.size]? = some (.cells #[.int .i64 (b : Int)] 3 (0, 0)) := blk_new _ _ rfl
    have hown0 : (w.alloc (.cells #[.int .i64 (b : Int)] 3)).ownsRow w.heap.size 3 1 (.slice (some ⟨w.heap.size, 0, none⟩) 1 1) 1 [.int .i64 (b : Int)] := ⟨rfl, .inr ⟨w.heap.size, 1, _, rfl, Nat.le_refl _, hg0, Nat.le_refl _, by unfold maxLen; omega, rfl, rfl⟩⟩
    generalize kidsP (nxt n T) n b = L at *
    clear h ih hg0 hq
    go_enter Try.func15, Try.ntmps15
    go_wp2_with fail
    refine hki.out.mono ?_
    rintro _ w2 ⟨v, rfl, ho, hb2⟩
    obtain ⟨ka, kcap, rfl, hrk⟩ := row_own1 ho
    obtain ⟨m1, m2⟩ := len_i hrk
    have hb3 : Below w.heap.size w w2 := hb1.trans (hb2.mono hb1.size)
    have hst : Hid (w2.ownsRow w.heap.size 3 1 (.slice (some ⟨w.heap.size, 0, none⟩) (fromP n (nxt n T) b L 0).length 1) (fromP n (nxt n T) b L 0).length (numCells (fromP n (nxt n T) b L 0)) ∧ Fr (fun i => i = w.heap.size) w2 w2 ∧ ∀ g, (Value.slice (some ⟨w.heap.size, 0, none⟩) (fromP n (nxt n T) b L 0).length 1).ownBlock = some g → g = w.heap.size ∨ w2.heap.size ≤ g) := Lib.hid ⟨own_below hown0 hb2, Fr.refl _ _, fun g e => .inl (by simpa [Value.ownBlock] using e.symm)⟩
    have hz1 : (w.alloc (.cells #[.int .i64 (b : Int)] 3)).heap.size = w.heap.size + 1 := by simp
    rw [hz1] at ho
    have hrkH := Lib.hid (own_row ho hrk)
    replace hb3 := Lib.hid hb3
    clear hki hown0 ho hb1 hb2 hrk hz1
    go_wp2_with fail
    go_loopw [5, 7] (fun v i wr => ∃ j : Nat, j ≤ L.length ∧ i = .int .i64 j ∧ (∃ a cap, v = .slice a (fromP n (nxt n T) b L j).length cap) ∧ Hid (wr.ownsRow w.heap.size 3 1 v (fromP n (nxt n T) b L j).length (numCells (fromP n (nxt n T) b L j)) ∧ Fr (fun i => i = w.heap.size) w2 wr ∧ ∀ g, v.ownBlock = some g → g = w.heap.size ∨ w2.heap.size ≤ g)) (fun _ i _ => L.length - (intOf i).toNat)
    case atStart => exact ⟨0, Nat.zero_le _, rfl, ⟨_, _, rfl⟩, hst⟩
    case round =>
      clear hst
      obtain ⟨j, hj, rfl, ⟨oa, ocap, rfl⟩, hX⟩ := hrel
      have hbw : Hid (Below w.heap.size w wr) := Lib.hid (hb3.out.trans (hX.out.2.1.below hb3.out.size (fun i e => Nat.le_of_eq e.symm)))
      by_cases hjl : j < L.length
      · obtain ⟨x, hx⟩ : ∃ x, L[j]? = some x := ⟨_, List.getElem?_eq_getElem hjl⟩
        obtain ⟨y, rfl, hyn, hyq⟩ := hL.out x (List.mem_of_getElem? hx)
        have hrow := hrkH.out.below (w' := wr) (fun b' o v hb hc => hX.out.2.1.cell (by omega) hc)
        obtain ⟨b3, off3, hka, _, hc3⟩ := numS_row hrow j _ hx
        have hj1 : (j : Int) < (L.length : Int) := by omega
        have hj0 : (0 : Int) ≤ (j : Int) := by omega
        have hsu : Hid (fromP n (nxt n T) b L (j + 1) = fromP n (nxt n T) b L j ++ lst n (nxt n T) y) := Lib.hid (by rw [fromP_succ n (nxt n T) b L j hx, Int.toNat_natCast])
        have hcall := Lib.hid (hrec.out y wr hyq hyn hbw.out)
        have l1 := hlen.out j
        have l2 := hlen2.out y hyn
        have l3 := hlen.out (j + 1)
        generalize fromP n (nxt n T) b L j = o at *
        generalize lst n (nxt n T) y = r at *
        subst hka
        clear hrow hx
        go_wp2_with fail
        refine hcall.out.mono ?_
        rintro _ w4 ⟨v4, rfl, ho4, hb4⟩
        obtain ⟨ra, rcap, rfl, hr4⟩ := row_own1 ho4
        have hown4 := Lib.hid (own_below hX.out.1 hb4)
        have hz4 : w.heap.size ≤ w4.heap.size := by have := hbw.out.size; have := hb4.size; omega
        have hnl : (numCells r).length = r.length * 1 := by simp [numCells]
        have hb4H := Lib.hid hb4
        clear ho4 hcall hb4
        go_wp2_with (at_builtin; refine wpList_append_rowN _ rfl _ _ 33 rfl w.heap.size 3 i0 _ 1 8 Try.underlying33 hi0 hz0 hzz hz2 rfl (by decide) _ _ _ rfl hown4.out ra rcap r.length (numCells r) hnl rfl hr4 (num_one _) ?d1 ?d2 ?d3 ?_)
        case d1 => unfold maxLen; omega
        case d2 => omega
        case d3 => exact hz4
        intro v2 w7 ho2 hg2 hv2
        have hfr : Fr (fun i => i = w.heap.size) w2 w7 := by
          have h1 : Fr (fun i => i = w.heap.size) w2 w4 := hX.out.2.1.trans (Fr.of_below hb4H.out)
          refine ⟨hg2.os.trans h1.os, hg2.tape.trans h1.tape, hg2.output.trans h1.output, Nat.le_trans h1.size hg2.size, fun i hi hn => (hg2.block i (Nat.lt_of_lt_of_le hi h1.size) (fun e => ?_)).trans (h1.block i hi hn)⟩
          rcases hX.out.2.2 i e.symm with h | h
          · exact hn h
          · omega
        have hvb : ∀ g, v2.ownBlock = some g → g = w.heap.size ∨ w2.heap.size ≤ g := fun g e => by
          rcases hv2 with h | h
          · exact hX.out.2.2 g (by rw [← h]; exact e)
          · rw [h] at e
            have := Option.some.inj e
            have h1 := hX.out.2.1.size
            have h2 := hb4H.out.size
            exact .inr (by omega)
        obtain ⟨a7, cap7, rfl, _⟩ := row_own ho2
        have ho3 : w7.ownsRow w.heap.size 3 1 (.slice a7 (o.length + r.length) cap7) (fromP n (nxt n T) b L (j + 1)).length (numCells (fromP n (nxt n T) b L (j + 1))) := by rw [hsu.out, List.length_append, num_app]; exact ho2
        have hst2 := Lib.hid (⟨ho3, hfr, hvb⟩ : w7.ownsRow w.heap.size 3 1 (.slice a7 (o.length + r.length) cap7) (fromP n (nxt n T) b L (j + 1)).length (numCells (fromP n (nxt n T) b L (j + 1))) ∧ Fr (fun i => i = w.heap.size) w2 w7 ∧ ∀ g, (Value.slice a7 (o.length + r.length) cap7).ownBlock = some g → g = w.heap.size ∨ w2.heap.size ≤ g)
        have hsh : ∃ a cap, Value.slice a7 (o.length + r.length) cap7 = .slice a (fromP n (nxt n T) b L (j + 1)).length cap := ⟨a7, cap7, by rw [hsu.out, List.length_append]⟩
        clear hX hown4 ho2 hg2 hv2 hfr hvb ho3 hr4 hb4H
        go_wp2_with fail
        go_roundw
        case rel => exact ⟨j + 1, by omega, by go_num, hsh, hst2⟩
        case measure => simp [intOf]; omega
      · have hjl2 : ¬ ((j : Int) < (L.length : Int)) := by omega
        have hjn : j = L.length := by omega
        have hfin : Hid (wr.ownsRow w.heap.size 3 1 (.slice oa (fromP n (nxt n T) b L j).length ocap) (lst n (nxt n T) b).length (numCells (lst n (nxt n T) b))) := Lib.hid (by
          have h1 := hX.out.1
          rw [hlst.out, ← hjn]
          exact h1)
        clear hX hjn
        go_wp2_with fail
        go_ret
        exact ⟨_, rfl, hfin.out, hbw.out⟩
end Go.Proofs.Ytiaecobjbckhoaa.Db
