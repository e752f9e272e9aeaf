/- MemFirst answers true. Conditions: the list lies in memory; the numbers fit their kinds. -/
import Derived.Test.YtimbhdekbceajaaMeX
import Derived.Deep.CutRange
namespace Go.Proofs.Ytimbhdekbceajaa.Me
open Go Go.RowKit

/-- the memory that was made of l, the cells that were handed out -/
structure Fq (w : World) (l : List Gm) (locks : Int) (mb g : Nat) (R : List Row) (V : World) : Prop where
  ex : ∃ m : Mm, m.mb = mb ∧ m.In V ∧ m.C = firstC l ∧ m.h = (fun _ => none) ∧ m.locks = locks ∧ m.n = 0 ∧ ∀ b, m.foot b → w.heap.size ≤ b
  cs : Cs V g (g + 1) R
  rl : R.map Row.l = firstC l
  bl : Below w.heap.size w V
theorem Fq.below {w V V' : World} {l : List Gm} {locks : Int} {mb g : Nat} {R : List Row} (h : Fq w l locks mb g R V) (hb : Below V.heap.size V V') : Fq w l locks mb g R V' := by
  obtain ⟨⟨m, h1, h2, h3⟩, h4, h5, h6⟩ := h
  exact ⟨⟨m, h1, h2.below hb, h3⟩, h4.below hb, h5, h6.trans (hb.mono h6.size)⟩
theorem Fq.row {w V : World} {l : List Gm} {locks : Int} {mb g : Nat} {R : List Row} (h : Fq w l locks mb g R V) {k : Nat} {x : Gm} (hx : l[k]? = some x) : ∃ r : Row, r.In V ∧ r.l = List.replicate x.size.toNat x.first ∧ V.cell? ⟨g, k, none⟩ = some (.slice (some ⟨r.b, 0, none⟩) x.size.toNat r.cap) := by
  have h1 : (R.map Row.l)[k]? = some (List.replicate x.size.toNat x.first) := by
    rw [h.rl]
    unfold firstC
    rw [List.getElem?_map, hx]
    rfl
  rw [List.getElem?_map] at h1
  obtain ⟨r, hr, hl⟩ := Option.map_eq_some_iff.1 h1
  refine ⟨r, (h.cs.rows r (List.mem_of_getElem? hr)).1, hl, ?_⟩
  have := blk_cell h.cs.blk (j := k) (u := r.val) (by rw [List.getElem?_toArray, List.getElem?_map, hr]; rfl)
  rw [this]
  unfold Row.val
  rw [hl, List.length_replicate]
theorem Fq.len {w V : World} {l : List Gm} {locks : Int} {mb g : Nat} {R : List Row} (h : Fq w l locks mb g R V) : R.length = l.length := by
  have := congrArg List.length h.rl
  unfold firstC at this
  simpa using this
theorem fq_get {w V : World} {l : List Gm} {locks : Int} {mb g : Nat} {R : List Row} (h : Fq w l locks mb g R V) (a i v er : Int) (hp : getP (firstC l) a i = (v, er)) : Calls Try.prog 24 #[.pointer (some ⟨mb, 0, none⟩), .int .i64 a, .int .i64 i] V fun e w' => e = .returned (.tuple #[.int .i64 v, .int .i64 er]) ∧ w' = V := by
  obtain ⟨⟨m, rfl, h2, h3, _⟩, _⟩ := h
  have := Get_c h2 a i
  unfold gets at this
  rw [h3, hp] at this
  exact this
theorem fq_holder {w V : World} {l : List Gm} {locks : Int} {mb g : Nat} {R : List Row} (h : Fq w l locks mb g R V) (i : Int) (hi : I64 i) : Calls Try.prog 25 #[.pointer (some ⟨mb, 0, none⟩), .int .i64 i] V fun e w' => e = .returned (.tuple #[.int .i64 0, .bool false]) ∧ w' = V := by
  obtain ⟨⟨m, rfl, h2, h3, h4, _⟩, _⟩ := h
  have := Holder_c h2 i hi
  rw [h4] at this
  exact this
theorem fq_take {w V : World} {l : List Gm} {locks : Int} {mb g : Nat} {R : List Row} (h : Fq w l locks mb g R V) : Calls Try.prog 27 #[.pointer (some ⟨mb, 0, none⟩), .int .i64 locks, .int .i64 0] V fun e w' => e = .returned (.int .i64 1) ∧ ∃ m : Mm, m.mb = mb ∧ m.In w' ∧ Below w.heap.size w w' := by
  obtain ⟨⟨m, rfl, h2, h3, h4, h5, h6, h7⟩, h8, h9, hb⟩ := h
  refine (Take_c h2 (by omega) locks 0 (by unfold I64; omega)).mono ?_
  rintro e w' ⟨rfl, m', q1, q2, q3, q4, q5, q6, q7, q8, q9⟩
  refine ⟨?_, m', q6, q1, hb.trans (q9 _ h7)⟩
  unfold takeE
  rw [h5, if_pos (.inr (Int.le_refl _))]
theorem copy_same {w V : World} {mb : Nat} (h : ∃ m : Mm, m.mb = mb ∧ m.In V) (hb : Below w.heap.size w V) : Calls Try.prog 14 #[.pointer (some ⟨mb, 0, none⟩)] V fun e w' => ∃ cb, e = .returned (.pointer (some ⟨cb, 0, none⟩)) ∧ Hid (Below w.heap.size w w') ∧ Hid (Calls Try.prog 18 #[.pointer (some ⟨mb, 0, none⟩), .pointer (some ⟨cb, 0, none⟩)] w' fun e w2 => e = .returned (.bool true) ∧ Below w.heap.size w w2) := by
  obtain ⟨m, rfl, hm⟩ := h
  refine (Copy_c hm).mono ?_
  rintro e w' ⟨hbc, m', rfl, q1, q2, q3, _⟩
  have hb' := hb.trans (hbc.mono hb.size)
  refine ⟨m'.mb, rfl, Lib.hid hb', Lib.hid ((Same_c (hm.below hbc) q1).mono ?_)⟩
  rintro e w2 ⟨⟨r, rfl, hr⟩, hb2⟩
  refine ⟨?_, hb'.trans (hb2.mono hb'.size)⟩
  rw [hr.2 ⟨q2.symm, fun i => by rw [q3]⟩]
theorem fq_end {w V : World} {l : List Gm} {locks : Int} {mb g : Nat} {R : List Row} (h : Fq w l locks mb g R V) : Calls Try.prog 27 #[.pointer (some ⟨mb, 0, none⟩), .int .i64 locks, .int .i64 0] V fun e w1 => e = .returned (.int .i64 1) ∧ Hid (Calls Try.prog 14 #[.pointer (some ⟨mb, 0, none⟩)] w1 fun e w' => ∃ cb, e = .returned (.pointer (some ⟨cb, 0, none⟩)) ∧ Hid (Below w.heap.size w w') ∧ Hid (Calls Try.prog 18 #[.pointer (some ⟨mb, 0, none⟩), .pointer (some ⟨cb, 0, none⟩)] w' fun e w2 => e = .returned (.bool true) ∧ Below w.heap.size w w2)) := by
  refine (fq_take h).mono ?_
  rintro e w1 ⟨h1, m, h2, h3, h4⟩
  exact ⟨h1, Lib.hid (copy_same ⟨m, h2, h3⟩ h4)⟩
theorem getP_first_none' {l : List Gm} {k : Nat} {i : Int} {x : Gm} (hx : l[k]? = some x) (hi : i < 0 ∨ x.size ≤ i) (_hs : 0 ≤ x.size) : getP (firstC l) k i = (0, 5) := by
  have hk := (List.getElem?_eq_some_iff.1 hx).1
  unfold getP firstC
  rw [List.length_map, if_neg (by omega), Int.toNat_natCast, List.getElem?_map, hx]
  simp only [Option.map_some]
  rw [List.length_replicate, if_pos (by omega)]
theorem getP_first_arg' {l : List Gm} {a i : Int} (ha : a < 0 ∨ (l.length : Int) ≤ a) : getP (firstC l) a i = (0, 1) := by
  unfold getP firstC
  rw [List.length_map, if_pos ha]
/-- a world that lies as wr does, and the cells that were handed out -/
structure Sm (w : World) (l : List Gm) (locks : Int) (mb g : Nat) (R : List Row) (wr V : World) : Prop where
  fq : Fq w l locks mb g R V
  keep : ∀ a, V.cell? a = wr.cell? a
set_option maxHeartbeats 8000000 in
set_option maxRecDepth 100000 in
theorem memFirst_law (l : List Gm) (ga : Option Addr) (gc : Nat) (locks : Int) (w : World) (hg : RowAt w (fun _ => True) ga gc l.length (gmCells l)) (hgi : ∀ g ∈ l, g.In) (_hlk : I64 locks) :
    Calls Try.prog 8 #[.slice ga l.length gc, .int .i64 locks] w fun e w' => e = .returned (.bool true) ∧ Below w.heap.size w w' := by
  obtain ⟨hc1, hc2⟩ := len_i hg
  have hA := Lib.hid (fun (V : World) (hV : Hid (Below w.heap.size w V)) => aw_c hV.out)
  have hb0 : Hid (Below w.heap.size w w) := Lib.hid (Below.refl _ _)
  go_enter Try.func8, Try.ntmps8
  go_wp2_with fail
  go_loopw [5, 6] (fun t5 t6 wr => ∃ (k : Nat) (n : Int), k ≤ l.length ∧ t5 = .int .i64 n ∧ t6 = .int .i64 k ∧ (k : Int) ≤ n ∧ n ≤ 200001 ∧ wr = w) (fun _ t6 _ => l.length - (intOf t6).toNat)
  case atStart => exact ⟨0, 0, Nat.zero_le _, rfl, rfl, by omega, by omega, rfl⟩
  case round =>
    obtain ⟨k, n, hk, rfl, rfl, hkn, hn2, hwr⟩ := hrel
    subst wr
    by_cases hn : 100000 < n
    · have hn' : ¬ n ≤ 100000 := by omega
      by_cases hlt : k < l.length
      · have hlt' : (k : Int) < (l.length : Int) := by omega
        go_wp2_with (go_at_call 11; refine (hA.out _ (by assumption)).mono ?_; rintro e w1 ⟨rfl, hb1⟩)
        go_ret
        exact ⟨rfl, hb1⟩
      · have hlt' : ¬ (k : Int) < (l.length : Int) := by omega
        go_wp2_with (go_at_call 11; refine (hA.out _ (by assumption)).mono ?_; rintro e w1 ⟨rfl, hb1⟩)
        go_ret
        exact ⟨rfl, hb1⟩
    have hn' : n ≤ 100000 := by omega
    by_cases hlt : k < l.length
    · have hlt' : (k : Int) < (l.length : Int) := by omega
      obtain ⟨x, hx⟩ : ∃ x, l[k]? = some x := ⟨_, List.getElem?_eq_getElem hlt⟩
      obtain ⟨b, off, ha, _, c0, c1, c2⟩ := gm_row hg k x hx
      subst ha
      have hi0 : (0 : Int) ≤ (k : Int) := by omega
      have hm1 : 0 ≤ min (max x.size 0) 100000 := by omega
      have hm2 : min (max x.size 0) 100000 ≤ 100000 := by omega
      clear hg hgi hx c0 c2
      go_wp2_with fail
      go_roundw
      case rel => exact ⟨k + 1, _, by omega, rfl, by go_num, by go_num, by go_num, trivial⟩
      case measure => simp [intOf]; omega
    · have hkl : k = l.length := by omega
      subst hkl
      have hlim : l.length ≤ 100000 := by omega
      go_upto_region 8 with (go_at_call 11; refine (hA.out _ (by assumption)).mono ?_; rintro e w1 ⟨rfl, hb1⟩)
      clear hA hb0
      have hN := Lib.hid (New_c l locks ga gc w1 (hg.below (Kps.of_below hb1)) (by omega))
      cases hbad : l.any badG with
      | true =>
        have hN2 : Hid (Calls Try.prog 12 #[.slice ga l.length gc, .int .i64 locks] w1 fun e w' => e = .returned (.tuple #[.pointer none, .int .i64 4]) ∧ Below w.heap.size w w') := Lib.hid (hN.out.mono fun e w' ⟨h1, h2⟩ => by
          rw [if_pos hbad] at h2
          exact ⟨h2, hb1.trans (h1.mono hb1.size)⟩)
        clear hN hbad
        go_wp2_with (go_at_call 12; refine hN2.out.mono ?_; rintro e w2 ⟨rfl, hb2⟩)
        go_ret
        exact ⟨rfl, hb2⟩
      | false =>
      by_cases hlb : locks < 0 ∨ 256 < locks
      · have hN2 : Hid (Calls Try.prog 12 #[.slice ga l.length gc, .int .i64 locks] w1 fun e w' => e = .returned (.tuple #[.pointer none, .int .i64 1]) ∧ Below w.heap.size w w') := Lib.hid (hN.out.mono fun e w' ⟨h1, h2⟩ => by
          rw [if_neg (by rw [hbad]; simp), if_pos hlb] at h2
          exact ⟨h2, hb1.trans (h1.mono hb1.size)⟩)
        clear hN hbad hlb
        go_wp2_with (go_at_call 12; refine hN2.out.mono ?_; rintro e w2 ⟨rfl, hb2⟩)
        go_ret
        exact ⟨rfl, hb2⟩
      have hN2 : Hid (Calls Try.prog 12 #[.slice ga l.length gc, .int .i64 locks] w1 fun e w' => ∃ mb, e = .returned (.tuple #[.pointer (some ⟨mb, 0, none⟩), .int .i64 0]) ∧ Hid (Calls Try.prog 29 #[.pointer (some ⟨mb, 0, none⟩)] w' fun e w2 => ∃ g R, e = .returned (.slice (some ⟨g, 0, none⟩) l.length l.length) ∧ Hid (Fq w l locks mb g R w2))) := Lib.hid (hN.out.mono fun e w' ⟨h1, h2⟩ => by
        rw [if_neg (by rw [hbad]; simp), if_neg hlb] at h2
        obtain ⟨m, q1, q2, q3, q4, q5, q6, q7⟩ := h2
        have hb2 := hb1.trans (h1.mono hb1.size)
        refine ⟨m.mb, q7, Lib.hid ((Cells_c q1).mono ?_)⟩
        rintro e w2 ⟨rfl, R, r1, r2, r3, r4⟩
        have hlen : m.rows.length = l.length := by
          have := congrArg List.length q2
          unfold Mm.C firstC at this
          simpa using this
        exact ⟨w'.heap.size, R, by rw [hlen], Lib.hid ⟨⟨m, rfl, q1.below r4, q2, q4, q3, q5, fun b hb => Nat.le_trans hb1.size (q6 b hb)⟩, r3, r1.trans q2, hb2.trans (r4.mono hb2.size)⟩⟩)
      clear hN hb1
      go_upto_region 12 with (first
        | (go_at_call 12; refine hN2.out.mono ?_; rintro e w2 ⟨mb, rfl, hC⟩)
        | (go_at_call 29; refine hC.out.mono ?_; rintro e w3 ⟨g, R, rfl, hF⟩))
      clear hN2 hC
      replace hbad := Lib.hid hbad
      replace hlb := Lib.hid hlb
      replace hgi := Lib.hid hgi
      replace hg := Lib.hid hg
      go_wp2_with fail
      go_loopw [10] (fun t10 wr => ∃ k : Nat, k ≤ l.length ∧ t10 = .int .i64 k ∧ Hid (Fq w l locks mb g R wr)) (fun t10 _ => l.length - (intOf t10).toNat)
      case atStart => exact ⟨0, Nat.zero_le _, rfl, hF⟩
      case round =>
        clear hF
        obtain ⟨k, hk, rfl, hF⟩ := hrel
        by_cases hlt2 : k < l.length
        · obtain ⟨x, hx⟩ : ∃ x, l[k]? = some x := ⟨_, List.getElem?_eq_getElem hlt2⟩
          obtain ⟨b, off, ha, _, c0, c1, c2⟩ := gm_row (hg.out.below (Kps.of_below hF.out.bl)) k x hx
          subst ha
          obtain ⟨r, hr1, hr2, hr3⟩ := hF.out.row hx
          have hi0 : (0 : Int) ≤ (k : Int) := by omega
          have hi1 : (k : Int) < (l.length : Int) := by omega
          have hxs : 1 ≤ x.size ∧ x.size ≤ 1024 := by
            have := hbad.out
            rw [List.any_eq_false] at this
            have := this x (List.mem_of_getElem? hx)
            simp [badG] at this
            omega
          obtain ⟨z, hz⟩ : ∃ z : Nat, x.size = z := ⟨x.size.toNat, by omega⟩
          have hzt : x.size.toNat = z := by omega
          have hG1 := Lib.hid (fun V (hV : Hid (Fq w l locks mb g R V)) => fq_get hV.out k z 0 5 (getP_first_none' hx (.inr (by omega)) (by omega)))
          have hG2 := Lib.hid (fun V (hV : Hid (Fq w l locks mb g R V)) => fq_get hV.out k (-1) 0 5 (getP_first_none' hx (.inl (by omega)) (by omega)))
          rw [hzt] at hr2 hr3
          have hrc : ∀ j : Nat, j < z → wr.cell? ⟨r.b, j, none⟩ = some (.int .i64 x.first) := fun j hj => (hr1.cell (by rw [hr2, List.getElem?_replicate, if_pos hj])).1
          obtain ⟨nm, sz, fi⟩ := x
          simp only at c0 c1 c2 hz hrc hxs
          subst hz
          have hz1 : 1 ≤ z ∧ z ≤ 1024 := by omega
          have hrcap := hr1.le
          rw [hr2, List.length_replicate] at hrcap
          have hrcap2 := hr1.lim
          replace hrc := Lib.hid hrc
          clear hx hr1 hr2 hzt hxs
          go_wp2_with fail
          go_quiet (fail)
          go_wp2_with fail
          go_loopw [11] (fun t11 V => ∃ j : Nat, j ≤ z ∧ t11 = .int .i64 j ∧ Hid (Sm w l locks mb g R wr V)) (fun t11 _ => z - (intOf t11).toNat)
          case atStart => exact ⟨0, Nat.zero_le _, rfl, Lib.hid ⟨hF.out.below ⟨rfl, rfl, rfl, Nat.le_refl _, fun _ _ => rfl⟩, fun _ => rfl⟩⟩
          case round =>
            obtain ⟨j, hj, rfl, hS⟩ := hrel
            rename_i V
            have d1 := (hS.out.keep _).trans hr3
            have d2 := (hS.out.keep _).trans c1
            have d3 := (hS.out.keep _).trans c2
            by_cases hjz : j < z
            · have d4 := (hS.out.keep _).trans (hrc.out j hjz)
              have hj0 : (0 : Int) ≤ (j : Int) := by omega
              have hj1 : (j : Int) < (z : Int) := by omega
              clear c0 c1 c2 hr3 hrc hG1 hG2 hF
              go_wp2_with fail
              go_quiet (fail)
              go_wp2_with fail
              go_roundw
              case rel => exact ⟨j + 1, by omega, rfl, Lib.hid ⟨hS.out.fq.below ⟨rfl, rfl, rfl, Nat.le_refl _, fun _ _ => rfl⟩, hS.out.keep⟩⟩
              case measure => simp [intOf]; omega
            · have hjz' : j = z := by omega
              subst hjz'
              have hF2 := Lib.hid hS.out.fq
              clear c0 c1 c2 hr3 hrc hF hS
              go_wp2_with (go_at_call 24; first
                | ((with_reducible refine (hG1.out _ (by assumption)).mono ?_); rintro e V1 ⟨rfl, rfl⟩)
                | ((with_reducible refine (hG2.out _ (by assumption)).mono ?_); rintro e V1 ⟨rfl, rfl⟩))
              go_roundw
              case rel => exact ⟨k + 1, by omega, rfl, hF2⟩
              case measure => simp [intOf]; omega
        · have hkl : k = l.length := by omega
          subst hkl
          have hlb1 : 0 ≤ locks := by have := hlb.out; omega
          have hlb2 : locks ≤ 256 := by have := hlb.out; omega
          go_wp2_with fail
          go_loopw [16] (fun t16 V => ∃ i : Int, -1 ≤ i ∧ i ≤ locks + 1 ∧ t16 = .int .i64 i ∧ Hid (Fq w l locks mb g R V)) (fun t16 _ => (locks + 1 - intOf t16).toNat)
          case atStart => exact ⟨-1, by omega, by omega, rfl, hF⟩
          case round =>
            clear hF
            obtain ⟨i, hi1, hi2, rfl, hF⟩ := hrel
            by_cases hil : i ≤ locks
            · have hH := Lib.hid (fun V (hV : Hid (Fq w l locks mb g R V)) => fq_holder hV.out i (by unfold I64; omega))
              go_wp2_with (go_at_call 25; (with_reducible refine (hH.out _ (by assumption)).mono ?_); rintro e V1 ⟨rfl, rfl⟩)
              go_roundw
              case rel => exact ⟨i + 1, by omega, by omega, by go_num, hF⟩
              case measure => simp [intOf]; omega
            · have hG := Lib.hid (fun V (hV : Hid (Fq w l locks mb g R V)) => fq_get hV.out l.length 0 0 1 (getP_first_arg' (.inr (Int.le_refl _))))
              have hT := Lib.hid (fun V (hV : Hid (Fq w l locks mb g R V)) => fq_end hV.out)
              have hil' : ¬ i ≤ locks := hil
              go_wp2_with (first
                | (go_at_call 24; (with_reducible refine (hG.out _ (by assumption)).mono ?_); rintro e V1 ⟨rfl, rfl⟩)
                | (go_at_call 27; (with_reducible refine (hT.out _ (by assumption)).mono ?_); rintro e V1 ⟨rfl, hC⟩)
                | (go_at_call 14; (with_reducible refine hC.out.mono ?_); rintro e V2 ⟨cb, rfl, hb2, hSa⟩)
                | (go_at_call 18; (with_reducible refine hSa.out.mono ?_); rintro e V3 ⟨rfl, hb3⟩))
              go_ret
              exact ⟨rfl, hb3⟩
end Go.Proofs.Ytimbhdekbceajaa.Me
