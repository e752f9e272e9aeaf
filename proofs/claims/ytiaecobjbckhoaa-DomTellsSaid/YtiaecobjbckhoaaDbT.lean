/- Walk of above: by rank the next one above. Conditions: what is handed in lies in range. -/
import Derived.Test.YtiaecobjbckhoaaDbS
import Derived.Test.YtiaecobjbckhoaaDbT0
import Derived.Test.YtiaecobjbckhoaaDbT1
import Derived.Test.YtiaecobjbckhoaaDbO
import Derived.Test.YtiaecobjbckhoaaDbJ
import Derived.Test.YtiaecobjbckhoaaDbI
import Derived.Test.YtiaecobjbckhoaaDbU
import Derived.Laws.EntriesVeiled
set_option linter.unusedVariables false
set_option linter.unusedSimpArgs false
namespace Go.Proofs.Ytiaecobjbckhoaa.Db
open Go Go.RowKit
open Go.WideShapes Go.MapKept Dm Rg
open Go.Proofs.Ytiaecobjbckhoaa.Qr Go.Proofs.Ytiaecobjbckhoaa.Vq Go.Proofs.Ytiaecobjbckhoaa.QrS

theorem fins_own (low next : Nat → Int) : ∀ (j k : Nat), j ≤ k → ((List.range j).foldl (fin low) next) k = next k
  | 0, _, _ => rfl
  | j + 1, k, h => by
    rw [List.range_succ, List.foldl_append]
    show fin low ((List.range j).foldl (fin low) next) j k = _
    have ih := fins_own low next j k (by omega)
    unfold fin
    split
    · split
      · rw [upd_ne _ _ (by omega)]; exact ih
      · rw [upd_ne _ _ (by omega)]; exact ih
    · exact ih

attribute [local go_sem] Go.Oper.semAt_some
set_option maxHeartbeats 16000000 in
set_option maxRecDepth 100000 in
theorem up_c (n B0 wb gm go gl gt m cm co cl : Nat) (met over low : Nat → Int) (late : Nat → List Int) (W : World) (h : WkM B0 wb gm go gl gt m cm co cl met over (low, late) W) (hm0 : 0 < m)
    (hover : ∀ k, 0 < k → k < m → ∃ p : Nat, over k = p ∧ p < k) (hlow : ∀ k, k < m → 0 ≤ low k ∧ low k < m) (hlate : ∀ k, k < m → ∀ x ∈ late k, 0 ≤ x ∧ x < (m : Int))
    (hnx : ∀ k, 0 < k → k < m → 0 ≤ (turns m late over (m - 1) (ab0 low)).next k ∧ (turns m late over (m - 1) (ab0 low)).next k < m) :
    CallsIn Fence.wide n Try.prog 38 #[.pointer (some ⟨wb, 0, none⟩)] W fun e W' => ∃ ga, e = .returned (.slice (some ⟨ga, 0, none⟩) m m) ∧ W.heap.size ≤ ga ∧ InR ga m (fins (turns m late over (m - 1) (ab0 low)).low (turns m late over (m - 1) (ab0 low)).next m) W' ∧ Fr (fun i => i = gl) W W' := by
  have hcap := h.cap
  obtain ⟨k1, k2, k3, k4, k5, k6, k7⟩ := hcap
  have cw0 : W.cell? ⟨wb, 0, none⟩ = some (.slice (some ⟨gm, 0, none⟩) m cm) := blk_cell (j := 0) h.c rfl
  have cw1 : W.cell? ⟨wb, 1, none⟩ = some (.slice (some ⟨go, 0, none⟩) m co) := blk_cell (j := 1) h.c rfl
  have cw2 : W.cell? ⟨wb, 2, none⟩ = some (.slice (some ⟨gl, 0, none⟩) m cl) := blk_cell (j := 2) h.c rfl
  have cw3 : W.cell? ⟨wb, 3, none⟩ = some (.slice (some ⟨gt, 0, none⟩) m m) := blk_cell (j := 3) h.c rfl
  have hlt := Lib.hid h.lt
  have hne := Lib.hid h.ne
  have hlo := Lib.hid h.low
  have hov := Lib.hid h.over
  have hla := Lib.hid h.late
  have hwl : wb < W.heap.size := by have := hlt.out; omega
  have hnone := Lib.hid (fun V => none_c m hm0 (by omega) V)
  clear h
  refine callsIn_of_wp_marks Try.func38 rfl trivial ?_ rfl
  simp only [Try.ntmps38, List.size_toArray, List.length_cons, List.length_nil, Nat.reduceAdd, Nat.reduceSub, Array.replicate_succ, Array.replicate_zero, List.push_toArray, List.append_toArray, List.nil_append, List.cons_append]
  gi_wp2_with fail
  refine ⟨trivial, fun h => (by cases h), (callsIn_wide.2 (hnone.out _)).mono ?_⟩
  rintro e w1 ⟨gx, rfl, hgx, hrx, hb1⟩
  obtain ⟨W2, hW2⟩ : ∃ W2, W2 = (w1.alloc (.cells #[.slice (some ⟨gx, 0, none⟩) m m] 33)).drew := ⟨_, rfl⟩
  have hx0 : Below W.heap.size W w1 := (b_alloc _ _).trans (hb1.mono (by simp))
  have hx1 : Below W.heap.size W W2 := by
    rw [hW2]
    exact (hx0.alloc hx0.size _).trans ⟨rfl, rfl, rfl, Nat.le_refl _, fun _ _ => rfl⟩
  have hz2 : W2.heap.size = w1.heap.size + 1 := by rw [hW2]; simp [World.drew]
  have hz1 : W.heap.size + 1 ≤ w1.heap.size := by have := hb1.size; simpa using this
  have hgx1 : W.heap.size + 1 ≤ gx ∧ gx < w1.heap.size := ⟨by simpa using hgx, hrx.lt⟩
  have hpn : W2.heap[w1.heap.size]? = some (.cells #[.slice (some ⟨gx, 0, none⟩) m m] 33 (0, 0)) := by rw [hW2]; exact blk_new w1 _ rfl
  have hrx2 : InR gx m (fun _ => -1) W2 := by
    rw [hW2]
    exact (hrx.at_ ((b_alloc w1 (.cells #[.slice (some ⟨gx, 0, none⟩) m m] 33)).block _ hrx.lt)).at_ rfl
  have hpw : W.heap.size < W2.heap.size ∧ W2.cell? ⟨W.heap.size, 0, none⟩ = some (.pointer (some ⟨wb, 0, none⟩)) := by
    refine ⟨by omega, ?_⟩
    have e1 : (W.alloc (.cells #[.pointer (some ⟨wb, 0, none⟩)] 48)).heap[W.heap.size]? = some (.cells #[.pointer (some ⟨wb, 0, none⟩)] 48 (0, 0)) := blk_new W _ rfl
    have e2 := (hb1.block W.heap.size (by simp)).trans e1
    rw [hW2]
    exact blk_cell (j := 0) (((b_alloc w1 (.cells #[.slice (some ⟨gx, 0, none⟩) m m] 33)).block _ (by omega)).trans e2) rfl
  have hw0 : wb < W2.heap.size ∧ W2.cell? ⟨wb, 0, none⟩ = some (.slice (some ⟨gm, 0, none⟩) m cm) := ⟨by omega, (hx1.cell (p := ⟨wb, 0, none⟩) hwl).trans cw0⟩
  have hw2 : wb < W2.heap.size ∧ W2.cell? ⟨wb, 2, none⟩ = some (.slice (some ⟨gl, 0, none⟩) m cl) := ⟨by omega, (hx1.cell (p := ⟨wb, 2, none⟩) hwl).trans cw2⟩
  have hcw := Lib.hid (⟨cw0, cw1, cw2, cw3⟩ : W.cell? ⟨wb, 0, none⟩ = some (.slice (some ⟨gm, 0, none⟩) m cm) ∧ W.cell? ⟨wb, 1, none⟩ = some (.slice (some ⟨go, 0, none⟩) m co) ∧ W.cell? ⟨wb, 2, none⟩ = some (.slice (some ⟨gl, 0, none⟩) m cl) ∧ W.cell? ⟨wb, 3, none⟩ = some (.slice (some ⟨gt, 0, none⟩) m m))
  replace hx1 := Lib.hid hx1
  replace hz2 := Lib.hid hz2
  replace hz1 := Lib.hid hz1
  replace hgx1 := Lib.hid hgx1
  replace hpn := Lib.hid hpn
  replace hrx2 := Lib.hid hrx2
  replace hW2 := Lib.hid hW2
  clear hx0 hb1 hrx hgx cw0 cw1 cw2 cw3
  gi_wp2_with fail
  refine wpIn_wide.2 (wp_region_set (I := RI [(fun v => v = .pointer (some ⟨wb, 0, none⟩)), (fun v => v = .pointer (some ⟨wb, 0, none⟩)), (fun v => v = .pointer (some ⟨wb, 2, none⟩)), (fun v => v = .slice (some ⟨gl, 0, none⟩) m cl), (fun v => v = .pointer (some ⟨wb, 0, none⟩)), (fun v => v = .pointer (some ⟨wb, 0, none⟩)), (fun v => v = .pointer (some ⟨wb, 0, none⟩)), (fun v => v = .slice (some ⟨gm, 0, none⟩) m cm), (fun v => v = .int .i64 (m : Int)), fun _ => True, (fun v => v = .pointer (some ⟨wb, 0, none⟩)), (fun v => v = .pointer (some ⟨wb, 0, none⟩)), (fun v => v = .pointer (some ⟨wb, 0, none⟩)), (fun v => v = .slice (some ⟨gm, 0, none⟩) m cm), (fun v => v = .int .i64 (m : Int)), fun _ => True, fun _ => True, fun _ => True, fun _ => True, fun _ => True] (fun L σ w => NC m (.slice (some ⟨gl, 0, none⟩) m cl) W2 (L 9) (L 15) (L 16) (L 17) (L 18) (L 19) (σ 9) (σ 15) (σ 16) (σ 17) (σ 18) w)) (by kernel_rfl) ?hI (by kernel_rfl) (stepsI_all ?hs) ?he)
  case hI =>
    refine ⟨fun i e => (by cases e), ?_⟩
    rw [← hW2.out]
    exact NC.start W2
  case hs =>
    clear hover hlow hlate hnx hlo hov hla hcw hx1 hz2 hz1 hgx1 hpn hrx2 hW2
    refine stepsI_cons (fun L σ a w hL hW hS hI hs => ?_) ?_
    · exact ⟨wanted_none rfl, wp_val (run_ld rfl (hs.ev0 1 (by kernel_rfl) (by rfl)) (ld_wk (hI.c.fr.cell (by simpa using hpw.1) hpw.2))) ⟨_, rfl, hI.pure (j := 0) rfl hI.c⟩⟩
    refine stepsI_cons (fun L σ a w hL hW hS hI hs => ?_) ?_
    · exact ⟨wanted_none rfl, wp_val (run_nil rfl (hs.ev 0 20 (by kernel_rfl) (by rfl) (hI.pv 0 (hW 0 (by kernel_rfl))))) ⟨_, rfl, hI.pure (j := 1) rfl hI.c⟩⟩
    refine stepsI_cons (fun L σ a w hL hW hS hI hs => ?_) ?_
    · exact ⟨wanted_none rfl, wp_val (run_fa rfl (hs.ev 1 21 (by kernel_rfl) (by rfl) (hI.pv 1 (hW 1 (by kernel_rfl)))) fl_w2) ⟨_, rfl, hI.pure (j := 2) rfl hI.c⟩⟩
    refine stepsI_cons (fun L σ a w hL hW hS hI hs => ?_) ?_
    · exact ⟨wanted_none rfl, wp_val (run_ld rfl (hs.ev 2 22 (by kernel_rfl) (by rfl) (hI.pv 2 (hW 2 (by kernel_rfl)))) (ld_li (hI.c.fr.cell (by simpa using hw2.1) hw2.2))) ⟨_, rfl, hI.pure (j := 3) rfl hI.c⟩⟩
    refine stepsI_cons (fun L σ a w hL hW hS hI hs => ?_) ?_
    · exact ⟨wanted_none rfl, wp_val (run_ld rfl (hs.ev0 1 (by kernel_rfl) (by rfl)) (ld_wk (hI.c.fr.cell (by simpa using hpw.1) hpw.2))) ⟨_, rfl, hI.pure (j := 4) rfl hI.c⟩⟩
    refine stepsI_cons (fun L σ a w hL hW hS hI hs => ?_) ?_
    · exact ⟨wanted_none rfl, wp_val (run_nil rfl (hs.ev 4 24 (by kernel_rfl) (by rfl) (hI.pv 4 (hW 4 (by kernel_rfl))))) ⟨_, rfl, hI.pure (j := 5) rfl hI.c⟩⟩
    refine stepsI_cons (fun L σ a w hL hW hS hI hs => ?_) ?_
    · exact ⟨wanted_none rfl, wp_val (run_fa rfl (hs.ev 5 25 (by kernel_rfl) (by rfl) (hI.pv 5 (hW 5 (by kernel_rfl)))) fl_w0) ⟨_, rfl, hI.pure (j := 6) rfl hI.c⟩⟩
    refine stepsI_cons (fun L σ a w hL hW hS hI hs => ?_) ?_
    · exact ⟨wanted_none rfl, wp_val (run_ld rfl (hs.ev 6 26 (by kernel_rfl) (by rfl) (hI.pv 6 (hW 6 (by kernel_rfl)))) (ld_li (hI.c.fr.cell (by simpa using hw0.1) hw0.2))) ⟨_, rfl, hI.pure (j := 7) rfl hI.c⟩⟩
    refine stepsI_cons (fun L σ a w hL hW hS hI hs => ?_) ?_
    · exact ⟨wanted_none rfl, wp_val (run_len rfl (hs.ev 7 27 (by kernel_rfl) (by rfl) (hI.pv 7 (hW 7 (by kernel_rfl)))) ln_sl) ⟨_, rfl, hI.pure (j := 8) rfl hI.c⟩⟩
    refine stepsI_cons (fun L σ a w hL hW hS hI hs => ?_) ?_
    · have h16 := hS.not 16 9 (o := _) (by rfl) (by kernel_rfl) hL
      have h17 := hS.not 17 16 (o := _) (by rfl) (by kernel_rfl) h16
      have h19 := hS.not 19 17 (o := _) (by rfl) (by kernel_rfl) h17
      have hc := hI.c
      rw [hL, h16, h17, h19] at hc
      refine ⟨wanted_none rfl, wp_enter (run_call1 rfl (hs.ev 8 28 (by kernel_rfl) (by rfl) (hI.pv 8 (hW 8 (by kernel_rfl)))) (fun _ _ => rfl)) ((hnone.out w).mono fun e w' ⟨g, he, hg, hR, hb⟩ => ⟨_, he, ⟨_, rfl, hI.pure (j := 9) trivial ?_⟩⟩)⟩
      have := hc.a2 hb hg hR
      show NC m (.slice (some ⟨gl, 0, none⟩) m cl) W2 true (L 15) (L 16) (L 17) (L 18) (L 19) _ (σ 15) (σ 16) (σ 17) (σ 18) _
      rw [h16, h17, h19]
      exact this
    refine stepsI_cons (fun L σ a w hL hW hS hI hs => ?_) ?_
    · exact ⟨wanted_none rfl, wp_val (run_ld rfl (hs.ev0 1 (by kernel_rfl) (by rfl)) (ld_wk (hI.c.fr.cell (by simpa using hpw.1) hpw.2))) ⟨_, rfl, hI.pure (j := 10) rfl hI.c⟩⟩
    refine stepsI_cons (fun L σ a w hL hW hS hI hs => ?_) ?_
    · exact ⟨wanted_none rfl, wp_val (run_nil rfl (hs.ev 10 30 (by kernel_rfl) (by rfl) (hI.pv 10 (hW 10 (by kernel_rfl))))) ⟨_, rfl, hI.pure (j := 11) rfl hI.c⟩⟩
    refine stepsI_cons (fun L σ a w hL hW hS hI hs => ?_) ?_
    · exact ⟨wanted_none rfl, wp_val (run_fa rfl (hs.ev 11 31 (by kernel_rfl) (by rfl) (hI.pv 11 (hW 11 (by kernel_rfl)))) fl_w0) ⟨_, rfl, hI.pure (j := 12) rfl hI.c⟩⟩
    refine stepsI_cons (fun L σ a w hL hW hS hI hs => ?_) ?_
    · exact ⟨wanted_none rfl, wp_val (run_ld rfl (hs.ev 12 32 (by kernel_rfl) (by rfl) (hI.pv 12 (hW 12 (by kernel_rfl)))) (ld_li (hI.c.fr.cell (by simpa using hw0.1) hw0.2))) ⟨_, rfl, hI.pure (j := 13) rfl hI.c⟩⟩
    refine stepsI_cons (fun L σ a w hL hW hS hI hs => ?_) ?_
    · exact ⟨wanted_none rfl, wp_val (run_len rfl (hs.ev 13 33 (by kernel_rfl) (by rfl) (hI.pv 13 (hW 13 (by kernel_rfl)))) ln_sl) ⟨_, rfl, hI.pure (j := 14) rfl hI.c⟩⟩
    refine stepsI_cons (fun L σ a w hL hW hS hI hs => ?_) ?_
    · have h16 := hS.not 16 15 (o := _) (by rfl) (by kernel_rfl) hL
      have h17 := hS.not 17 16 (o := _) (by rfl) (by kernel_rfl) h16
      have h19 := hS.not 19 17 (o := _) (by rfl) (by kernel_rfl) h17
      have hc := hI.c
      rw [hL, h16, h17, h19] at hc
      refine ⟨wanted_none rfl, wp_val (run_ms rfl (hs.ev 14 34 (by kernel_rfl) (by rfl) (hI.pv 14 (hW 14 (by kernel_rfl)))) (hs.ev 14 34 (by kernel_rfl) (by rfl) (hI.pv 14 (hW 14 (by kernel_rfl)))) (make_in m (by omega) _)) ⟨_, rfl, hI.pure (j := 15) trivial ?_⟩⟩
      have := hc.a5 (b_alloc w _) (Nat.le_refl _) (made_in w m)
      show NC m (.slice (some ⟨gl, 0, none⟩) m cl) W2 (L 9) true (L 16) (L 17) (L 18) (L 19) (σ 9) _ (σ 16) (σ 17) (σ 18) _
      rw [h16, h17, h19]
      exact this
    refine stepsI_cons (fun L σ a w hL hW hS hI hs => ?_) ?_
    · have h17 := hS.not 17 16 (o := _) (by rfl) (by kernel_rfl) hL
      have h19 := hS.not 19 17 (o := _) (by rfl) (by kernel_rfl) h17
      have h2 := hW 9 (by kernel_rfl)
      have h5 := hW 15 (by kernel_rfl)
      have hc := hI.c
      rw [hL, h17, h19] at hc
      obtain ⟨e2, _, _⟩ := hc.p h2
      obtain ⟨e5, _, _⟩ := hc.e h5
      refine ⟨wanted_none rfl, wp_val (run_b (qs := #[(0, .slice (some ⟨gl, 0, none⟩) m cl), (1, .slice (some ⟨bk (σ 9), 0, none⟩) m m), (2, .slice (some ⟨bk (σ 15), 0, none⟩) m m)]) rfl (by simp [(hs.ev 9 29 (by kernel_rfl) (by rfl) e2), (hs.ev 15 35 (by kernel_rfl) (by rfl) e5), (hs.ev 3 23 (by kernel_rfl) (by rfl) (hI.pv 3 (hW 3 (by kernel_rfl))))]) (b_ch _ _ _ _ _ _ _ _ _)) ⟨_, rfl, hI.pure (j := 16) trivial ?_⟩⟩
      have := hc.a7
      rw [h2, h5] at this
      show NC m (.slice (some ⟨gl, 0, none⟩) m cl) W2 (L 9) (L 15) true (L 17) (L 18) (L 19) (σ 9) (σ 15) _ (σ 17) (σ 18) _
      rw [h2, h5, h17, h19, ← e2, ← e5]
      exact this
    refine stepsI_cons (fun L σ a w hL hW hS hI hs => ?_) ?_
    · have h19 := hS.not 19 17 (o := _) (by rfl) (by kernel_rfl) hL
      have h2 := hS 16 _ (by rfl) (hW 16 (by kernel_rfl)) 9 (by kernel_rfl)
      have h5 := hS 16 _ (by rfl) (hW 16 (by kernel_rfl)) 15 (by kernel_rfl)
      have h7 := hW 16 (by kernel_rfl)
      have hc := hI.c
      rw [hL, h19] at hc
      obtain ⟨e2, _, _⟩ := hc.p h2
      obtain ⟨e5, _, _⟩ := hc.e h5
      have e7 := hc.g h7
      have := hc.a8
      generalize hp : bk (σ 9) = p at *
      generalize hq : bk (σ 15) = q at *
      rw [e2, e5] at e7
      refine ⟨wanted_none rfl, wp_val (run_bx rfl (hs.ev 16 36 (by kernel_rfl) (by rfl) e7) (bx_ch _ _ _ _ _ _ _ _ _)) ⟨_, rfl, hI.pure (j := 17) trivial ?_⟩⟩
      rw [e2, e5] at this
      show NC m (.slice (some ⟨gl, 0, none⟩) m cl) W2 (L 9) (L 15) (L 16) true (L 18) (L 19) (σ 9) (σ 15) (σ 16) _ (σ 18) _
      rw [h19, e2, e5]
      exact this
    refine stepsI_cons (fun L σ a w hL hW hS hI hs => ?_) ?_
    · have h19 := hS.not 19 18 (o := _) (by rfl) (by kernel_rfl) hL
      have hc := hI.c
      rw [hL, h19] at hc
      refine ⟨wanted_none rfl, wp_val (run_al rfl (al_cp w)) ⟨_, rfl, hI.pure (j := 18) trivial ?_⟩⟩
      have := hc.a9
      show NC m (.slice (some ⟨gl, 0, none⟩) m cl) W2 (L 9) (L 15) (L 16) (L 17) true (L 19) (σ 9) (σ 15) (σ 16) (σ 17) _ _
      rw [h19]
      exact this
    refine stepsI_cons (fun L σ a w hL hW hS hI hs => ?_) ?_
    · have h2 := hW 9 (by kernel_rfl)
      have h5 := hW 15 (by kernel_rfl)
      have h8 := hW 17 (by kernel_rfl)
      have h9 := hW 18 (by kernel_rfl)
      have hc := hI.c
      rw [h2, h5, h8, h9, hL] at hc
      have e8 := (hc.t rfl).1
      have e9 := (hc.c rfl).1
      refine ⟨wanted_none rfl, wp_storeC rfl rfl (hs.ev 18 4 (by kernel_rfl) (by rfl) e9) (hs.ev 17 37 (by kernel_rfl) (by rfl) rfl) ⟨_, e8⟩ (blk_cell (j := 0) (hc.c rfl).2.2 rfl) (blk_free (hc.c rfl).2.2 _) ⟨_, rfl, hI.pure (j := 19) trivial ?_⟩⟩
      have := hc.a10
      show NC m (.slice (some ⟨gl, 0, none⟩) m cl) W2 (L 9) (L 15) (L 16) (L 17) (L 18) true (σ 9) (σ 15) (σ 16) (σ 17) (σ 18) _
      rw [h2, h5, h8, h9]
      exact this
    exact trivial
  case he =>
    intro σ W3 hI
    have hc : NC m (.slice (some ⟨gl, 0, none⟩) m cl) W2 true true true true true true (σ 9) (σ 15) (σ 16) (σ 17) (σ 18) W3 := hI.c
    generalize hF : fillL _ _ _ _ _ = F
    simp [fillL, dstOf, List.range, List.range.loop, Act.put] at hF
    subst hF
    obtain ⟨gu, gb, cb, pd, e2, e5, e8, e9, p1, p2, p3, p4, q1, q2, q3, q4, q5, q6, r1, r2, r3, r4⟩ : ∃ gu gb cb pd, σ 9 = .slice (some ⟨gu, 0, none⟩) m m ∧ σ 15 = .slice (some ⟨gb, 0, none⟩) m m ∧ σ 17 = .pointer (some ⟨cb, 0, none⟩) ∧ σ 18 = .pointer (some ⟨pd, 0, none⟩) ∧ W2.heap.size ≤ gu ∧ W2.heap.size ≤ gb ∧ W2.heap.size ≤ cb ∧ W2.heap.size ≤ pd ∧ gu ≠ gb ∧ gu ≠ cb ∧ gu ≠ pd ∧ gb ≠ cb ∧ gb ≠ pd ∧ cb ≠ pd ∧
        InR gu m (fun _ => -1) W3 ∧ InR gb m (fun _ => 0) W3 ∧ W3.heap[cb]? = some (.cells #[.slice (some ⟨gl, 0, none⟩) m cl, .slice (some ⟨gu, 0, none⟩) m m, .slice (some ⟨gb, 0, none⟩) m m] 65 (0, 0)) ∧ W3.heap[pd]? = some (.cells #[.pointer (some ⟨cb, 0, none⟩)] 63 (0, 0)) := by
      obtain ⟨a1, a2, a3⟩ := hc.p rfl
      obtain ⟨b1, b2, b3⟩ := hc.e rfl
      obtain ⟨c1, c2, c3⟩ := hc.t rfl
      obtain ⟨d1, d2, d3⟩ := hc.c rfl
      have h4 := hc.n25 rfl rfl
      have h5 := hc.n28 rfl rfl
      have h6 := hc.n29 rfl rfl
      have h7 := hc.n58 rfl rfl
      have h8 := hc.n59 rfl rfl
      have h9 := hc.n89 rfl rfl
      simp only [cond_true] at d3
      generalize bk (σ 9) = x2 at *
      generalize bk (σ 15) = x5 at *
      generalize bk (σ 17) = x8 at *
      generalize bk (σ 18) = x9 at *
      rw [a1, b1] at c3
      rw [c1] at d3
      exact ⟨x2, x5, x8, x9, a1, b1, c1, d1, a2, b2, c2, d2, h4, h5, h6, h7, h8, h9, a3, b3, c3, d3⟩
    rw [e8, e9, e2, e5]
    have hf3 := Lib.hid hc.fr
    have hz3 : Hid (pd < W3.heap.size ∧ cb < W3.heap.size ∧ gu < W3.heap.size ∧ gb < W3.heap.size) := Lib.hid ⟨Db.hlt r4, Db.hlt r3, r1.lt, r2.lt⟩
    have hpw3 : W3.cell? ⟨W.heap.size, 0, none⟩ = some (.pointer (some ⟨wb, 0, none⟩)) := hc.fr.cell (by have := hpw.1; omega) hpw.2
    have hw03 : W3.cell? ⟨wb, 0, none⟩ = some (.slice (some ⟨gm, 0, none⟩) m cm) := hc.fr.cell (by have := hw0.1; omega) hw0.2
    have hz23 : Hid (W2.heap.size ≤ W3.heap.size) := Lib.hid hc.fr.size
    replace r1 := Lib.hid r1
    replace r2 := Lib.hid r2
    replace r3 := Lib.hid r3
    replace r4 := Lib.hid r4
    have hap := Lib.hid (⟨p1, p2, p3, p4, q1, q2, q3, q4, q5, q6⟩ : W2.heap.size ≤ gu ∧ W2.heap.size ≤ gb ∧ W2.heap.size ≤ cb ∧ W2.heap.size ≤ pd ∧ gu ≠ gb ∧ gu ≠ cb ∧ gu ≠ pd ∧ gb ≠ cb ∧ gb ≠ pd ∧ cb ≠ pd)
    replace hW2 := hW2
    clear hI hc e2 e5 e8 e9 p1 p2 p3 p4 q1 q2 q3 q4 q5 q6 hpw hw0 hw2
    have hwl3 : wb < W3.heap.size := by have := hz23.out; have := hx1.out.size; omega
    have hwl4 : W.heap.size < W3.heap.size := by have := hz23.out; have := hz2.out; have := hz1.out; omega
    have hmk := fun V => make_ll m (by omega) V
    gi_wp2_with fail
    refine ⟨trivial, fun h => (by cases h), (callsIn_wide.2 (lastFirst_c wb _)).mono ?_⟩
    rintro e W5 ⟨rfl, hW5⟩
    have hsz4 : ((W3.alloc (.cells (Array.replicate m (.slice none 0 0)) 33)).alloc (.cells #[.slice (some ⟨W3.heap.size, 0, none⟩) m m] 22)).heap.size = W3.heap.size + 2 := by simp
    rw [hsz4]
    have hsz5 : W5.heap.size = W3.heap.size + 3 := by rw [hW5]; simp
    have hb34 : Below W3.heap.size W3 ((W3.alloc (.cells (Array.replicate m (.slice none 0 0)) 33)).alloc (.cells #[.slice (some ⟨W3.heap.size, 0, none⟩) m m] 22)) := ((Below.refl _ _).alloc (Nat.le_refl _) _).alloc (by simp) _
    have hb35 : Below W3.heap.size W3 W5 := by rw [hW5]; exact hb34.alloc (by simp; omega) _
    have hbx : W5.cell? ⟨W3.heap.size + 2, 0, none⟩ = some (.pointer (some ⟨wb, 0, none⟩)) := by
      rw [hW5]
      exact blk_cell (j := 0) (blk_new _ _ hsz4) rfl
    have hpb : W5.cell? ⟨W3.heap.size + 1, 0, none⟩ = some (.slice (some ⟨W3.heap.size, 0, none⟩) m m) := by
      rw [hW5]
      refine blk_cell (j := 0) ((Below.heap_alloc _ _ _ (by simp)).trans (blk_new (W3.alloc (.cells (Array.replicate m (.slice none 0 0)) 33)) (.cells #[.slice (some ⟨W3.heap.size, 0, none⟩) m m] 22) (by simp))) rfl
    have hsr : Src W5.heap.size W3.heap.size m (fun _ => []) W5 := by
      have h1 := (Src.start0 W3 W5.heap.size m).keep (b_alloc _ (.cells #[.slice (some ⟨W3.heap.size, 0, none⟩) m m] 22))
      have h2 := h1.keep (b_alloc _ (.cells #[.pointer (some ⟨wb, 0, none⟩)] 48))
      rw [← hW5] at h2
      exact h2
    obtain ⟨p1, p2, p3, p4, q1, q2, q3, q4, q5, q6⟩ := hap.out
    obtain ⟨y1, y2, y3, y4⟩ := hz3.out
    obtain ⟨x1, x2, x3, x4, x5, x6⟩ := hlt.out
    obtain ⟨n1, n2, n3⟩ := hne.out
    obtain ⟨u1, u2⟩ := hgx1.out
    have hz1' := hz1.out
    have hz2' := hz2.out
    have hz23' := hz23.out
    have hgtl : gt < W.heap.size := by
      obtain ⟨a, c, hc, _⟩ := hla.out.get hm0
      exact World.block_lt_of_cell? _ _ hc
    have hb05 : Below W.heap.size W W5 := hx1.out.trans ((hf3.out.below (n := W.heap.size) (by omega) (fun i e => by omega)).trans (hb35.mono (by omega)))
    have f25 : Fr (fun i => W2.heap.size ≤ i) W2 W5 := hf3.out.trans (Fr.of_below hb35)
    obtain ⟨cw0, cw1, cw2, cw3⟩ := hcw.out
    have cc := fun (o : Nat) (v : Value) (h : W.cell? ⟨wb, o, none⟩ = some v) => (hb05.cell (p := ⟨wb, o, none⟩) hwl).trans h
    have hN : AbN W.heap.size w1.heap.size pd (W3.heap.size + 1) wb cb gm go gl gt gu gb gx W3.heap.size m cm co cl W5.heap.size :=
      ⟨by unfold Chd; omega, by unfold Chd; omega, by unfold Chd; omega, by unfold Chd; omega, by unfold Chd; omega, by unfold Chd; omega, by unfold Chd; omega, by unfold Chd; omega, ⟨by omega, by omega, by omega, by omega, by omega⟩,
        ⟨by omega, by omega, by omega, by omega, by omega, by omega, by omega, by omega, by omega, by omega⟩, ⟨hm0, k1, k2, k3, k4, k5, k6, k7⟩⟩
    have hA : AbW W.heap.size w1.heap.size pd (W3.heap.size + 1) wb cb gm go gl gt gu gb gx W3.heap.size m cm co cl W5.heap.size over late (ab0 low) W5 := by
      refine ⟨⟨(hb35.cell (p := ⟨_, 0, none⟩) hwl4).trans hpw3, f25.cell (by omega) (blk_cell (j := 0) hpn.out rfl), blk_cell (j := 0) ((hb35.block pd y1).trans r4.out) rfl, hpb, cc _ _ cw0, cc _ _ cw1, cc _ _ cw2, cc _ _ cw3, blk_cell (j := 0) ((hb35.block cb y2).trans r3.out) rfl, blk_cell (j := 1) ((hb35.block cb y2).trans r3.out) rfl, blk_cell (j := 2) ((hb35.block cb y2).trans r3.out) rfl, hov.out.at_ (hb05.block _ (by omega)), fun k hk => ?_⟩,
        ⟨hlo.out.at_ (hb05.block _ (by omega)), r1.out.at_ (hb35.block _ y3), r2.out.at_ (hb35.block _ y4), f25.inr hrx2.out (by omega), hsr⟩, Nat.le_refl _⟩
      obtain ⟨a, c, hc, _, ho, hr⟩ := hla.out.get hk
      exact ⟨a, c, (hb05.cell (p := ⟨gt, k, none⟩) hgtl).trans hc, ((own_row ho hr).below fun b o v hb hv => (hb05.cell (p := ⟨b, o, none⟩) hb.2).trans hv).mono fun b hb => by unfold Chd; omega⟩
    have hBd := Bdd.start low hm0 hlow
    have hw05 := Lib.hid (cc _ _ cw0)
    have hgl5 : Hid (∀ W', Fr (Chd gl gu gb gx W3.heap.size W5.heap.size) W5 W' → Fr (fun i => i = gl) W W') := Lib.hid fun W' hf =>
      ⟨hf.os.trans hb05.os, hf.tape.trans hb05.tape, hf.output.trans hb05.output, Nat.le_trans hb05.size hf.size, fun i hi hn => (hf.block i (Nat.lt_of_lt_of_le hi hb05.size) (by unfold Chd; omega)).trans (hb05.block i hi)⟩
    have hgxW : Hid (W.heap.size ≤ gx) := Lib.hid (by omega)
    replace hA := Lib.hid hA
    replace hN := Lib.hid hN
    replace hBd := Lib.hid hBd
    replace hbx := Lib.hid hbx
    replace hlate := Lib.hid hlate
    replace hover := Lib.hid hover
    replace hnx := Lib.hid hnx
    clear hsz4 hsz5 hb34 hb35 hpb hsr p1 p2 p3 p4 q1 q2 q3 q4 q5 q6 y1 y2 y3 y4 x1 x2 x3 x4 x5 x6 n1 n2 n3 u1 u2 hz1' hz2' hz23' hgtl hb05 f25 cw0 cw1 cw2 cw3 cc hW5 hap hz3 hlt hne hgx1 hz1 hz2 hz23 hlo hov hla hcw hx1 hpn hrx2 hW2 hf3 hpw3 hw03 r1 r2 r3 r4 hwl3 hwl4 hmk hwl hlow hnone
    gi_wp2_with fail
    obtain ⟨z, hz⟩ : ∃ z, z = W5.heap.size := ⟨_, rfl⟩
    refine range_lawB (α := Int) rfl rfl (gf := 45) (lb := #[.pointer (some ⟨W3.heap.size + 2, 0, none⟩)]) rfl trivial (enters_of Try.func45 (by kernel_rfl) rfl) (encs := fun x => #[.int .i64 x]) (fun _ => rfl) (fun x _ => ∃ k : Nat, x = k ∧ 0 < k ∧ k < m) (fun _ _ => True) (fun xs => xs = downs m) (fun pre => pre <+: downs m) (m - 1)
      (fun pre V => AbW W.heap.size w1.heap.size pd (W3.heap.size + 1) wb cb gm go gl gt gu gb gx W3.heap.size m cm co cl W5.heap.size over late (pre.foldl (turnZ m late over) (ab0 low)) V ∧ Bdd m (pre.foldl (turnZ m late over) (ab0 low)) pre.length ∧ Fr (Chd gl gu gb gx W3.heap.size W5.heap.size) W5 V) (fun _ _ => False)
      (fun l J Jx V hsz hb hY hJb hJI hJ0 => down_any l (n - 1) (W3.heap.size + 2) wb gm m cm J Jx (fun _ _ => True) V ((hb.cell (p := ⟨W3.heap.size + 2, 0, none⟩) (World.block_lt_of_cell? _ _ hbx.out)).trans hbx.out) ((hb.cell (p := ⟨wb, 0, none⟩) (World.block_lt_of_cell? _ _ hw05.out)).trans hw05.out) ⟨hm0, k1, k2, k3⟩ (fun m' pre x W1 h hR hl => hY m' pre x W1 h hR hl) hJ0)
      (fun _ _ => trivial) (fun _ => trivial)
      ⟨fun pre V V' h hq hb => ⟨h.1.ceb hq, h.2.1, h.2.2.trans ⟨hb.os, hb.tape, hb.output, hb.size, fun i hi hn => hb.block i (by unfold Chd at hn; omega)⟩⟩, fun pre V V' h hs hb => ⟨h.1.below hN.out hb, h.2.1, h.2.2.trans (Fr.of_below hb)⟩⟩
      ⟨fun _ _ _ h _ _ => h, fun _ _ _ h _ _ => h⟩ (fun _ _ h => h.1.B) ⟨hA.out, hBd.out, Fr.refl _ _⟩ ?round ?done ?stop
    case round =>
      rintro l m' pre x W6 ⟨hA6, hB6, hf6⟩ ⟨k, rfl, hk0, hkm⟩ hlen
      gi_wp2_with fail
      refine ⟨KeepsFrom.refl _ _, trivial, fun W7 hq hb => ?_⟩
      have hA7 := hA6.ceb hq
      have hf7 := hf6.trans (⟨hb.os, hb.tape, hb.output, hb.size, fun i hi hn => hb.block i (by unfold Chd at hn; omega)⟩ : Fr (Chd gl gu gb gx W3.heap.size W5.heap.size) W6 W7)
      clear hA6 hf6 hq hb
      have d1 := hA7.F.cd
      have d2 := hA7.F.c2
      obtain ⟨d3, d4⟩ := hA7.V.be.get hkm
      have hk0' : (0 : Int) ≤ (k : Int) := by omega
      have hk1' : (k : Int) < (m : Int) := by omega
      obtain ⟨s0, hsq0⟩ : ∃ s0, s0 = pre.foldl (turnZ m late over) (ab0 low) := ⟨_, rfl⟩
      rw [← hsq0] at hA7 hB6
      obtain ⟨s1, hs1⟩ : ∃ s1 : Ab, s1 = { s0 with best := Dm.upd s0.best k (k : Int) } := ⟨_, rfl⟩
      have hA8 := hA7.num hN.out (g := gb) (k := k) (x := (k : Int)) (s' := s1) (.inr (.inr (.inl rfl))) hkm
        (fun i _ => by have := hN.out.di; rw [hs1, if_neg (by omega)]) (fun i _ => by have := hN.out.di; rw [hs1, if_neg (by omega)]) (fun i _ => by rw [hs1]; by_cases e : i = k <;> simp [e, Dm.upd]) (fun i _ => by have := hN.out.di; rw [hs1, if_neg (by omega)]) (by rw [hs1])
      have hB8 : Bdd m s1 pre.length := by rw [hs1]; exact hB6.best hkm
      have hk8 : KeepsOthers W7 (W7.setCell ⟨gb, k, none⟩ (.int .i64 (k : Int))) := KeepsOthers.setCell _ _ _
      have hf8 : Fr (Chd gl gu gb gx W3.heap.size W5.heap.size) W5 (W7.setCell ⟨gb, k, none⟩ (.int .i64 (k : Int))) := hf7.trans (Fr.set _ _ (by unfold Chd; omega))
      have e1 := hA8.F.cw
      have e2 := hA8.F.w3
      obtain ⟨la, lc, e3, e4⟩ := hA8.F.late k hkm
      have hlk := Lib.hid (hlate.out k hkm)
      obtain ⟨hl1, hl2⟩ := len_i e4
      replace e4 := Lib.hid e4
      replace hA8 := Lib.hid hA8
      replace hB8 := Lib.hid hB8
      replace hk8 := Lib.hid hk8
      replace hf8 := Lib.hid hf8
      replace hsq0 := Lib.hid hsq0
      replace hs1 := Lib.hid hs1
      clear hf7 hB6 hA7
      gi_wp2_with fail
      generalize hW8 : W7.setCell ⟨gb, k, none⟩ (.int .i64 (k : Int)) = W8 at *
      replace hW8 := Lib.hid hW8
      clear e1 e2 e3 d1 d2 d3 d4
      gi_loopw [62] (fun i wr => ∃ j : Nat, j ≤ (late k).length ∧ i = .int .i64 j ∧ Hid (AbW W.heap.size w1.heap.size pd (W3.heap.size + 1) wb cb gm go gl gt gu gb gx W3.heap.size m cm co cl W5.heap.size over late (((late k).take j).foldl (Dm.ask m k) s1) wr) ∧ Hid (Bdd m (((late k).take j).foldl (Dm.ask m k) s1) pre.length) ∧ Hid (KeepsOthers W7 wr) ∧ Hid (Fr (Chd gl gu gb gx W3.heap.size W5.heap.size) W8 wr)) (fun i _ => (late k).length - (intOf i).toNat)
      case atStart => exact ⟨0, Nat.zero_le _, rfl, by simpa using hA8, by simpa using hB8, hk8, Lib.hid (Fr.refl _ _)⟩
      case round =>
        clear hA8 hB8 hk8
        obtain ⟨j, hj, rfl, hA, hB, hk, hf⟩ := hrel
        by_cases hjl : j < (late k).length
        · obtain ⟨y, hy⟩ : ∃ y, (late k)[j]? = some y := ⟨_, List.getElem?_eq_getElem hjl⟩
          have hy2 := hlk.out y (List.mem_of_getElem? hy)
          obtain ⟨f, rfl⟩ : ∃ f : Nat, y = f := ⟨y.toNat, by omega⟩
          obtain ⟨rb, roff, hra, _, hrc⟩ := num_row (hf.out.row e4.out) j _ hy
          have hfm : f < m := by omega
          have htk : Hid (((late k).take (j + 1)).foldl (Dm.ask m k) s1 = Dm.ask m k (((late k).take j).foldl (Dm.ask m k) s1) f) := Lib.hid (by rw [List.take_add_one, hy, List.foldl_append]; rfl)
          have hj0 : (0 : Int) ≤ (j : Int) := by omega
          have hj1 : (j : Int) < ((late k).length : Int) := by omega
          have hB' := Lib.hid (hB.out.ask m hkm hfm)
          generalize ((late k).take j).foldl (Dm.ask m k) s1 = s at *
          subst hra
          clear hy
          have hbo := (hB.out.sh m hfm).ok f hfm
          obtain ⟨bn, hbe⟩ : ∃ bn : Nat, (shorten m s.low (s.up, s.best) f).2 f = bn := ⟨((shorten m s.low (s.up, s.best) f).2 f).toNat, by have := hbo.2.1; simp at this; omega⟩
          have hbn : bn < m := by have := hbo.2.2; simp at this; omega
          obtain ⟨sA, hsA⟩ : ∃ sA : Ab, sA = { s with up := (shorten m s.low (s.up, s.best) f).1, best := (shorten m s.low (s.up, s.best) f).2 } := ⟨_, rfl⟩
          obtain ⟨sF, hsF⟩ : ∃ sF : Ab, sF = Dm.ask m k s f := ⟨_, rfl⟩
          have hnum : Hid (∀ V, AbW W.heap.size w1.heap.size pd (W3.heap.size + 1) wb cb gm go gl gt gu gb gx W3.heap.size m cm co cl W5.heap.size over late sA V → AbW W.heap.size w1.heap.size pd (W3.heap.size + 1) wb cb gm go gl gt gu gb gx W3.heap.size m cm co cl W5.heap.size over late sF (V.setCell ⟨gl, k, none⟩ (.int .i64 (min (s.low k) (s.low bn))))) := Lib.hid (fun V h => h.num hN.out (g := gl) (k := k) (x := min (s.low k) (s.low bn)) (s' := sF) (.inl rfl) hkm
            (fun i _ => by
              rw [hsF, hsA]
              show Dm.upd s.low k (min (s.low k) (s.low ((shorten m s.low (s.up, s.best) f).2 f).toNat)) i = _
              rw [hbe, Int.toNat_natCast]
              by_cases e : i = k <;> simp [e, Dm.upd])
            (fun i _ => by have := hN.out.di; rw [if_neg (by omega), hsF, hsA]; rfl) (fun i _ => by have := hN.out.di; rw [if_neg (by omega), hsF, hsA]; rfl) (fun i _ => by have := hN.out.di; rw [if_neg (by omega), hsF, hsA]; rfl) (by rw [hsF, hsA]; rfl))
          have hlc : ∀ b, (cond false sF (cond b sA s)).low = s.low := fun b => by
            cases b
            · rfl
            · rw [cond_false, cond_true, hsA]
          rw [← hsF] at htk hB'
          gi_wp2_with fail
          refine wpIn_region_set (I := RI [(fun v => v = .pointer (some ⟨wb, 0, none⟩)), (fun v => v = .pointer (some ⟨wb, 0, none⟩)), (fun v => v = .pointer (some ⟨wb, 2, none⟩)), (fun v => v = .slice (some ⟨gl, 0, none⟩) m cl), (fun v => v = .int .i64 (k : Int)), (fun v => v = .pointer (some ⟨wb, 0, none⟩)), (fun v => v = .pointer (some ⟨wb, 0, none⟩)), (fun v => v = .pointer (some ⟨wb, 2, none⟩)), (fun v => v = .slice (some ⟨gl, 0, none⟩) m cl), (fun v => v = .int .i64 (k : Int)), (fun v => v = .pointer (some ⟨gl, k, none⟩)), (fun v => v = .int .i64 (s.low k)), (fun v => v = .pointer (some ⟨wb, 0, none⟩)), (fun v => v = .pointer (some ⟨wb, 0, none⟩)), (fun v => v = .pointer (some ⟨wb, 2, none⟩)), (fun v => v = .slice (some ⟨gl, 0, none⟩) m cl), (fun v => v = .pointer (some ⟨cb, 0, none⟩)), (fun v => v = .int .i64 (f : Int)), (fun v => v = .int .i64 (bn : Int)), (fun v => v = .pointer (some ⟨gl, bn, none⟩)), (fun v => v = .int .i64 (s.low bn)), (fun v => v = .int .i64 (min (s.low k) (s.low bn))), (fun v => v = .pointer (some ⟨gl, k, none⟩)), fun _ => True] (fun L σ w => AbW W.heap.size w1.heap.size pd (W3.heap.size + 1) wb cb gm go gl gt gu gb gx W3.heap.size m cm co cl W5.heap.size over late (cond (L 23) sF (cond (L 18) sA s)) w ∧ KeepsOthers wr w ∧ Fr (Chd gl gu gb gx W3.heap.size W5.heap.size) wr w)) (by kernel_rfl) ?hI (by kernel_rfl) (by kernel_rfl) (stepsI_all ?hs) ?he
          case hI => exact ⟨fun i e => (by cases e), hA.out.drew hN.out 1, KeepsOthers.drew _, Fr.drew _ _ 1⟩
          case hs =>
            clear hnx hrc hgl5 htk
            refine stepsI_cons (fun L σ a w hL hW hS hI hs => ?_) ?_
            · exact ⟨wanted_none rfl, wp_val (run_ld rfl (hs.ev0 1 (by kernel_rfl) (by rfl)) (ld_wk hI.c.1.F.cw)) ⟨_, rfl, hI.pure (j := 0) rfl hI.c⟩⟩
            refine stepsI_cons (fun L σ a w hL hW hS hI hs => ?_) ?_
            · exact ⟨wanted_none rfl, wp_val (run_nil rfl (hs.ev 0 66 (by kernel_rfl) (by rfl) (hI.pv 0 (hW 0 (by kernel_rfl))))) ⟨_, rfl, hI.pure (j := 1) rfl hI.c⟩⟩
            refine stepsI_cons (fun L σ a w hL hW hS hI hs => ?_) ?_
            · exact ⟨wanted_none rfl, wp_val (run_fa rfl (hs.ev 1 67 (by kernel_rfl) (by rfl) (hI.pv 1 (hW 1 (by kernel_rfl)))) fl_w2) ⟨_, rfl, hI.pure (j := 2) rfl hI.c⟩⟩
            refine stepsI_cons (fun L σ a w hL hW hS hI hs => ?_) ?_
            · exact ⟨wanted_none rfl, wp_val (run_ld rfl (hs.ev 2 68 (by kernel_rfl) (by rfl) (hI.pv 2 (hW 2 (by kernel_rfl)))) (ld_li hI.c.1.F.w2)) ⟨_, rfl, hI.pure (j := 3) rfl hI.c⟩⟩
            refine stepsI_cons (fun L σ a w hL hW hS hI hs => ?_) ?_
            · exact ⟨wanted_none rfl, wp_val (run_mv (.inl rfl) (hs.ev0 6 (by kernel_rfl) (by rfl))) ⟨_, rfl, hI.pure (j := 4) rfl hI.c⟩⟩
            refine stepsI_cons (fun L σ a w hL hW hS hI hs => ?_) ?_
            · exact ⟨wanted_none rfl, wp_val (run_ld rfl (hs.ev0 1 (by kernel_rfl) (by rfl)) (ld_wk hI.c.1.F.cw)) ⟨_, rfl, hI.pure (j := 5) rfl hI.c⟩⟩
            refine stepsI_cons (fun L σ a w hL hW hS hI hs => ?_) ?_
            · exact ⟨wanted_none rfl, wp_val (run_nil rfl (hs.ev 5 71 (by kernel_rfl) (by rfl) (hI.pv 5 (hW 5 (by kernel_rfl))))) ⟨_, rfl, hI.pure (j := 6) rfl hI.c⟩⟩
            refine stepsI_cons (fun L σ a w hL hW hS hI hs => ?_) ?_
            · exact ⟨wanted_none rfl, wp_val (run_fa rfl (hs.ev 6 72 (by kernel_rfl) (by rfl) (hI.pv 6 (hW 6 (by kernel_rfl)))) fl_w2) ⟨_, rfl, hI.pure (j := 7) rfl hI.c⟩⟩
            refine stepsI_cons (fun L σ a w hL hW hS hI hs => ?_) ?_
            · exact ⟨wanted_none rfl, wp_val (run_ld rfl (hs.ev 7 73 (by kernel_rfl) (by rfl) (hI.pv 7 (hW 7 (by kernel_rfl)))) (ld_li hI.c.1.F.w2)) ⟨_, rfl, hI.pure (j := 8) rfl hI.c⟩⟩
            refine stepsI_cons (fun L σ a w hL hW hS hI hs => ?_) ?_
            · exact ⟨wanted_none rfl, wp_val (run_mv (.inl rfl) (hs.ev0 6 (by kernel_rfl) (by rfl))) ⟨_, rfl, hI.pure (j := 9) rfl hI.c⟩⟩
            refine stepsI_cons (fun L σ a w hL hW hS hI hs => ?_) ?_
            · exact ⟨wanted_none rfl, wp_val (run_ixB rfl (hs.ev 8 74 (by kernel_rfl) (by rfl) (hI.pv 8 (hW 8 (by kernel_rfl)))) (hs.ev 9 75 (by kernel_rfl) (by rfl) (hI.pv 9 (hW 9 (by kernel_rfl)))) (ix_intN hkm)) ⟨_, rfl, hI.pure (j := 10) rfl hI.c⟩⟩
            refine stepsI_cons (fun L σ a w hL hW hS hI hs => ?_) ?_
            · have h23 := hS.not 23 11 (o := _) (by rfl) (by kernel_rfl) hL
              have hc := hI.c.1.V.lo
              rw [h23, hlc] at hc
              exact ⟨wanted_none rfl, wp_val (run_ld rfl (hs.ev 10 76 (by kernel_rfl) (by rfl) (hI.pv 10 (hW 10 (by kernel_rfl)))) (ld_intV (hc.get hkm).1)) ⟨_, rfl, hI.pure (j := 11) rfl hI.c⟩⟩
            refine stepsI_cons (fun L σ a w hL hW hS hI hs => ?_) ?_
            · exact ⟨wanted_none rfl, wp_val (run_ld rfl (hs.ev0 1 (by kernel_rfl) (by rfl)) (ld_wk hI.c.1.F.cw)) ⟨_, rfl, hI.pure (j := 12) rfl hI.c⟩⟩
            refine stepsI_cons (fun L σ a w hL hW hS hI hs => ?_) ?_
            · exact ⟨wanted_none rfl, wp_val (run_nil rfl (hs.ev 12 78 (by kernel_rfl) (by rfl) (hI.pv 12 (hW 12 (by kernel_rfl))))) ⟨_, rfl, hI.pure (j := 13) rfl hI.c⟩⟩
            refine stepsI_cons (fun L σ a w hL hW hS hI hs => ?_) ?_
            · exact ⟨wanted_none rfl, wp_val (run_fa rfl (hs.ev 13 79 (by kernel_rfl) (by rfl) (hI.pv 13 (hW 13 (by kernel_rfl)))) fl_w2) ⟨_, rfl, hI.pure (j := 14) rfl hI.c⟩⟩
            refine stepsI_cons (fun L σ a w hL hW hS hI hs => ?_) ?_
            · exact ⟨wanted_none rfl, wp_val (run_ld rfl (hs.ev 14 80 (by kernel_rfl) (by rfl) (hI.pv 14 (hW 14 (by kernel_rfl)))) (ld_li hI.c.1.F.w2)) ⟨_, rfl, hI.pure (j := 15) rfl hI.c⟩⟩
            refine stepsI_cons (fun L σ a w hL hW hS hI hs => ?_) ?_
            · exact ⟨wanted_none rfl, wp_val (run_ld rfl (hs.ev0 4 (by kernel_rfl) (by rfl)) (ld_chp hI.c.1.F.cd)) ⟨_, rfl, hI.pure (j := 16) rfl hI.c⟩⟩
            refine stepsI_cons (fun L σ a w hL hW hS hI hs => ?_) ?_
            · exact ⟨wanted_none rfl, wp_val (run_mv (.inl rfl) (hs.ev0 8 (by kernel_rfl) (by rfl))) ⟨_, rfl, hI.pure (j := 17) rfl hI.c⟩⟩
            refine stepsI_cons (fun L σ a w hL hW hS hI hs => ?_) ?_
            · have h23 := hS.not 23 18 (o := _) (by rfl) (by kernel_rfl) hL
              have hc := hI.c
              rw [h23, hL] at hc
              refine ⟨wanted_none rfl, wp_enter (run_call2 rfl (hs.ev 16 82 (by kernel_rfl) (by rfl) (hI.pv 16 (hW 16 (by kernel_rfl)))) (hs.ev 17 83 (by kernel_rfl) (by rfl) (hI.pv 17 (hW 17 (by kernel_rfl)))) (fun _ _ => rfl)) ((lowest_c cb gl gu gb m cl m m s.low m (s.up, s.best) f w (hc.1.ch hN.out) hB.out.ok hfm (by omega)).mono fun e w' ⟨he, hf', hc'⟩ => ⟨_, he, ⟨_, rfl, hI.pure (j := 18) (by rw [hbe]; rfl) ?_⟩⟩)⟩
              have h1 := hc.1.asked hN.out hf' hc'
              have h2 := hc.2.1.trans (hc.1.keeps hf')
              have h3 := hc.2.2.trans (hf'.mono (S' := Chd gl gu gb gx W3.heap.size W5.heap.size) (fun i _ e => by unfold Chd; omega))
              show AbW W.heap.size w1.heap.size pd (W3.heap.size + 1) wb cb gm go gl gt gu gb gx W3.heap.size m cm co cl W5.heap.size over late (cond (L 23) sF (cond true sA s)) w' ∧ KeepsOthers wr w' ∧ Fr (Chd gl gu gb gx W3.heap.size W5.heap.size) wr w'
              rw [h23]
              rw [hsA]
              exact ⟨h1, h2, h3⟩
            refine stepsI_cons (fun L σ a w hL hW hS hI hs => ?_) ?_
            · exact ⟨wanted_none rfl, wp_val (run_ixB rfl (hs.ev 15 81 (by kernel_rfl) (by rfl) (hI.pv 15 (hW 15 (by kernel_rfl)))) (hs.ev 18 84 (by kernel_rfl) (by rfl) (hI.pv 18 (hW 18 (by kernel_rfl)))) (ix_intN hbn)) ⟨_, rfl, hI.pure (j := 19) rfl hI.c⟩⟩
            refine stepsI_cons (fun L σ a w hL hW hS hI hs => ?_) ?_
            · have h23 := hS.not 23 20 (o := _) (by rfl) (by kernel_rfl) hL
              have hc := hI.c.1.V.lo
              rw [h23, hlc] at hc
              exact ⟨wanted_none rfl, wp_val (run_ld rfl (hs.ev 19 85 (by kernel_rfl) (by rfl) (hI.pv 19 (hW 19 (by kernel_rfl)))) (ld_intV (hc.get hbn).1)) ⟨_, rfl, hI.pure (j := 20) rfl hI.c⟩⟩
            refine stepsI_cons (fun L σ a w hL hW hS hI hs => ?_) ?_
            · exact ⟨wanted_none rfl, wp_val (run_min rfl (hs.ev 11 77 (by kernel_rfl) (by rfl) (hI.pv 11 (hW 11 (by kernel_rfl)))) (hs.ev 20 86 (by kernel_rfl) (by rfl) (hI.pv 20 (hW 20 (by kernel_rfl)))) mn_int) ⟨_, rfl, hI.pure (j := 21) rfl hI.c⟩⟩
            refine stepsI_cons (fun L σ a w hL hW hS hI hs => ?_) ?_
            · exact ⟨wanted_none rfl, wp_val (run_ixB rfl (hs.ev 3 69 (by kernel_rfl) (by rfl) (hI.pv 3 (hW 3 (by kernel_rfl)))) (hs.ev 4 70 (by kernel_rfl) (by rfl) (hI.pv 4 (hW 4 (by kernel_rfl)))) (ix_intN hkm)) ⟨_, rfl, hI.pure (j := 22) rfl hI.c⟩⟩
            refine stepsI_cons (fun L σ a w hL hW hS hI hs => ?_) ?_
            · have h18 := hW 18 (by kernel_rfl)
              have hc := hI.c
              rw [h18, hL] at hc
              obtain ⟨q1, q2⟩ := hc.1.V.lo.get hkm
              have hn := hnum.out _ hc.1
              refine ⟨wanted_none rfl, wp_storeN rfl rfl (hs.ev 22 88 (by kernel_rfl) (by rfl) (hI.pv 22 (hW 22 (by kernel_rfl)))) (hs.ev 21 87 (by kernel_rfl) (by rfl) (hI.pv 21 (hW 21 (by kernel_rfl)))) q1 q2 ⟨_, rfl, hI.pure (j := 23) trivial ?_⟩⟩
              show AbW W.heap.size w1.heap.size pd (W3.heap.size + 1) wb cb gm go gl gt gu gb gx W3.heap.size m cm co cl W5.heap.size over late (cond true sF (cond (L 18) sA s)) _ ∧ KeepsOthers wr _ ∧ Fr (Chd gl gu gb gx W3.heap.size W5.heap.size) wr _
              rw [h18]
              exact ⟨hn, hc.2.1.trans (KeepsOthers.setCell _ _ _), hc.2.2.trans (Fr.set _ _ (by unfold Chd; omega))⟩
            exact trivial
          case he =>
            intro σ' W4 hI
            have hc : AbW W.heap.size w1.heap.size pd (W3.heap.size + 1) wb cb gm go gl gt gu gb gx W3.heap.size m cm co cl W5.heap.size over late (cond true sF (cond true sA s)) W4 ∧ KeepsOthers wr W4 ∧ Fr (Chd gl gu gb gx W3.heap.size W5.heap.size) wr W4 := hI.c
            generalize hF : fillL _ _ _ _ _ = F
            simp [fillL, dstOf, List.range, List.range.loop, Act.put] at hF
            subst hF
            have r1 := Lib.hid hc.1
            have r2 := Lib.hid (hk.out.trans hc.2.1)
            have r3 := Lib.hid (hf.out.trans hc.2.2)
            simp only [cond_true] at r1
            rw [← htk.out] at r1 hB'
            clear hI hc hA hB hf hk hnum hlc htk
            gi_wp2_with fail
            go_roundw
            case rel => exact ⟨j + 1, by omega, by go_num, r1, hB', r2, r3⟩
            case measure => simp [intOf]; omega
        · have hj2 : j = (late k).length := by omega
          subst hj2
          rw [List.take_length] at hA hB
          clear hj hjl e4
          obtain ⟨s2, hs2⟩ : ∃ s2, s2 = (late k).foldl (Dm.ask m k) s1 := ⟨_, rfl⟩
          rw [← hs2] at hA hB
          replace hs2 := Lib.hid hs2
          have hll := hB.out.lo k hkm
          obtain ⟨ln, hln⟩ : ∃ ln : Nat, s2.low k = ln := ⟨(s2.low k).toNat, by omega⟩
          have hlnm : ln < m := by omega
          obtain ⟨p, hp, hpk⟩ := hover.out k hk0 hkm
          have hln' := Lib.hid hln
          have hp' := Lib.hid hp
          clear hll
          gi_wp2_with fail
          refine wpIn_region_set (I := RI [(fun v => v = .pointer (some ⟨wb, 0, none⟩)), (fun v => v = .pointer (some ⟨wb, 0, none⟩)), (fun v => v = .pointer (some ⟨wb, 2, none⟩)), (fun v => v = .slice (some ⟨gl, 0, none⟩) m cl), (fun v => v = .int .i64 (k : Int)), (fun v => v = .pointer (some ⟨gl, k, none⟩)), (fun v => v = .int .i64 (ln : Int)), (fun v => v = .pointer (some ⟨wb, 0, none⟩)), (fun v => v = .pointer (some ⟨wb, 0, none⟩)), (fun v => v = .pointer (some ⟨wb, 1, none⟩)), (fun v => v = .slice (some ⟨go, 0, none⟩) m co), (fun v => v = .int .i64 (k : Int)), (fun v => v = .pointer (some ⟨go, k, none⟩)), (fun v => v = .int .i64 (p : Int)), (fun v => v = .int .i64 (ln : Int)), (fun v => v = .int .i64 (p : Int))] (fun L σ w => AbW W.heap.size w1.heap.size pd (W3.heap.size + 1) wb cb gm go gl gt gu gb gx W3.heap.size m cm co cl W5.heap.size over late s2 w ∧ KeepsOthers wr w ∧ Fr (Chd gl gu gb gx W3.heap.size W5.heap.size) wr w)) (by kernel_rfl) ?hI (by kernel_rfl) (by kernel_rfl) (stepsI_all ?hs) ?he
          case hI => exact ⟨fun i e => (by cases e), hA.out.drew hN.out 1, KeepsOthers.drew _, Fr.drew _ _ 1⟩
          case hs =>
            clear hnx hgl5
            refine stepsI_cons (fun L σ a w hL hW hS hI hs => ?_) ?_
            · exact ⟨wanted_none rfl, wp_val (run_ld rfl (hs.ev0 1 (by kernel_rfl) (by rfl)) (ld_wk hI.c.1.F.cw)) ⟨_, rfl, hI.pure (j := 0) rfl hI.c⟩⟩
            refine stepsI_cons (fun L σ a w hL hW hS hI hs => ?_) ?_
            · exact ⟨wanted_none rfl, wp_val (run_nil rfl (hs.ev 0 90 (by kernel_rfl) (by rfl) (hI.pv 0 (hW 0 (by kernel_rfl))))) ⟨_, rfl, hI.pure (j := 1) rfl hI.c⟩⟩
            refine stepsI_cons (fun L σ a w hL hW hS hI hs => ?_) ?_
            · exact ⟨wanted_none rfl, wp_val (run_fa rfl (hs.ev 1 91 (by kernel_rfl) (by rfl) (hI.pv 1 (hW 1 (by kernel_rfl)))) fl_w2) ⟨_, rfl, hI.pure (j := 2) rfl hI.c⟩⟩
            refine stepsI_cons (fun L σ a w hL hW hS hI hs => ?_) ?_
            · exact ⟨wanted_none rfl, wp_val (run_ld rfl (hs.ev 2 92 (by kernel_rfl) (by rfl) (hI.pv 2 (hW 2 (by kernel_rfl)))) (ld_li hI.c.1.F.w2)) ⟨_, rfl, hI.pure (j := 3) rfl hI.c⟩⟩
            refine stepsI_cons (fun L σ a w hL hW hS hI hs => ?_) ?_
            · exact ⟨wanted_none rfl, wp_val (run_mv (.inl rfl) (hs.ev0 6 (by kernel_rfl) (by rfl))) ⟨_, rfl, hI.pure (j := 4) rfl hI.c⟩⟩
            refine stepsI_cons (fun L σ a w hL hW hS hI hs => ?_) ?_
            · exact ⟨wanted_none rfl, wp_val (run_ixB rfl (hs.ev 3 93 (by kernel_rfl) (by rfl) (hI.pv 3 (hW 3 (by kernel_rfl)))) (hs.ev 4 94 (by kernel_rfl) (by rfl) (hI.pv 4 (hW 4 (by kernel_rfl)))) (ix_intN hkm)) ⟨_, rfl, hI.pure (j := 5) rfl hI.c⟩⟩
            refine stepsI_cons (fun L σ a w hL hW hS hI hs => ?_) ?_
            · have q := (hI.c.1.V.lo.get hkm).1
              rw [hln] at q
              exact ⟨wanted_none rfl, wp_val (run_ld rfl (hs.ev 5 95 (by kernel_rfl) (by rfl) (hI.pv 5 (hW 5 (by kernel_rfl)))) (ld_intV q)) ⟨_, rfl, hI.pure (j := 6) rfl hI.c⟩⟩
            refine stepsI_cons (fun L σ a w hL hW hS hI hs => ?_) ?_
            · exact ⟨wanted_none rfl, wp_val (run_ld rfl (hs.ev0 1 (by kernel_rfl) (by rfl)) (ld_wk hI.c.1.F.cw)) ⟨_, rfl, hI.pure (j := 7) rfl hI.c⟩⟩
            refine stepsI_cons (fun L σ a w hL hW hS hI hs => ?_) ?_
            · exact ⟨wanted_none rfl, wp_val (run_nil rfl (hs.ev 7 97 (by kernel_rfl) (by rfl) (hI.pv 7 (hW 7 (by kernel_rfl))))) ⟨_, rfl, hI.pure (j := 8) rfl hI.c⟩⟩
            refine stepsI_cons (fun L σ a w hL hW hS hI hs => ?_) ?_
            · exact ⟨wanted_none rfl, wp_val (run_fa rfl (hs.ev 8 98 (by kernel_rfl) (by rfl) (hI.pv 8 (hW 8 (by kernel_rfl)))) fl_w1) ⟨_, rfl, hI.pure (j := 9) rfl hI.c⟩⟩
            refine stepsI_cons (fun L σ a w hL hW hS hI hs => ?_) ?_
            · exact ⟨wanted_none rfl, wp_val (run_ld rfl (hs.ev 9 99 (by kernel_rfl) (by rfl) (hI.pv 9 (hW 9 (by kernel_rfl)))) (ld_li hI.c.1.F.w1)) ⟨_, rfl, hI.pure (j := 10) rfl hI.c⟩⟩
            refine stepsI_cons (fun L σ a w hL hW hS hI hs => ?_) ?_
            · exact ⟨wanted_none rfl, wp_val (run_mv (.inl rfl) (hs.ev0 6 (by kernel_rfl) (by rfl))) ⟨_, rfl, hI.pure (j := 11) rfl hI.c⟩⟩
            refine stepsI_cons (fun L σ a w hL hW hS hI hs => ?_) ?_
            · exact ⟨wanted_none rfl, wp_val (run_ixB rfl (hs.ev 10 100 (by kernel_rfl) (by rfl) (hI.pv 10 (hW 10 (by kernel_rfl)))) (hs.ev 11 101 (by kernel_rfl) (by rfl) (hI.pv 11 (hW 11 (by kernel_rfl)))) (ix_intN hkm)) ⟨_, rfl, hI.pure (j := 12) rfl hI.c⟩⟩
            refine stepsI_cons (fun L σ a w hL hW hS hI hs => ?_) ?_
            · have q := (hI.c.1.F.over.get hkm).1
              rw [hp] at q
              exact ⟨wanted_none rfl, wp_val (run_ld rfl (hs.ev 12 102 (by kernel_rfl) (by rfl) (hI.pv 12 (hW 12 (by kernel_rfl)))) (ld_intV q)) ⟨_, rfl, hI.pure (j := 13) rfl hI.c⟩⟩
            refine stepsI_cons (fun L σ a w hL hW hS hI hs => ?_) ?_
            · exact ⟨wanted_none rfl, wp_val (run_mv (.inr rfl) (hs.ev 6 96 (by kernel_rfl) (by rfl) (hI.pv 6 (hW 6 (by kernel_rfl))))) ⟨_, rfl, hI.pure (j := 14) rfl hI.c⟩⟩
            refine stepsI_cons (fun L σ a w hL hW hS hI hs => ?_) ?_
            · exact ⟨wanted_none rfl, wp_val (run_mv (.inr rfl) (hs.ev 13 103 (by kernel_rfl) (by rfl) (hI.pv 13 (hW 13 (by kernel_rfl))))) ⟨_, rfl, hI.pure (j := 15) rfl hI.c⟩⟩
            exact trivial
          case he =>
            intro σ' W4 hI
            have hc : AbW W.heap.size w1.heap.size pd (W3.heap.size + 1) wb cb gm go gl gt gu gb gx W3.heap.size m cm co cl W5.heap.size over late s2 W4 ∧ KeepsOthers wr W4 ∧ Fr (Chd gl gu gb gx W3.heap.size W5.heap.size) wr W4 := hI.c
            generalize hF : fillL _ _ _ _ _ = F
            simp [fillL, dstOf, List.range, List.range.loop, Act.put] at hF
            subst hF
            have v14 := hI.pv 14 rfl
            have v15 := hI.pv 15 rfl
            change σ' 14 = _ at v14
            change σ' 15 = _ at v15
            rw [v14, v15]
            have r1 := Lib.hid hc.1
            have r2 := Lib.hid (hk.out.trans hc.2.1)
            have r3 := Lib.hid (hf.out.trans hc.2.2)
            clear hI hc hA hf hk v14 v15
            obtain ⟨a0, c0, hcell, hfree, hown, _⟩ := r1.out.V.bl.get hlnm
            obtain ⟨v0, hv0⟩ : ∃ v0, v0 = Value.slice a0 (s2.below ln).length c0 := ⟨_, rfl⟩
            rw [← hv0] at hcell hown
            have hpb0 := hN.out.pb
            obtain ⟨W9, hW9⟩ : ∃ W9, W9 = W4.drew := ⟨_, rfl⟩
            have hA9 : AbW W.heap.size w1.heap.size pd (W3.heap.size + 1) wb cb gm go gl gt gu gb gx W3.heap.size m cm co cl W5.heap.size over late s2 W9 := by rw [hW9]; exact r1.out.drew hN.out 1
            have hst : AC W5.heap.size W3.heap.size m s2.below ln (k : Int) W9 v0 false undef false undef false W9 := by
              rw [hW9]
              exact AC.start (r1.out.drew hN.out 1).V.bl hlnm r1.out.B hcell hown
            have hkc : (W3.heap.size + 1 < W5.heap.size ∧ W3.heap.size + 1 ≠ W3.heap.size) ∧ W9.cell? ⟨W3.heap.size + 1, 0, none⟩ = some (.slice (some ⟨W3.heap.size, 0, none⟩) m m) := ⟨⟨by unfold Chd at hpb0; omega, by omega⟩, hA9.F.cq⟩
            have hs0' : ∃ a n c, v0 = .slice a n c := ⟨_, _, _, hv0⟩
            have hlen13 : (s2.below ln).length + 1 ≤ 1048577 := by have := (hB.out.bl ln hlnm).1; omega
            have hk9 := Lib.hid (r2.out.trans (by rw [hW9]; exact KeepsOthers.drew _ : KeepsOthers W4 W9))
            have hf9 := Lib.hid (r3.out.trans (by rw [hW9]; exact Fr.drew _ _ 1 : Fr (Chd gl gu gb gx W3.heap.size W5.heap.size) W4 W9))
            replace hA9 := Lib.hid hA9
            replace hst := Lib.hid hst
            replace hW9 := Lib.hid hW9
            clear r1 r2 r3 hcell hfree hown hv0 hpb0
            rename ∃ a n c, v0 = .slice a n c => hs0
            obtain ⟨bl2, hbl2⟩ : ∃ bl2, bl2 = s2.below := ⟨_, rfl⟩
            rw [← hbl2] at hst hlen13
            replace hbl2 := Lib.hid hbl2
            gi_wp2_with fail
            refine wpIn_region_set (I := RI [(fun v => v = .slice (some ⟨W3.heap.size, 0, none⟩) m m), (fun v => v = .int .i64 (ln : Int)), (fun v => v = .slice (some ⟨W3.heap.size, 0, none⟩) m m), (fun v => v = .int .i64 (ln : Int)), (fun v => v = .pointer (some ⟨W3.heap.size, ln, none⟩)), (fun v => v = v0), (fun v => v = .int .i64 (k : Int)), fun _ => True, fun _ => True, (fun v => v = .pointer (some ⟨W3.heap.size, ln, none⟩)), fun _ => True] (fun L σ w => AC W5.heap.size W3.heap.size m bl2 ln (k : Int) W9 v0 (L 7) (σ 7) (L 8) (σ 8) (L 10) w)) (by kernel_rfl) ?hI (by kernel_rfl) (by kernel_rfl) (stepsI_all ?hs) ?he
            case hI =>
              refine ⟨fun i e => (by cases e), ?_⟩
              rw [← hW9.out]
              exact hst.out
            case hs =>
              clear hst hA9 hk9 hf9 hnx hgl5
              refine stepsI_cons (fun L σ a w hL hW hS hI hs => ?_) ?_
              · exact ⟨wanted_none rfl, wp_val (run_ld rfl (hs.ev0 5 (by kernel_rfl) (by rfl)) (ld_ll (hI.c.wcell hkc))) ⟨_, rfl, hI.pure (j := 0) rfl hI.c⟩⟩
              refine stepsI_cons (fun L σ a w hL hW hS hI hs => ?_) ?_
              · exact ⟨wanted_none rfl, wp_val (run_mv (.inl rfl) (hs.ev0 9 (by kernel_rfl) (by rfl))) ⟨_, rfl, hI.pure (j := 1) rfl hI.c⟩⟩
              refine stepsI_cons (fun L σ a w hL hW hS hI hs => ?_) ?_
              · exact ⟨wanted_none rfl, wp_val (run_ld rfl (hs.ev0 5 (by kernel_rfl) (by rfl)) (ld_ll (hI.c.wcell hkc))) ⟨_, rfl, hI.pure (j := 2) rfl hI.c⟩⟩
              refine stepsI_cons (fun L σ a w hL hW hS hI hs => ?_) ?_
              · exact ⟨wanted_none rfl, wp_val (run_mv (.inl rfl) (hs.ev0 9 (by kernel_rfl) (by rfl))) ⟨_, rfl, hI.pure (j := 3) rfl hI.c⟩⟩
              refine stepsI_cons (fun L σ a w hL hW hS hI hs => ?_) ?_
              · exact ⟨wanted_none rfl, wp_val (run_ixB rfl (hs.ev 2 106 (by kernel_rfl) (by rfl) (hI.pv 2 (hW 2 (by kernel_rfl)))) (hs.ev 3 107 (by kernel_rfl) (by rfl) (hI.pv 3 (hW 3 (by kernel_rfl)))) (ix_llN hlnm)) ⟨_, rfl, hI.pure (j := 4) rfl hI.c⟩⟩
              refine stepsI_cons (fun L σ a w hL hW hS hI hs => ?_) ?_
              · have hc := hI.c
                rw [hS.not 8 5 (o := _) (by rfl) (by kernel_rfl) hL, hS.not 10 5 (o := _) (by rfl) (by kernel_rfl) hL] at hc
                have hcell := hc.cell0 rfl
                obtain ⟨va, vn, vc, hve⟩ := hs0
                rw [hve] at hcell
                exact ⟨wanted_none rfl, wp_val (run_ld rfl (hs.ev 4 108 (by kernel_rfl) (by rfl) (hI.pv 4 (hW 4 (by kernel_rfl)))) (ld_li hcell)) ⟨_, rfl, hI.pure (j := 5) hve.symm hI.c⟩⟩
              refine stepsI_cons (fun L σ a w hL hW hS hI hs => ?_) ?_
              · exact ⟨wanted_none rfl, wp_val (run_mv (.inl rfl) (hs.ev0 6 (by kernel_rfl) (by rfl))) ⟨_, rfl, hI.pure (j := 6) rfl hI.c⟩⟩
              refine stepsI_cons (fun L σ a w hL hW hS hI hs => ?_) ?_
              · have e := (hs.ev 6 110 (by kernel_rfl) (by rfl) (hI.pv 6 (hW 6 (by kernel_rfl))))
                have h8 := hS.not 8 7 (o := _) (by rfl) (by kernel_rfl) hL
                have h10 := hS.not 10 7 (o := _) (by rfl) (by kernel_rfl) hL
                refine ⟨wanted_none rfl, wp_val (run_bs (qs := #[(0, .int .i64 (k : Int))]) rfl (by simp [e]) (mk_int1 _ _)) ⟨_, rfl, hI.pure (j := 7) trivial ?_⟩⟩
                have hc := hI.c
                rw [h8, h10] at hc
                have := hc.al
                show AC W5.heap.size W3.heap.size m bl2 ln (k : Int) W9 v0 true _ (L 8) (σ 8) (L 10) _
                rw [h8, h10]
                exact this
              refine stepsI_cons (fun L σ a w hL hW hS hI hs => ?_) ?_
              · have h10 := hS.not 10 8 (o := _) (by rfl) (by kernel_rfl) hL
                have h7 := hW 7 (by kernel_rfl)
                have hc := hI.c
                rw [hL, h10, h7] at hc
                obtain ⟨g, g1, g2⟩ := hc.nw rfl rfl
                have hr := hc.row rfl
                obtain ⟨i0, hi0, hz0, hz1, hz2⟩ := info_i
                refine ⟨wanted_none rfl, p_app1 (t := 33) (e := 3) rfl Try.underlying33 hi0 hz0 hz1 hz2 rfl (by decide) (hs.ev 5 109 (by kernel_rfl) (by rfl) (hI.pv 5 (hW 5 (by kernel_rfl)))) (hs.ev 7 111 (by kernel_rfl) (by rfl) g1) hr rfl g2 (one_int _) hlen13 (by omega) hc.size fun v' w' k1 k2 k3 => ⟨_, rfl, hI.pure (j := 8) trivial ?_⟩⟩
                have := hc.app (v' := v') k1 k2 k3
                show AC W5.heap.size W3.heap.size m bl2 ln (k : Int) W9 v0 (L 7) (σ 7) true v' (L 10) _
                rw [h10, h7]
                exact this
              refine stepsI_cons (fun L σ a w hL hW hS hI hs => ?_) ?_
              · exact ⟨wanted_none rfl, wp_val (run_ixB rfl (hs.ev 0 104 (by kernel_rfl) (by rfl) (hI.pv 0 (hW 0 (by kernel_rfl)))) (hs.ev 1 105 (by kernel_rfl) (by rfl) (hI.pv 1 (hW 1 (by kernel_rfl)))) (ix_llN hlnm)) ⟨_, rfl, hI.pure (j := 9) rfl hI.c⟩⟩
              refine stepsI_cons (fun L σ a w hL hW hS hI hs => ?_) ?_
              · have h8 := hW 8 (by kernel_rfl)
                have hc := hI.c
                rw [hL, h8] at hc
                obtain ⟨qa, qc, hqv⟩ := hc.vs rfl
                refine ⟨wanted_none rfl, wp_storeL rfl rfl (hs.ev 9 113 (by kernel_rfl) (by rfl) (hI.pv 9 (hW 9 (by kernel_rfl)))) (hs.ev 8 112 (by kernel_rfl) (by rfl) rfl) ⟨_, _, _, hqv⟩ (hc.cell1 rfl rfl).1 (hc.cell1 rfl rfl).2 ⟨_, rfl, hI.pure (j := 10) trivial ?_⟩⟩
                have := hc.pt
                show AC W5.heap.size W3.heap.size m bl2 ln (k : Int) W9 v0 (L 7) (σ 7) (L 8) (σ 8) true _
                rw [h8]
                exact this
              exact trivial
            case he =>
              intro σ2 W10 hI
              have hc : AC W5.heap.size W3.heap.size m bl2 ln (k : Int) W9 v0 true (σ2 7) true (σ2 8) true W10 := hI.c
              generalize hF : fillL _ _ _ _ _ = F
              simp [fillL, dstOf, List.range, List.range.loop, Act.put] at hF
              subst hF
              have hA10 := hA9.out.more hN.out hc.fr (hc.fin rfl rfl)
              have hB10 := hB.out.more (l := ln) hkm
              rw [← hbl2.out] at hB10
              have hk10 := Lib.hid (hk9.out.trans hc.ko)
              have hf10 := Lib.hid (hf9.out.trans (hc.fr.mono (S' := Chd gl gu gb gx W3.heap.size W5.heap.size) (fun i _ e => by unfold Chd; omega)))
              obtain ⟨s3, hs3⟩ : ∃ s3 : Ab, s3 = { s2 with below := Dm.upd bl2 ln (bl2 ln ++ [(k : Int)]), up := Dm.upd s2.up k (p : Int) } := ⟨_, rfl⟩
              have hA11 := hA10.num hN.out (g := gu) (k := k) (x := (p : Int)) (s' := s3) (.inr (.inl rfl)) hkm
                (fun i _ => by have := hN.out.di; rw [hs3, if_neg (by omega)]) (fun i _ => by rw [hs3]; by_cases e : i = k <;> simp [e, Dm.upd]) (fun i _ => by have := hN.out.di; rw [hs3, if_neg (by omega)]) (fun i _ => by have := hN.out.di; rw [hs3, if_neg (by omega)]) (by rw [hs3])
              have hB11 : Bdd m s3 (pre.length + 1) := by rw [hs3]; exact hB10.up hpk
              have hpm : p < m := by omega
              have d1 := hA10.F.cd
              have d2 := hA10.F.c1
              obtain ⟨d3, d4⟩ := hA10.V.up.get hkm
              have hk11 := Lib.hid (hk10.out.trans (KeepsOthers.setCell W10 ⟨gu, k, none⟩ (.int .i64 (p : Int))))
              have hf11 := Lib.hid (hf10.out.trans (Fr.set W10 (g := gu) (o := k) (.int .i64 (p : Int)) (by unfold Chd; omega : Chd gl gu gb gx W3.heap.size W5.heap.size gu)))
              have e1 := hA11.F.cq
              obtain ⟨ba, bc, e2, _, eo, e3'⟩ := hA11.V.bl.get hpm
              have e3 := own_row eo e3'
              clear eo e3'
              obtain ⟨hl1', hl2'⟩ := len_i e3
              replace e3 := Lib.hid e3
              replace hA11 := Lib.hid hA11
              replace hB11 := Lib.hid hB11
              replace hs3 := Lib.hid hs3
              have hp0 : (0 : Int) ≤ (p : Int) := by omega
              have hp1 : (p : Int) < (m : Int) := by omega
              clear hI hc hA9 hst hk9 hf9 hA10 hB10 hk10 hf10 hB
              gi_wp2_with fail
              generalize hW11 : W10.setCell ⟨gu, k, none⟩ (.int .i64 (p : Int)) = W11 at *
              clear e1 e2 d1 d2 d3 d4
              have hbm := Lib.hid (hB11.out.bl p hpm).2
              gi_loopw [126] (fun i wr => ∃ j : Nat, j ≤ (s3.below p).length ∧ i = .int .i64 j ∧ Hid (AbW W.heap.size w1.heap.size pd (W3.heap.size + 1) wb cb gm go gl gt gu gb gx W3.heap.size m cm co cl W5.heap.size over late (((s3.below p).take j).foldl (Dm.tell m) s3) wr) ∧ Hid (Bdd m (((s3.below p).take j).foldl (Dm.tell m) s3) (pre.length + 1)) ∧ Hid (KeepsOthers W7 wr) ∧ Hid (Fr (fun i => i = gu ∨ i = gb ∨ i = gx) W11 wr)) (fun i _ => (s3.below p).length - (intOf i).toNat)
              case atStart => exact ⟨0, Nat.zero_le _, rfl, by simpa using hA11, by simpa using hB11, hk11, Lib.hid (Fr.refl _ _)⟩
              case round =>
                clear hA11 hB11 hk11
                obtain ⟨j, hj, rfl, hA, hB, hk, hf⟩ := hrel
                by_cases hjl : j < (s3.below p).length
                · obtain ⟨y, hy⟩ : ∃ y, (s3.below p)[j]? = some y := ⟨_, List.getElem?_eq_getElem hjl⟩
                  have hy2 := hbm.out y (List.mem_of_getElem? hy)
                  obtain ⟨f, rfl⟩ : ∃ f : Nat, y = f := ⟨y.toNat, by omega⟩
                  have hd := hN.out.lt
                  obtain ⟨rb, roff, hra, _, hrc⟩ := num_row (e3.out.below (S := fun b => W5.heap.size ≤ b ∧ b < W11.heap.size) fun b o v hb hv => hf.out.cell (by omega) hv) j _ hy
                  clear hd
                  have hfm : f < m := by omega
                  have htk : Hid (((s3.below p).take (j + 1)).foldl (Dm.tell m) s3 = Dm.tell m (((s3.below p).take j).foldl (Dm.tell m) s3) f) := Lib.hid (by rw [List.take_add_one, hy, List.foldl_append]; rfl)
                  have hj0 : (0 : Int) ≤ (j : Int) := by omega
                  have hj1 : (j : Int) < ((s3.below p).length : Int) := by omega
                  have hB' := Lib.hid (hB.out.tell m hfm)
                  generalize ((s3.below p).take j).foldl (Dm.tell m) s3 = s at *
                  subst hra
                  clear hy
                  have hbo := (hB.out.sh m hfm).ok f hfm
                  obtain ⟨bn, hbe⟩ : ∃ bn : Nat, (shorten m s.low (s.up, s.best) f).2 f = bn := ⟨((shorten m s.low (s.up, s.best) f).2 f).toNat, by have := hbo.2.1; simp at this; omega⟩
                  obtain ⟨sA, hsA⟩ : ∃ sA : Ab, sA = { s with up := (shorten m s.low (s.up, s.best) f).1, best := (shorten m s.low (s.up, s.best) f).2 } := ⟨_, rfl⟩
                  obtain ⟨sF, hsF⟩ : ∃ sF : Ab, sF = Dm.tell m s f := ⟨_, rfl⟩
                  have hnum : Hid (∀ V, AbW W.heap.size w1.heap.size pd (W3.heap.size + 1) wb cb gm go gl gt gu gb gx W3.heap.size m cm co cl W5.heap.size over late sA V → AbW W.heap.size w1.heap.size pd (W3.heap.size + 1) wb cb gm go gl gt gu gb gx W3.heap.size m cm co cl W5.heap.size over late sF (V.setCell ⟨gx, f, none⟩ (.int .i64 (bn : Int)))) := Lib.hid (fun V h => h.num hN.out (g := gx) (k := f) (x := (bn : Int)) (s' := sF) (.inr (.inr (.inr rfl))) hfm
                    (fun i _ => by have := hN.out.di; rw [if_neg (by omega), hsF, hsA]; rfl) (fun i _ => by have := hN.out.di; rw [if_neg (by omega), hsF, hsA]; rfl) (fun i _ => by have := hN.out.di; rw [if_neg (by omega), hsF, hsA]; rfl)
                    (fun i _ => by
                      rw [hsF, hsA]
                      show Dm.upd s.next f ((shorten m s.low (s.up, s.best) f).2 f) i = _
                      rw [hbe]
                      by_cases e : i = f <;> simp [e, Dm.upd]) (by rw [hsF, hsA]; rfl))
                  rw [← hsF] at htk hB'
                  gi_wp2_with fail
                  refine wpIn_region_set (I := RI [(fun v => v = .slice (some ⟨gx, 0, none⟩) m m), (fun v => v = .int .i64 (f : Int)), (fun v => v = .pointer (some ⟨cb, 0, none⟩)), (fun v => v = .int .i64 (f : Int)), (fun v => v = .int .i64 (bn : Int)), (fun v => v = .pointer (some ⟨gx, f, none⟩)), fun _ => True] (fun L σ w => AbW W.heap.size w1.heap.size pd (W3.heap.size + 1) wb cb gm go gl gt gu gb gx W3.heap.size m cm co cl W5.heap.size over late (cond (L 6) sF (cond (L 4) sA s)) w ∧ KeepsOthers wr w ∧ Fr (fun i => i = gu ∨ i = gb ∨ i = gx) wr w)) (by kernel_rfl) ?hI (by kernel_rfl) (by kernel_rfl) (stepsI_all ?hs) ?he
                  case hI => exact ⟨fun i e => (by cases e), hA.out.drew hN.out 1, KeepsOthers.drew _, Fr.drew _ _ 1⟩
                  case hs =>
                    clear hnx hrc hgl5 htk
                    refine stepsI_cons (fun L σ a w hL hW hS hI hs => ?_) ?_
                    · exact ⟨wanted_none rfl, wp_val (run_ld rfl (hs.ev0 3 (by kernel_rfl) (by rfl)) (ld_li hI.c.1.F.cn)) ⟨_, rfl, hI.pure (j := 0) rfl hI.c⟩⟩
                    refine stepsI_cons (fun L σ a w hL hW hS hI hs => ?_) ?_
                    · exact ⟨wanted_none rfl, wp_val (run_mv (.inl rfl) (hs.ev0 12 (by kernel_rfl) (by rfl))) ⟨_, rfl, hI.pure (j := 1) rfl hI.c⟩⟩
                    refine stepsI_cons (fun L σ a w hL hW hS hI hs => ?_) ?_
                    · exact ⟨wanted_none rfl, wp_val (run_ld rfl (hs.ev0 4 (by kernel_rfl) (by rfl)) (ld_chp hI.c.1.F.cd)) ⟨_, rfl, hI.pure (j := 2) rfl hI.c⟩⟩
                    refine stepsI_cons (fun L σ a w hL hW hS hI hs => ?_) ?_
                    · exact ⟨wanted_none rfl, wp_val (run_mv (.inl rfl) (hs.ev0 12 (by kernel_rfl) (by rfl))) ⟨_, rfl, hI.pure (j := 3) rfl hI.c⟩⟩
                    refine stepsI_cons (fun L σ a w hL hW hS hI hs => ?_) ?_
                    · have h6 := hS.not 6 4 (o := _) (by rfl) (by kernel_rfl) hL
                      have hc := hI.c
                      rw [h6, hL] at hc
                      refine ⟨wanted_none rfl, wp_enter (run_call2 rfl (hs.ev 2 132 (by kernel_rfl) (by rfl) (hI.pv 2 (hW 2 (by kernel_rfl)))) (hs.ev 3 133 (by kernel_rfl) (by rfl) (hI.pv 3 (hW 3 (by kernel_rfl)))) (fun _ _ => rfl)) ((lowest_c cb gl gu gb m cl m m s.low m (s.up, s.best) f w (hc.1.ch hN.out) hB.out.ok hfm (by omega)).mono fun e w' ⟨he, hf', hc'⟩ => ⟨_, he, ⟨_, rfl, hI.pure (j := 4) (by rw [hbe]; rfl) ?_⟩⟩)⟩
                      have h1 := hc.1.asked hN.out hf' hc'
                      have h2 := hc.2.1.trans (hc.1.keeps hf')
                      have h3 := hc.2.2.trans (hf'.mono (S' := fun i => i = gu ∨ i = gb ∨ i = gx) (fun i _ e => by omega))
                      show AbW W.heap.size w1.heap.size pd (W3.heap.size + 1) wb cb gm go gl gt gu gb gx W3.heap.size m cm co cl W5.heap.size over late (cond (L 6) sF (cond true sA s)) w' ∧ KeepsOthers wr w' ∧ Fr (fun i => i = gu ∨ i = gb ∨ i = gx) wr w'
                      rw [h6]
                      rw [hsA]
                      exact ⟨h1, h2, h3⟩
                    refine stepsI_cons (fun L σ a w hL hW hS hI hs => ?_) ?_
                    · exact ⟨wanted_none rfl, wp_val (run_ixB rfl (hs.ev 0 130 (by kernel_rfl) (by rfl) (hI.pv 0 (hW 0 (by kernel_rfl)))) (hs.ev 1 131 (by kernel_rfl) (by rfl) (hI.pv 1 (hW 1 (by kernel_rfl)))) (ix_intN hfm)) ⟨_, rfl, hI.pure (j := 5) rfl hI.c⟩⟩
                    refine stepsI_cons (fun L σ a w hL hW hS hI hs => ?_) ?_
                    · have h4 := hW 4 (by kernel_rfl)
                      have hc := hI.c
                      rw [h4, hL] at hc
                      obtain ⟨q1, q2⟩ := hc.1.V.nx.get hfm
                      have hn := hnum.out _ hc.1
                      refine ⟨wanted_none rfl, wp_storeN rfl rfl (hs.ev 5 135 (by kernel_rfl) (by rfl) (hI.pv 5 (hW 5 (by kernel_rfl)))) (hs.ev 4 134 (by kernel_rfl) (by rfl) (hI.pv 4 (hW 4 (by kernel_rfl)))) q1 q2 ⟨_, rfl, hI.pure (j := 6) trivial ?_⟩⟩
                      show AbW W.heap.size w1.heap.size pd (W3.heap.size + 1) wb cb gm go gl gt gu gb gx W3.heap.size m cm co cl W5.heap.size over late (cond true sF (cond (L 4) sA s)) _ ∧ KeepsOthers wr _ ∧ Fr (fun i => i = gu ∨ i = gb ∨ i = gx) wr _
                      rw [h4]
                      exact ⟨hn, hc.2.1.trans (KeepsOthers.setCell _ _ _), hc.2.2.trans (Fr.set _ _ (.inr (.inr rfl)))⟩
                    exact trivial
                  case he =>
                    intro σ3 W12 hI
                    have hc : AbW W.heap.size w1.heap.size pd (W3.heap.size + 1) wb cb gm go gl gt gu gb gx W3.heap.size m cm co cl W5.heap.size over late (cond true sF (cond true sA s)) W12 ∧ KeepsOthers wr W12 ∧ Fr (fun i => i = gu ∨ i = gb ∨ i = gx) wr W12 := hI.c
                    generalize hF : fillL _ _ _ _ _ = F
                    simp [fillL, dstOf, List.range, List.range.loop, Act.put] at hF
                    subst hF
                    have r1 := Lib.hid hc.1
                    have r2 := Lib.hid (hk.out.trans hc.2.1)
                    have r3 := Lib.hid (hf.out.trans hc.2.2)
                    simp only [cond_true] at r1
                    rw [← htk.out] at r1 hB'
                    clear hI hc hA hB hf hk hnum htk
                    gi_wp2_with fail
                    go_roundw
                    case rel => exact ⟨j + 1, by omega, by go_num, r1, hB', r2, r3⟩
                    case measure => simp [intOf]; omega
                · have hj2 : j = (s3.below p).length := by omega
                  subst hj2
                  rw [List.take_length] at hA hB
                  clear hj hjl e3
                  obtain ⟨s4, hs4⟩ : ∃ s4, s4 = (s3.below p).foldl (Dm.tell m) s3 := ⟨_, rfl⟩
                  rw [← hs4] at hA hB
                  have hfin : Hid ((pre ++ [(k : Int)]).foldl (turnZ m late over) (ab0 low) = { s4 with below := Dm.upd s4.below p [] }) := Lib.hid (by
                    rw [List.foldl_append, ← hsq0.out]
                    show turn m late over s0 ((k : Int)).toNat = _
                    rw [Int.toNat_natCast]
                    unfold turn
                    rw [← hs1.out, ← hs2.out]
                    simp only [hln'.out, hp'.out, Int.toNat_natCast]
                    rw [hs4, hs3.out, hbl2.out])
                  have d1 := hA.out.F.cq
                  obtain ⟨xa, xc, d2, d3, _, _⟩ := hA.out.V.bl.get hpm
                  have hA12 := Lib.hid (hA.out.nil hN.out hpm)
                  have hB12 := Lib.hid (hB.out.nil p)
                  have hk12 := Lib.hid (hk.out.trans (KeepsOthers.setCell wr ⟨W3.heap.size, p, none⟩ (.slice none 0 0)))
                  have hf12 := Lib.hid (hf8.out.trans (hf11.out.trans ((hf.out.mono (S' := Chd gl gu gb gx W3.heap.size W5.heap.size) (fun i _ e => by unfold Chd; omega)).trans (Fr.set wr (g := W3.heap.size) (o := p) (.slice none 0 0) (by unfold Chd; omega : Chd gl gu gb gx W3.heap.size W5.heap.size W3.heap.size)))))
                  rw [← hfin.out] at hA12 hB12
                  clear hA hB hk hf hf8 hf11 hsq0 hs1 hs2 hs3 hs4 hbl2 hfin
                  gi_wp2_with fail
                  exact ⟨hk12.out.from _, trivial, hA12.out, by rw [List.length_append]; exact hB12.out, hf12.out⟩
    case done =>
      rintro D xs V hD rfl ⟨hA, hB, hf⟩ hK
      rw [turns_downs] at hA hB
      obtain ⟨s, hs⟩ : ∃ s, s = turns m late over (m - 1) (ab0 low) := ⟨_, rfl⟩
      have hnx' := hnx.out
      rw [← hs] at hA hB hnx'
      replace hnx' := Lib.hid hnx'
      have hDB : W5.heap.size ≤ D := by omega
      have hDx : D ≠ gx := by
        rintro rfl
        obtain ⟨cur, _, h2, _⟩ := hA.V.nx.ex
        rw [h2] at hK; cases hK
      have hlo := Lib.hid hB.lo
      have d1 := hA.F.cn
      replace hA := Lib.hid hA
      replace hK := Lib.hid hK
      replace hf := Lib.hid hf
      replace hs := Lib.hid hs
      replace hDB := Lib.hid hDB
      replace hDx := Lib.hid hDx
      clear hB hD hnx hBd hover hlate
      gi_wp2_with fail
      clear d1
      gi_loopw [142] (fun i wr => ∃ j : Nat, j ≤ m ∧ i = .int .i64 j ∧ Hid (AbW W.heap.size w1.heap.size pd (W3.heap.size + 1) wb cb gm go gl gt gu gb gx W3.heap.size m cm co cl W5.heap.size over late { s with next := (List.range j).foldl (fin s.low) s.next } wr) ∧ Hid (Fr (Chd gl gu gb gx W3.heap.size W5.heap.size) W5 wr) ∧ Hid (wr.heap[D]? = some (.deferred (some [])))) (fun i _ => m - (intOf i).toNat)
      case atStart => exact ⟨0, Nat.zero_le _, rfl, hA, hf, hK⟩
      case round =>
        clear hA hf hK
        obtain ⟨j, hj, rfl, hA, hf, hK⟩ := hrel
        have e1 := hA.out.F.cn
        by_cases hjm : j < m
        · have hj0 : (j : Int) < (m : Int) := by omega
          have htk : (List.range (j + 1)).foldl (fin s.low) s.next = fin s.low ((List.range j).foldl (fin s.low) s.next) j := by rw [List.range_succ, List.foldl_append]; rfl
          have hown : ((List.range j).foldl (fin s.low) s.next) j = s.next j := fins_own s.low s.next j j (Nat.le_refl _)
          obtain ⟨nx, hnxe⟩ : ∃ nx, nx = (List.range j).foldl (fin s.low) s.next := ⟨_, rfl⟩
          rw [← hnxe] at htk hown hA
          have hnum : Hid (∀ (V : World) (x : Int), AbW W.heap.size w1.heap.size pd (W3.heap.size + 1) wb cb gm go gl gt gu gb gx W3.heap.size m cm co cl W5.heap.size over late { s with next := nx } V → AbW W.heap.size w1.heap.size pd (W3.heap.size + 1) wb cb gm go gl gt gu gb gx W3.heap.size m cm co cl W5.heap.size over late { s with next := Dm.upd nx j x } (V.setCell ⟨gx, j, none⟩ (.int .i64 x))) := Lib.hid (fun V x h => h.num hN.out (g := gx) (k := j) (x := x) (s' := { s with next := Dm.upd nx j x }) (.inr (.inr (.inr rfl))) hjm
            (fun i _ => by have := hN.out.di; rw [if_neg (by omega)]) (fun i _ => by have := hN.out.di; rw [if_neg (by omega)]) (fun i _ => by have := hN.out.di; rw [if_neg (by omega)])
            (fun i _ => by show Dm.upd nx j x i = _; by_cases e : i = j <;> simp [e, Dm.upd]) rfl)
          have hset : Hid (∀ (V : World) (x : Int), Fr (Chd gl gu gb gx W3.heap.size W5.heap.size) W5 V → V.heap[D]? = some (.deferred (some [])) → Fr (Chd gl gu gb gx W3.heap.size W5.heap.size) W5 (V.setCell ⟨gx, j, none⟩ (.int .i64 x)) ∧ (V.setCell ⟨gx, j, none⟩ (.int .i64 x)).heap[D]? = some (.deferred (some []))) := Lib.hid (fun V x h1 h2 => ⟨h1.trans (Fr.set _ _ (by unfold Chd; omega)), (Below.heap_setCell _ _ _ _ hDx.out).trans h2⟩)
          clear hnxe
          rcases Nat.eq_zero_or_pos j with hz | hpos
          · have hg : decide ((0 : Int) < (j : Int)) = false := by simp [hz]
            have hfe : fin s.low nx j = nx := by simp [fin, hz]
            rw [hfe] at htk
            have hg' : ¬ ((0 : Int) < ((0 : Nat) : Int)) := by omega
            subst hz
            clear hnum hset hown hfe
            gi_wp2_with fail
            refine wpIn_wide.2 ?_
            go_quiet (fail)
            have hA2 := Lib.hid (hA.out.drew hN.out nq)
            have hf2 := Lib.hid (hf.out.trans (Fr.drew _ _ nq))
            have hK2 : Hid ((wr.drewN nq).heap[D]? = some (.deferred (some []))) := Lib.hid hK.out
            clear hA hf hK e1
            generalize wr.drewN nq = wq at *
            gi_wp2_with fail
            go_roundw
            case rel => exact ⟨1, by omega, by go_num, by rw [htk]; exact hA2, hf2, hK2⟩
            case measure => simp [intOf]; omega
          · have hjp : (0 : Int) < (j : Int) := by omega
            have hb := hnx'.out j hpos hjm
            obtain ⟨p, hp⟩ : ∃ p : Nat, s.next j = p := ⟨(s.next j).toNat, by omega⟩
            rw [hp] at hb hown
            have hpm : p < m := by omega
            have hp0 : (0 : Int) ≤ (p : Int) := hb.1
            have hp1 : (p : Int) < (m : Int) := hb.2
            have e2 := hA.out.F.cw
            have e3 := hA.out.F.w2
            obtain ⟨e4, e5⟩ := hA.out.V.nx.get hjm
            obtain ⟨e6, _⟩ := hA.out.V.nx.get hpm
            obtain ⟨e7, _⟩ := hA.out.V.lo.get hjm
            obtain ⟨e8, _⟩ := hA.out.V.lo.get hpm
            have e4' : wr.cell? ⟨gx, j, none⟩ = some (.int .i64 (p : Int)) := by rw [e4]; show some (Value.int .i64 (nx j)) = _; rw [hown]
            clear e4 hb
            by_cases hlt : s.low p < s.low j
            · have hfe : fin s.low nx j = Dm.upd nx j (nx p) := by unfold fin; rw [if_pos hpos, hown, Int.toNat_natCast, if_pos hlt]
              rw [hfe] at htk
              clear hfe
              gi_wp2_with fail
              refine wpIn_wide.2 ?_
              go_quiet (fail)
              have hA2 := hA.out.drew hN.out nq
              have hf2 := hf.out.trans (Fr.drew _ _ nq)
              have hK2 : (wr.drewN nq).heap[D]? = some (.deferred (some [])) := hK.out
              clear hA hf hK e1 e2 e3 e4' e5 e6 e7 e8
              generalize wr.drewN nq = wq at *
              have e1 := hA2.F.cn
              obtain ⟨e4, e5⟩ := hA2.V.nx.get hjm
              obtain ⟨e6, _⟩ := hA2.V.nx.get hpm
              have e4' : wq.cell? ⟨gx, j, none⟩ = some (.int .i64 (p : Int)) := by rw [e4]; show some (Value.int .i64 (nx j)) = _; rw [hown]
              clear e4
              replace hA2 := Lib.hid hA2
              replace hf2 := Lib.hid hf2
              replace hK2 := Lib.hid hK2
              gi_wp2_with fail
              refine wpIn_wide.2 ?_
              refine Qt.quiet_tail (C := fun V => ∃ m, V = wq.drewN m) 10 (by kernel_rfl) (by kernel_rfl) ⟨1, rfl⟩ ?_
              simp only [List.take_succ_cons, List.take_zero, List.drop_succ_cons, List.drop_zero]
              repeat (go_big_quiet_step (fail))
              refine wpQuiet_nil ?_
              rintro _ ⟨nq2, rfl⟩
              have hA5 := hA2.out.drew hN.out nq2
              have hf5 := hf2.out.trans (Fr.drew _ _ nq2)
              have hK5 : (wq.drewN nq2).heap[D]? = some (.deferred (some [])) := hK2.out
              clear hA2 hf2 hK2 e1 e4' e5
              generalize wq.drewN nq2 = wz at *
              obtain ⟨e4, e5⟩ := hA5.V.nx.get hjm
              have h3 := Lib.hid (hnum.out wz (nx p) hA5)
              have h4 := Lib.hid (hset.out wz (nx p) hf5 hK5)
              clear hA5 hf5 hK5 hset hnum
              unfold wpList
              rw [if_pos (by rfl)]
              refine .inl (wp_storeN (by rfl) (by rfl) (by rfl) (by rfl) e4 e5 ?_)
              unfold wpList
              clear e4 e5
              generalize wz.setCell ⟨gx, j, none⟩ _ = wy at *
              gi_wp2_with fail
              go_roundw
              case rel => exact ⟨j + 1, by omega, by go_num, by rw [htk]; exact h3, Lib.hid h4.out.1, Lib.hid h4.out.2⟩
              case measure => simp [intOf]; omega
            · have hfe : fin s.low nx j = Dm.upd nx j (s.low j) := by unfold fin; rw [if_pos hpos, hown, Int.toNat_natCast, if_neg hlt]
              rw [hfe] at htk
              clear hfe
              gi_wp2_with fail
              refine wpIn_wide.2 ?_
              go_quiet (fail)
              have hA2 := hA.out.drew hN.out nq
              have hf2 := hf.out.trans (Fr.drew _ _ nq)
              have hK2 : (wr.drewN nq).heap[D]? = some (.deferred (some [])) := hK.out
              clear hA hf hK e1 e2 e3 e4' e5 e6 e7 e8
              generalize wr.drewN nq = wq at *
              have e1 := hA2.F.cn
              obtain ⟨e4, e5⟩ := hA2.V.nx.get hjm
              obtain ⟨e6, _⟩ := hA2.V.nx.get hpm
              have e4' : wq.cell? ⟨gx, j, none⟩ = some (.int .i64 (p : Int)) := by rw [e4]; show some (Value.int .i64 (nx j)) = _; rw [hown]
              clear e4
              have e2 := hA2.F.cw
              have e3 := hA2.F.w2
              obtain ⟨e7, _⟩ := hA2.V.lo.get hjm
              replace hA2 := Lib.hid hA2
              replace hf2 := Lib.hid hf2
              replace hK2 := Lib.hid hK2
              gi_wp2_with fail
              refine wpIn_wide.2 ?_
              refine Qt.quiet_tail (C := fun V => ∃ m, V = wq.drewN m) 10 (by kernel_rfl) (by kernel_rfl) ⟨1, rfl⟩ ?_
              simp only [List.take_succ_cons, List.take_zero, List.drop_succ_cons, List.drop_zero]
              repeat (go_big_quiet_step (fail))
              refine wpQuiet_nil ?_
              rintro _ ⟨nq2, rfl⟩
              have hA5 := hA2.out.drew hN.out nq2
              have hf5 := hf2.out.trans (Fr.drew _ _ nq2)
              have hK5 : (wq.drewN nq2).heap[D]? = some (.deferred (some [])) := hK2.out
              clear hA2 hf2 hK2 e1 e4' e5
              generalize wq.drewN nq2 = wz at *
              obtain ⟨e4, e5⟩ := hA5.V.nx.get hjm
              have h3 := Lib.hid (hnum.out wz (s.low j) hA5)
              have h4 := Lib.hid (hset.out wz (s.low j) hf5 hK5)
              clear hA5 hf5 hK5 hset hnum
              unfold wpList
              rw [if_pos (by rfl)]
              refine .inl (wp_storeN (by rfl) (by rfl) (by rfl) (by rfl) e4 e5 ?_)
              unfold wpList
              clear e4 e5
              generalize wz.setCell ⟨gx, j, none⟩ _ = wy at *
              gi_wp2_with fail
              go_roundw
              case rel => exact ⟨j + 1, by omega, by go_num, by rw [htk]; exact h3, Lib.hid h4.out.1, Lib.hid h4.out.2⟩
              case measure => simp [intOf]; omega
        · have hj2 : j = m := by omega
          subst hj2
          clear hj
          have hjm' : ¬ ((j : Int) < (j : Int)) := by omega
          gi_wp2_with fail
          have hlow2 := hA.out.V.nx
          have hq := ceb_deferred (d' := none) hK.out
          refine ⟨by simp, .inl ⟨_, _, rfl, run_takeDeferred hK.out, ?_⟩⟩
          refine ⟨_, results_tmp rfl _ _ _, gx, rfl, hgxW.out, by rw [← hs.out]; exact (hlow2.ceb hq), hgl5.out _ (hf.out.trans ?_)⟩
          have hb := below_put (B := W5.heap.size) (l := D) wr (.deferred none) hDB.out
          exact ⟨hb.os, hb.tape, hb.output, hb.size, fun i hi hn => hb.block i (by unfold Chd at hn; omega)⟩
    case stop =>
      rintro D pre V _ _ h _
      exact h.elim
end Go.Proofs.Ytiaecobjbckhoaa.Db
