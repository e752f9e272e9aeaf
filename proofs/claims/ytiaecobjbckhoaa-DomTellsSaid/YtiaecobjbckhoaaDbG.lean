/- Walk of the closure of through: one comes to a block, and goes on from there. Conditions: the graph lies in memory, and leads to blocks. -/
import Derived.Test.YtiaecobjbckhoaaDbG0
import Derived.Test.YtiaecobjbckhoaaQtA
set_option linter.unusedVariables false
set_option linter.unusedSimpArgs false
namespace Go.Proofs.Ytiaecobjbckhoaa.Db
open Go Go.RowKit
open Go.WideShapes Go.MapKept Dm
open Go.Proofs.Ytiaecobjbckhoaa.Qr Go.Proofs.Ytiaecobjbckhoaa.Vq Go.Proofs.Ytiaecobjbckhoaa.QrS

/-- what each operation left, and what hangs on which are done -/
structure RI (pl : List (Value → Prop)) (C : (Nat → Bool) → (Nat → Value) → World → Prop) (L : Nat → Bool) (σ : Nat → Value) (w : World) : Prop where
  pv : ∀ i, L i = true → (pl.getD i fun _ => True) (σ i)
  c : C L σ w
theorem RI.pure {pl : List (Value → Prop)} {C : (Nat → Bool) → (Nat → Value) → World → Prop} {L : Nat → Bool} {σ : Nat → Value} {w w' : World} (h : RI pl C L σ w) {j : Nat} {v : Value} (hv : (pl.getD j fun _ => True) v) (hc : C (updB L j) (Qr.upd σ j v) w') : RI pl C (updB L j) (Qr.upd σ j v) w' := by
  refine ⟨fun i hi => ?_, hc⟩
  by_cases e : i = j
  · subst e
    simpa [Qr.upd] using hv
  · have h1 : L i = true := by unfold updB at hi; rwa [if_neg e] at hi
    have := h.pv i h1
    simpa [Qr.upd, e] using this
theorem own_slice {W : World} {B n : Nat} {v : Value} {xs : List Value} (h : W.ownsRow B 3 1 v n xs) : ∃ a c, v = .slice a n c := by
  rcases h.2 with ⟨rfl, h0⟩ | ⟨g, cap, cur, rfl, _⟩
  · exact ⟨none, 0, by rw [h0]⟩
  · exact ⟨_, _, rfl⟩
theorem nS {B wb p : Nat} (h1 : p < B) (h2 : p ≠ wb) : ¬(B ≤ p ∨ p = wb) := by omega
set_option maxHeartbeats 16000000 in
set_option maxRecDepth 100000 in
theorem come_c {T : List Tl} (B0 B pr pw pt pc wb gr n tcap : Nat) (ta : Option Addr) (hT : T.length = n) (hto : ∀ b, b < n → ∀ t ∈ tos T b, 0 ≤ t ∧ t < (n : Int)) (hB0 : B0 ≤ pr ∧ B0 ≤ pw ∧ B0 ≤ pt ∧ B0 ≤ pc ∧ B0 ≤ wb ∧ B0 ≤ gr ∧ B0 ≤ B) : ∀ (q : Nat) (s : Th) (b : Nat) (o : Int) (W : World), ThM B pr pw pt pc wb gr n ta tcap s W → ToM B0 ta tcap T W → Bd n s → left n s ≤ q → b < n →
    Calls Try.prog 36 #[.int .i64 (b : Int), .int .i64 o, .pointer (some ⟨pr, 0, none⟩), .pointer (some ⟨pw, 0, none⟩), .pointer (some ⟨pt, 0, none⟩), .pointer (some ⟨pc, 0, none⟩)] W fun e W' => e = .returned (.tuple #[]) ∧ Fr (fun i => B ≤ i ∨ i = wb ∨ i = gr) W W' ∧ ThM B pr pw pt pc wb gr n ta tcap (come q (tos T) s b o) W' := by
  intro q
  induction q with
  | zero =>
    intro s b o W hM hg hbd hq hb
    have hr : 0 ≤ s.rank b := by
      apply Classical.byContradiction
      intro hc
      have := left_on (o := 0) hb (show s.rank b < 0 by omega)
      omega
    have cR := hM.cR
    obtain ⟨t1, _⟩ := hM.rank.get hb
    have hb0 : (0 : Int) ≤ (b : Int) := by omega
    have hb1 : (b : Int) < (n : Int) := by omega
    have hn := hM.n
    have hfin := Lib.hid hM
    generalize s.rank b = r at *
    clear hM hg hbd hq
    go_enter Try.func36, Try.ntmps36
    go_wp2_with fail
    exact ⟨rfl, .tuple #[], by simp [results, Try.results36, go_sem], rfl, Fr.refl _ _, hfin.out⟩
  | succ q ih =>
    intro s b o W hM hg hbd hq hb
    have cR := hM.cR
    obtain ⟨t1, fr1⟩ := hM.rank.get hb
    have hb0 : (0 : Int) ≤ (b : Int) := by omega
    have hb1 : (b : Int) < (n : Int) := by omega
    have hn := hM.n
    by_cases hr : 0 ≤ s.rank b
    · have hfin : Hid (ThM B pr pw pt pc wb gr n ta tcap (come (q + 1) (tos T) s b o) W) := Lib.hid (by unfold come; rw [if_pos hr]; exact hM)
      generalize come (q + 1) (tos T) s b o = z at *
      generalize s.rank b = r at *
      clear hM hg hbd hq ih
      go_enter Try.func36, Try.ntmps36
      go_wp2_with fail
      exact ⟨rfl, .tuple #[], by simp [results, Try.results36, go_sem], rfl, Fr.refl _ _, hfin.out⟩
    · have hV : Hid (come (q + 1) (tos T) s b o = (tos T b).foldl (fun s t => come q (tos T) s t.toNat (s.rank b)) (s.on b o)) := Lib.hid (by rw [come, if_neg hr])
      generalize come (q + 1) (tos T) s b o = z at *
      have hr' : s.rank b < 0 := by omega
      have hbd1 := Lib.hid (on_bd (o := o) hbd hb hr')
      have hq1 : Hid (left n (s.on b o) ≤ q) := Lib.hid (by have := left_on (o := o) hb hr'; omega)
      have hml : s.met.length + 1 ≤ 32768 := by have := hbd.m; have := left_on (o := o) hb hr'; omega
      have hol := hbd.o
      have hll := hbd.l
      have cW := hM.cW
      obtain ⟨vm, vo, vl, hwb, h1, h2, h3, p12, p13, p23⟩ := hM.ex
      obtain ⟨hpr, hpw, hpt, hpc, hwB, hgr, hBs⟩ := hM.lt
      obtain ⟨n1, n2, n3, n4, hqr, hqw, n7, n8, hqg⟩ := hM.ne
      obtain ⟨ma, mc, hme⟩ := own_slice h1
      have hwbc : W.cell? ⟨wb, 0, none⟩ = some (.slice ma s.met.length mc) := by rw [← hme]; exact blk_cell (j := 0) hwb rfl
      have hms := Lib.hid (⟨ma, s.met.length, mc, hme⟩ : ∃ a n c, vm = .slice a n c)
      have hos : Hid (∃ a n c, vo = .slice a n c) := Lib.hid (by obtain ⟨a, c, e⟩ := own_slice h2; exact ⟨a, _, c, e⟩)
      have hls : Hid (∃ a n c, vl = .slice a n c) := Lib.hid (by obtain ⟨a, c, e⟩ := own_slice h3; exact ⟨a, _, c, e⟩)
      -- the rank is told
      have hf2 : Fr (fun i => i = gr) W (W.setCell ⟨gr, b, none⟩ (.int .i64 (s.met.length : Int))) := Fr.set W _ rfl
      have hrk2 := Lib.hid (hM.rank.set hb (s.met.length : Int) (s.on b o).rank (fun i _ => rfl))
      have hcR2 := Lib.hid (hf2.cell n1 hM.cR)
      have hcW2 := Lib.hid (hf2.cell n2 hM.cW)
      have hcT2 := Lib.hid (hf2.cell n3 hM.cT)
      have hcC2 := Lib.hid (hf2.cell n4 hM.cC)
      have hwb2 := Lib.hid ((hf2.block wb (Array.getElem?_eq_some_iff.1 hwb).1 (fun e => hqg e.symm)).trans hwb)
      have ho1 := Lib.hid (ownsRow_setCell_other h1 (a := ⟨gr, b, none⟩) (fun e => by have := (h1.lt _ e).1; simp at this; omega) (.int .i64 (s.met.length : Int)))
      have ho2 := Lib.hid (ownsRow_setCell_other h2 (a := ⟨gr, b, none⟩) (fun e => by have := (h2.lt _ e).1; simp at this; omega) (.int .i64 (s.met.length : Int)))
      have ho3 := Lib.hid (ownsRow_setCell_other h3 (a := ⟨gr, b, none⟩) (fun e => by have := (h3.lt _ e).1; simp at this; omega) (.int .i64 (s.met.length : Int)))
      have hs2 := Lib.hid hf2.size
      have hg2 := Lib.hid (hg.keep (hf2.below (n := B0) (by omega) (fun i e => by omega)))
      replace hf2 := Lib.hid hf2
      replace p12 := Lib.hid p12
      replace p13 := Lib.hid p13
      replace p23 := Lib.hid p23
      replace hto := Lib.hid hto
      clear h1 h2 h3 hwb hM hg hbd hq
      generalize s.rank b = r at *
      go_enter Try.func36, Try.ntmps36
      go_wp2_with fail
      go_region
      go_wp2_with fail
      generalize hW1 : W.setCell ⟨gr, b, none⟩ (.int .i64 (s.met.length : Int)) = W1 at *
      have hd : Fr (fun _ => False) W1 W1.drew.drew := ⟨rfl, rfl, rfl, Nat.le_refl _, fun _ _ _ => rfl⟩
      generalize hW2 : W1.drew.drew = W2 at hd
      have cR := hd.cell id hcR2.out
      have cW := hd.cell id hcW2.out
      have cT := hd.cell id hcT2.out
      have cC := hd.cell id hcC2.out
      have hrkr := hd.inr hrk2.out id
      have hrk : W2.cell? ⟨gr, b, none⟩ = some (.int .i64 (s.met.length : Int)) := by
        have := (hrkr.get hb).1
        rw [this]
        simp [Th.on]
      have hwbW := (hd.block wb (Array.getElem?_eq_some_iff.1 hwb2.out).1 id).trans hwb2.out
      have hz : W2.heap.size = W1.heap.size := by rw [← hW2]; rfl
      have hq1' : W2.ownsRow B 3 1 vm s.met.length (numCells s.met) := by rw [← hW2]; exact ho1.out
      have hq2' : W2.ownsRow B 3 1 vo s.over.length (numCells s.over) := by rw [← hW2]; exact ho2.out
      have hq3' : W2.ownsRow B 3 1 vl s.low.length (numCells s.low) := by rw [← hW2]; exact ho3.out
      have hg3 := Lib.hid (hg2.out.keep (hd.below (n := B0) (by have := hs2.out; omega) (fun i e => e.elim)))
      have hf3 := Lib.hid (((hf2.out.mono (S' := fun i => B ≤ i ∨ i = wb ∨ i = gr) (fun i _ e => .inr (.inr e))).trans (hd.mono fun i _ e => e.elim)))
      have hB2 : B ≤ W2.heap.size := by have := hs2.out; omega
      have hst : CC B wb W2 vm vo vl s.met s.over s.low (b : Int) o (s.met.length : Int) false undef false undef false false undef false undef false false undef false undef false W2 :=
        ⟨Fr.refl _ _, hwbW, hq1', hq2', hq3', p12.out, p13.out, p23.out, fun e => (by cases e), fun e => (by cases e), fun e => (by cases e), ⟨hwB, hB2⟩, fun q e => (hq1'.lt q e).2, fun q e => (hq2'.lt q e).2, fun q e => (hq3'.lt q e).2⟩
      replace hms := hms.out
      replace hos := hos.out
      replace hls := hls.out
      have hml' : s.met.length + 1 ≤ 1048577 := by omega
      have hol' : s.over.length + 1 ≤ 1048577 := by omega
      have hll' : s.low.length + 1 ≤ 1048577 := by omega
      clear hcR2 hcW2 hcT2 hcC2 hrk2 hwb2 ho1 ho2 ho3 hg2 hf2 hwbW hq1' hq2' hq3' p12 p13 p23 hwbc hme
      refine wp_region_set (I := RI [(fun v => v = .pointer (some ⟨wb, 0, none⟩)), (fun v => v = .pointer (some ⟨wb, 0, none⟩)), (fun v => v = .pointer (some ⟨wb, 0, none⟩)), (fun v => v = .pointer (some ⟨wb, 0, none⟩)), (fun v => v = .pointer (some ⟨wb, 0, none⟩)), (fun v => v = .pointer (some ⟨wb, 0, none⟩)), (fun v => v = vm), (fun v => v = .int .i64 (b : Int)), fun _ => True, fun _ => True, (fun v => v = .pointer (some ⟨wb, 0, none⟩)), (fun v => v = .pointer (some ⟨wb, 0, none⟩)), (fun v => v = .pointer (some ⟨wb, 1, none⟩)), (fun v => v = vo), (fun v => v = .int .i64 o), fun _ => True, fun _ => True, (fun v => v = .pointer (some ⟨wb, 0, none⟩)), (fun v => v = .pointer (some ⟨wb, 0, none⟩)), (fun v => v = .pointer (some ⟨wb, 2, none⟩)), (fun v => v = vl), (fun v => v = .slice (some ⟨gr, 0, none⟩) n n), (fun v => v = .int .i64 (b : Int)), (fun v => v = .pointer (some ⟨gr, b, none⟩)), (fun v => v = .int .i64 (s.met.length : Int)), fun _ => True, fun _ => True, (fun v => v = .pointer (some ⟨wb, 0, none⟩)), (fun v => v = .pointer (some ⟨wb, 0, none⟩)), fun _ => True, (fun v => v = .pointer (some ⟨wb, 0, none⟩)), (fun v => v = .pointer (some ⟨wb, 1, none⟩)), fun _ => True, (fun v => v = .pointer (some ⟨wb, 0, none⟩)), (fun v => v = .pointer (some ⟨wb, 2, none⟩)), fun _ => True] (fun L σ w => CC B wb W2 vm vo vl s.met s.over s.low (b : Int) o (s.met.length : Int) (L 8) (σ 8) (L 9) (σ 9) (L 29) (L 15) (σ 15) (L 16) (σ 16) (L 32) (L 25) (σ 25) (L 26) (σ 26) (L 35) w)) (by kernel_rfl) ?hI (by kernel_rfl) (stepsI_all ?hs) ?he
      case hI =>
        refine ⟨fun i e => (by cases e), ?_⟩
        rw [hW2]
        exact hst
      case hs =>
        clear hst hW1 hW2 hV hd ih
        refine stepsI_cons (fun L σ a w hL hW hS hI hs => ?_) ?_
        · exact ⟨wanted_none rfl, wp_val (run_ld rfl (hs.ev0 3 (by kernel_rfl) (by rfl)) (ld_wk (hI.c.fr.cell (nS hpw hqw) cW))) ⟨_, rfl, hI.pure (j := 0) rfl hI.c⟩⟩
        refine stepsI_cons (fun L σ a w hL hW hS hI hs => ?_) ?_
        · exact ⟨wanted_none rfl, wp_val (run_ld rfl (hs.ev0 3 (by kernel_rfl) (by rfl)) (ld_wk (hI.c.fr.cell (nS hpw hqw) cW))) ⟨_, rfl, hI.pure (j := 1) rfl hI.c⟩⟩
        refine stepsI_cons (fun L σ a w hL hW hS hI hs => ?_) ?_
        · exact ⟨wanted_none rfl, wp_val (run_ld rfl (hs.ev0 3 (by kernel_rfl) (by rfl)) (ld_wk (hI.c.fr.cell (nS hpw hqw) cW))) ⟨_, rfl, hI.pure (j := 2) rfl hI.c⟩⟩
        refine stepsI_cons (fun L σ a w hL hW hS hI hs => ?_) ?_
        · exact ⟨wanted_none rfl, wp_val (run_ld rfl (hs.ev0 3 (by kernel_rfl) (by rfl)) (ld_wk (hI.c.fr.cell (nS hpw hqw) cW))) ⟨_, rfl, hI.pure (j := 3) rfl hI.c⟩⟩
        refine stepsI_cons (fun L σ a w hL hW hS hI hs => ?_) ?_
        · exact ⟨wanted_none rfl, wp_val (run_nil rfl (hs.ev 3 26 (by kernel_rfl) (by rfl) (hI.pv 3 (hW 3 (by kernel_rfl))))) ⟨_, rfl, hI.pure (j := 4) rfl hI.c⟩⟩
        refine stepsI_cons (fun L σ a w hL hW hS hI hs => ?_) ?_
        · exact ⟨wanted_none rfl, wp_val (run_fa rfl (hs.ev 4 27 (by kernel_rfl) (by rfl) (hI.pv 4 (hW 4 (by kernel_rfl)))) fl_w0) ⟨_, rfl, hI.pure (j := 5) rfl hI.c⟩⟩
        refine stepsI_cons (fun L σ a w hL hW hS hI hs => ?_) ?_
        · have hc := hI.c
          rw [hS.not 29 6 (o := _) (by rfl) (by kernel_rfl) hL] at hc
          have hcell := blk_cell (j := 0) (u := vm) hc.wbc rfl
          obtain ⟨va, vn, vc, hve⟩ := hms
          rw [hve] at hcell
          exact ⟨wanted_none rfl, wp_val (run_ld rfl (hs.ev 5 28 (by kernel_rfl) (by rfl) (hI.pv 5 (hW 5 (by kernel_rfl)))) (ld_li hcell)) ⟨_, rfl, hI.pure (j := 6) hve.symm hI.c⟩⟩
        refine stepsI_cons (fun L σ a w hL hW hS hI hs => ?_) ?_
        · exact ⟨wanted_none rfl, wp_val (run_mv (.inl rfl) (hs.ev0 0 (by kernel_rfl) (by rfl))) ⟨_, rfl, hI.pure (j := 7) rfl hI.c⟩⟩
        refine stepsI_cons (fun L σ a w hL hW hS hI hs => ?_) ?_
        · have e := (hs.ev 7 30 (by kernel_rfl) (by rfl) (hI.pv 7 (hW 7 (by kernel_rfl))))
          exact ⟨wanted_none rfl, wp_val (run_bs (qs := #[(0, .int .i64 (b : Int))]) rfl (by simp [e]) (mk_int1 _ _)) ⟨_, rfl, hI.pure (j := 8) trivial hI.c.al1⟩⟩
        refine stepsI_cons (fun L σ a w hL hW hS hI hs => ?_) ?_
        · have hc := hI.c
          have hst := hS.not 29 9 (o := _) (by rfl) (by kernel_rfl) hL
          have hnw := hW 8 (by kernel_rfl)
          obtain ⟨g, g1, g2, g3⟩ := hc.w1 hnw hL
          have hr := hc.r1
          rw [hL] at hr
          have hcc : CC B wb W2 vm vo vl s.met s.over s.low (b : Int) o (s.met.length : Int) (L 8) (σ 8) false (σ 9) false (L 15) (σ 15) (L 16) (σ 16) (L 32) (L 25) (σ 25) (L 26) (σ 26) (L 35) w := by
            have := hc
            rw [hL, hst] at this
            exact this
          obtain ⟨i0, hi0, hz0, hz1, hz2⟩ := info_i
          refine ⟨wanted_none rfl, p_app1 (t := 33) (e := 3) rfl Try.underlying33 hi0 hz0 hz1 hz2 rfl (by decide) (hs.ev 6 29 (by kernel_rfl) (by rfl) (hI.pv 6 (hW 6 (by kernel_rfl)))) (hs.ev 8 31 (by kernel_rfl) (by rfl) g1) hr rfl g2 (one_int _) hml' (by omega) (Nat.le_trans hc.lt.2 hc.fr.size) fun v' w' k1 k2 k3 => ⟨_, rfl, hI.pure (j := 9) trivial ?_⟩⟩
          have := hcc.ap1 k1 k2 k3
          show CC B wb W2 vm vo vl s.met s.over s.low (b : Int) o (s.met.length : Int) (L 8) (σ 8) true v' (L 29) (L 15) (σ 15) (L 16) (σ 16) (L 32) (L 25) (σ 25) (L 26) (σ 26) (L 35) w'
          rw [hst]
          exact this
        refine stepsI_cons (fun L σ a w hL hW hS hI hs => ?_) ?_
        · exact ⟨wanted_none rfl, wp_val (run_ld rfl (hs.ev0 3 (by kernel_rfl) (by rfl)) (ld_wk (hI.c.fr.cell (nS hpw hqw) cW))) ⟨_, rfl, hI.pure (j := 10) rfl hI.c⟩⟩
        refine stepsI_cons (fun L σ a w hL hW hS hI hs => ?_) ?_
        · exact ⟨wanted_none rfl, wp_val (run_nil rfl (hs.ev 10 33 (by kernel_rfl) (by rfl) (hI.pv 10 (hW 10 (by kernel_rfl))))) ⟨_, rfl, hI.pure (j := 11) rfl hI.c⟩⟩
        refine stepsI_cons (fun L σ a w hL hW hS hI hs => ?_) ?_
        · exact ⟨wanted_none rfl, wp_val (run_fa rfl (hs.ev 11 34 (by kernel_rfl) (by rfl) (hI.pv 11 (hW 11 (by kernel_rfl)))) fl_w1) ⟨_, rfl, hI.pure (j := 12) rfl hI.c⟩⟩
        refine stepsI_cons (fun L σ a w hL hW hS hI hs => ?_) ?_
        · have hc := hI.c
          rw [hS.not 32 13 (o := _) (by rfl) (by kernel_rfl) hL] at hc
          have hcell := blk_cell (j := 1) (u := vo) hc.wbc rfl
          obtain ⟨va, vn, vc, hve⟩ := hos
          rw [hve] at hcell
          exact ⟨wanted_none rfl, wp_val (run_ld rfl (hs.ev 12 35 (by kernel_rfl) (by rfl) (hI.pv 12 (hW 12 (by kernel_rfl)))) (ld_li hcell)) ⟨_, rfl, hI.pure (j := 13) hve.symm hI.c⟩⟩
        refine stepsI_cons (fun L σ a w hL hW hS hI hs => ?_) ?_
        · exact ⟨wanted_none rfl, wp_val (run_mv (.inl rfl) (hs.ev0 1 (by kernel_rfl) (by rfl))) ⟨_, rfl, hI.pure (j := 14) rfl hI.c⟩⟩
        refine stepsI_cons (fun L σ a w hL hW hS hI hs => ?_) ?_
        · have e := (hs.ev 14 37 (by kernel_rfl) (by rfl) (hI.pv 14 (hW 14 (by kernel_rfl))))
          exact ⟨wanted_none rfl, wp_val (run_bs (qs := #[(0, .int .i64 o)]) rfl (by simp [e]) (mk_int1 _ _)) ⟨_, rfl, hI.pure (j := 15) trivial hI.c.al2⟩⟩
        refine stepsI_cons (fun L σ a w hL hW hS hI hs => ?_) ?_
        · have hc := hI.c
          have hst := hS.not 32 16 (o := _) (by rfl) (by kernel_rfl) hL
          have hnw := hW 15 (by kernel_rfl)
          obtain ⟨g, g1, g2, g3⟩ := hc.w2 hnw hL
          have hr := hc.r2
          rw [hL] at hr
          have hcc : CC B wb W2 vm vo vl s.met s.over s.low (b : Int) o (s.met.length : Int) (L 8) (σ 8) (L 9) (σ 9) (L 29) (L 15) (σ 15) false (σ 16) false (L 25) (σ 25) (L 26) (σ 26) (L 35) w := by
            have := hc
            rw [hL, hst] at this
            exact this
          obtain ⟨i0, hi0, hz0, hz1, hz2⟩ := info_i
          refine ⟨wanted_none rfl, p_app1 (t := 33) (e := 3) rfl Try.underlying33 hi0 hz0 hz1 hz2 rfl (by decide) (hs.ev 13 36 (by kernel_rfl) (by rfl) (hI.pv 13 (hW 13 (by kernel_rfl)))) (hs.ev 15 38 (by kernel_rfl) (by rfl) g1) hr rfl g2 (one_int _) hol' (by omega) (Nat.le_trans hc.lt.2 hc.fr.size) fun v' w' k1 k2 k3 => ⟨_, rfl, hI.pure (j := 16) trivial ?_⟩⟩
          have := hcc.ap2 k1 k2 k3
          show CC B wb W2 vm vo vl s.met s.over s.low (b : Int) o (s.met.length : Int) (L 8) (σ 8) (L 9) (σ 9) (L 29) (L 15) (σ 15) true v' (L 32) (L 25) (σ 25) (L 26) (σ 26) (L 35) w'
          rw [hst]
          exact this
        refine stepsI_cons (fun L σ a w hL hW hS hI hs => ?_) ?_
        · exact ⟨wanted_none rfl, wp_val (run_ld rfl (hs.ev0 3 (by kernel_rfl) (by rfl)) (ld_wk (hI.c.fr.cell (nS hpw hqw) cW))) ⟨_, rfl, hI.pure (j := 17) rfl hI.c⟩⟩
        refine stepsI_cons (fun L σ a w hL hW hS hI hs => ?_) ?_
        · exact ⟨wanted_none rfl, wp_val (run_nil rfl (hs.ev 17 40 (by kernel_rfl) (by rfl) (hI.pv 17 (hW 17 (by kernel_rfl))))) ⟨_, rfl, hI.pure (j := 18) rfl hI.c⟩⟩
        refine stepsI_cons (fun L σ a w hL hW hS hI hs => ?_) ?_
        · exact ⟨wanted_none rfl, wp_val (run_fa rfl (hs.ev 18 41 (by kernel_rfl) (by rfl) (hI.pv 18 (hW 18 (by kernel_rfl)))) fl_w2) ⟨_, rfl, hI.pure (j := 19) rfl hI.c⟩⟩
        refine stepsI_cons (fun L σ a w hL hW hS hI hs => ?_) ?_
        · have hc := hI.c
          rw [hS.not 35 20 (o := _) (by rfl) (by kernel_rfl) hL] at hc
          have hcell := blk_cell (j := 2) (u := vl) hc.wbc rfl
          obtain ⟨va, vn, vc, hve⟩ := hls
          rw [hve] at hcell
          exact ⟨wanted_none rfl, wp_val (run_ld rfl (hs.ev 19 42 (by kernel_rfl) (by rfl) (hI.pv 19 (hW 19 (by kernel_rfl)))) (ld_li hcell)) ⟨_, rfl, hI.pure (j := 20) hve.symm hI.c⟩⟩
        refine stepsI_cons (fun L σ a w hL hW hS hI hs => ?_) ?_
        · exact ⟨wanted_none rfl, wp_val (run_ld rfl (hs.ev0 2 (by kernel_rfl) (by rfl)) (ld_li (hI.c.fr.cell (nS hpr hqr) cR))) ⟨_, rfl, hI.pure (j := 21) rfl hI.c⟩⟩
        refine stepsI_cons (fun L σ a w hL hW hS hI hs => ?_) ?_
        · exact ⟨wanted_none rfl, wp_val (run_mv (.inl rfl) (hs.ev0 0 (by kernel_rfl) (by rfl))) ⟨_, rfl, hI.pure (j := 22) rfl hI.c⟩⟩
        refine stepsI_cons (fun L σ a w hL hW hS hI hs => ?_) ?_
        · exact ⟨wanted_none rfl, wp_val (run_ixB rfl (hs.ev 21 44 (by kernel_rfl) (by rfl) (hI.pv 21 (hW 21 (by kernel_rfl)))) (hs.ev 22 45 (by kernel_rfl) (by rfl) (hI.pv 22 (hW 22 (by kernel_rfl)))) (ix_intN hb)) ⟨_, rfl, hI.pure (j := 23) rfl hI.c⟩⟩
        refine stepsI_cons (fun L σ a w hL hW hS hI hs => ?_) ?_
        · exact ⟨wanted_none rfl, wp_val (run_ld rfl (hs.ev 23 46 (by kernel_rfl) (by rfl) (hI.pv 23 (hW 23 (by kernel_rfl)))) (ld_intV (hI.c.fr.cell (nS hgr hqg) hrk))) ⟨_, rfl, hI.pure (j := 24) rfl hI.c⟩⟩
        refine stepsI_cons (fun L σ a w hL hW hS hI hs => ?_) ?_
        · have e := (hs.ev 24 47 (by kernel_rfl) (by rfl) (hI.pv 24 (hW 24 (by kernel_rfl))))
          exact ⟨wanted_none rfl, wp_val (run_bs (qs := #[(0, .int .i64 (s.met.length : Int))]) rfl (by simp [e]) (mk_int1 _ _)) ⟨_, rfl, hI.pure (j := 25) trivial hI.c.al3⟩⟩
        refine stepsI_cons (fun L σ a w hL hW hS hI hs => ?_) ?_
        · have hc := hI.c
          have hst := hS.not 35 26 (o := _) (by rfl) (by kernel_rfl) hL
          have hnw := hW 25 (by kernel_rfl)
          obtain ⟨g, g1, g2, g3⟩ := hc.w3 hnw hL
          have hr := hc.r3
          rw [hL] at hr
          have hcc : CC B wb W2 vm vo vl s.met s.over s.low (b : Int) o (s.met.length : Int) (L 8) (σ 8) (L 9) (σ 9) (L 29) (L 15) (σ 15) (L 16) (σ 16) (L 32) (L 25) (σ 25) false (σ 26) false w := by
            have := hc
            rw [hL, hst] at this
            exact this
          obtain ⟨i0, hi0, hz0, hz1, hz2⟩ := info_i
          refine ⟨wanted_none rfl, p_app1 (t := 33) (e := 3) rfl Try.underlying33 hi0 hz0 hz1 hz2 rfl (by decide) (hs.ev 20 43 (by kernel_rfl) (by rfl) (hI.pv 20 (hW 20 (by kernel_rfl)))) (hs.ev 25 48 (by kernel_rfl) (by rfl) g1) hr rfl g2 (one_int _) hll' (by omega) (Nat.le_trans hc.lt.2 hc.fr.size) fun v' w' k1 k2 k3 => ⟨_, rfl, hI.pure (j := 26) trivial ?_⟩⟩
          have := hcc.ap3 k1 k2 k3
          show CC B wb W2 vm vo vl s.met s.over s.low (b : Int) o (s.met.length : Int) (L 8) (σ 8) (L 9) (σ 9) (L 29) (L 15) (σ 15) (L 16) (σ 16) (L 32) (L 25) (σ 25) true v' (L 35) w'
          rw [hst]
          exact this
        refine stepsI_cons (fun L σ a w hL hW hS hI hs => ?_) ?_
        · exact ⟨wanted_none rfl, wp_val (run_nil rfl (hs.ev 0 23 (by kernel_rfl) (by rfl) (hI.pv 0 (hW 0 (by kernel_rfl))))) ⟨_, rfl, hI.pure (j := 27) rfl hI.c⟩⟩
        refine stepsI_cons (fun L σ a w hL hW hS hI hs => ?_) ?_
        · exact ⟨wanted_none rfl, wp_val (run_fa rfl (hs.ev 27 50 (by kernel_rfl) (by rfl) (hI.pv 27 (hW 27 (by kernel_rfl)))) fl_w0) ⟨_, rfl, hI.pure (j := 28) rfl hI.c⟩⟩
        refine stepsI_cons (fun L σ a w hL hW hS hI hs => ?_) ?_
        · have hc := hI.c
          have hap := hW 9 (by kernel_rfl)
          have hcc : CC B wb W2 vm vo vl s.met s.over s.low (b : Int) o (s.met.length : Int) (L 8) (σ 8) true (σ 9) false (L 15) (σ 15) (L 16) (σ 16) (L 32) (L 25) (σ 25) (L 26) (σ 26) (L 35) w := by
            have := hc
            rw [hL, hap] at this
            exact this
          have hr := hcc.r1
          obtain ⟨qa, qc, hqv⟩ := own_slice hr
          refine ⟨wanted_none rfl, wp_storeL rfl rfl (hs.ev 28 51 (by kernel_rfl) (by rfl) (hI.pv 28 (hW 28 (by kernel_rfl)))) (hs.ev 9 32 (by kernel_rfl) (by rfl) rfl) ⟨_, _, _, hqv⟩ (blk_cell (j := 0) hcc.wbc rfl) (blk_free hcc.wbc _) ⟨_, rfl, hI.pure (j := 29) trivial ?_⟩⟩
          have := hcc.pt1
          show CC B wb W2 vm vo vl s.met s.over s.low (b : Int) o (s.met.length : Int) (L 8) (σ 8) (L 9) (σ 9) true (L 15) (σ 15) (L 16) (σ 16) (L 32) (L 25) (σ 25) (L 26) (σ 26) (L 35) _
          rw [hap]
          exact this
        refine stepsI_cons (fun L σ a w hL hW hS hI hs => ?_) ?_
        · exact ⟨wanted_none rfl, wp_val (run_nil rfl (hs.ev 1 24 (by kernel_rfl) (by rfl) (hI.pv 1 (hW 1 (by kernel_rfl))))) ⟨_, rfl, hI.pure (j := 30) rfl hI.c⟩⟩
        refine stepsI_cons (fun L σ a w hL hW hS hI hs => ?_) ?_
        · exact ⟨wanted_none rfl, wp_val (run_fa rfl (hs.ev 30 52 (by kernel_rfl) (by rfl) (hI.pv 30 (hW 30 (by kernel_rfl)))) fl_w1) ⟨_, rfl, hI.pure (j := 31) rfl hI.c⟩⟩
        refine stepsI_cons (fun L σ a w hL hW hS hI hs => ?_) ?_
        · have hc := hI.c
          have hap := hW 16 (by kernel_rfl)
          have hcc : CC B wb W2 vm vo vl s.met s.over s.low (b : Int) o (s.met.length : Int) (L 8) (σ 8) (L 9) (σ 9) (L 29) (L 15) (σ 15) true (σ 16) false (L 25) (σ 25) (L 26) (σ 26) (L 35) w := by
            have := hc
            rw [hL, hap] at this
            exact this
          have hr := hcc.r2
          obtain ⟨qa, qc, hqv⟩ := own_slice hr
          refine ⟨wanted_none rfl, wp_storeL rfl rfl (hs.ev 31 53 (by kernel_rfl) (by rfl) (hI.pv 31 (hW 31 (by kernel_rfl)))) (hs.ev 16 39 (by kernel_rfl) (by rfl) rfl) ⟨_, _, _, hqv⟩ (blk_cell (j := 1) hcc.wbc rfl) (blk_free hcc.wbc _) ⟨_, rfl, hI.pure (j := 32) trivial ?_⟩⟩
          have := hcc.pt2
          show CC B wb W2 vm vo vl s.met s.over s.low (b : Int) o (s.met.length : Int) (L 8) (σ 8) (L 9) (σ 9) (L 29) (L 15) (σ 15) (L 16) (σ 16) true (L 25) (σ 25) (L 26) (σ 26) (L 35) _
          rw [hap]
          exact this
        refine stepsI_cons (fun L σ a w hL hW hS hI hs => ?_) ?_
        · exact ⟨wanted_none rfl, wp_val (run_nil rfl (hs.ev 2 25 (by kernel_rfl) (by rfl) (hI.pv 2 (hW 2 (by kernel_rfl))))) ⟨_, rfl, hI.pure (j := 33) rfl hI.c⟩⟩
        refine stepsI_cons (fun L σ a w hL hW hS hI hs => ?_) ?_
        · exact ⟨wanted_none rfl, wp_val (run_fa rfl (hs.ev 33 54 (by kernel_rfl) (by rfl) (hI.pv 33 (hW 33 (by kernel_rfl)))) fl_w2) ⟨_, rfl, hI.pure (j := 34) rfl hI.c⟩⟩
        refine stepsI_cons (fun L σ a w hL hW hS hI hs => ?_) ?_
        · have hc := hI.c
          have hap := hW 26 (by kernel_rfl)
          have hcc : CC B wb W2 vm vo vl s.met s.over s.low (b : Int) o (s.met.length : Int) (L 8) (σ 8) (L 9) (σ 9) (L 29) (L 15) (σ 15) (L 16) (σ 16) (L 32) (L 25) (σ 25) true (σ 26) false w := by
            have := hc
            rw [hL, hap] at this
            exact this
          have hr := hcc.r3
          obtain ⟨qa, qc, hqv⟩ := own_slice hr
          refine ⟨wanted_none rfl, wp_storeL rfl rfl (hs.ev 34 55 (by kernel_rfl) (by rfl) (hI.pv 34 (hW 34 (by kernel_rfl)))) (hs.ev 26 49 (by kernel_rfl) (by rfl) rfl) ⟨_, _, _, hqv⟩ (blk_cell (j := 2) hcc.wbc rfl) (blk_free hcc.wbc _) ⟨_, rfl, hI.pure (j := 35) trivial ?_⟩⟩
          have := hcc.pt3
          show CC B wb W2 vm vo vl s.met s.over s.low (b : Int) o (s.met.length : Int) (L 8) (σ 8) (L 9) (σ 9) (L 29) (L 15) (σ 15) (L 16) (σ 16) (L 32) (L 25) (σ 25) (L 26) (σ 26) true _
          rw [hap]
          exact this
        exact trivial
      case he =>
        intro σ W3 hI
        have hc : CC B wb W2 vm vo vl s.met s.over s.low (b : Int) o (s.met.length : Int) true (σ 8) true (σ 9) true true (σ 15) true (σ 16) true true (σ 25) true (σ 26) true W3 := hI.c
        generalize hF : fillL _ _ _ _ _ = F
        simp [fillL, dstOf, List.range, List.range.loop, Act.put] at hF
        subst hF
        have hm3 : (s.on b o).met.length = s.met.length + 1 := by simp [Th.on]
        have hM3 : ThM B pr pw pt pc wb gr n ta tcap (s.on b o) W3 := by
          refine ⟨hc.fr.cell (nS hpr hqr) cR, hc.fr.cell (nS hpw hqw) cW, hc.fr.cell (nS hpt n7) cT, hc.fr.cell (nS hpc n8) cC, hc.fr.inr hrkr (nS hgr hqg), ⟨σ 9, σ 16, σ 26, hc.wbc, ?_, ?_, ?_, hc.p12, hc.p13, hc.p23⟩, ⟨hpr, hpw, hpt, hpc, hwB, hgr, Nat.le_trans hB2 hc.fr.size⟩, ⟨n1, n2, n3, n4, hqr, hqw, n7, n8, hqg⟩, hn⟩
          · have := hc.r1
            rw [hm3, show numCells (s.on b o).met = numCells s.met ++ [.int .i64 (b : Int)] from num_snoc _ _]
            exact this
          · have := hc.r2
            rw [show (s.on b o).over.length = s.over.length + 1 by simp [Th.on], show numCells (s.on b o).over = numCells s.over ++ [.int .i64 o] from num_snoc _ _]
            exact this
          · have := hc.r3
            rw [show (s.on b o).low.length = s.low.length + 1 by simp [Th.on], show numCells (s.on b o).low = numCells s.low ++ [.int .i64 (s.met.length : Int)] from num_snoc _ _]
            exact this
        have hf4 : Hid (Fr (fun i => B ≤ i ∨ i = wb ∨ i = gr) W W3) := Lib.hid (hf3.out.trans (hc.fr.mono fun i _ e => by omega))
        have hg4 := Lib.hid (hg3.out.keep (hc.fr.below (n := B0) (by omega) (fun i e => by omega)))
        replace hM3 := Lib.hid hM3
        clear hI hc hst hrkr hrk hg3 hf3 hd cR cW cT cC hms hos hls hml' hol' hll' hm3 hB2 hz hs2 hW2 hol hll hml
        generalize σ 0 = z0
        generalize σ 1 = z1
        generalize σ 2 = z2
        generalize σ 3 = z3
        generalize σ 4 = z4
        generalize σ 5 = z5
        generalize σ 6 = z6
        generalize σ 7 = z7
        generalize σ 8 = z8
        generalize σ 9 = z9
        generalize σ 10 = z10
        generalize σ 11 = z11
        generalize σ 12 = z12
        generalize σ 13 = z13
        generalize σ 14 = z14
        generalize σ 15 = z15
        generalize σ 16 = z16
        generalize σ 17 = z17
        generalize σ 18 = z18
        generalize σ 19 = z19
        generalize σ 20 = z20
        generalize σ 21 = z21
        generalize σ 22 = z22
        generalize σ 23 = z23
        generalize σ 24 = z24
        generalize σ 25 = z25
        generalize σ 26 = z26
        generalize σ 27 = z27
        generalize σ 28 = z28
        generalize σ 30 = z30
        generalize σ 31 = z31
        generalize σ 33 = z33
        generalize σ 34 = z34
        clear σ W2
        obtain ⟨x, hx⟩ : ∃ x, T[b]? = some x := ⟨_, List.getElem?_eq_getElem (by omega)⟩
        have hxt : tos T b = x.l := by unfold tos; rw [List.getD_eq_getElem?_getD, hx]; rfl
        have hxm := List.mem_of_getElem? hx
        obtain ⟨tb, toff, hta, htB, hxc⟩ := tl_row hg4.out.row b x hx
        obtain ⟨hl1, hl2⟩ := len_i hg4.out.row
        obtain ⟨hl3, hl4⟩ := len_i (hg4.out.rows x hxm)
        have hxto := Lib.hid (fun t (ht : t ∈ x.l) => hto.out b hb t (by rw [hxt]; exact ht))
        rw [hxt] at hV
        have cT := hM3.out.cT
        subst hta
        go_wp2_with fail
        go_loopw [61] (fun i wr => ∃ k : Nat, k ≤ x.l.length ∧ i = .int .i64 k ∧ Hid (Fr (fun i => B ≤ i ∨ i = wb ∨ i = gr) W wr) ∧ Hid (∃ s2, s2 = (x.l.take k).foldl (fun u t => come q (tos T) u t.toNat (u.rank b)) (s.on b o) ∧ Bd n s2 ∧ left n s2 ≤ q ∧ ThM B pr pw pt pc wb gr n (some ⟨tb, toff, none⟩) tcap s2 wr) ∧ Hid (ToM B0 (some ⟨tb, toff, none⟩) tcap T wr)) (fun i _ => x.l.length - (intOf i).toNat)
        case atStart => exact ⟨0, Nat.zero_le _, rfl, hf4, Lib.hid ⟨_, rfl, hbd1.out, hq1.out, hM3.out⟩, hg4⟩
        case round =>
          clear hf4 hM3 hg4 hxc cT
          obtain ⟨k, hk, rfl, hf, hF, hg⟩ := hrel
          by_cases hlt : k < x.l.length
          · obtain ⟨y, hy⟩ : ∃ y, x.l[k]? = some y := ⟨_, List.getElem?_eq_getElem hlt⟩
            have hyr := hxto.out y (List.mem_of_getElem? hy)
            obtain ⟨t, rfl⟩ : ∃ t : Nat, y = t := ⟨y.toNat, by omega⟩
            obtain ⟨yb, yoff, hya, _, hyc⟩ := numS_row (hg.out.rows x hxm) k _ hy
            obtain ⟨s2, hs2, hb2, hq2, hM2⟩ := hF.out
            replace hs2 := Lib.hid hs2
            have cR := hM2.cR
            have cC := hM2.cC
            obtain ⟨t1, _⟩ := hM2.rank.get hb
            have hcall := Lib.hid (fun V (hv : Fr (fun _ => False) wr V) (hM : ThM B pr pw pt pc wb gr n (some ⟨tb, toff, none⟩) tcap s2 V) => ih s2 t (s2.rank b) V hM (hg.out.keep (hv.below (n := B0) (by have := hM2.lt; omega) (fun i e => e.elim))) hb2 hq2 (by omega))
            have hi0 : (0 : Int) ≤ (k : Int) := by omega
            have hi1 : (k : Int) < (x.l.length : Int) := by omega
            rw [hya]
            go_wp2_with fail
            refine Qt.quiet_tail (C := fun V => ∃ m, V = wr.drewN m) 6 (by kernel_rfl) (by kernel_rfl) ⟨1, rfl⟩ ?_
            simp only [List.take_succ_cons, List.take_zero, List.drop_succ_cons, List.drop_zero]
            repeat (go_big_quiet_step (fail))
            refine wpQuiet_nil ?_
            rintro _ ⟨nq, rfl⟩
            have hdq : Fr (fun _ => False) wr (wr.drewN nq) := Fr.drew _ _ _
            have hMq : ThM B pr pw pt pc wb gr n (some ⟨tb, toff, none⟩) tcap s2 (wr.drewN nq) := ⟨hM2.cR, hM2.cW, hM2.cT, hM2.cC, hdq.inr hM2.rank id, hM2.ex, hM2.lt, hM2.ne, hM2.n⟩
            have hcq := Lib.hid (hcall.out _ hdq hMq)
            have hfq := Lib.hid (hf.out.trans (Fr.drew _ wr nq))
            have hgq := Lib.hid (hg.out.keep (hdq.below (n := B0) (by have := hM2.lt; omega) (fun i e => e.elim)))
            have hnx : Hid (∀ w', ThM B pr pw pt pc wb gr n (some ⟨tb, toff, none⟩) tcap (come q (tos T) s2 t (s2.rank b)) w' → ∃ s3, s3 = (x.l.take (k + 1)).foldl (fun u t => come q (tos T) u t.toNat (u.rank b)) (s.on b o) ∧ Bd n s3 ∧ left n s3 ≤ q ∧ ThM B pr pw pt pc wb gr n (some ⟨tb, toff, none⟩) tcap s3 w') := Lib.hid (fun w' h => by
              obtain ⟨k1, k2⟩ := come_bd hto.out q s2 t (s2.rank b) hb2 (by omega)
              exact ⟨_, by rw [List.take_add_one, hy, List.foldl_append, ← hs2.out]; rfl, k1, Nat.le_trans k2 hq2, h⟩)
            have hB0q : B0 ≤ (wr.drewN nq).heap.size := by have := hM2.lt; show B0 ≤ wr.heap.size; omega
            clear hM2 hMq hdq hcall hF hf hg cR cC t1 hyc hs2 hb2 hq2 hy
            go_wp2_with fail
            refine hcq.out.mono ?_
            rintro e w4 ⟨rfl, hf5, hM5⟩
            have hf6 := Lib.hid (hfq.out.trans hf5)
            have hF6 := Lib.hid (hnx.out w4 hM5)
            have hg6 := Lib.hid (hgq.out.keep (hf5.below (n := B0) hB0q (fun i e => by omega)))
            clear hf5 hM5 hcq hfq hgq hnx
            go_wp2_with fail
            go_roundw
            case rel => exact ⟨k + 1, by omega, by go_num, hf6, hF6, hg6⟩
            case measure => simp [intOf]; omega
          · have hk2 : k = x.l.length := by omega
            subst hk2
            have hend : Hid (ThM B pr pw pt pc wb gr n (some ⟨tb, toff, none⟩) tcap z wr) := Lib.hid (by
              obtain ⟨s2, hs2, _, _, hM2⟩ := hF.out
              rw [List.take_length] at hs2
              rw [hV.out, ← hs2]
              exact hM2)
            clear hF hV
            go_wp2_with fail
            exact ⟨rfl, .tuple #[], by simp [results, Try.results36, go_sem], rfl, hf.out, hend.out⟩
end Go.Proofs.Ytiaecobjbckhoaa.Db
