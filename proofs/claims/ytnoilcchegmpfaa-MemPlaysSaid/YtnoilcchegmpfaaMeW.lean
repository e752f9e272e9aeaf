/- Walks of slices.EqualFunc, mem.Same, Copy. Conditions: the memories lie in the world. -/
import Derived.Test.YtnoilcchegmpfaaMeV
import Derived.Deep.RegionHeld3
import Derived.Deep.Quiet
import Derived.Deep.QuietTactic
import Derived.Deep.Cut
namespace Go.Proofs.Ytnoilcchegmpfaa.Me
open Go Go.RowKit

theorem below_in {w W : World} (h : Below w.heap.size w W) {b o : Nat} {v : Value} (hc : w.cell? ⟨b, o, none⟩ = some v) : W.cell? ⟨b, o, none⟩ = some v := Kps.of_below (S := fun _ => True) h b o v trivial hc
theorem Row.In.row {w : World} {r : Row} (h : r.In w) : RowAt w (fun _ => True) (some ⟨r.b, 0, none⟩) r.cap r.l.length (numCells r.l) :=
  ⟨h.le, h.lim, (fun e => nomatch e), fun j u hj => by
    unfold numCells at hj
    rw [List.getElem?_map] at hj
    obtain ⟨x, hx, rfl⟩ := Option.map_eq_some_iff.1 hj
    exact ⟨r.b, 0, rfl, trivial, by rw [Nat.zero_add]; exact (h.cell hx).1⟩⟩
theorem equalRow_c {w : World} {r r' : Row} (h : r.In w) (h' : r'.In w) : Calls Try.prog 30 #[.slice (some ⟨r.b, 0, none⟩) r.l.length r.cap, .slice (some ⟨r'.b, 0, none⟩) r'.l.length r'.cap] w fun e w' => e = .returned (.bool (decide (r.l = r'.l))) ∧ Below w.heap.size w w' :=
  equalI_any r.l r'.l _ _ r.cap r'.cap w h.row h'.row
set_option maxHeartbeats 1600000 in
set_option maxRecDepth 100000 in
theorem equalRows_c {w : World} {R R' : List Row} {g g' : Nat} (hg : w.heap[g]? = some (.cells (R.map Row.val).toArray 52 (0, 0))) (hg' : w.heap[g']? = some (.cells (R'.map Row.val).toArray 52 (0, 0))) (hR : ∀ r ∈ R, r.In w) (hR' : ∀ r ∈ R', r.In w) (hl : R.length ≤ 1000000000) (_hl' : R'.length ≤ 1000000000) :
    Calls Try.prog 29 #[.slice (some ⟨g, 0, none⟩) R.length R.length, .slice (some ⟨g', 0, none⟩) R'.length R'.length, .func (.func 30) #[] #[]] w fun e w' => e = .returned (.bool (decide (R.map Row.l = R'.map Row.l))) ∧ Below w.heap.size w w' := by
  by_cases hle : R.length = R'.length
  · have hne : ((R.length : Int) != (R'.length : Int)) = false := by rw [hle]; simp
    have hle' := Lib.hid hle
    replace hg := Lib.hid hg
    replace hg' := Lib.hid hg'
    replace hR := Lib.hid hR
    replace hR' := Lib.hid hR'
    go_enter Try.func29, Try.ntmps29
    clear hle
    go_wp2
    go_loopw [17] (fun i wr => ∃ k : Nat, k ≤ R.length ∧ i = .int .i64 k ∧ Hid ((R.map Row.l).take k = (R'.map Row.l).take k) ∧ Hid (Below w.heap.size w wr)) (fun i _ => R.length - (intOf i).toNat)
    case atStart => exact ⟨0, Nat.zero_le _, rfl, Lib.hid rfl, Lib.hid (Below.refl _ _)⟩
    case round =>
      obtain ⟨k, hk, rfl, hsame, hbr⟩ := hrel
      by_cases hlt : k < R.length
      · have hlt' : k < R'.length := by rw [← hle'.out]; exact hlt
        obtain ⟨e, he⟩ : ∃ e, R[k]? = some e := ⟨R[k], by simp [hlt]⟩
        obtain ⟨e', he'⟩ : ∃ e, R'[k]? = some e := ⟨R'[k], by simp [hlt']⟩
        have hIn := (hR.out e (List.mem_of_getElem? he)).keep (hbr.out.block _ (hR.out e (List.mem_of_getElem? he)).lt)
        have hIn' := (hR'.out e' (List.mem_of_getElem? he')).keep (hbr.out.block _ (hR'.out e' (List.mem_of_getElem? he')).lt)
        have c0 : wr.cell? ⟨g, k, none⟩ = some (.slice (some ⟨e.b, 0, none⟩) e.l.length e.cap) := below_in hbr.out (blk_cell hg.out (by rw [List.getElem?_toArray, List.getElem?_map, he]; rfl))
        have c1 : wr.cell? ⟨g', k, none⟩ = some (.slice (some ⟨e'.b, 0, none⟩) e'.l.length e'.cap) := below_in hbr.out (blk_cell hg'.out (by rw [List.getElem?_toArray, List.getElem?_map, he']; rfl))
        have hcl := Lib.hid (equalRow_c hIn hIn')
        have hi0 : (0 : Int) ≤ (k : Int) := by omega
        have hi1 : (k : Int) < (R.length : Int) := by omega
        have hi2 : (k : Int) < (R'.length : Int) := by omega
        have t1 : (R.map Row.l)[k]? = some e.l := by rw [List.getElem?_map, he]; rfl
        have t2 : (R'.map Row.l)[k]? = some e'.l := by rw [List.getElem?_map, he']; rfl
        by_cases hxy : e.l = e'.l
        · have hT : Hid ((R.map Row.l).take (k + 1) = (R'.map Row.l).take (k + 1)) := Lib.hid (by rw [List.take_add_one, List.take_add_one, hsame.out, t1, t2, hxy])
          rw [decide_eq_true hxy] at hcl
          clear he he' hIn hIn' t1 t2 hxy
          go_wp2_with (go_at_call 30; refine hcl.out.mono ?_; rintro x W3 ⟨rfl, hb3⟩)
          go_roundw
          case rel => exact ⟨k + 1, by omega, by go_num, hT, Lib.hid (hbr.out.trans (hb3.mono hbr.out.size))⟩
          case measure => simp [intOf]; omega
        · have hN : Hid (decide (R.map Row.l = R'.map Row.l) = false) := Lib.hid (by
            rw [decide_eq_false_iff_not]; intro e; apply hxy
            rw [e, t2] at t1
            exact (Option.some.inj t1).symm)
          rw [decide_eq_false hxy] at hcl
          clear he he' hIn hIn' t1 t2 hxy
          go_wp2_with (go_at_call 30; refine hcl.out.mono ?_; rintro x W3 ⟨rfl, hb3⟩)
          go_ret
          exact ⟨ret_bool hN.out.symm, hbr.out.trans (hb3.mono hbr.out.size)⟩
      · have hE : Hid (decide (R.map Row.l = R'.map Row.l) = true) := Lib.hid (by
          have h3 := hsame.out
          have h4 := hle'.out
          rw [List.take_of_length_le (by simp; omega), List.take_of_length_le (by simp; omega)] at h3
          simpa using h3)
        clear hsame
        go_wp2
        go_ret
        exact ⟨ret_bool hE.out.symm, hbr.out⟩
  · have hne : ((R.length : Int) != (R'.length : Int)) = true := by simp; omega
    have hF : Hid (decide (R.map Row.l = R'.map Row.l) = false) := Lib.hid (by rw [decide_eq_false_iff_not]; intro h; exact hle (by have := congrArg List.length h; simpa using this))
    clear hg hg' hR hR'
    go_enter Try.func29, Try.ntmps29
    go_wp2
    go_ret
    exact ⟨ret_bool hF.out.symm, Below.refl _ _⟩

/-- the worlds in which all that a world has is as it was -/
structure UpW (w : World) where
  val : World
  ok : Below w.heap.size w val
instance (w : World) : Inhabited (UpW w) := ⟨⟨w, Below.refl _ _⟩⟩
/-- the lexical walk of a region in any class of worlds, its operations written out -/
theorem quiet_lit {P : Program} {id : Nat} {Q : Exit → Act → World → Prop} {a : Act} {w : World} {l : List Oper} {C : World → Prop} (hm : P.follows .mixedOrders = true) (hB : Region.lexB .any l.toArray = true) (hC : C w.drew)
    (h : wpQuiet P l.toArray C (fun a' => ∀ w', C w' → Q .normal a' w') l a) : (Code.region id l.toArray true).wp P Q a w :=
  wp_region_quiet (C := C) hm hB hC (by simpa using h)
theorem up_cell {w : World} {b o : Nat} {v : Value} (h : w.cell? ⟨b, o, none⟩ = some v) : ∀ U : UpW w, U.val.cell? ⟨b, o, none⟩ = some v := fun U => below_in U.ok h
/-- a call of a region's: what it answers, and that all is as it was -/
theorem up_call {w : World} {f : FuncId} {args : Array Value} {v : Value} (h : ∀ V, Below w.heap.size w V → Calls Try.prog f args V fun e w' => e = .returned v ∧ Below V.heap.size V w') :
    ∀ U : UpW w, Calls Try.prog f args U.val fun e w' => e = .returned v ∧ ∃ U' : UpW w, w' = U'.val := fun U =>
  (h U.val U.ok).mono fun _ w' h => ⟨h.1, ⟨w', U.ok.trans (h.2.mono U.ok.size)⟩, rfl⟩
set_option maxHeartbeats 1600000 in
set_option maxRecDepth 100000 in
theorem Same_c {w : World} {m m' : Mm} (h : m.In w) (h' : m'.In w) : Calls Try.prog 11 #[.pointer (some ⟨m.mb, 0, none⟩), .pointer (some ⟨m'.mb, 0, none⟩)] w fun e w' => (∃ r, e = .returned (.bool r) ∧ (r = true ↔ m.C = m'.C ∧ ∀ i, m.h i = m'.h i)) ∧ Below w.heap.size w w' := by
  have u0 := up_cell h.c0
  have u1 := up_cell h.c2
  have u2 := up_cell h'.c0
  have u3 := up_cell h'.c2
  obtain ⟨b, hb⟩ : ∃ b : Bool, b = true ↔ ∀ i, m.h i = m'.h i := by
    by_cases hx : ∀ i, m.h i = m'.h i
    · exact ⟨true, by simp [hx]⟩
    · exact ⟨false, by simp [hx]⟩
  have s2 := Lib.hid (up_call (w := w) (f := 31) (args := #[.map (some m.hb), .map (some m'.hb)]) (v := .bool b) (fun V hV => (mapEqual_c (h.below hV).hd (h'.below hV).hd).mono (by
    rintro e W ⟨⟨r, rfl, hr⟩, hg⟩
    exact ⟨by rw [Bool.eq_iff_iff.2 (hr.trans hb.symm)], hg⟩)))
  have s1 := Lib.hid (up_call (w := w) (f := 29) (args := #[.slice (some ⟨m.cb, 0, none⟩) m.rows.length m.rows.length, .slice (some ⟨m'.cb, 0, none⟩) m'.rows.length m'.rows.length, .func (.func 30) #[] #[]]) (v := .bool (decide (m.C = m'.C))) (fun V hV => equalRows_c (h.below hV).cbl (h'.below hV).cbl (h.below hV).rows (h'.below hV).rows h.lim h'.lim))
  have hq : (decide (m.C = m'.C) && b) = true ↔ (m.C = m'.C ∧ ∀ i, m.h i = m'.h i) := by
    rw [Bool.and_eq_true, decide_eq_true_iff, hb]
  generalize (m.C = m'.C ∧ ∀ i, m.h i = m'.h i) = Q at hq ⊢
  generalize decide (m.C = m'.C) = bc at s1 hq
  clear h h' hb
  cases bc with
  | true =>
    rw [Bool.true_and] at hq
    replace hq := Lib.hid hq
    go_enter Try.func11, Try.ntmps11
    go_upto_region 3 with fail
    refine quiet_lit (C := fun V => ∃ U : UpW w, V = U.val) (by kernel_rfl) (by kernel_rfl) ⟨⟨w.drew, (Below.refl _ _).drew⟩, rfl⟩ ?_
    iterate 8 (quiet_step (fail))
    quiet_step (exact s1.out _)
    iterate 9 (quiet_step (fail))
    quiet_step (exact s2.out _)
    iterate 2 (quiet_step (fail))
    refine wpQuiet_nil ?_
    rintro _ ⟨U, rfl⟩
    have hbU := Lib.hid U.ok
    go_wp2_with fail
    go_ret
    exact ⟨⟨b, rfl, hq.out⟩, hbU.out⟩
  | false =>
    rw [Bool.false_and] at hq
    replace hq := Lib.hid hq
    clear s2
    go_enter Try.func11, Try.ntmps11
    go_upto_region 3 with fail
    have hS0 : (fun X : World => X.cell? ⟨m.mb, 0, none⟩ = some (.slice (some ⟨m.cb, 0, none⟩) m.rows.length m.rows.length) ∧ X.cell? ⟨m'.mb, 0, none⟩ = some (.slice (some ⟨m'.cb, 0, none⟩) m'.rows.length m'.rows.length)) w.drew := ⟨u0 ⟨w.drew, (Below.refl _ _).drew⟩, u2 ⟨w.drew, (Below.refl _ _).drew⟩⟩
    have hst := Lib.hid (fun U : UpW w => (⟨u0 U, u2 U⟩ : (fun X : World => X.cell? ⟨m.mb, 0, none⟩ = some (.slice (some ⟨m.cb, 0, none⟩) m.rows.length m.rows.length) ∧ X.cell? ⟨m'.mb, 0, none⟩ = some (.slice (some ⟨m'.cb, 0, none⟩) m'.rows.length m'.rows.length)) U.val))
    have hcl := Lib.hid (s1.out ⟨w.drew, (Below.refl _ _).drew⟩)
    clear u0 u1 u2 u3 s1
    refine wp_region_noPanic ?_
    refine wp_region_held_drew (S := (fun X : World => X.cell? ⟨m.mb, 0, none⟩ = some (.slice (some ⟨m.cb, 0, none⟩) m.rows.length m.rows.length) ∧ X.cell? ⟨m'.mb, 0, none⟩ = some (.slice (some ⟨m'.cb, 0, none⟩) m'.rows.length m'.rows.length))) (by kernel_rfl) hS0 (fun hHeld => ?_)
    refine' wpAnyH_take (i := 0) (oi := _) (v := _) rfl (by kernel_rfl) (by kernel_rfl) (by kernel_rfl) (fun _ _ _ h => h) (Or.inl ⟨by rfl, ?hyp0⟩) (by assumption) ?restp0
    case hyp0 => (intro w hSw; obtain ⟨s0, s1⟩ := hSw; go_simp; all_goals (with_reducible rfl))
    try simp only [Act.put, List.getElem_toArray, List.getElem_cons_zero, List.setIfInBounds_toArray, List.set_cons_zero, List.set_cons_succ]
    refine' wpAnyH_take (i := 1) (oi := _) (v := _) rfl (by kernel_rfl) (by kernel_rfl) (by kernel_rfl) (fun _ _ _ h => h) (Or.inl ⟨by rfl, ?hyp1⟩) (by assumption) ?restp1
    case hyp1 => (intro w hSw; obtain ⟨s0, s1⟩ := hSw; go_simp; all_goals (with_reducible rfl))
    try simp only [Act.put, List.getElem_toArray, List.getElem_cons_zero, List.getElem_cons_succ, List.setIfInBounds_toArray, List.set_cons_zero, List.set_cons_succ]
    refine' wpAnyH_take (i := 2) (oi := _) (v := _) rfl (by kernel_rfl) (by kernel_rfl) (by kernel_rfl) (fun _ _ _ h => h) (Or.inl ⟨by rfl, ?hyp2⟩) (by assumption) ?restp2
    case hyp2 => (intro w hSw; obtain ⟨s0, s1⟩ := hSw; go_simp; all_goals (with_reducible rfl))
    try simp only [Act.put, List.getElem_toArray, List.getElem_cons_zero, List.getElem_cons_succ, List.setIfInBounds_toArray, List.set_cons_zero, List.set_cons_succ]
    refine' wpAnyH_take (i := 3) (oi := _) (v := _) rfl (by kernel_rfl) (by kernel_rfl) (by kernel_rfl) (fun _ _ _ h => h) (Or.inl ⟨by rfl, ?hyp3⟩) (by assumption) ?restp3
    case hyp3 => (intro w hSw; obtain ⟨s0, s1⟩ := hSw; go_simp; all_goals (with_reducible rfl))
    try simp only [Act.put, List.getElem_toArray, List.getElem_cons_zero, List.getElem_cons_succ, List.setIfInBounds_toArray, List.set_cons_zero, List.set_cons_succ]
    refine' wpAnyH_take (i := 4) (oi := _) (v := _) rfl (by kernel_rfl) (by kernel_rfl) (by kernel_rfl) (fun _ _ _ h => h) (Or.inl ⟨by rfl, ?hyp4⟩) (by assumption) ?restp4
    case hyp4 => (intro w hSw; obtain ⟨s0, s1⟩ := hSw; go_simp; all_goals (with_reducible rfl))
    try simp only [Act.put, List.getElem_toArray, List.getElem_cons_zero, List.getElem_cons_succ, List.setIfInBounds_toArray, List.set_cons_zero, List.set_cons_succ]
    refine' wpAnyH_take (i := 5) (oi := _) (v := _) rfl (by kernel_rfl) (by kernel_rfl) (by kernel_rfl) (fun _ _ _ h => h) (Or.inl ⟨by rfl, ?hyp5⟩) (by assumption) ?restp5
    case hyp5 => (intro w hSw; obtain ⟨s0, s1⟩ := hSw; go_simp; all_goals (with_reducible rfl))
    try simp only [Act.put, List.getElem_toArray, List.getElem_cons_zero, List.getElem_cons_succ, List.setIfInBounds_toArray, List.set_cons_zero, List.set_cons_succ]
    refine' wpAnyH_take (i := 6) (oi := _) (v := _) rfl (by kernel_rfl) (by kernel_rfl) (by kernel_rfl) (fun _ _ _ h => h) (Or.inl ⟨by rfl, ?hyp6⟩) (by assumption) ?restp6
    case hyp6 => (intro w hSw; obtain ⟨s0, s1⟩ := hSw; go_simp; all_goals (with_reducible rfl))
    try simp only [Act.put, List.getElem_toArray, List.getElem_cons_zero, List.getElem_cons_succ, List.setIfInBounds_toArray, List.set_cons_zero, List.set_cons_succ]
    refine' wpAnyH_take (i := 7) (oi := _) (v := _) rfl (by kernel_rfl) (by kernel_rfl) (by kernel_rfl) (fun _ _ _ h => h) (Or.inl ⟨by rfl, ?hyp7⟩) (by assumption) ?restp7
    case hyp7 => (intro w hSw; obtain ⟨s0, s1⟩ := hSw; go_simp; all_goals (with_reducible rfl))
    try simp only [Act.put, List.getElem_toArray, List.getElem_cons_zero, List.getElem_cons_succ, List.setIfInBounds_toArray, List.set_cons_zero, List.set_cons_succ]
    refine wpAnyH_ready (rs := [8]) (by kernel_rfl) (by simp) ?_
    refine AllReadyH.cons (o := _) rfl (fun K hK => ?_) AllReadyH.nil
    go_simp
    go_at_call 29
    refine hcl.out.mono ?_
    rintro e _ ⟨rfl, U, rfl⟩
    refine hK.out _ _ (hst.out U) (fun hHeld => ?_)
    clear hK K hcl
    try simp only [Act.put, List.getElem_toArray, List.getElem_cons_zero, List.getElem_cons_succ, List.setIfInBounds_toArray, List.set_cons_zero, List.set_cons_succ]
    refine' wpAnyH_take (i := 9) (oi := _) (v := _) rfl (by kernel_rfl) (by kernel_rfl) (by kernel_rfl) (fun _ _ _ h => h) (Or.inl ⟨by rfl, ?hyp9⟩) (by assumption) ?restp9
    case hyp9 => (intro w hSw; obtain ⟨s0, s1⟩ := hSw; go_simp; all_goals (with_reducible rfl))
    try simp only [Act.put, List.getElem_toArray, List.getElem_cons_zero, List.getElem_cons_succ, List.setIfInBounds_toArray, List.set_cons_zero, List.set_cons_succ]
    refine' wpAnyH_take (i := 10) (oi := _) (v := undef) rfl (by kernel_rfl) (by kernel_rfl) (by kernel_rfl) (fun _ _ _ h => h) (Or.inr ⟨by rfl, rfl⟩) (by assumption) ?restp10
    try simp only [Act.put, List.getElem_toArray, List.getElem_cons_zero, List.getElem_cons_succ, List.setIfInBounds_toArray, List.set_cons_zero, List.set_cons_succ]
    refine' wpAnyH_take (i := 11) (oi := _) (v := undef) rfl (by kernel_rfl) (by kernel_rfl) (by kernel_rfl) (fun _ _ _ h => h) (Or.inr ⟨by rfl, rfl⟩) (by assumption) ?restp11
    try simp only [Act.put, List.getElem_toArray, List.getElem_cons_zero, List.getElem_cons_succ, List.setIfInBounds_toArray, List.set_cons_zero, List.set_cons_succ]
    refine' wpAnyH_take (i := 12) (oi := _) (v := undef) rfl (by kernel_rfl) (by kernel_rfl) (by kernel_rfl) (fun _ _ _ h => h) (Or.inr ⟨by rfl, rfl⟩) (by assumption) ?restp12
    try simp only [Act.put, List.getElem_toArray, List.getElem_cons_zero, List.getElem_cons_succ, List.setIfInBounds_toArray, List.set_cons_zero, List.set_cons_succ]
    refine' wpAnyH_take (i := 13) (oi := _) (v := undef) rfl (by kernel_rfl) (by kernel_rfl) (by kernel_rfl) (fun _ _ _ h => h) (Or.inr ⟨by rfl, rfl⟩) (by assumption) ?restp13
    try simp only [Act.put, List.getElem_toArray, List.getElem_cons_zero, List.getElem_cons_succ, List.setIfInBounds_toArray, List.set_cons_zero, List.set_cons_succ]
    refine' wpAnyH_take (i := 14) (oi := _) (v := undef) rfl (by kernel_rfl) (by kernel_rfl) (by kernel_rfl) (fun _ _ _ h => h) (Or.inr ⟨by rfl, rfl⟩) (by assumption) ?restp14
    try simp only [Act.put, List.getElem_toArray, List.getElem_cons_zero, List.getElem_cons_succ, List.setIfInBounds_toArray, List.set_cons_zero, List.set_cons_succ]
    refine' wpAnyH_take (i := 15) (oi := _) (v := undef) rfl (by kernel_rfl) (by kernel_rfl) (by kernel_rfl) (fun _ _ _ h => h) (Or.inr ⟨by rfl, rfl⟩) (by assumption) ?restp15
    try simp only [Act.put, List.getElem_toArray, List.getElem_cons_zero, List.getElem_cons_succ, List.setIfInBounds_toArray, List.set_cons_zero, List.set_cons_succ]
    refine' wpAnyH_take (i := 16) (oi := _) (v := undef) rfl (by kernel_rfl) (by kernel_rfl) (by kernel_rfl) (fun _ _ _ h => h) (Or.inr ⟨by rfl, rfl⟩) (by assumption) ?restp16
    try simp only [Act.put, List.getElem_toArray, List.getElem_cons_zero, List.getElem_cons_succ, List.setIfInBounds_toArray, List.set_cons_zero, List.set_cons_succ]
    refine' wpAnyH_take (i := 17) (oi := _) (v := undef) rfl (by kernel_rfl) (by kernel_rfl) (by kernel_rfl) (fun _ _ _ h => h) (Or.inr ⟨by rfl, rfl⟩) (by assumption) ?restp17
    try simp only [Act.put, List.getElem_toArray, List.getElem_cons_zero, List.getElem_cons_succ, List.setIfInBounds_toArray, List.set_cons_zero, List.set_cons_succ]
    refine' wpAnyH_take (i := 18) (oi := _) (v := undef) rfl (by kernel_rfl) (by kernel_rfl) (by kernel_rfl) (fun _ _ _ h => h) (Or.inr ⟨by rfl, rfl⟩) (by assumption) ?restp18
    try simp only [Act.put, List.getElem_toArray, List.getElem_cons_zero, List.getElem_cons_succ, List.setIfInBounds_toArray, List.set_cons_zero, List.set_cons_succ]
    refine' wpAnyH_take (i := 19) (oi := _) (v := _) rfl (by kernel_rfl) (by kernel_rfl) (by kernel_rfl) (fun _ _ _ h => h) (Or.inl ⟨by rfl, ?hyp19⟩) (by assumption) ?restp19
    case hyp19 => (intro w hSw; obtain ⟨s0, s1⟩ := hSw; go_simp; all_goals (with_reducible rfl))
    try simp only [Act.put, List.getElem_toArray, List.getElem_cons_zero, List.getElem_cons_succ, List.setIfInBounds_toArray, List.set_cons_zero, List.set_cons_succ]
    refine' wpAnyH_take (i := 20) (oi := _) (v := _) rfl (by kernel_rfl) (by kernel_rfl) (by kernel_rfl) (fun _ _ _ h => h) (Or.inl ⟨by rfl, ?hyp20⟩) (by assumption) ?restp20
    case hyp20 => (intro w hSw; obtain ⟨s0, s1⟩ := hSw; go_simp; all_goals (with_reducible rfl))
    try simp only [Act.put, List.getElem_toArray, List.getElem_cons_zero, List.getElem_cons_succ, List.setIfInBounds_toArray, List.set_cons_zero, List.set_cons_succ]
    refine wpAnyH_done (by kernel_rfl) ?_ _
    refine NoPanic.normal ?_
    have hbU := Lib.hid U.ok
    go_wp2_with fail
    go_ret
    exact ⟨Or.inl ⟨rfl, by have := hq.out; simpa using this⟩, hbU.out⟩
end Go.Proofs.Ytnoilcchegmpfaa.Me
