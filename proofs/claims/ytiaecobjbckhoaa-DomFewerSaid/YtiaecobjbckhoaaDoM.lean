/- Walk of DomFewer. Conditions: the graph lies in memory. -/
import Derived.Test.YtiaecobjbckhoaaDoL
set_option linter.unusedVariables false
set_option linter.unusedSimpArgs false
namespace Go.Proofs.Ytiaecobjbckhoaa.Db
open Go Go.RowKit
open Go.WideShapes Go.MapKept
open Go.Proofs.Ytiaecobjbckhoaa.Qr Go.Proofs.Ytiaecobjbckhoaa.Vq Go.Proofs.Ytiaecobjbckhoaa.QrS

theorem ix_toN {V : World} {b off n cap k : Nat} (h : k < n) : (Instr.indexAt 22 (.slice (some ⟨b, off, none⟩) n cap) (.int .i64 (k : Int))).run Try.prog V = .ok (.pointer (some ⟨b, off + k, none⟩)) V := by
  have h2 : (k : Int) < (n : Int) := by omega
  go_simp
theorem run_addc {a : Act} {o : Oper} {t2 : TypeId} {x : Operand} {c : Nat} {w : World} (hc : c ≤ 1000) (ho : o.op = .binOp .add 3 x (.const (.int .i64 1)) t2) (hx : a.eval x = .int .i64 (c : Int)) : (execOp a.eval o).run Try.prog w = .ok (.value (.int .i64 ((c + 1 : Nat) : Int))) w := by
  have e1 : (c : Int) + 1 ≤ 9223372036854775807 := by omega
  have e2 : (-9223372036854775808 : Int) ≤ (c : Int) + 1 := by omega
  unfold execOp
  simp only [ho, hx]
  go_simp
  exact IntWalk.i64_in _ (by omega)
set_option maxHeartbeats 16000000 in
set_option maxRecDepth 100000 in
theorem domFewer_law (T : List Tl) (ta : Option Addr) (tcap : Nat) (x y : Int) (w : World) (hg : ToM w.heap.size ta tcap T w) :
    Calls Try.prog 6 #[.slice ta T.length tcap, .int .i64 x, .int .i64 y] w fun e w' => e = .returned (.bool true) ∧ Below w.heap.size w w' := by
  have hlc := Lib.hid (long_c T.length tcap ta w rfl hg)
  have haw := Lib.hid (fun V => awake_c V)
  rcases hl : longP T with _ | _
  · rw [hl] at hlc
    have hof := Lib.hid (fun V (hb : Below w.heap.size w V) => of_law (T := T) T.length tcap ta V rfl ⟨(hg.keep hb).row.mono fun _ h => Nat.lt_of_lt_of_le h hb.size, fun x hx => ((hg.keep hb).rows x hx).mono fun _ h => Nat.lt_of_lt_of_le h hb.size⟩ hl)
    obtain ⟨hc1, hc2⟩ := len_i hg.row
    have h40 := (long_no hl).1
    have h60 := Lib.hid (long_no hl).2.1
    replace hg := Lib.hid hg
    have hTn := Lib.hid (rfl : T.length = T.length)
    clear hl
    generalize hn : T.length = n at hof hlc hc1 h40 hTn ⊢
    replace hn := Lib.hid hn
    clear hTn
    go_enter Try.func6, Try.ntmps6
    go_wp2_with fail
    refine hlc.out.mono ?_
    rintro e w1 ⟨rfl, hw1⟩
    have hw2 := hw1.symm
    subst hw2
    clear hlc hw1
    go_wp2_with fail
    refine (haw.out _).mono ?_
    rintro e w2 ⟨rfl, hb2⟩
    have hof2 := Lib.hid (hof.out w2 hb2)
    replace hb2 := Lib.hid hb2
    clear hof
    go_wp2_with fail
    refine hof2.out.mono ?_
    rintro e w3 ⟨hb3, ⟨hm, rfl⟩ | ⟨hm, H, tb, rfl, htb, hA⟩⟩
    · replace hm := Lib.hid hm
      have hb4 := Lib.hid (hb2.out.trans (hb3.mono hb2.out.size))
      clear hb3 hb2 hof2
      go_wp2_with fail
      go_ret
      exact ⟨rfl, hb4.out⟩
    · have hb4 := Lib.hid (hb2.out.trans (hb3.mono hb2.out.size))
      replace hA := Lib.hid hA
      have hend : Hid (∀ V, Below w3.heap.size w3 V → Below w.heap.size w V) := Lib.hid fun V h => hb4.out.trans (h.mono hb4.out.size)
      have hn0 := H.pos
      replace hm := Lib.hid hm
      replace H := Lib.hid H
      clear hb3 hb2 hof2 haw htb hm
      by_cases hx0 : x < 0
      · go_wp2_with fail
        go_ret
        exact ⟨rfl, hb4.out⟩
      obtain ⟨f, rfl⟩ : ∃ f : Nat, x = f := ⟨x.toNat, by omega⟩
      have hf0 : ¬ ((f : Int) < 0) := by omega
      clear hx0
      by_cases hfn' : n ≤ f
      · have hfn2 : ((n : Int) ≤ (f : Int)) := by omega
        go_wp2_with fail
        go_ret
        exact ⟨rfl, hb4.out⟩
      have hfn : f < n := by omega
      clear hfn'
      have hfn2 : ¬ ((n : Int) ≤ (f : Int)) := by omega
      by_cases hy0 : y < 0
      · go_wp2_with fail
        go_ret
        exact ⟨rfl, hb4.out⟩
      obtain ⟨c, rfl⟩ : ∃ c : Nat, y = c := ⟨y.toNat, by omega⟩
      have hc0 : ¬ ((c : Int) < 0) := by omega
      clear hy0
      obtain ⟨ef, hef⟩ : ∃ e, T[f]? = some e := ⟨_, List.getElem?_eq_getElem (by rw [hn.out]; exact hfn)⟩
      obtain ⟨b1, off1, hta, _, hcf⟩ := tl_row (hg.out.keep (hend.out w3 (Below.refl _ _))).row f ef hef
      subst hta
      have hf1 : (f : Int) < (n : Int) := by omega
      have hf00 : (0 : Int) ≤ (f : Int) := by omega
      obtain ⟨l1, l2⟩ := len_i (hg.out.rows ef (List.mem_of_getElem? hef))
      by_cases hcl' : ef.l.length ≤ c
      · have hcl2 : ((ef.l.length : Int) ≤ (c : Int)) := by omega
        clear hef
        go_wp2_with fail
        go_ret
        exact ⟨rfl, hb4.out⟩
      have hcl : c < ef.l.length := by omega
      clear hcl'
      have hcl2 : ¬ ((ef.l.length : Int) ≤ (c : Int)) := by omega
      have hef2 := Lib.hid hef
      have hlit := fun V => lit_int V
      clear hef
      have hst0 : Hid (LsM w3.heap.size (.slice none 0 0) [] w3 ∧ ([] : List Tl).map (·.l) = (lessL T f c n).take 0 ∧ Below w3.heap.size w3 w3) := Lib.hid ⟨⟨World.ownsRow_nil _ _ _ _, fun x hx => (by cases hx)⟩, by simp, Below.refl _ _⟩
      obtain ⟨i0, hi0, hz0, hz1, hz2⟩ := info_i
      obtain ⟨j0, hj0, hjz0, hjz1, hjz2⟩ := info_parts info_li
      replace l1 := Lib.hid l1
      replace l2 := Lib.hid l2
      go_wp2_with fail
      have hd1 : decide ((f : Int) < 0) = false := by simp
      have hd2 : decide (n ≤ f) = false := by simp; omega
      have hd3 : decide ((c : Int) < 0) = false := by simp
      have hd4 : decide (ef.l.length ≤ c) = false := by simp; omega
      simp only [hd1, hd2, hd3, hd4, Bool.or_false, Bool.false_or]
      clear hd1 hd2 hd3 hd4
      replace hfn := Lib.hid hfn
      replace hcl := Lib.hid hcl
      clear hf0 hfn2 hc0 hcl2 hf1 hf00
      go_loopw [9, 10] (fun v i wr => ∃ (k : Nat) (X : List Tl), k ≤ n ∧ i = .int .i64 k ∧ (∃ a cap, v = .slice a X.length cap) ∧ Hid (LsM w3.heap.size v X wr ∧ X.map (·.l) = (lessL T f c n).take k ∧ Below w3.heap.size w3 wr)) (fun _ i _ => n - (intOf i).toNat)
      case atStart => exact ⟨0, [], Nat.zero_le _, rfl, ⟨none, 0, rfl⟩, hst0⟩
      case round =>
        clear hst0 hcf
        obtain ⟨k, X, hk, rfl, ⟨la, lcap, rfl⟩, hX⟩ := hrel
        by_cases hkn : k < n
        · obtain ⟨e, he⟩ : ∃ e, T[k]? = some e := ⟨_, List.getElem?_eq_getElem (by rw [hn.out]; exact hkn)⟩
          have hgV := hg.out.keep (hend.out wr hX.out.2.2)
          obtain ⟨b1', off1', hta', _, hck⟩ := tl_row hgV.row k e he
          cases hta'
          have hke : tos T k = e.l := by unfold tos; rw [List.getD_eq_getElem?_getD, he]; rfl
          have he60 : e.l.length ≤ 60 := by rw [← hke]; exact h60.out k
          have hbw := World.block_lt_of_cell? _ _ hck
          have hrowe : RowAt wr Tt e.a e.cap e.l.length (numCells e.l) := (hgV.rows e (List.mem_of_getElem? he)).mono fun _ _ => trivial
          have hrowT : RowAt (wr.alloc (.cells #[] 3)) Tt e.a e.cap e.l.length (numCells e.l) := hrowe.below (Kps.of_below (b_alloc _ _))
          have hck2 : (wr.alloc (.cells #[] 3)).cell? ⟨b1, off1 + k, none⟩ = some (.slice e.a e.l.length e.cap) := ((b_alloc _ _).cell (p := ⟨b1, off1 + k, none⟩) hbw).trans hck
          have hk1 : (k : Int) < (n : Int) := by omega
          have hk0 : (0 : Int) ≤ (k : Int) := by omega
          have hnl : (numCells e.l).length = e.l.length * 1 := by simp [numCells]
          have heH := Lib.hid he
          have hrowH := Lib.hid hrowe
          obtain ⟨m1, m2⟩ := len_i hrowe
          clear hgV he hrowe
          go_wp2_with (at_builtin; refine wpList_append_rowN _ rfl _ _ 33 rfl wr.heap.size 3 i0 _ 1 8 Try.underlying33 hi0 hz0 hz1 hz2 rfl (by decide) _ _ _ rfl (lit_own wr wr.heap.size (Nat.le_refl _)) e.a e.cap e.l.length (numCells e.l) hnl rfl hrowT (num_one _) ?c1 ?c2 ?c3 ?_)
          case c1 => unfold maxLen; omega
          case c2 => omega
          intro v1 w4 own1 hgr1 _
          have hqb : Hid (Below wr.heap.size wr w4) := Lib.hid (below_gr (W0 := wr) (b_alloc wr (.cells #[] 3)) hgr1 (fun b e => by simp [Value.ownBlock] at e; omega))
          by_cases hkf : k = f
          · have hke2 : ((k : Int) == (f : Int)) = true := by simp; omega
            have hcE : Hid (c < e.l.length) := Lib.hid (by
              have h1 := heH.out
              rw [hkf] at h1
              have h2 := hef2.out.symm.trans h1
              cases h2
              exact hcl.out)
            obtain ⟨q, hq⟩ : ∃ q, q = lessR T f c k := ⟨_, rfl⟩
            have hqe : e.l.take c ++ e.l.drop (c + 1) = q := by rw [hq]; unfold lessR; rw [if_pos hkf, hke]
            have hqn : q.length = c + (e.l.length - (c + 1)) := by rw [← hqe, List.length_append, List.length_take, List.length_drop]; have := hcE.out; omega
            replace hq := Lib.hid hq
            replace hkf := Lib.hid hkf
            obtain ⟨b2, off2, hea⟩ : ∃ b2 off2, e.a = some ⟨b2, off2, none⟩ := by
              obtain ⟨y0, hy0⟩ : ∃ y, e.l[c]? = some y := ⟨_, List.getElem?_eq_getElem hcE.out⟩
              obtain ⟨b2, off2, h1, _, _⟩ := num_row hrowH.out c y0 hy0
              exact ⟨b2, off2, h1⟩
            have hrow2 := hrowH.out
            rw [hea] at hrow2 hck
            obtain ⟨w5, hw5⟩ : ∃ w5, w5 = w4.drew := ⟨_, rfl⟩
            have hb5 : Below wr.heap.size wr w5 := by rw [hw5]; exact hqb.out.trans ((below_drawN w4 1).mono hqb.out.size)
            have hcL : Hid (∀ V, Below w5.heap.size w5 V → V.cell? ⟨b1, off1 + k, none⟩ = some (.slice (some ⟨b2, off2, none⟩) e.l.length e.cap)) := Lib.hid fun V hV => ((hb5.trans (hV.mono hb5.size)).cell (p := ⟨b1, off1 + k, none⟩) hbw).trans hck
            have hsrc : ∀ V, Below w5.heap.size w5 V → RowAt V Tt (some ⟨b2, off2, none⟩) e.cap e.l.length (numCells e.l) := fun V hV => hrow2.below (Kps.of_below (hb5.trans (hV.mono hb5.size)))
            have hsrc0 : Hid (∀ V, Below w5.heap.size w5 V → ∀ (j : Nat) (u : Value), (numCells (e.l.take c))[j]? = some u → V.cell? (((⟨b2, off2, none⟩ : Addr).add 0).add j) = some u) := Lib.hid fun V hV j u hu => by
              unfold numCells at hu
              rw [List.getElem?_map, List.getElem?_take] at hu
              split at hu
              · obtain ⟨b', off', h1, _, h2⟩ := (hsrc V hV).at_ j u (by unfold numCells; rw [List.getElem?_map]; exact hu)
                cases h1
                rw [Go.WideShapes.add_plain, Go.WideShapes.add_plain]
                exact h2
              · cases hu
            have hsrc1 : Hid (∀ V, Below w5.heap.size w5 V → ∀ (j : Nat) (u : Value), (numCells (e.l.drop (c + 1)))[j]? = some u → V.cell? ((if e.cap = c + 1 then (⟨b2, off2, none⟩ : Addr) else (⟨b2, off2, none⟩ : Addr).add (c + 1)).add j) = some u) := Lib.hid fun V hV j u hu => by
              unfold numCells at hu
              rw [List.getElem?_map, List.getElem?_drop] at hu
              have hjl : c + 1 + j < e.l.length := by
                rcases h : e.l[c + 1 + j]? with _ | z
                · rw [h] at hu; cases hu
                · exact (List.getElem?_eq_some_iff.1 h).1
              obtain ⟨b', off', h1, _, h2⟩ := (hsrc V hV).at_ (c + 1 + j) u (by unfold numCells; rw [List.getElem?_map]; exact hu)
              cases h1
              rw [if_neg (by omega)]
              have e1 : (((⟨b2, off2, none⟩ : Addr).add (c + 1)).add j) = ⟨b2, off2 + (c + 1 + j), none⟩ := by
                rw [Go.WideShapes.add_plain, Go.WideShapes.add_plain, Nat.add_assoc off2]
              rw [e1]
              exact h2
            have hc60 : c ≤ 1000 := by have := hcE.out; omega
            have hcap : e.l.length ≤ e.cap := m1
            have hclt := hcE.out
            replace hw5 := Lib.hid hw5
            replace hb5 := Lib.hid hb5
            clear own1 hgr1 hrowT hck hck2 hrowH hlit hsrc hrow2 hqb
            go_wp2_with fail
            refine wp_region_set (I := RI [fun _ => True, (fun v => v = .slice (some ⟨b1, off1, none⟩) n tcap), (fun v => v = .int .i64 (k : Int)), (fun v => v = .pointer (some ⟨b1, off1 + k, none⟩)), (fun v => v = .slice (some ⟨b2, off2, none⟩) e.l.length e.cap), (fun v => v = .int .i64 (c : Int)), (fun v => v = .slice (some ((⟨b2, off2, none⟩ : Addr).add 0)) c e.cap), fun _ => True, (fun v => v = .slice (some ⟨b1, off1, none⟩) n tcap), (fun v => v = .int .i64 (k : Int)), (fun v => v = .pointer (some ⟨b1, off1 + k, none⟩)), (fun v => v = .slice (some ⟨b2, off2, none⟩) e.l.length e.cap), (fun v => v = .int .i64 (c : Int)), (fun v => v = .int .i64 ((c + 1 : Nat) : Int)), (fun v => v = .slice (some (if e.cap = c + 1 then (⟨b2, off2, none⟩ : Addr) else (⟨b2, off2, none⟩ : Addr).add (c + 1))) (e.l.length - (c + 1)) (e.cap - (c + 1))), fun _ => True, fun _ => True] (fun L σ w => FwC c (e.l.length - (c + 1)) e.l w5 (L 0) (σ 0) (L 7) (σ 7) (L 15) (σ 15) (L 16) (σ 16) w)) (by kernel_rfl) ?hI (by kernel_rfl) (stepsI_all ?hs) ?he
            case hI =>
              refine ⟨fun i e => (by cases e), ?_⟩
              rw [← hw5.out]
              exact FwC.start w5
            case hs =>
              clear hX hA H hend hw5 hb4 hq
              refine stepsI_cons (fun L σ a w hL hW hS hI hs => ?_) ?_
              · have h7 := hS.not 7 0 (o := _) (by rfl) (by kernel_rfl) hL
                have h15 := hS.not 15 7 (o := _) (by rfl) (by kernel_rfl) h7
                have h16 := hS.not 16 15 (o := _) (by rfl) (by kernel_rfl) h15
                have hc := hI.c
                rw [hL, h7, h15, h16] at hc
                refine ⟨wanted_none rfl, wp_val (run_bs (qs := #[]) rfl (by simp) (lit_int _)) ⟨_, rfl, hI.pure (j := 0) trivial ?_⟩⟩
                have := hc.lit
                show FwC c (e.l.length - (c + 1)) e.l w5 true _ (L 7) (σ 7) (L 15) (σ 15) (L 16) (σ 16) _
                rw [h7, h15, h16]
                exact this
              refine stepsI_cons (fun L σ a w hL hW hS hI hs => ?_) ?_
              · exact ⟨wanted_none rfl, wp_val (run_mv (.inl rfl) (hs.ev0 0 (by kernel_rfl) (by rfl))) ⟨_, rfl, hI.pure (j := 1) rfl hI.c⟩⟩
              refine stepsI_cons (fun L σ a w hL hW hS hI hs => ?_) ?_
              · exact ⟨wanted_none rfl, wp_val (run_mv (.inl rfl) (hs.ev0 10 (by kernel_rfl) (by rfl))) ⟨_, rfl, hI.pure (j := 2) rfl hI.c⟩⟩
              refine stepsI_cons (fun L σ a w hL hW hS hI hs => ?_) ?_
              · exact ⟨wanted_none rfl, wp_val (run_ixB rfl (hs.ev 1 68 (by kernel_rfl) (by rfl) (hI.pv 1 (hW 1 (by kernel_rfl)))) (hs.ev 2 69 (by kernel_rfl) (by rfl) (hI.pv 2 (hW 2 (by kernel_rfl)))) (ix_toN hkn)) ⟨_, rfl, hI.pure (j := 3) rfl hI.c⟩⟩
              refine stepsI_cons (fun L σ a w hL hW hS hI hs => ?_) ?_
              · exact ⟨wanted_none rfl, wp_val (run_ld rfl (hs.ev 3 70 (by kernel_rfl) (by rfl) (hI.pv 3 (hW 3 (by kernel_rfl)))) (ld_li (hcL.out _ hI.c.fr))) ⟨_, rfl, hI.pure (j := 4) rfl hI.c⟩⟩
              refine stepsI_cons (fun L σ a w hL hW hS hI hs => ?_) ?_
              · exact ⟨wanted_none rfl, wp_val (run_mv (.inl rfl) (hs.ev0 2 (by kernel_rfl) (by rfl))) ⟨_, rfl, hI.pure (j := 5) rfl hI.c⟩⟩
              refine stepsI_cons (fun L σ a w hL hW hS hI hs => ?_) ?_
              · exact ⟨wanted_none rfl, wp_val (run_slHi rfl (hs.ev 4 71 (by kernel_rfl) (by rfl) (hI.pv 4 (hW 4 (by kernel_rfl)))) (hs.ev 5 72 (by kernel_rfl) (by rfl) (hI.pv 5 (hW 5 (by kernel_rfl)))) (sl_hi (by omega) (by omega))) ⟨_, rfl, hI.pure (j := 6) rfl hI.c⟩⟩
              refine stepsI_cons (fun L σ a w hL hW hS hI hs => ?_) ?_
              · have h15 := hS.not 15 7 (o := _) (by rfl) (by kernel_rfl) hL
                have h16 := hS.not 16 15 (o := _) (by rfl) (by kernel_rfl) h15
                have h0 := hW 0 (by kernel_rfl)
                have hc := hI.c
                rw [hL, h15, h16, h0] at hc
                have hr := hc.r0 rfl rfl
                obtain ⟨i0, hi0, hz0, hz1, hz2⟩ := info_i
                refine ⟨wanted_none rfl, p_appR (t := 33) (e := 3) rfl Try.underlying33 hi0 hz0 hz1 hz2 rfl (by decide) (hs.ev 0 67 (by kernel_rfl) (by rfl) rfl) (hs.ev 6 73 (by kernel_rfl) (by rfl) (hI.pv 6 (hW 6 (by kernel_rfl)))) hr (news := numCells (e.l.take c)) (by unfold numCells; rw [List.length_map, List.length_take]; omega) (hsrc0.out _ hc.fr) (num_one _) (by omega) (by decide) hc.fr.size fun v' w' k1 k2 k3 => ⟨_, rfl, hI.pure (j := 7) trivial ?_⟩⟩
                have := hc.ap7 (v' := v') k1 k2
                show FwC c (e.l.length - (c + 1)) e.l w5 (L 0) (σ 0) true v' (L 15) (σ 15) (L 16) (σ 16) _
                rw [h15, h16, h0]
                exact this
              refine stepsI_cons (fun L σ a w hL hW hS hI hs => ?_) ?_
              · exact ⟨wanted_none rfl, wp_val (run_mv (.inl rfl) (hs.ev0 0 (by kernel_rfl) (by rfl))) ⟨_, rfl, hI.pure (j := 8) rfl hI.c⟩⟩
              refine stepsI_cons (fun L σ a w hL hW hS hI hs => ?_) ?_
              · exact ⟨wanted_none rfl, wp_val (run_mv (.inl rfl) (hs.ev0 10 (by kernel_rfl) (by rfl))) ⟨_, rfl, hI.pure (j := 9) rfl hI.c⟩⟩
              refine stepsI_cons (fun L σ a w hL hW hS hI hs => ?_) ?_
              · exact ⟨wanted_none rfl, wp_val (run_ixB rfl (hs.ev 8 75 (by kernel_rfl) (by rfl) (hI.pv 8 (hW 8 (by kernel_rfl)))) (hs.ev 9 76 (by kernel_rfl) (by rfl) (hI.pv 9 (hW 9 (by kernel_rfl)))) (ix_toN hkn)) ⟨_, rfl, hI.pure (j := 10) rfl hI.c⟩⟩
              refine stepsI_cons (fun L σ a w hL hW hS hI hs => ?_) ?_
              · exact ⟨wanted_none rfl, wp_val (run_ld rfl (hs.ev 10 77 (by kernel_rfl) (by rfl) (hI.pv 10 (hW 10 (by kernel_rfl)))) (ld_li (hcL.out _ hI.c.fr))) ⟨_, rfl, hI.pure (j := 11) rfl hI.c⟩⟩
              refine stepsI_cons (fun L σ a w hL hW hS hI hs => ?_) ?_
              · exact ⟨wanted_none rfl, wp_val (run_mv (.inl rfl) (hs.ev0 2 (by kernel_rfl) (by rfl))) ⟨_, rfl, hI.pure (j := 12) rfl hI.c⟩⟩
              refine stepsI_cons (fun L σ a w hL hW hS hI hs => ?_) ?_
              · exact ⟨wanted_none rfl, wp_val (run_addc hc60 rfl (hs.ev 12 79 (by kernel_rfl) (by rfl) (hI.pv 12 (hW 12 (by kernel_rfl))))) ⟨_, rfl, hI.pure (j := 13) rfl hI.c⟩⟩
              refine stepsI_cons (fun L σ a w hL hW hS hI hs => ?_) ?_
              · exact ⟨wanted_none rfl, wp_val (run_slLo rfl (hs.ev 11 78 (by kernel_rfl) (by rfl) (hI.pv 11 (hW 11 (by kernel_rfl)))) (hs.ev 13 80 (by kernel_rfl) (by rfl) (hI.pv 13 (hW 13 (by kernel_rfl)))) (sl_lo (by omega) hcap)) ⟨_, rfl, hI.pure (j := 14) rfl hI.c⟩⟩
              refine stepsI_cons (fun L σ a w hL hW hS hI hs => ?_) ?_
              · have h16 := hS.not 16 15 (o := _) (by rfl) (by kernel_rfl) hL
                have h7 := hW 7 (by kernel_rfl)
                have h0 : L 0 = true := by
                  cases h : L 0 with
                  | true => rfl
                  | false =>
                    have := hS.not 7 0 (o := _) (by rfl) (by kernel_rfl) h
                    rw [h7] at this; cases this
                have hc := hI.c
                rw [hL, h7, h16, h0] at hc
                have hr := hc.r7 rfl rfl
                obtain ⟨i0, hi0, hz0, hz1, hz2⟩ := info_i
                refine ⟨wanted_none rfl, p_appR (t := 33) (e := 3) rfl Try.underlying33 hi0 hz0 hz1 hz2 rfl (by decide) (hs.ev 7 74 (by kernel_rfl) (by rfl) rfl) (hs.ev 14 81 (by kernel_rfl) (by rfl) (hI.pv 14 (hW 14 (by kernel_rfl)))) hr (news := numCells (e.l.drop (c + 1))) (by unfold numCells; rw [List.length_map, List.length_drop]; omega) (hsrc1.out _ hc.fr) (num_one _) (by omega) (by decide) hc.fr.size fun v' w' k1 k2 k3 => ⟨_, rfl, hI.pure (j := 15) trivial ?_⟩⟩
                have := hc.ap15 (v' := v') k1 k2
                show FwC c (e.l.length - (c + 1)) e.l w5 (L 0) (σ 0) (L 7) (σ 7) true v' (L 16) (σ 16) _
                rw [h7, h16, h0]
                exact this
              refine stepsI_cons (fun L σ a w hL hW hS hI hs => ?_) ?_
              · have h15 := hW 15 (by kernel_rfl)
                have h7 : L 7 = true := by
                  cases h : L 7 with
                  | true => rfl
                  | false =>
                    have := hS.not 15 7 (o := _) (by rfl) (by kernel_rfl) h
                    rw [h15] at this; cases this
                have h0 : L 0 = true := by
                  cases h : L 0 with
                  | true => rfl
                  | false =>
                    have := hS.not 7 0 (o := _) (by rfl) (by kernel_rfl) h
                    rw [h7] at this; cases this
                have hc := hI.c
                rw [hL, h7, h15, h0] at hc
                refine ⟨wanted_none rfl, wp_val (run_mv (.inr rfl) (hs.ev 15 82 (by kernel_rfl) (by rfl) rfl)) ⟨_, rfl, hI.pure (j := 16) trivial ?_⟩⟩
                have := hc.fin
                show FwC c (e.l.length - (c + 1)) e.l w5 (L 0) (σ 0) (L 7) (σ 7) (L 15) (σ 15) true (σ 15) _
                rw [h7, h15, h0]
                exact this
              exact trivial
            case he =>
              intro σ w6 hI
              have hc : FwC c (e.l.length - (c + 1)) e.l w5 true (σ 0) true (σ 7) true (σ 15) true (σ 16) w6 := hI.c
              generalize hF : fillL _ _ _ _ _ = F
              simp [fillL, dstOf, List.range, List.range.loop, Act.put] at hF
              subst hF
              have ho6 := hc.r15 rfl
              have e16 := hc.e16 rfl
              rw [hqe, ← hqn] at ho6
              obtain ⟨a1, cap1, h15⟩ := own_slice ho6
              rw [h15] at ho6
              rw [e16, h15]
              have hqb : Hid (Below wr.heap.size wr w6) := Lib.hid (hb5.out.trans (hc.fr.mono hb5.out.size))
              have hown : Hid (w6.ownsRow wr.heap.size 3 1 (.slice a1 q.length cap1) q.length (numCells q)) := Lib.hid (own_mono ho6 hb5.out.size)
              have hql : q.length ≤ 60 := by rw [hqn]; omega
              obtain ⟨wq, hwq⟩ : ∃ wq, wq = w6 := ⟨_, rfl⟩
              rw [← hwq] at hqb hown ⊢
              clear hI hc ho6 e16 h15 hqe hqn hcL hsrc0 hsrc1 hwq hb5 hw5 hea hc60 hcap hclt hcE heH
              have hL6 := Lib.hid ((hX.out.1.keep hqb.out).keep (b_alloc wq (.cells #[.slice a1 q.length cap1] 33)))
              have g6 : (wq.alloc (.cells #[.slice a1 q.length cap1] 33)).heap[wq.heap.size]? = some (.cells #[.slice a1 q.length cap1] 33 (0, 0)) := blk_new _ _ rfl
              have hrow6 : RowAt (wq.alloc (.cells #[.slice a1 q.length cap1] 33)) Tt (some ⟨wq.heap.size, 0, none⟩) 1 1 [.slice a1 q.length cap1] := row_blk 1 g6 (by decide) trivial
              have hz6 : w3.heap.size ≤ (wq.alloc (.cells #[.slice a1 q.length cap1] 33)).heap.size := by
                have h1 := hX.out.2.2.size
                have h2 := hqb.out.size
                simp; omega
              have hXl : Hid (X.length = k) := Lib.hid (by
                have := congrArg List.length hX.out.2.1
                unfold lessL at this
                simp at this
                omega)
              have hX2 := Lib.hid hX.out.2
              clear hX g6
              go_wp2_with (at_builtin; refine wpList_append_rowN _ rfl _ _ 22 rfl w3.heap.size 33 j0 _ 1 24 Try.underlying22 hj0 hjz0 hjz1 hjz2 rfl (by decide) _ _ _ rfl hL6.out.head (some ⟨wq.heap.size, 0, none⟩) 1 1 [.slice a1 q.length cap1] rfl rfl hrow6 (fun u hu => by rw [List.mem_singleton] at hu; rw [hu]; rfl) ?d1b ?d2b ?d3b ?_)
              case d1b => unfold maxLen; have := hXl.out; omega
              case d2b => have := hXl.out; omega
              case d3b => exact hz6
              intro v2 w7 ho2 hg2 _
              have hL7 := Lib.hid (hL6.out.app (x := ⟨a1, cap1, q⟩) (own_mono (own_below hown.out (b_alloc _ _)) hX2.out.2.size) ho2 hg2)
              have hb7 : Below w3.heap.size w3 w7 := below_gr (hX2.out.2.trans ((hqb.out.trans ((b_alloc _ _).mono hqb.out.size)).mono hX2.out.2.size)) hg2 (fun b e => (hL6.out.head.lt b e).1)
              obtain ⟨a7, cap7, rfl, _⟩ := row_own ho2
              have hmap : (X ++ ([⟨a1, cap1, q⟩] : List Tl)).map (·.l) = (lessL T f c n).take (k + 1) := by
                rw [List.map_append, hX2.out.1, List.take_add_one]
                unfold lessL
                rw [List.getElem?_map, List.getElem?_range hkn, hq.out]
                rfl
              have hst := Lib.hid (⟨hL7.out, hmap, hb7⟩ : LsM w3.heap.size (.slice a7 (X.length + 1) cap7) (X ++ ([⟨a1, cap1, q⟩] : List Tl)) w7 ∧ (X ++ ([⟨a1, cap1, q⟩] : List Tl)).map (·.l) = (lessL T f c n).take (k + 1) ∧ Below w3.heap.size w3 w7)
              have hv8 : ∃ a cap, Value.slice a7 (X.length + 1) cap7 = .slice a (X ++ ([⟨a1, cap1, q⟩] : List Tl)).length cap := ⟨a7, cap7, by rw [List.length_append]; rfl⟩
              clear hL6 hL7 hrow6 ho2 hg2 hb7 hmap hown hX2
              go_wp2_with fail
              go_roundw
              case rel => exact ⟨k + 1, X ++ ([⟨a1, cap1, q⟩] : List Tl), by omega, by go_num, hv8, hst⟩
              case measure => simp [intOf]; omega
          · have hke2 : ((k : Int) == (f : Int)) = false := by simp; omega
            obtain ⟨q, hq⟩ : ∃ q, q = lessR T f c k := ⟨_, rfl⟩
            have hqe : e.l = q := by rw [hq]; unfold lessR; rw [if_neg hkf, hke]
            rw [hqe] at own1
            obtain ⟨a1, cap1, rfl⟩ := own_slice own1
            have hown := Lib.hid own1
            replace hq := Lib.hid hq
            obtain ⟨wq, hwq⟩ : ∃ wq, wq = w4 := ⟨_, rfl⟩
            rw [← hwq] at hqb hown ⊢
            clear hgr1 own1 hrowT hck hck2 hrowH heH hlit hnl hwq
            have hql : q.length ≤ 60 := by rw [← hqe]; exact he60
            clear hqe
            have hL6 := Lib.hid ((hX.out.1.keep hqb.out).keep (b_alloc wq (.cells #[.slice a1 q.length cap1] 33)))
            have g6 : (wq.alloc (.cells #[.slice a1 q.length cap1] 33)).heap[wq.heap.size]? = some (.cells #[.slice a1 q.length cap1] 33 (0, 0)) := blk_new _ _ rfl
            have hrow6 : RowAt (wq.alloc (.cells #[.slice a1 q.length cap1] 33)) Tt (some ⟨wq.heap.size, 0, none⟩) 1 1 [.slice a1 q.length cap1] := row_blk 1 g6 (by decide) trivial
            have hz6 : w3.heap.size ≤ (wq.alloc (.cells #[.slice a1 q.length cap1] 33)).heap.size := by
              have h1 := hX.out.2.2.size
              have h2 := hqb.out.size
              simp; omega
            have hXl : Hid (X.length = k) := Lib.hid (by
              have := congrArg List.length hX.out.2.1
              unfold lessL at this
              simp at this
              omega)
            have hX2 := Lib.hid hX.out.2
            clear hX g6
            go_wp2_with (at_builtin; refine wpList_append_rowN _ rfl _ _ 22 rfl w3.heap.size 33 j0 _ 1 24 Try.underlying22 hj0 hjz0 hjz1 hjz2 rfl (by decide) _ _ _ rfl hL6.out.head (some ⟨wq.heap.size, 0, none⟩) 1 1 [.slice a1 q.length cap1] rfl rfl hrow6 (fun u hu => by rw [List.mem_singleton] at hu; rw [hu]; rfl) ?d1c ?d2c ?d3c ?_)
            case d1c => unfold maxLen; have := hXl.out; omega
            case d2c => have := hXl.out; omega
            case d3c => exact hz6
            intro v2 w7 ho2 hg2 _
            have hL7 := Lib.hid (hL6.out.app (x := ⟨a1, cap1, q⟩) (own_mono (own_below hown.out (b_alloc _ _)) hX2.out.2.size) ho2 hg2)
            have hb7 : Below w3.heap.size w3 w7 := below_gr (hX2.out.2.trans ((hqb.out.trans ((b_alloc _ _).mono hqb.out.size)).mono hX2.out.2.size)) hg2 (fun b e => (hL6.out.head.lt b e).1)
            obtain ⟨a7, cap7, rfl, _⟩ := row_own ho2
            have hmap : (X ++ ([⟨a1, cap1, q⟩] : List Tl)).map (·.l) = (lessL T f c n).take (k + 1) := by
              rw [List.map_append, hX2.out.1, List.take_add_one]
              unfold lessL
              rw [List.getElem?_map, List.getElem?_range hkn, hq.out]
              rfl
            have hst := Lib.hid (⟨hL7.out, hmap, hb7⟩ : LsM w3.heap.size (.slice a7 (X.length + 1) cap7) (X ++ ([⟨a1, cap1, q⟩] : List Tl)) w7 ∧ (X ++ ([⟨a1, cap1, q⟩] : List Tl)).map (·.l) = (lessL T f c n).take (k + 1) ∧ Below w3.heap.size w3 w7)
            have hv8 : ∃ a cap, Value.slice a7 (X.length + 1) cap7 = .slice a (X ++ ([⟨a1, cap1, q⟩] : List Tl)).length cap := ⟨a7, cap7, by rw [List.length_append]; rfl⟩
            clear hL6 hL7 hrow6 ho2 hg2 hb7 hmap hown hX2
            go_wp2_with fail
            go_roundw
            case rel => exact ⟨k + 1, X ++ ([⟨a1, cap1, q⟩] : List Tl), by omega, by go_num, hv8, hst⟩
            case measure => simp [intOf]; omega
        · have hkn2 : k = n := by omega
          have hmap : X.map (·.l) = lessL T f c n := by
            rw [hX.out.2.1, hkn2]
            exact List.take_of_length_le (by unfold lessL; simp)
          obtain ⟨hl, g1, g2, g3⟩ := less_gf H.out hmap
          obtain ⟨a', cap', hv', hTo⟩ := hX.out.1.to
          cases hv'
          have hTo' := hTo
          have hm := gf_mayL hl hn0 (by omega) g1
          have H2 := (mayL_gf hl hm).1
          have hof := of_yes n lcap 60 la wr hl hTo' hm (fun b => Nat.le_trans (g3 b) (h60.out b)) (by omega)
          rw [hl]
          replace hof := Lib.hid hof
          obtain ⟨t1, t2⟩ := less_tree H.out H2 g2
          have hb5 := Lib.hid hX.out.2.2
          have hu := Lib.hid (⟨H2.hn.ok, Nat.le_trans H2.hn.len (by omega : n ≤ 32768)⟩ : (tre n X).ok ∧ (tre n X).order.length ≤ 32768)
          replace t1 := Lib.hid t1
          replace t2 := Lib.hid t2
          have hkn3 : ¬ ((k : Int) < (n : Int)) := by omega
          clear hX hTo hTo' hm H2 g1 g2 g3 hl hmap hkn hkn2 hlit
          generalize tre n T = t at *
          generalize tre n X = u at *
          go_wp2_with fail
          refine hof.out.mono ?_
          rintro _ w8 ⟨ub, gp, ge, gn, oa, oc, rfl, hTm, htb, hb8⟩
          have hA2 := Lib.hid (ask_of hTm hu.out.1 hu.out.2)
          have hb9 : Below w3.heap.size w3 w8 := hb5.out.trans (hb8.mono hb5.out.size)
          have hA3 := Lib.hid (hA.out.mono2 hb9)
          have hend2 : Hid (∀ V, Below w8.heap.size w8 V → Below w.heap.size w V) := Lib.hid fun V h => hend.out V (hb9.trans (h.mono hb9.size))
          have hst8 : Hid (Below w8.heap.size w8 w8) := Lib.hid (Below.refl _ _)
          clear hof hTm htb hb8 hb9 hb5 hA hu hend
          go_wp2_with fail
          go_loopw [13] (fun i wr => ∃ j : Nat, j ≤ n ∧ i = .int .i64 j ∧ Hid (Below w8.heap.size w8 wr)) (fun i _ => n - (intOf i).toNat)
          case atStart => exact ⟨0, Nat.zero_le _, rfl, hst8⟩
          case round =>
            clear hst8
            obtain ⟨j, hj, rfl, hb⟩ := hrel
            by_cases hjn : j < n
            · have hj1 : (j : Int) < (n : Int) := by omega
              rcases hrj : u.reach (j : Int) with _ | _
              · go_wp2_with fail
                refine (hA2.out.re _ _ hb).mono ?_
                rintro _ w9 ⟨rfl, hw9⟩
                have hw9 := hw9.symm
                subst hw9
                go_wp2_with fail
                go_loopw [14] (fun i wr => ∃ a : Nat, a ≤ n ∧ i = .int .i64 a ∧ Hid (Below w8.heap.size w8 wr)) (fun i _ => n - (intOf i).toNat)
                case atStart => exact ⟨0, Nat.zero_le _, rfl, hb⟩
                case round =>
                  clear hb
                  obtain ⟨a, ha, rfl, hb⟩ := hrel
                  by_cases han : a < n
                  · have ha1 : (a : Int) < (n : Int) := by omega
                    go_wp2_with fail
                    refine (hA2.out.re _ _ hb).mono ?_
                    rintro _ w9 ⟨rfl, hw9⟩
                    have hw9 := hw9.symm
                    subst hw9
                    go_wp2_with fail
                    go_roundw
                    case rel => exact ⟨a + 1, by omega, by go_num, hb⟩
                    case measure => simp [intOf]; omega
                  · have han2 : ¬ ((a : Int) < (n : Int)) := by omega
                    go_wp2_with fail
                    go_roundw
                    case rel => exact ⟨j + 1, by omega, by go_num, hb⟩
                    case measure => simp [intOf]; omega
              · have hrt := t1.out j hrj
                go_wp2_with fail
                refine (hA2.out.re _ _ hb).mono ?_
                rintro _ w9 ⟨rfl, hw9⟩
                have hw9 := hw9.symm
                subst hw9
                go_wp2_with fail
                refine (hA3.out.re _ _ hb).mono ?_
                rintro _ w9 ⟨rfl, hw9⟩
                have hw9 := hw9.symm
                subst hw9
                go_wp2_with fail
                go_loopw [14] (fun i wr => ∃ a : Nat, a ≤ n ∧ i = .int .i64 a ∧ Hid (Below w8.heap.size w8 wr)) (fun i _ => n - (intOf i).toNat)
                case atStart => exact ⟨0, Nat.zero_le _, rfl, hb⟩
                case round =>
                  clear hb
                  obtain ⟨a, ha, rfl, hb⟩ := hrel
                  by_cases han : a < n
                  · have ha1 : (a : Int) < (n : Int) := by omega
                    rcases hab : t.above (a : Int) (j : Int) with _ | _
                    · go_wp2_with fail
                      refine (hA2.out.re _ _ hb).mono ?_
                      rintro _ w9 ⟨rfl, hw9⟩
                      have hw9 := hw9.symm
                      subst hw9
                      go_wp2_with fail
                      refine (hA3.out.ab _ _ _ hb).mono ?_
                      rintro _ w10 ⟨rfl, _, hb10⟩
                      go_wp2_with fail
                      go_roundw
                      case rel => exact ⟨a + 1, by omega, by go_num, hb10⟩
                      case measure => simp [intOf]; omega
                    · have hau := t2.out a j hrj hab
                      go_wp2_with fail
                      refine (hA2.out.re _ _ hb).mono ?_
                      rintro _ w9 ⟨rfl, hw9⟩
                      have hw9 := hw9.symm
                      subst hw9
                      go_wp2_with fail
                      refine (hA3.out.ab _ _ _ hb).mono ?_
                      rintro _ w10 ⟨rfl, _, hb10⟩
                      go_wp2_with fail
                      refine (hA2.out.ab _ _ _ hb10).mono ?_
                      rintro _ w11 ⟨rfl, _, hb11⟩
                      go_wp2_with fail
                      go_roundw
                      case rel => exact ⟨a + 1, by omega, by go_num, hb11⟩
                      case measure => simp [intOf]; omega
                  · have han2 : ¬ ((a : Int) < (n : Int)) := by omega
                    go_wp2_with fail
                    go_roundw
                    case rel => exact ⟨j + 1, by omega, by go_num, hb⟩
                    case measure => simp [intOf]; omega
            · have hjn2 : ¬ ((j : Int) < (n : Int)) := by omega
              go_wp2_with fail
              go_ret
              exact ⟨rfl, hend2.out _ hb.out⟩
  · rw [hl] at hlc
    clear hl hg
    go_enter Try.func6, Try.ntmps6
    go_wp2_with fail
    refine hlc.out.mono ?_
    rintro e w1 ⟨rfl, rfl⟩
    clear hlc
    go_wp2_with fail
    refine (haw.out _).mono ?_
    rintro e w2 ⟨rfl, hb2⟩
    replace hb2 := Lib.hid hb2
    go_wp2_with fail
    go_ret
    exact ⟨rfl, hb2.out⟩
end Go.Proofs.Ytiaecobjbckhoaa.Db
