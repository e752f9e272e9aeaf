/- Walk of CodeNames. Conditions: the packages' tables hold their lists; fields answers true. -/
import Derived.Test.YtiicjbnocpphdaaDoorCnG0
set_option linter.unusedSimpArgs false
set_option linter.unusedVariables false
namespace Go.Proofs.YtiicjbnocpphdaaDoor.Cd
open Go Go.RowKit
open Go.Proofs.YtiicjbnocpphdaaDoor.Lx Go.Proofs.YtiicjbnocpphdaaDoor.Tr
open Go.Proofs.YtiicjbnocpphdaaDoor.Vq Go.Proofs.YtiicjbnocpphdaaDoor.Qr
open Go.Proofs.YtiicjbnocpphdaaDoor.Qg (run_call1 run_call2 run_call3)

def rsN (p : Pg) (bx : Nat) (i : Ins) (b : Bool) : List (Value → World → Prop) :=
  [VK p.val, VK (.pointer (some ⟨bx, 0, none⟩)), VK (.agg ⟨i.vals⟩), VK (.bool b), VK (.pointer (some ⟨bx, 6, none⟩)), VK (.bool b), VK (.bool false), VK (.bool false), VK p.val, VK (.pointer (some ⟨bx, 0, none⟩)), VK (.agg ⟨i.vals⟩), VK (.bool false), VK (.bool false), VK (.bool false), VK p.val, VK (.pointer (some ⟨bx, 0, none⟩)), VK (.agg ⟨i.vals⟩), VK (.bool false), VK (.bool false)]
theorem rsN_mono {p : Pg} {bx : Nat} {i : Ins} {b : Bool} : MonoL (rsN p bx i b) := ⟨VK.mono, VK.mono, VK.mono, VK.mono, VK.mono, VK.mono, VK.mono, VK.mono, VK.mono, VK.mono, VK.mono, VK.mono, VK.mono, VK.mono, VK.mono, VK.mono, VK.mono, VK.mono, VK.mono, trivial⟩
theorem fl_x0 {V : World} {b : Nat} : (Instr.fieldAt 32 (.pointer (some ⟨b, 0, none⟩)) 0).run Tryd.prog V = .ok (.pointer (some ⟨b, 0, none⟩)) V := by go_simp
theorem fl_x1 {V : World} {b : Nat} : (Instr.fieldAt 32 (.pointer (some ⟨b, 0, none⟩)) 1).run Tryd.prog V = .ok (.pointer (some ⟨b, 6, none⟩)) V := by go_simp
theorem ld_b {V : World} {b o : Nat} {v : Bool} (h : V.cell? ⟨b, o, none⟩ = some (.bool v)) : (Instr.loadAt 4 (.pointer (some ⟨b, o, none⟩))).run Tryd.prog V = .ok (.bool v) V := by go_simp
theorem x_cells {W : World} {bx : Nat} {x : Ins × Bool} (h : ∀ j u, (xVals x)[j]? = some u → W.cell? ⟨bx, j, none⟩ = some u) : (W.cell? ⟨bx, 0, none⟩ = some (.int .u8 x.1.op) ∧ W.cell? ⟨bx, 1, none⟩ = some (.int .i64 x.1.r) ∧ W.cell? ⟨bx, 2, none⟩ = some (.int .i64 x.1.a) ∧ W.cell? ⟨bx, 3, none⟩ = some (.int .i64 x.1.b) ∧ W.cell? ⟨bx, 4, none⟩ = some (.int .i64 x.1.n) ∧ W.cell? ⟨bx, 5, none⟩ = some (.slice x.1.aa x.1.args.length x.1.acap)) ∧ W.cell? ⟨bx, 6, none⟩ = some (.bool x.2) :=
  ⟨⟨h 0 _ rfl, h 1 _ rfl, h 2 _ rfl, h 3 _ rfl, h 4 _ rfl, h 5 _ rfl⟩, h 6 _ rfl⟩
theorem load_in0 {i : Ins} {W : World} {b : Nat} (h : W.cell? ⟨b, 0, none⟩ = some (.int .u8 i.op) ∧ W.cell? ⟨b, 1, none⟩ = some (.int .i64 i.r) ∧ W.cell? ⟨b, 2, none⟩ = some (.int .i64 i.a) ∧ W.cell? ⟨b, 3, none⟩ = some (.int .i64 i.b) ∧ W.cell? ⟨b, 4, none⟩ = some (.int .i64 i.n) ∧ W.cell? ⟨b, 5, none⟩ = some (.slice i.aa i.args.length i.acap)) : (Instr.loadAt 31 (.pointer (some ⟨b, 0, none⟩))).run Tryd.prog W = .ok (.agg ⟨i.vals⟩) W := by
  obtain ⟨h0, h1, h2, h3, h4, h5⟩ := h
  simp [go_sem, h0, h1, h2, h3, h4, h5, Ins.vals]
set_option maxHeartbeats 16000000 in
set_option maxRecDepth 100000 in
theorem codeNames_law (w : World) (hT : OpTab w) (hsg : SignsIn w) (hfl : ∀ V, Below w.heap.size w V → Calls Tryd.prog 11 #[] V fun e V' => e = .returned (.bool true) ∧ Below V.heap.size V V') :
    Calls Tryd.prog 3 #[] w fun e w' => e = .returned (.bool true) ∧ Below w.heap.size w w' := by
  have hwk := Lib.hid (works_c w hT hsg)
  have hon := Lib.hid (fun (V : World) => one_any 3 [bk] (some ⟨V.heap.size, 0, none⟩) 1 (V.alloc (.cells ⟨bk.vals⟩ 31)) (i64_of (by decide) (by decide)) (row_blk (vs := inCells [bk]) 1 (blk_new _ _ rfl) (by decide) trivial) (fun i hi => by rw [List.mem_singleton.1 hi]; exact back_In _ _))
  have hpr := Lib.hid (fun V (hV : Below w.heap.size w V) => programs_c V (hT.keep hV) (hsg.below hsg.lt hV))
  replace hfl := Lib.hid hfl
  replace hT := Lib.hid hT
  clear hsg
  go_enter Tryd.func3, Tryd.ntmps3
  go_upto_region 3 with (go_at_call 7; refine hwk.out.mono ?_; rintro e V1 ⟨rfl, hb1⟩)
  go_wp2_with (go_at_call 8; refine (hon.out _).mono ?_; rintro e V2 ⟨ma, la, fa, aa, ba, mc, lc, fc, ac, bc, rfl, hin, hb2⟩)
  refine wp_bs _ _ _ (cnQs V2.heap.size) _ rfl (by kernel_rfl) (cn_build V2.heap.size _) ?_
  obtain ⟨p, hp⟩ : ∃ p, oneP ma la fa aa (some ⟨V1.heap.size, 0, none⟩) ba mc lc fc ac 1 bc 3 [bk] = p := ⟨_, rfl⟩
  have hall := cn_all V2.heap.size ma la fa aa (some ⟨V1.heap.size, 0, none⟩) ba mc lc fc ac 1 bc
  have hbw2 : Below w.heap.size w V2 := hb1.trans ((b_next hb2).mono hb1.size)
  rw [hp] at hin hall
  rw [hp]
  clear hp hon hwk hb1 hb2
  have hpx := pg_cells (p := p) (box_new V2 p.vals 27)
  obtain ⟨W3, hW3⟩ : ∃ W3, ((((((V2.alloc (.cells ⟨p.vals⟩ 27)).alloc (.cells ⟨numCells [0, 2]⟩ 3)).alloc (.cells ⟨numCells [0]⟩ 3)).alloc (.cells ⟨numCells [0, 1, 2]⟩ 3)).alloc (.cells ⟨numCells [0, 3]⟩ 3)).alloc (.cells ⟨numCells [1]⟩ 3)).alloc (.cells ⟨(cnT V2.heap.size).flatMap xVals⟩ 32) = W3 := ⟨_, rfl⟩
  obtain ⟨g0, g1, g2, g3, g4, g5, g6, hb3⟩ := seven _ _ _ _ _ _ _ _ _ hW3
  simp only [numCells, List.map_cons, List.map_nil, Pg.vals] at hW3
  rw [hW3]
  clear hW3 hpx
  have hV3 : Hid (∀ V, Below W3.heap.size W3 V → (V.cell? ⟨V2.heap.size, 0, none⟩ = some (.slice p.ma p.mems.length p.mcap) ∧ V.cell? ⟨V2.heap.size, 1, none⟩ = some (.slice p.la p.locks.length p.lcap) ∧ V.cell? ⟨V2.heap.size, 2, none⟩ = some (.slice p.fa p.funs.length p.fcap)) ∧ (∀ x ∈ cnT V2.heap.size, U8 x.1.op ∧ RowAt V (fun _ => True) x.1.aa x.1.acap x.1.args.length (numCells x.1.args)) ∧ V.heap[V2.heap.size + 1 + 1 + 1 + 1 + 1 + 1]? = some (.cells ⟨(cnT V2.heap.size).flatMap xVals⟩ 32 (0, 0)) ∧ OpTab V ∧ Pg.In V (fun _ => True) p ∧ Below w.heap.size w V) := Lib.hid fun V hV => by
    have hk : ∀ b o, W3.heap[b]? = some o → V.heap[b]? = some o := fun b o h => (hV.block _ (Array.getElem?_eq_some_iff.1 h).1).trans h
    have h1 := hb3.trans (hV.mono hb3.size)
    have h2 := hbw2.trans (h1.mono hbw2.size)
    exact ⟨pg_cells (p := p) (cells_of (hk _ _ g0)), cn_row V2.heap.size V (hk _ _ g1) (hk _ _ g2) (hk _ _ g3) (hk _ _ g4) (hk _ _ g5), hk _ _ g6, hT.out.keep h2, hin.below (Kps.of_below h1), h2⟩
  have hall' : Hid (∀ x ∈ cnT V2.heap.size, mayI p 0 x.1 = x.2 ∧ mayI p 2 x.1 = false ∧ mayI p (-1) x.1 = false) := Lib.hid fun x hx => by
    have h := List.all_eq_true.1 hall x hx
    simp only [Bool.and_eq_true, beq_iff_eq, Bool.not_eq_true'] at h
    exact h
  clear hall hin hb3 hbw2 g0 g1 g2 g3 g4 g5 g6 hT
  go_wp2_with fail
  go_loopw [118] (fun t V => ∃ k : Nat, k ≤ 44 ∧ t = .int .i64 k ∧ Hid (Below W3.heap.size W3 V)) (fun t _ => 44 - (intOf t).toNat)
  case atStart => exact ⟨0, by omega, rfl, Lib.hid (Below.refl _ _)⟩
  case round =>
    obtain ⟨k, hk, rfl, hb⟩ := hrel
    by_cases hkl : k < 44
    · obtain ⟨x, hx⟩ : ∃ x, (cnT V2.heap.size)[k]? = some x := ⟨_, List.getElem?_eq_getElem (by rw [cn_len]; exact hkl)⟩
      obtain ⟨q0, q1, q2, q3, q4, q5⟩ := hV3.out _ hb.out
      have hxm := Lib.hid (List.mem_of_getElem? hx)
      obtain ⟨hux, hrx⟩ := q1 x (List.mem_of_getElem? hx)
      obtain ⟨hm0, hm2, hm1⟩ := hall'.out x (List.mem_of_getElem? hx)
      have hcl : ∀ j u, (xVals x)[j]? = some u → wr.cell? ⟨V2.heap.size + 1 + 1 + 1 + 1 + 1 + 1, k * 7 + j, none⟩ = some u := fun j u hu => by
        refine cells_of q2 _ _ ?_
        have hj : j < 7 := by have := (List.getElem?_eq_some_iff.1 hu).1; rw [xVals_len] at this; exact this
        rw [flat_at xVals 7 xVals_len _ k j x hx hj]
        exact hu
      have c0 : wr.cell? ⟨V2.heap.size + 1 + 1 + 1 + 1 + 1 + 1, k * 7, none⟩ = some (.int .u8 x.1.op) := hcl 0 _ rfl
      have c1 : wr.cell? ⟨V2.heap.size + 1 + 1 + 1 + 1 + 1 + 1, k * 7 + 1, none⟩ = some (.int .i64 x.1.r) := hcl 1 _ rfl
      have c2 : wr.cell? ⟨V2.heap.size + 1 + 1 + 1 + 1 + 1 + 1, k * 7 + 2, none⟩ = some (.int .i64 x.1.a) := hcl 2 _ rfl
      have c3 : wr.cell? ⟨V2.heap.size + 1 + 1 + 1 + 1 + 1 + 1, k * 7 + 3, none⟩ = some (.int .i64 x.1.b) := hcl 3 _ rfl
      have c4 : wr.cell? ⟨V2.heap.size + 1 + 1 + 1 + 1 + 1 + 1, k * 7 + 4, none⟩ = some (.int .i64 x.1.n) := hcl 4 _ rfl
      have c5 : wr.cell? ⟨V2.heap.size + 1 + 1 + 1 + 1 + 1 + 1, k * 7 + 5, none⟩ = some (.slice x.1.aa x.1.args.length x.1.acap) := hcl 5 _ rfl
      have c6 : wr.cell? ⟨V2.heap.size + 1 + 1 + 1 + 1 + 1 + 1, k * 7 + 6, none⟩ = some (.bool x.2) := hcl 6 _ rfl
      have hbx := x_cells (x := x) (box_new wr (xVals x) 32)
      have hal := b_alloc wr (.cells ⟨xVals x⟩ 32)
      simp only [xVals, Ins.vals, List.cons_append, List.nil_append] at hbx hal
      replace hbx := Lib.hid hbx
      have hbn0 := Lib.hid (hb.out.trans (hal.mono hb.out.size))
      have hk0 : (0 : Int) ≤ (k : Int) := by omega
      have hk1 : (k : Int) < 44 := by omega
      clear q0 q1 q2 q3 q4 q5 hcl hal hx hrx
      go_upto_region 7 with fail
      generalize hW4 : wr.alloc (.cells #[.int .u8 x.1.op, .int .i64 x.1.r, .int .i64 x.1.a, .int .i64 x.1.b, .int .i64 x.1.n, .slice x.1.aa x.1.args.length x.1.acap, .bool x.2] 32) = W4 at *
      clear hW4 c0 c1 c2 c3 c4 c5 c6
      generalize hBx : wr.heap.size = bx at *
      have h4 : Hid (∀ V, Below W4.heap.size W4 V → (V.cell? ⟨V2.heap.size, 0, none⟩ = some (.slice p.ma p.mems.length p.mcap) ∧ V.cell? ⟨V2.heap.size, 1, none⟩ = some (.slice p.la p.locks.length p.lcap) ∧ V.cell? ⟨V2.heap.size, 2, none⟩ = some (.slice p.fa p.funs.length p.fcap)) ∧ ((V.cell? ⟨bx, 0, none⟩ = some (.int .u8 x.1.op) ∧ V.cell? ⟨bx, 1, none⟩ = some (.int .i64 x.1.r) ∧ V.cell? ⟨bx, 2, none⟩ = some (.int .i64 x.1.a) ∧ V.cell? ⟨bx, 3, none⟩ = some (.int .i64 x.1.b) ∧ V.cell? ⟨bx, 4, none⟩ = some (.int .i64 x.1.n) ∧ V.cell? ⟨bx, 5, none⟩ = some (.slice x.1.aa x.1.args.length x.1.acap)) ∧ V.cell? ⟨bx, 6, none⟩ = some (.bool x.2)) ∧ RowAt V (fun _ => True) x.1.aa x.1.acap x.1.args.length (numCells x.1.args) ∧ OpTab V ∧ Pg.In V (fun _ => True) p) := Lib.hid fun V hV => by
        obtain ⟨q0, q1, q2, q3, q4, q5⟩ := hV3.out V (hbn0.out.trans (hV.mono hbn0.out.size))
        obtain ⟨⟨e0, e1, e2, e3, e4, e5⟩, e6⟩ := hbx.out
        exact ⟨q0, ⟨⟨below_in hV e0, below_in hV e1, below_in hV e2, below_in hV e3, below_in hV e4, below_in hV e5⟩, below_in hV e6⟩, (q1 x hxm.out).2, q3, q4⟩
      refine wp_region_rel (C := fun V => Below W4.heap.size W4 V) (E := Ext) (R := fun j => (rsN p bx x.1 x.2).getD j VT) (by kernel_rfl) ((Below.refl _ _).drew) (by kernel_rfl) (fun j v w' w'' _ hE h => mono_get _ j rsN_mono v w' w'' hE h) (steps_all ?hsN) ?hendN
      case hsN =>
          refine stepsL_cons (s_val fun a W hC hs => ?_) ?_
          · have hB := h4.out W hC
            have ho := old_of hs 1 (by kernel_rfl) (by rfl)
            exact ⟨wanted_none rfl, _, run_ld rfl (ev ho) (load_pgB hB.1), rfl⟩
          refine stepsL_cons (s_val fun a W hC hs => ?_) ?_
          · have ho := old_of hs 3 (by kernel_rfl) (by rfl)
            exact ⟨wanted_none rfl, _, run_fa rfl (ev ho) fl_x0, rfl⟩
          refine stepsL_cons (s_val fun a W hC hs => ?_) ?_
          · obtain ⟨v0, hv0, hR0⟩ := got_of hs 1 123 (by kernel_rfl) (by rfl)
            have hR0' : v0 = _ := hR0
            subst hR0'
            have hB := h4.out W hC
            exact ⟨wanted_none rfl, _, run_ld rfl (ev hv0) (load_in0 hB.2.1.1), rfl⟩
          refine stepsL_cons (s_call fun a W hC hs => ?_) ?_
          · obtain ⟨v0, hv0, hR0⟩ := got_of hs 0 122 (by kernel_rfl) (by rfl)
            have hR0' : v0 = _ := hR0
            subst hR0'
            obtain ⟨v1, hv1, hR1⟩ := got_of hs 2 124 (by kernel_rfl) (by rfl)
            have hR1' : v1 = _ := hR1
            subst hR1'
            have hB := h4.out W hC
            refine ⟨wanted_none rfl, 9, _, run_call3 rfl (ev hv0) (ev_const _) (ev hv1) (fun _ _ => rfl), (mayIns_any p 0 x.1 W hux (hB.2.2.1) hB.2.2.2.1 hB.2.2.2.2.frow).mono ?_⟩
            rintro e W' ⟨rfl, hb5⟩
            exact ⟨_, rfl, hC.trans (hb5.mono hC.size), hb5, by show Value.bool _ = _; rw [hm0]⟩
          refine stepsL_cons (s_val fun a W hC hs => ?_) ?_
          · have ho := old_of hs 3 (by kernel_rfl) (by rfl)
            exact ⟨wanted_none rfl, _, run_fa rfl (ev ho) fl_x1, rfl⟩
          refine stepsL_cons (s_val fun a W hC hs => ?_) ?_
          · obtain ⟨v0, hv0, hR0⟩ := got_of hs 4 126 (by kernel_rfl) (by rfl)
            have hR0' : v0 = _ := hR0
            subst hR0'
            have hB := h4.out W hC
            exact ⟨wanted_none rfl, _, run_ld rfl (ev hv0) (ld_b hB.2.1.2), rfl⟩
          refine stepsL_cons (s_val fun a W hC hs => ?_) ?_
          · obtain ⟨v0, hv0, hR0⟩ := got_of hs 3 125 (by kernel_rfl) (by rfl)
            have hR0' : v0 = _ := hR0
            subst hR0'
            obtain ⟨v1, hv1, hR1⟩ := got_of hs 5 127 (by kernel_rfl) (by rfl)
            have hR1' : v1 = _ := hR1
            subst hR1'
            exact ⟨wanted_none rfl, _, run_neb Tryd.underlying4 rfl (ev hv0) (ev hv1), rfl⟩
          refine stepsL_cons (s_val fun a W hC hs => ?_) ?_
          · obtain ⟨v0, hv0, hR0⟩ := got_of hs 6 128 (by kernel_rfl) (by rfl)
            have hR0' : v0 = _ := hR0
            subst hR0'
            exact ⟨wanted_none rfl, _, run_mv (Or.inl rfl) (ev hv0), rfl⟩
          refine stepsL_cons (s_val fun a W hC hs => ?_) ?_
          · obtain ⟨v9, hv9, hR9⟩ := got_of hs 7 129 (by kernel_rfl) (by rfl)
            have hR9' : v9 = _ := hR9
            subst hR9'
            have hB := h4.out W hC
            have ho := old_of hs 1 (by kernel_rfl) (by rfl)
            exact ⟨wanted_no (j := 7) (d := 129) rfl (by rfl) hv9, _, run_ld rfl (ev ho) (load_pgB hB.1), rfl⟩
          refine stepsL_cons (s_val fun a W hC hs => ?_) ?_
          · obtain ⟨v9, hv9, hR9⟩ := got_of hs 7 129 (by kernel_rfl) (by rfl)
            have hR9' : v9 = _ := hR9
            subst hR9'
            have ho := old_of hs 3 (by kernel_rfl) (by rfl)
            exact ⟨wanted_no (j := 7) (d := 129) rfl (by rfl) hv9, _, run_fa rfl (ev ho) fl_x0, rfl⟩
          refine stepsL_cons (s_val fun a W hC hs => ?_) ?_
          · obtain ⟨v9, hv9, hR9⟩ := got_of hs 7 129 (by kernel_rfl) (by rfl)
            have hR9' : v9 = _ := hR9
            subst hR9'
            obtain ⟨v0, hv0, hR0⟩ := got_of hs 9 131 (by kernel_rfl) (by rfl)
            have hR0' : v0 = _ := hR0
            subst hR0'
            have hB := h4.out W hC
            exact ⟨wanted_no (j := 7) (d := 129) rfl (by rfl) hv9, _, run_ld rfl (ev hv0) (load_in0 hB.2.1.1), rfl⟩
          refine stepsL_cons (s_call fun a W hC hs => ?_) ?_
          · obtain ⟨v9, hv9, hR9⟩ := got_of hs 7 129 (by kernel_rfl) (by rfl)
            have hR9' : v9 = _ := hR9
            subst hR9'
            obtain ⟨v0, hv0, hR0⟩ := got_of hs 8 130 (by kernel_rfl) (by rfl)
            have hR0' : v0 = _ := hR0
            subst hR0'
            obtain ⟨v1, hv1, hR1⟩ := got_of hs 10 132 (by kernel_rfl) (by rfl)
            have hR1' : v1 = _ := hR1
            subst hR1'
            have hB := h4.out W hC
            refine ⟨wanted_no (j := 7) (d := 129) rfl (by rfl) hv9, 9, _, run_call3 rfl (ev hv0) (ev_const _) (ev hv1) (fun _ _ => rfl), (mayIns_any p 2 x.1 W hux (hB.2.2.1) hB.2.2.2.1 hB.2.2.2.2.frow).mono ?_⟩
            rintro e W' ⟨rfl, hb5⟩
            exact ⟨_, rfl, hC.trans (hb5.mono hC.size), hb5, by show Value.bool _ = _; rw [hm2]⟩
          refine stepsL_cons (s_val fun a W hC hs => ?_) ?_
          · obtain ⟨v0, hv0, hR0⟩ := got_of hs 7 129 (by kernel_rfl) (by rfl)
            have hR0' : v0 = _ := hR0
            subst hR0'
            obtain ⟨v1, hv1, hR1⟩ := got_of hs 11 133 (by kernel_rfl) (by rfl)
            have hR1' : v1 = _ := hR1
            subst hR1'
            exact ⟨wanted_none rfl, _, run_pk rfl (ev hv0) (by rw [if_neg (by simp)]; exact ev hv1), rfl⟩
          refine stepsL_cons (s_val fun a W hC hs => ?_) ?_
          · obtain ⟨v0, hv0, hR0⟩ := got_of hs 12 134 (by kernel_rfl) (by rfl)
            have hR0' : v0 = _ := hR0
            subst hR0'
            exact ⟨wanted_none rfl, _, run_mv (Or.inl rfl) (ev hv0), rfl⟩
          refine stepsL_cons (s_val fun a W hC hs => ?_) ?_
          · obtain ⟨v9, hv9, hR9⟩ := got_of hs 13 135 (by kernel_rfl) (by rfl)
            have hR9' : v9 = _ := hR9
            subst hR9'
            have hB := h4.out W hC
            have ho := old_of hs 1 (by kernel_rfl) (by rfl)
            exact ⟨wanted_no (j := 13) (d := 135) rfl (by rfl) hv9, _, run_ld rfl (ev ho) (load_pgB hB.1), rfl⟩
          refine stepsL_cons (s_val fun a W hC hs => ?_) ?_
          · obtain ⟨v9, hv9, hR9⟩ := got_of hs 13 135 (by kernel_rfl) (by rfl)
            have hR9' : v9 = _ := hR9
            subst hR9'
            have ho := old_of hs 3 (by kernel_rfl) (by rfl)
            exact ⟨wanted_no (j := 13) (d := 135) rfl (by rfl) hv9, _, run_fa rfl (ev ho) fl_x0, rfl⟩
          refine stepsL_cons (s_val fun a W hC hs => ?_) ?_
          · obtain ⟨v9, hv9, hR9⟩ := got_of hs 13 135 (by kernel_rfl) (by rfl)
            have hR9' : v9 = _ := hR9
            subst hR9'
            obtain ⟨v0, hv0, hR0⟩ := got_of hs 15 137 (by kernel_rfl) (by rfl)
            have hR0' : v0 = _ := hR0
            subst hR0'
            have hB := h4.out W hC
            exact ⟨wanted_no (j := 13) (d := 135) rfl (by rfl) hv9, _, run_ld rfl (ev hv0) (load_in0 hB.2.1.1), rfl⟩
          refine stepsL_cons (s_call fun a W hC hs => ?_) ?_
          · obtain ⟨v9, hv9, hR9⟩ := got_of hs 13 135 (by kernel_rfl) (by rfl)
            have hR9' : v9 = _ := hR9
            subst hR9'
            obtain ⟨v0, hv0, hR0⟩ := got_of hs 14 136 (by kernel_rfl) (by rfl)
            have hR0' : v0 = _ := hR0
            subst hR0'
            obtain ⟨v1, hv1, hR1⟩ := got_of hs 16 138 (by kernel_rfl) (by rfl)
            have hR1' : v1 = _ := hR1
            subst hR1'
            have hB := h4.out W hC
            refine ⟨wanted_no (j := 13) (d := 135) rfl (by rfl) hv9, 9, _, run_call3 rfl (ev hv0) (ev_const _) (ev hv1) (fun _ _ => rfl), (mayIns_any p (-1) x.1 W hux (hB.2.2.1) hB.2.2.2.1 hB.2.2.2.2.frow).mono ?_⟩
            rintro e W' ⟨rfl, hb5⟩
            exact ⟨_, rfl, hC.trans (hb5.mono hC.size), hb5, by show Value.bool _ = _; rw [hm1]⟩
          refine stepsL_cons (s_val fun a W hC hs => ?_) ?_
          · obtain ⟨v0, hv0, hR0⟩ := got_of hs 13 135 (by kernel_rfl) (by rfl)
            have hR0' : v0 = _ := hR0
            subst hR0'
            obtain ⟨v1, hv1, hR1⟩ := got_of hs 17 139 (by kernel_rfl) (by rfl)
            have hR1' : v1 = _ := hR1
            subst hR1'
            exact ⟨wanted_none rfl, _, run_pk rfl (ev hv0) (by rw [if_neg (by simp)]; exact ev hv1), rfl⟩
          exact stepsL_nil
      case hendN =>
        intro σ V5 hC hR
        generalize hF : fillL _ _ _ _ _ = F
        simp [fillL, dstOf, List.range, List.range.loop, Act.put] at hF
        subst hF
        have h18 : σ 18 = .bool false := hR 18 (by simp)
        rw [h18]
        have hbn := Lib.hid (hbn0.out.trans (hC.mono hbn0.out.size))
        clear hR h18 h4 hbn0 hC hbx
        go_wp2_with fail
        go_roundw
        case rel => exact ⟨k + 1, by omega, by go_num, hbn⟩
        case measure => simp [intOf]; omega
    · have hk1 : ¬ (k : Int) < 44 := by omega
      have hbw := Lib.hid ((hV3.out _ hb.out).2.2.2.2.2)
      clear hV3 hall' hb
      go_wp2_with (first | (go_at_call 10; refine (hpr.out _ hbw.out).mono ?_; rintro e V6 ⟨rfl, hb6⟩; have hbw6 := Lib.hid (hbw.out.trans (hb6.mono hbw.out.size))) | (go_at_call 11; refine (hfl.out _ hbw6.out).mono ?_; rintro e V7 ⟨rfl, hb7⟩; have hbw7 := Lib.hid (hbw6.out.trans (hb7.mono hbw6.out.size))))
      go_ret
      exact ⟨rfl, hbw7.out⟩
end Go.Proofs.YtiicjbnocpphdaaDoor.Cd
