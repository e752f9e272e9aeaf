/- CodeMay answers true. Conditions: both programs lie in memory; their lists are of bounded length; the packages' tables hold their lists. -/
import Derived.Test.YtnoilcchegmpfaaDoorCgB
import Derived.Test.YtnoilcchegmpfaaDoorCgC
import Derived.Test.YtnoilcchegmpfaaDoorCfH
import Derived.Test.YtnoilcchegmpfaaDoorQVG
set_option linter.unusedSimpArgs false
set_option linter.unusedVariables false
namespace Go.Proofs.YtnoilcchegmpfaaDoor.Cd
open Go Go.RowKit
open Go.Proofs.YtnoilcchegmpfaaDoor.Lx Go.Proofs.YtnoilcchegmpfaaDoor.Tr Go.Proofs.YtnoilcchegmpfaaDoor.Pa
open Go.Proofs.YtnoilcchegmpfaaDoor.Vq Go.Proofs.YtnoilcchegmpfaaDoor.Qr
open Go.Proofs.YtnoilcchegmpfaaDoor.Qg (run_call1 run_call2)

/-! ### the law's region, operation by operation -/
def RT (p : Pg) (v : Value) (w : World) : Prop := ∃ a cap, v = .slice a (thrsP p).length cap ∧ RowAt w (fun _ => True) a cap (thrsP p).length (numCells (thrsP p))
theorem RT.mono {p : Pg} : Mono (RT p) := fun _ _ _ hb ⟨a, c, h1, h2⟩ => ⟨a, c, h1, h2.below (Kps.of_below hb)⟩
def rm (p q : Pg) : List (Value → World → Prop) :=
  [VK p.val, VK (.bool (mayP p)), VK p.val, VK (.bool (mayP p)), VK (.bool true), VK (.bool true), VK p.val, VK q.val, VK (.bool (sameP p q)), VK p.val, VK q.val, VK (.bool (sameP p q)), VK (.bool true), VK (.bool true), VK (.bool true), VK p.val, VK p.val, VK (.bool true), VK (.bool true), VK (.bool true), VK p.val, RT p, VK p.val, RT p, VK (.bool true), VK (.bool true), VK (.bool true)]
theorem rm_mono (p q : Pg) : MonoL (rm p q) :=
  ⟨VK.mono, VK.mono, VK.mono, VK.mono, VK.mono, VK.mono, VK.mono, VK.mono, VK.mono, VK.mono, VK.mono, VK.mono, VK.mono, VK.mono, VK.mono, VK.mono, VK.mono, VK.mono, VK.mono, VK.mono, VK.mono, RT.mono, VK.mono, RT.mono, VK.mono, VK.mono, VK.mono, trivial⟩
theorem run_eqb {a : Act} {o : Oper} {t t2 : TypeId} {x y : Operand} {b : Bool} {w : World} (ht : Tryd.prog.underlying t = some .bool) (ho : o.op = .binOp .eql t x y t2) (hx : a.eval x = .bool b) (hy : a.eval y = .bool b) : (execOp a.eval o).run Tryd.prog w = .ok (.value (.bool true)) w := by
  unfold execOp
  rw [ho]
  simp only [hx, hy]
  cases b <;> simp [go_sem, ht]
theorem load_pg {p : Pg} {W : World} {b : Nat} (h : W.cell? ⟨b, 0, none⟩ = some (.slice p.ma p.mems.length p.mcap) ∧ W.cell? ⟨b, 1, none⟩ = some (.slice p.la p.locks.length p.lcap) ∧ W.cell? ⟨b, 2, none⟩ = some (.slice p.fa p.funs.length p.fcap)) : (Instr.loadAt 26 (.pointer (some ⟨b, 0, none⟩))).run Tryd.prog W = .ok p.val W := by
  obtain ⟨h0, h1, h2⟩ := h
  simp [go_sem, h0, h1, h2, Pg.val]
set_option maxHeartbeats 8000000 in
set_option maxRecDepth 100000 in
theorem codeMay_law (p q : Pg) (w : World) (hp : Pg.In w (fun _ => True) p) (hq : Pg.In w (fun _ => True) q) (hS : Sml p) (hT : OpTab w) (hsg : SignsIn w) :
    Calls Tryd.prog 3 #[p.val, q.val] w fun e w' => e = .returned (.bool true) ∧ Below w.heap.size w w' := by
  have hsum := hS.sum
  have hst : Hid (Below w.heap.size w ((w.alloc (.cells #[.slice p.ma p.mems.length p.mcap, .slice p.la p.locks.length p.lcap, .slice p.fa p.funs.length p.fcap] 26)).alloc (.cells #[.slice q.ma q.mems.length q.mcap, .slice q.la q.locks.length q.lcap, .slice q.fa q.funs.length q.fcap] 26))) := Lib.hid (b_alloc2 _ _ _)
  have hbx : Hid (Bp2 w.heap.size p q ((w.alloc (.cells #[.slice p.ma p.mems.length p.mcap, .slice p.la p.locks.length p.lcap, .slice p.fa p.funs.length p.fcap] 26)).alloc (.cells #[.slice q.ma q.mems.length q.mcap, .slice q.la q.locks.length q.lcap, .slice q.fa q.funs.length q.fcap] 26))) := Lib.hid (bp2_new w p q)
  have hpV : Hid (∀ V, Below w.heap.size w V → Pg.In V (fun _ => True) p) := Lib.hid fun V hV => hp.below (Kps.of_below hV)
  have hqV : Hid (∀ V, Below w.heap.size w V → Pg.In V (fun _ => True) q) := Lib.hid fun V hV => hq.below (Kps.of_below hV)
  have hl1 := Lib.hid (fun V (hV : Below w.heap.size w V) => large_any p V (hpV.out V hV))
  have hl2 := Lib.hid (fun V (hV : Below w.heap.size w V) => large_any q V (hqV.out V hV))
  unfold Pg.val at hl1 hl2
  replace hT := Lib.hid hT
  replace hsg := Lib.hid hsg
  replace hS := Lib.hid hS
  clear hp hq
  go_enter Tryd.func3, Tryd.ntmps3
  go_upto_region 1 with fail
  generalize hW0 : (w.alloc (.cells #[.slice p.ma p.mems.length p.mcap, .slice p.la p.locks.length p.lcap, .slice p.fa p.funs.length p.fcap] 26)).alloc (.cells #[.slice q.ma q.mems.length q.mcap, .slice q.la q.locks.length q.lcap, .slice q.fa q.funs.length q.fcap] 26) = W0 at *
  clear hW0
  have hcell : Hid (∀ V, Below W0.heap.size W0 V → Bp2 w.heap.size p q V ∧ Below w.heap.size w V) := Lib.hid fun V hV => ⟨hbx.out.below hV, hst.out.trans (hV.mono hst.out.size)⟩
  clear hbx hst
  obtain ⟨⟨⟨x0, x1, x2⟩, y0, y1, y2⟩, hbw0⟩ := hcell.out W0 (Below.refl _ _)
  go_wp2_with fail
  refine (hl1.out _ hbw0).mono ?_
  rintro e V1 ⟨⟨b1, rfl⟩, hb1⟩
  clear x0 x1 x2 y0 y1 y2
  obtain ⟨⟨⟨x0, x1, x2⟩, y0, y1, y2⟩, hbw1⟩ := hcell.out V1 hb1
  cases b1 with
  | true =>
    go_wp2_with fail
    go_ret
    exact ⟨rfl, hbw1⟩
  | false =>
    go_wp2_with fail
    refine (hl2.out _ hbw1).mono ?_
    rintro e V2 ⟨⟨b2, rfl⟩, hb2⟩
    replace hb2 := hb1.trans (hb2.mono hb1.size)
    clear x0 x1 x2 y0 y1 y2 hb1 hbw1
    have hbw2 := (hcell.out V2 hb2).2
    cases b2 with
    | true =>
      go_wp2_with fail
      go_ret
      exact ⟨rfl, hbw2⟩
    | false =>
      go_upto_region 3 with fail
      refine wp_region_rel (C := fun V => Below W0.heap.size W0 V) (E := Ext) (R := fun i => (rm p q).getD i VT) (by kernel_rfl) hb2.drew (by kernel_rfl) (fun i v w' w'' _ hE h => mono_get _ i (rm_mono _ _) v w' w'' hE h) (steps_all ?hs) ?hend
      case hs =>
        refine stepsL_cons (s_val fun a W hC hs => ?_) ?_
        · have hB := (hcell.out W hC).1
          have ho := old_of hs 2 (by kernel_rfl) (by rfl)
          exact ⟨wanted_none rfl, _, run_ld rfl (ev ho) (load_pg hB.1), rfl⟩
        refine stepsL_cons (s_call fun a W hC hs => ?_) ?_
        · obtain ⟨v0, hv0, hR0⟩ := got_of hs 0 11 (by kernel_rfl) (by rfl)
          have hR0' : v0 = _ := hR0
          subst hR0'
          have hbw := (hcell.out W hC).2
          refine ⟨wanted_none rfl, 8, _, run_call1 rfl (ev hv0) (fun _ _ => rfl), (may_any p W (hpV.out W hbw) (hT.out.keep hbw) (hsg.out.below hsg.out.lt hbw) (by omega)).mono ?_⟩
          rintro e W' ⟨rfl, hb⟩
          exact ⟨_, rfl, hC.trans (hb.mono hC.size), hb, rfl⟩
        refine stepsL_cons (s_val fun a W hC hs => ?_) ?_
        · have hB := (hcell.out W hC).1
          have ho := old_of hs 2 (by kernel_rfl) (by rfl)
          exact ⟨wanted_none rfl, _, run_ld rfl (ev ho) (load_pg hB.1), rfl⟩
        refine stepsL_cons (s_call fun a W hC hs => ?_) ?_
        · obtain ⟨v0, hv0, hR0⟩ := got_of hs 2 13 (by kernel_rfl) (by rfl)
          have hR0' : v0 = _ := hR0
          subst hR0'
          have hbw := (hcell.out W hC).2
          refine ⟨wanted_none rfl, 9, _, run_call1 rfl (ev hv0) (fun _ _ => rfl), (rMay_any p W (hpV.out W hbw) hS.out).mono ?_⟩
          rintro e W' ⟨rfl, hb⟩
          exact ⟨_, rfl, hC.trans (hb.mono hC.size), hb, rfl⟩
        refine stepsL_cons (s_val fun a W hC hs => ?_) ?_
        · obtain ⟨v0, hv0, hR0⟩ := got_of hs 1 12 (by kernel_rfl) (by rfl)
          have hR0' : v0 = _ := hR0
          subst hR0'
          obtain ⟨v1, hv1, hR1⟩ := got_of hs 3 14 (by kernel_rfl) (by rfl)
          have hR1' : v1 = _ := hR1
          subst hR1'
          exact ⟨wanted_none rfl, _, run_eqb Tryd.underlying4 rfl (ev hv0) (ev hv1), rfl⟩
        refine stepsL_cons (s_val fun a W hC hs => ?_) ?_
        · obtain ⟨v0, hv0, hR0⟩ := got_of hs 4 15 (by kernel_rfl) (by rfl)
          have hR0' : v0 = _ := hR0
          subst hR0'
          exact ⟨wanted_none rfl, _, run_mv (Or.inl rfl) (ev hv0), rfl⟩
        refine stepsL_cons (s_val fun a W hC hs => ?_) ?_
        · obtain ⟨v9, hv9, hR9⟩ := got_of hs 5 16 (by kernel_rfl) (by rfl)
          have hR9' : v9 = _ := hR9
          subst hR9'
          have hB := (hcell.out W hC).1
          have ho := old_of hs 2 (by kernel_rfl) (by rfl)
          exact ⟨wanted_true (j := 5) (d := 16) rfl (by rfl) hv9, _, run_ld rfl (ev ho) (load_pg hB.1), rfl⟩
        refine stepsL_cons (s_val fun a W hC hs => ?_) ?_
        · obtain ⟨v9, hv9, hR9⟩ := got_of hs 5 16 (by kernel_rfl) (by rfl)
          have hR9' : v9 = _ := hR9
          subst hR9'
          have hB := (hcell.out W hC).1
          have ho := old_of hs 3 (by kernel_rfl) (by rfl)
          exact ⟨wanted_true (j := 5) (d := 16) rfl (by rfl) hv9, _, run_ld rfl (ev ho) (load_pg hB.2), rfl⟩
        refine stepsL_cons (s_call fun a W hC hs => ?_) ?_
        · obtain ⟨v9, hv9, hR9⟩ := got_of hs 5 16 (by kernel_rfl) (by rfl)
          have hR9' : v9 = _ := hR9
          subst hR9'
          obtain ⟨v0, hv0, hR0⟩ := got_of hs 6 17 (by kernel_rfl) (by rfl)
          have hR0' : v0 = _ := hR0
          subst hR0'
          obtain ⟨v1, hv1, hR1⟩ := got_of hs 7 18 (by kernel_rfl) (by rfl)
          have hR1' : v1 = _ := hR1
          subst hR1'
          have hbw := (hcell.out W hC).2
          refine ⟨wanted_true (j := 5) (d := 16) rfl (by rfl) hv9, 10, _, run_call2 rfl (ev hv0) (ev hv1) (fun _ _ => rfl), (same_any p q W (hpV.out W hbw) (hqV.out W hbw)).mono ?_⟩
          rintro e W' ⟨rfl, hb⟩
          exact ⟨_, rfl, hC.trans (hb.mono hC.size), hb, rfl⟩
        refine stepsL_cons (s_val fun a W hC hs => ?_) ?_
        · obtain ⟨v9, hv9, hR9⟩ := got_of hs 5 16 (by kernel_rfl) (by rfl)
          have hR9' : v9 = _ := hR9
          subst hR9'
          have hB := (hcell.out W hC).1
          have ho := old_of hs 2 (by kernel_rfl) (by rfl)
          exact ⟨wanted_true (j := 5) (d := 16) rfl (by rfl) hv9, _, run_ld rfl (ev ho) (load_pg hB.1), rfl⟩
        refine stepsL_cons (s_val fun a W hC hs => ?_) ?_
        · obtain ⟨v9, hv9, hR9⟩ := got_of hs 5 16 (by kernel_rfl) (by rfl)
          have hR9' : v9 = _ := hR9
          subst hR9'
          have hB := (hcell.out W hC).1
          have ho := old_of hs 3 (by kernel_rfl) (by rfl)
          exact ⟨wanted_true (j := 5) (d := 16) rfl (by rfl) hv9, _, run_ld rfl (ev ho) (load_pg hB.2), rfl⟩
        refine stepsL_cons (s_call fun a W hC hs => ?_) ?_
        · obtain ⟨v9, hv9, hR9⟩ := got_of hs 5 16 (by kernel_rfl) (by rfl)
          have hR9' : v9 = _ := hR9
          subst hR9'
          obtain ⟨v0, hv0, hR0⟩ := got_of hs 9 20 (by kernel_rfl) (by rfl)
          have hR0' : v0 = _ := hR0
          subst hR0'
          obtain ⟨v1, hv1, hR1⟩ := got_of hs 10 21 (by kernel_rfl) (by rfl)
          have hR1' : v1 = _ := hR1
          subst hR1'
          have hbw := (hcell.out W hC).2
          refine ⟨wanted_true (j := 5) (d := 16) rfl (by rfl) hv9, 11, _, run_call2 rfl (ev hv0) (ev hv1) (fun _ _ => rfl), (rsame_any p q W (hpV.out W hbw) (hqV.out W hbw)).mono ?_⟩
          rintro e W' ⟨rfl, hb⟩
          exact ⟨_, rfl, hC.trans (hb.mono hC.size), hb, rfl⟩
        refine stepsL_cons (s_val fun a W hC hs => ?_) ?_
        · obtain ⟨v9, hv9, hR9⟩ := got_of hs 5 16 (by kernel_rfl) (by rfl)
          have hR9' : v9 = _ := hR9
          subst hR9'
          obtain ⟨v0, hv0, hR0⟩ := got_of hs 8 19 (by kernel_rfl) (by rfl)
          have hR0' : v0 = _ := hR0
          subst hR0'
          obtain ⟨v1, hv1, hR1⟩ := got_of hs 11 22 (by kernel_rfl) (by rfl)
          have hR1' : v1 = _ := hR1
          subst hR1'
          exact ⟨wanted_true (j := 5) (d := 16) rfl (by rfl) hv9, _, run_eqb Tryd.underlying4 rfl (ev hv0) (ev hv1), rfl⟩
        refine stepsL_cons (s_val fun a W hC hs => ?_) ?_
        · obtain ⟨v0, hv0, hR0⟩ := got_of hs 5 16 (by kernel_rfl) (by rfl)
          have hR0' : v0 = _ := hR0
          subst hR0'
          obtain ⟨v1, hv1, hR1⟩ := got_of hs 12 23 (by kernel_rfl) (by rfl)
          have hR1' : v1 = _ := hR1
          subst hR1'
          exact ⟨wanted_none rfl, _, run_pk rfl (ev hv0) (by rw [if_pos rfl]; exact ev hv1), rfl⟩
        refine stepsL_cons (s_val fun a W hC hs => ?_) ?_
        · obtain ⟨v0, hv0, hR0⟩ := got_of hs 13 24 (by kernel_rfl) (by rfl)
          have hR0' : v0 = _ := hR0
          subst hR0'
          exact ⟨wanted_none rfl, _, run_mv (Or.inl rfl) (ev hv0), rfl⟩
        refine stepsL_cons (s_val fun a W hC hs => ?_) ?_
        · obtain ⟨v9, hv9, hR9⟩ := got_of hs 14 25 (by kernel_rfl) (by rfl)
          have hR9' : v9 = _ := hR9
          subst hR9'
          have hB := (hcell.out W hC).1
          have ho := old_of hs 2 (by kernel_rfl) (by rfl)
          exact ⟨wanted_true (j := 14) (d := 25) rfl (by rfl) hv9, _, run_ld rfl (ev ho) (load_pg hB.1), rfl⟩
        refine stepsL_cons (s_val fun a W hC hs => ?_) ?_
        · obtain ⟨v9, hv9, hR9⟩ := got_of hs 14 25 (by kernel_rfl) (by rfl)
          have hR9' : v9 = _ := hR9
          subst hR9'
          have hB := (hcell.out W hC).1
          have ho := old_of hs 2 (by kernel_rfl) (by rfl)
          exact ⟨wanted_true (j := 14) (d := 25) rfl (by rfl) hv9, _, run_ld rfl (ev ho) (load_pg hB.1), rfl⟩
        refine stepsL_cons (s_call fun a W hC hs => ?_) ?_
        · obtain ⟨v9, hv9, hR9⟩ := got_of hs 14 25 (by kernel_rfl) (by rfl)
          have hR9' : v9 = _ := hR9
          subst hR9'
          obtain ⟨v0, hv0, hR0⟩ := got_of hs 15 26 (by kernel_rfl) (by rfl)
          have hR0' : v0 = _ := hR0
          subst hR0'
          obtain ⟨v1, hv1, hR1⟩ := got_of hs 16 27 (by kernel_rfl) (by rfl)
          have hR1' : v1 = _ := hR1
          subst hR1'
          have hbw := (hcell.out W hC).2
          refine ⟨wanted_true (j := 14) (d := 25) rfl (by rfl) hv9, 10, _, run_call2 rfl (ev hv0) (ev hv1) (fun _ _ => rfl), (same_any p p W (hpV.out W hbw) (hpV.out W hbw)).mono ?_⟩
          rintro e W' ⟨rfl, hb⟩
          exact ⟨_, rfl, hC.trans (hb.mono hC.size), hb, by show Value.bool _ = _; rw [sameP_refl]⟩
        refine stepsL_cons (s_val fun a W hC hs => ?_) ?_
        · obtain ⟨v0, hv0, hR0⟩ := got_of hs 14 25 (by kernel_rfl) (by rfl)
          have hR0' : v0 = _ := hR0
          subst hR0'
          obtain ⟨v1, hv1, hR1⟩ := got_of hs 17 28 (by kernel_rfl) (by rfl)
          have hR1' : v1 = _ := hR1
          subst hR1'
          exact ⟨wanted_none rfl, _, run_pk rfl (ev hv0) (by rw [if_pos rfl]; exact ev hv1), rfl⟩
        refine stepsL_cons (s_val fun a W hC hs => ?_) ?_
        · obtain ⟨v0, hv0, hR0⟩ := got_of hs 18 29 (by kernel_rfl) (by rfl)
          have hR0' : v0 = _ := hR0
          subst hR0'
          exact ⟨wanted_none rfl, _, run_mv (Or.inl rfl) (ev hv0), rfl⟩
        refine stepsL_cons (s_val fun a W hC hs => ?_) ?_
        · obtain ⟨v9, hv9, hR9⟩ := got_of hs 19 30 (by kernel_rfl) (by rfl)
          have hR9' : v9 = _ := hR9
          subst hR9'
          have hB := (hcell.out W hC).1
          have ho := old_of hs 2 (by kernel_rfl) (by rfl)
          exact ⟨wanted_true (j := 19) (d := 30) rfl (by rfl) hv9, _, run_ld rfl (ev ho) (load_pg hB.1), rfl⟩
        refine stepsL_cons (s_call fun a W hC hs => ?_) ?_
        · obtain ⟨v9, hv9, hR9⟩ := got_of hs 19 30 (by kernel_rfl) (by rfl)
          have hR9' : v9 = _ := hR9
          subst hR9'
          obtain ⟨v0, hv0, hR0⟩ := got_of hs 20 31 (by kernel_rfl) (by rfl)
          have hR0' : v0 = _ := hR0
          subst hR0'
          have hbw := (hcell.out W hC).2
          refine ⟨wanted_true (j := 19) (d := 30) rfl (by rfl) hv9, 13, _, run_call1 rfl (ev hv0) (fun _ _ => rfl), (threads_any p W (hpV.out W hbw).frow (by omega)).mono ?_⟩
          rintro e W' ⟨v, rfl, hown, hb⟩
          obtain ⟨a', c', rfl, hr⟩ := row_own hown
          exact ⟨_, rfl, hC.trans (hb.mono hC.size), hb, a', c', rfl, hr.mono fun _ _ => trivial⟩
        refine stepsL_cons (s_val fun a W hC hs => ?_) ?_
        · obtain ⟨v9, hv9, hR9⟩ := got_of hs 19 30 (by kernel_rfl) (by rfl)
          have hR9' : v9 = _ := hR9
          subst hR9'
          have hB := (hcell.out W hC).1
          have ho := old_of hs 2 (by kernel_rfl) (by rfl)
          exact ⟨wanted_true (j := 19) (d := 30) rfl (by rfl) hv9, _, run_ld rfl (ev ho) (load_pg hB.1), rfl⟩
        refine stepsL_cons (s_call fun a W hC hs => ?_) ?_
        · obtain ⟨v9, hv9, hR9⟩ := got_of hs 19 30 (by kernel_rfl) (by rfl)
          have hR9' : v9 = _ := hR9
          subst hR9'
          obtain ⟨v0, hv0, hR0⟩ := got_of hs 22 33 (by kernel_rfl) (by rfl)
          have hR0' : v0 = _ := hR0
          subst hR0'
          have hbw := (hcell.out W hC).2
          refine ⟨wanted_true (j := 19) (d := 30) rfl (by rfl) hv9, 14, _, run_call1 rfl (ev hv0) (fun _ _ => rfl), (rthreads_any p W (hpV.out W hbw).frow (by omega)).mono ?_⟩
          rintro e W' ⟨v, rfl, hown, hb⟩
          obtain ⟨a', c', rfl, hr⟩ := row_own hown
          exact ⟨_, rfl, hC.trans (hb.mono hC.size), hb, a', c', rfl, hr.mono fun _ _ => trivial⟩
        refine stepsL_cons (s_call fun a W hC hs => ?_) ?_
        · obtain ⟨v9, hv9, hR9⟩ := got_of hs 19 30 (by kernel_rfl) (by rfl)
          have hR9' : v9 = _ := hR9
          subst hR9'
          obtain ⟨v0, hv0, hR0⟩ := got_of hs 21 32 (by kernel_rfl) (by rfl)
          obtain ⟨v1, hv1, hR1⟩ := got_of hs 23 34 (by kernel_rfl) (by rfl)
          have hbw := (hcell.out W hC).2
          obtain ⟨a0, c0, e0, r0⟩ : RT p v0 W := hR0
          obtain ⟨a1, c1, e1, r1⟩ : RT p v1 W := hR1
          subst e0 e1
          refine ⟨wanted_true (j := 19) (d := 30) rfl (by rfl) hv9, 12, _, run_call2 rfl (ev hv0) (ev hv1) (fun _ _ => rfl), (ints_any (thrsP p) (thrsP p) a0 a1 c0 c1 W r0 r1).mono ?_⟩
          rintro e W' ⟨rfl, hb⟩
          exact ⟨_, rfl, hC.trans (hb.mono hC.size), hb, by show Value.bool _ = _; rw [decide_eq_true rfl]⟩
        refine stepsL_cons (s_val fun a W hC hs => ?_) ?_
        · obtain ⟨v0, hv0, hR0⟩ := got_of hs 19 30 (by kernel_rfl) (by rfl)
          have hR0' : v0 = _ := hR0
          subst hR0'
          obtain ⟨v1, hv1, hR1⟩ := got_of hs 24 35 (by kernel_rfl) (by rfl)
          have hR1' : v1 = _ := hR1
          subst hR1'
          exact ⟨wanted_none rfl, _, run_pk rfl (ev hv0) (by rw [if_pos rfl]; exact ev hv1), rfl⟩
        refine stepsL_cons (s_val fun a W hC hs => ?_) ?_
        · obtain ⟨v0, hv0, hR0⟩ := got_of hs 25 36 (by kernel_rfl) (by rfl)
          have hR0' : v0 = _ := hR0
          subst hR0'
          exact ⟨wanted_none rfl, _, run_mv (Or.inr rfl) (ev hv0), rfl⟩
        exact stepsL_nil
      case hend =>
        intro σ V hC hR
        generalize hF : fillL _ _ _ _ _ = F
        simp [fillL, dstOf, List.range, List.range.loop, Act.put] at hF
        subst hF
        have h26 : σ 26 = .bool true := hR 26 (by simp)
        have hfin := Lib.hid (hcell.out V hC).2
        rw [h26]
        clear hR hcell hpV hqV hT hsg hS hl1 hl2
        go_wp2_with fail
        go_ret
        exact ⟨rfl, hfin.out⟩
end Go.Proofs.YtnoilcchegmpfaaDoor.Cd
