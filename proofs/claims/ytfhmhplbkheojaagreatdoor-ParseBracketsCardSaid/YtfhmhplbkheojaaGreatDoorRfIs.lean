/- Walks of the document's own answers: sameStmts. Conditions: none. -/
import Derived.Test.YtfhmhplbkheojaaGreatDoorGrBA
import Derived.Test.YtfhmhplbkheojaaGreatDoorGrAY
import Derived.Deep.RegionHeld3
import Derived.Deep.DrawnRows
import Derived.Deep.Cut
import Derived.Deep.Quiet
namespace Go.Proofs.YtfhmhplbkheojaaGreatDoor.Tr
open Go Go.RowKit
open Go.Proofs.YtfhmhplbkheojaaGreatDoor.Lx
open Go.Proofs.YtfhmhplbkheojaaGreatDoor.Qg

theorem bool_ne {a b : Bool} (h : ¬ a = b) : (a == b) = false := by simpa using h
set_option maxHeartbeats 40000000 in
set_option maxRecDepth 100000 in
theorem refsameSs_any : ∀ (s : Nat) (l l' : List St) (a a' : Option Addr) (cap cap' : Nat) (w : World), St.szL l ≤ s → RowAt w (fun _ => True) a cap l.length (stCells l) → RowAt w (fun _ => True) a' cap' l'.length (stCells l') → St.InL w (fun _ => True) l → St.InL w (fun _ => True) l' →
    Calls Tryz.prog 51 #[.slice a l.length cap, .slice a' l'.length cap'] w fun x w' => x = .returned (.bool (sameSL l l')) ∧ Below w.heap.size w w' := by
  intro s
  induction s using Nat.strongRecOn with
  | _ s ih =>
    intro l l' a a' cap cap' w hs hrow hrow' hin hin'
    have hll : l.length ≤ 9223372036854775807 := by have := hrow.le; have := hrow.lim; unfold maxLen at this; omega
    have hll' : l'.length ≤ 9223372036854775807 := by have := hrow'.le; have := hrow'.lim; unfold maxLen at this; omega
    have hcx := fun (k : Nat) (x x' : St) (W : World) (hx : l[k]? = some x) (hx' : l'[k]? = some x') (hb : Below w.heap.size w W) => And.intro (St.In.below (Kps.of_below (S := fun _ => True) hb) _ (hin.get hx)) (And.intro (St.In.below (Kps.of_below (S := fun _ => True) hb) _ (hin'.get hx')) (ih (x.sz - 1) (by have := St.sz_get hx; have := St.sz_pos x; omega)))
    replace hcx := Lib.hid hcx
    clear ih hin hin'
    by_cases hle : l.length = l'.length
    · have hne : ((l.length : Int) != (l'.length : Int)) = false := by rw [hle]; simp
      have hle' := Lib.hid hle
      go_enter Tryz.func51, Tryz.ntmps51
      clear hle
      go_wp2_with fail
      go_loopw [5] (fun i wr => ∃ k : Nat, k ≤ l.length ∧ i = .int .i64 k ∧ Hid (sameSL l l' = sameSL (l.drop k) (l'.drop k)) ∧ Below w.heap.size w wr) (fun i _ => l.length - (intOf i).toNat)
      case atStart => exact ⟨0, Nat.zero_le _, rfl, Lib.hid rfl, Below.refl _ _⟩
      case round =>
        obtain ⟨k, hk, rfl, hsame, hbr⟩ := hrel
        by_cases hlt : k < l.length
        · have hlt' : k < l'.length := by rw [← hle'.out]; exact hlt
          obtain ⟨e, he⟩ : ∃ e, l[k]? = some e := ⟨l[k], by simp [hlt]⟩
          obtain ⟨e', he'⟩ : ∃ e, l'[k]? = some e := ⟨l'[k], by simp [hlt']⟩
          obtain ⟨b, off, rfl, _, hcell⟩ := st_row hrow k e he
          obtain ⟨b', off', rfl, _, hcell'⟩ := st_row hrow' k e' he'
          obtain ⟨hi1, hi2, hrec⟩ := hcx.out k e e' wr he he' hbr
          have hdr := sameSL_drop l l' k e e' he he'
          have hsame1 := hsame.out
          rw [hdr] at hsame1
          obtain ⟨xk, xnm, xto, xnw, ea, ecap, xe, ba, bcap, xbody, la, lcap, xels, xpos⟩ := e
          obtain ⟨yk, ynm, yto, ynw, fa, fcap, ye, ca, ccap, ybody, ma, mcap, yels, ypos⟩ := e'
          rw [sameS_eq] at hsame1
          have hsz : St.sz (.mk xk xnm xto xnw ea ecap xe ba bcap xbody la lcap xels xpos) = 1 + Ex.szL xe + St.szL xbody + St.szL xels := by unfold St.sz; rfl
          rw [hsz] at hrec
          unfold St.In at hi1 hi2
          obtain ⟨_, _, _, _, re1, ie1, rb1, ib1, rl1, il1⟩ := hi1
          obtain ⟨_, _, _, _, re2, ie2, rb2, ib2, rl2, il2⟩ := hi2
          have cE := fun V (h : Below wr.heap.size wr V) => refsameEs_any xe ye ea fa ecap fcap V (re1.below (Kps.of_below h)) (re2.below (Kps.of_below h)) (Ex.InL.below (Kps.of_below h) _ ie1) (Ex.InL.below (Kps.of_below h) _ ie2)
          have cB := fun V (h : Below wr.heap.size wr V) => hrec xbody ybody ba ca bcap ccap V (by omega) (rb1.below (Kps.of_below h)) (rb2.below (Kps.of_below h)) (St.InL.below (Kps.of_below h) _ ib1) (St.InL.below (Kps.of_below h) _ ib2)
          have cL := fun V (h : Below wr.heap.size wr V) => hrec xels yels la ma lcap mcap V (by omega) (rl1.below (Kps.of_below h)) (rl2.below (Kps.of_below h)) (St.InL.below (Kps.of_below h) _ il1) (St.InL.below (Kps.of_below h) _ il2)
          generalize sameEL xe ye = vE at *
          generalize sameSL xbody ybody = vB at *
          generalize sameSL xels yels = vL at *
          simp only [← Nat.add_assoc] at hcell hcell'
          have d0 := below_in hbr (hcell 0 _ rfl)
          have d1 := below_in hbr (hcell 1 _ rfl)
          have d2 := below_in hbr (hcell 2 _ rfl)
          have d3 := below_in hbr (hcell 3 _ rfl)
          have d4 := below_in hbr (hcell 4 _ rfl)
          have d5 := below_in hbr (hcell 5 _ rfl)
          have d6 := below_in hbr (hcell 6 _ rfl)
          have f0 := below_in hbr (hcell' 0 _ rfl)
          have f1 := below_in hbr (hcell' 1 _ rfl)
          have f2 := below_in hbr (hcell' 2 _ rfl)
          have f3 := below_in hbr (hcell' 3 _ rfl)
          have f4 := below_in hbr (hcell' 4 _ rfl)
          have f5 := below_in hbr (hcell' 5 _ rfl)
          have f6 := below_in hbr (hcell' 6 _ rfl)
          simp only [Nat.add_zero] at d0 f0
          replace cE := Lib.hid cE
          replace cB := Lib.hid cB
          replace cL := Lib.hid cL
          replace hsame1 := Lib.hid hsame1
          clear hcell hcell' he he' hrow hrow' hdr hrec hsz re1 ie1 rb1 ib1 rl1 il1 re2 ie2 rb2 ib2 rl2 il2
          have hfin : Hid (∀ V, Below wr.heap.size wr V → Below w.heap.size w V) := Lib.hid fun V h => hbr.trans (h.mono hbr.size)
          replace hbr := Lib.hid hbr
          have hlt1 : (k : Int) < (l.length : Int) := by omega
          have hlt2 : (k : Int) < (l'.length : Int) := by omega
          obtain ⟨c0, e0⟩ : ∃ c : Bool, Hid (c = decide (¬ xk = yk)) := ⟨_, Lib.hid rfl⟩
          have n0 : ∀ (p q : Operand) (V : World), (do eqGuard .neq 5 p q (.int .u8 xk) (.int .u8 yk); binOp .neq 5 (.int .u8 xk) (.int .u8 yk) : Sem Value).run Tryz.prog V = .ok (.bool c0) V := fun p q V => by rw [e0.out]; exact ne_u8
          obtain ⟨c1, e1⟩ : ∃ c : Bool, Hid (c = decide (¬ xnm = ynm)) := ⟨_, Lib.hid rfl⟩
          have n1 : ∀ (p q : Operand) (V : World), (do eqGuard .neq 9 p q (.string xnm) (.string ynm); binOp .neq 9 (.string xnm) (.string ynm) : Sem Value).run Tryz.prog V = .ok (.bool c1) V := fun p q V => by rw [e1.out]; exact ne_str
          obtain ⟨c2, e2⟩ : ∃ c : Bool, Hid (c = decide (¬ xto = yto)) := ⟨_, Lib.hid rfl⟩
          have n2 : ∀ (p q : Operand) (V : World), (do eqGuard .neq 9 p q (.string xto) (.string yto); binOp .neq 9 (.string xto) (.string yto) : Sem Value).run Tryz.prog V = .ok (.bool c2) V := fun p q V => by rw [e2.out]; exact ne_str
          obtain ⟨c3, e3⟩ : ∃ c : Bool, Hid (c = decide (¬ xnw = ynw)) := ⟨_, Lib.hid rfl⟩
          have n3 : ∀ (p q : Operand) (V : World), (do eqGuard .neq 4 p q (.bool xnw) (.bool ynw); binOp .neq 4 (.bool xnw) (.bool ynw) : Sem Value).run Tryz.prog V = .ok (.bool c3) V := fun p q V => by rw [e3.out]; exact ne_bool
          obtain ⟨c4, e4⟩ : ∃ c : Bool, Hid (c = !vE) := ⟨_, Lib.hid rfl⟩
          have n4 : ∀ V : World, (Op.unary .not (.bool vE)).run Tryz.prog V = .ok (.bool c4) V := fun V => by rw [e4.out]; exact not_run
          obtain ⟨c5, e5⟩ : ∃ c : Bool, Hid (c = !vB) := ⟨_, Lib.hid rfl⟩
          have n5 : ∀ V : World, (Op.unary .not (.bool vB)).run Tryz.prog V = .ok (.bool c5) V := fun V => by rw [e5.out]; exact not_run
          obtain ⟨c6, e6⟩ : ∃ c : Bool, Hid (c = !vL) := ⟨_, Lib.hid rfl⟩
          have n6 : ∀ V : World, (Op.unary .not (.bool vL)).run Tryz.prog V = .ok (.bool c6) V := fun V => by rw [e6.out]; exact not_run
          obtain ⟨o1, g1⟩ : ∃ c : Bool, Hid (c = (c0 || c1)) := ⟨_, Lib.hid rfl⟩
          have k1 : (if c0 = true then Value.bool true else gv c0 false (.bool c1)) = .bool o1 := by rw [g1.out]; exact pick_or
          obtain ⟨o2, g2⟩ : ∃ c : Bool, Hid (c = (o1 || c2)) := ⟨_, Lib.hid rfl⟩
          have k2 : (if o1 = true then Value.bool true else gv o1 false (.bool c2)) = .bool o2 := by rw [g2.out]; exact pick_or
          obtain ⟨o3, g3⟩ : ∃ c : Bool, Hid (c = (o2 || c3)) := ⟨_, Lib.hid rfl⟩
          have k3 : (if o2 = true then Value.bool true else gv o2 false (.bool c3)) = .bool o3 := by rw [g3.out]; exact pick_or
          obtain ⟨o4, g4⟩ : ∃ c : Bool, Hid (c = (o3 || c4)) := ⟨_, Lib.hid rfl⟩
          have k4 : (if o3 = true then Value.bool true else gv o3 false (.bool c4)) = .bool o4 := by rw [g4.out]; exact pick_or
          obtain ⟨o5, g5⟩ : ∃ c : Bool, Hid (c = (o4 || c5)) := ⟨_, Lib.hid rfl⟩
          have k5 : (if o4 = true then Value.bool true else gv o4 false (.bool c5)) = .bool o5 := by rw [g5.out]; exact pick_or
          obtain ⟨o6, g6⟩ : ∃ c : Bool, Hid (c = (o5 || c6)) := ⟨_, Lib.hid rfl⟩
          have k6 : (if o5 = true then Value.bool true else gv o5 false (.bool c6)) = .bool o6 := by rw [g6.out]; exact pick_or
          have q4 : ∀ V, Below wr.heap.size wr V → Calls Tryz.prog 94 #[(.slice ea xe.length ecap), (.slice fa ye.length fcap)] V (fun x w' => x = .returned (.bool vE) ∧ Below wr.heap.size wr w') := fun V hV => (cE.out V hV).mono fun x w' h2 => ⟨h2.1, hV.trans (h2.2.mono hV.size)⟩
          have q5 : ∀ V, Below wr.heap.size wr V → Calls Tryz.prog 51 #[(.slice ba xbody.length bcap), (.slice ca ybody.length ccap)] V (fun x w' => x = .returned (.bool vB) ∧ Below wr.heap.size wr w') := fun V hV => (cB.out V hV).mono fun x w' h2 => ⟨h2.1, hV.trans (h2.2.mono hV.size)⟩
          have q6 : ∀ V, Below wr.heap.size wr V → Calls Tryz.prog 51 #[(.slice la xels.length lcap), (.slice ma yels.length mcap)] V (fun x w' => x = .returned (.bool vL) ∧ Below wr.heap.size wr w') := fun V hV => (cL.out V hV).mono fun x w' h2 => ⟨h2.1, hV.trans (h2.2.mono hV.size)⟩
          clear cE cB cL
          go_upto_region 6 with fail
          refine wp_region_quiet (C := fun V => Below wr.heap.size wr V) (by kernel_rfl) (by kernel_rfl) (Below.refl _ _).drew ?_
          refine q_val (v := (.slice (some ⟨b, off, none⟩) l.length cap)) rfl (fun V hV => rfl) (by simp only [Act.put, List.setIfInBounds_toArray, List.set_cons_zero, List.set_cons_succ]; rfl) ?_
          refine q_val (v := (.int .i64 k)) rfl (fun V hV => rfl) (by simp only [Act.put, List.setIfInBounds_toArray, List.set_cons_zero, List.set_cons_succ]; rfl) ?_
          refine q_val (v := (.pointer (some ⟨b, off + k * 8, none⟩))) rfl (fun V hV => run_v (ix_st hlt1)) (by simp only [Act.put, List.setIfInBounds_toArray, List.set_cons_zero, List.set_cons_succ]; rfl) ?_
          refine q_val (v := (.pointer (some ⟨b, off + k * 8, none⟩))) rfl (fun V hV => run_v fl_st0) (by simp only [Act.put, List.setIfInBounds_toArray, List.set_cons_zero, List.set_cons_succ]; rfl) ?_
          refine q_val (v := (.int .u8 xk)) rfl (fun V hV => run_v (ld_u8 (below_in hV d0))) (by simp only [Act.put, List.setIfInBounds_toArray, List.set_cons_zero, List.set_cons_succ]; rfl) ?_
          refine q_val (v := (.slice (some ⟨b', off', none⟩) l'.length cap')) rfl (fun V hV => rfl) (by simp only [Act.put, List.setIfInBounds_toArray, List.set_cons_zero, List.set_cons_succ]; rfl) ?_
          refine q_val (v := (.int .i64 k)) rfl (fun V hV => rfl) (by simp only [Act.put, List.setIfInBounds_toArray, List.set_cons_zero, List.set_cons_succ]; rfl) ?_
          refine q_val (v := (.pointer (some ⟨b', off' + k * 8, none⟩))) rfl (fun V hV => run_v (ix_st hlt2)) (by simp only [Act.put, List.setIfInBounds_toArray, List.set_cons_zero, List.set_cons_succ]; rfl) ?_
          refine q_val (v := (.pointer (some ⟨b', off' + k * 8, none⟩))) rfl (fun V hV => run_v fl_st0) (by simp only [Act.put, List.setIfInBounds_toArray, List.set_cons_zero, List.set_cons_succ]; rfl) ?_
          refine q_val (v := (.int .u8 yk)) rfl (fun V hV => run_v (ld_u8 (below_in hV f0))) (by simp only [Act.put, List.setIfInBounds_toArray, List.set_cons_zero, List.set_cons_succ]; rfl) ?_
          refine q_val (v := (.bool c0)) rfl (fun V hV => run_v (n0 _ _ V)) (by simp only [Act.put, List.setIfInBounds_toArray, List.set_cons_zero, List.set_cons_succ]; rfl) ?_
          refine q_val (v := (.bool c0)) rfl (fun V hV => rfl) (by simp only [Act.put, List.setIfInBounds_toArray, List.set_cons_zero, List.set_cons_succ]; rfl) ?_
          refine g_val (j := 11) (want := false) (c := c0) (v := (.slice (some ⟨b, off, none⟩) l.length cap)) rfl rfl (fun hc V hV => by cases hc; exact rfl) (by simp only [Act.put, List.setIfInBounds_toArray, List.set_cons_zero, List.set_cons_succ]; rfl) ?_
          refine g_val (j := 11) (want := false) (c := c0) (v := (.int .i64 k)) rfl rfl (fun hc V hV => by cases hc; exact rfl) (by simp only [Act.put, List.setIfInBounds_toArray, List.set_cons_zero, List.set_cons_succ]; rfl) ?_
          refine g_val (j := 11) (want := false) (c := c0) (v := (.pointer (some ⟨b, off + k * 8, none⟩))) rfl rfl (fun hc V hV => by cases hc; exact run_v (ix_st hlt1)) (by simp only [Act.put, List.setIfInBounds_toArray, List.set_cons_zero, List.set_cons_succ]; rfl) ?_
          refine g_val (j := 11) (want := false) (c := c0) (v := (.pointer (some ⟨b, off + k * 8 + 1, none⟩))) rfl rfl (fun hc V hV => by cases hc; exact run_v fl_st1) (by simp only [Act.put, List.setIfInBounds_toArray, List.set_cons_zero, List.set_cons_succ]; rfl) ?_
          refine g_val (j := 11) (want := false) (c := c0) (v := (.string xnm)) rfl rfl (fun hc V hV => by cases hc; exact run_v (ld_str (below_in hV d1))) (by simp only [Act.put, List.setIfInBounds_toArray, List.set_cons_zero, List.set_cons_succ]; rfl) ?_
          refine g_val (j := 11) (want := false) (c := c0) (v := (.slice (some ⟨b', off', none⟩) l'.length cap')) rfl rfl (fun hc V hV => by cases hc; exact rfl) (by simp only [Act.put, List.setIfInBounds_toArray, List.set_cons_zero, List.set_cons_succ]; rfl) ?_
          refine g_val (j := 11) (want := false) (c := c0) (v := (.int .i64 k)) rfl rfl (fun hc V hV => by cases hc; exact rfl) (by simp only [Act.put, List.setIfInBounds_toArray, List.set_cons_zero, List.set_cons_succ]; rfl) ?_
          refine g_val (j := 11) (want := false) (c := c0) (v := (.pointer (some ⟨b', off' + k * 8, none⟩))) rfl rfl (fun hc V hV => by cases hc; exact run_v (ix_st hlt2)) (by simp only [Act.put, List.setIfInBounds_toArray, List.set_cons_zero, List.set_cons_succ]; rfl) ?_
          refine g_val (j := 11) (want := false) (c := c0) (v := (.pointer (some ⟨b', off' + k * 8 + 1, none⟩))) rfl rfl (fun hc V hV => by cases hc; exact run_v fl_st1) (by simp only [Act.put, List.setIfInBounds_toArray, List.set_cons_zero, List.set_cons_succ]; rfl) ?_
          refine g_val (j := 11) (want := false) (c := c0) (v := (.string ynm)) rfl rfl (fun hc V hV => by cases hc; exact run_v (ld_str (below_in hV f1))) (by simp only [Act.put, List.setIfInBounds_toArray, List.set_cons_zero, List.set_cons_succ]; rfl) ?_
          refine g_val (j := 11) (want := false) (c := c0) (v := (.bool c1)) rfl rfl (fun hc V hV => by cases hc; exact run_v (n1 _ _ V)) (by simp only [Act.put, List.setIfInBounds_toArray, List.set_cons_zero, List.set_cons_succ]; rfl) ?_
          refine q_val (v := (.bool o1)) rfl (fun V hV => congrArg (fun v => Result.ok (Next.value v) V) k1) (by simp only [Act.put, List.setIfInBounds_toArray, List.set_cons_zero, List.set_cons_succ]; rfl) ?_
          refine q_val (v := (.bool o1)) rfl (fun V hV => rfl) (by simp only [Act.put, List.setIfInBounds_toArray, List.set_cons_zero, List.set_cons_succ]; rfl) ?_
          refine g_val (j := 24) (want := false) (c := o1) (v := (.slice (some ⟨b, off, none⟩) l.length cap)) rfl rfl (fun hc V hV => by cases hc; exact rfl) (by simp only [Act.put, List.setIfInBounds_toArray, List.set_cons_zero, List.set_cons_succ]; rfl) ?_
          refine g_val (j := 24) (want := false) (c := o1) (v := (.int .i64 k)) rfl rfl (fun hc V hV => by cases hc; exact rfl) (by simp only [Act.put, List.setIfInBounds_toArray, List.set_cons_zero, List.set_cons_succ]; rfl) ?_
          refine g_val (j := 24) (want := false) (c := o1) (v := (.pointer (some ⟨b, off + k * 8, none⟩))) rfl rfl (fun hc V hV => by cases hc; exact run_v (ix_st hlt1)) (by simp only [Act.put, List.setIfInBounds_toArray, List.set_cons_zero, List.set_cons_succ]; rfl) ?_
          refine g_val (j := 24) (want := false) (c := o1) (v := (.pointer (some ⟨b, off + k * 8 + 2, none⟩))) rfl rfl (fun hc V hV => by cases hc; exact run_v fl_st2) (by simp only [Act.put, List.setIfInBounds_toArray, List.set_cons_zero, List.set_cons_succ]; rfl) ?_
          refine g_val (j := 24) (want := false) (c := o1) (v := (.string xto)) rfl rfl (fun hc V hV => by cases hc; exact run_v (ld_str (below_in hV d2))) (by simp only [Act.put, List.setIfInBounds_toArray, List.set_cons_zero, List.set_cons_succ]; rfl) ?_
          refine g_val (j := 24) (want := false) (c := o1) (v := (.slice (some ⟨b', off', none⟩) l'.length cap')) rfl rfl (fun hc V hV => by cases hc; exact rfl) (by simp only [Act.put, List.setIfInBounds_toArray, List.set_cons_zero, List.set_cons_succ]; rfl) ?_
          refine g_val (j := 24) (want := false) (c := o1) (v := (.int .i64 k)) rfl rfl (fun hc V hV => by cases hc; exact rfl) (by simp only [Act.put, List.setIfInBounds_toArray, List.set_cons_zero, List.set_cons_succ]; rfl) ?_
          refine g_val (j := 24) (want := false) (c := o1) (v := (.pointer (some ⟨b', off' + k * 8, none⟩))) rfl rfl (fun hc V hV => by cases hc; exact run_v (ix_st hlt2)) (by simp only [Act.put, List.setIfInBounds_toArray, List.set_cons_zero, List.set_cons_succ]; rfl) ?_
          refine g_val (j := 24) (want := false) (c := o1) (v := (.pointer (some ⟨b', off' + k * 8 + 2, none⟩))) rfl rfl (fun hc V hV => by cases hc; exact run_v fl_st2) (by simp only [Act.put, List.setIfInBounds_toArray, List.set_cons_zero, List.set_cons_succ]; rfl) ?_
          refine g_val (j := 24) (want := false) (c := o1) (v := (.string yto)) rfl rfl (fun hc V hV => by cases hc; exact run_v (ld_str (below_in hV f2))) (by simp only [Act.put, List.setIfInBounds_toArray, List.set_cons_zero, List.set_cons_succ]; rfl) ?_
          refine g_val (j := 24) (want := false) (c := o1) (v := (.bool c2)) rfl rfl (fun hc V hV => by cases hc; exact run_v (n2 _ _ V)) (by simp only [Act.put, List.setIfInBounds_toArray, List.set_cons_zero, List.set_cons_succ]; rfl) ?_
          refine q_val (v := (.bool o2)) rfl (fun V hV => congrArg (fun v => Result.ok (Next.value v) V) k2) (by simp only [Act.put, List.setIfInBounds_toArray, List.set_cons_zero, List.set_cons_succ]; rfl) ?_
          refine q_val (v := (.bool o2)) rfl (fun V hV => rfl) (by simp only [Act.put, List.setIfInBounds_toArray, List.set_cons_zero, List.set_cons_succ]; rfl) ?_
          refine g_val (j := 37) (want := false) (c := o2) (v := (.slice (some ⟨b, off, none⟩) l.length cap)) rfl rfl (fun hc V hV => by cases hc; exact rfl) (by simp only [Act.put, List.setIfInBounds_toArray, List.set_cons_zero, List.set_cons_succ]; rfl) ?_
          refine g_val (j := 37) (want := false) (c := o2) (v := (.int .i64 k)) rfl rfl (fun hc V hV => by cases hc; exact rfl) (by simp only [Act.put, List.setIfInBounds_toArray, List.set_cons_zero, List.set_cons_succ]; rfl) ?_
          refine g_val (j := 37) (want := false) (c := o2) (v := (.pointer (some ⟨b, off + k * 8, none⟩))) rfl rfl (fun hc V hV => by cases hc; exact run_v (ix_st hlt1)) (by simp only [Act.put, List.setIfInBounds_toArray, List.set_cons_zero, List.set_cons_succ]; rfl) ?_
          refine g_val (j := 37) (want := false) (c := o2) (v := (.pointer (some ⟨b, off + k * 8 + 3, none⟩))) rfl rfl (fun hc V hV => by cases hc; exact run_v fl_st3) (by simp only [Act.put, List.setIfInBounds_toArray, List.set_cons_zero, List.set_cons_succ]; rfl) ?_
          refine g_val (j := 37) (want := false) (c := o2) (v := (.bool xnw)) rfl rfl (fun hc V hV => by cases hc; exact run_v (ld_bool (below_in hV d3))) (by simp only [Act.put, List.setIfInBounds_toArray, List.set_cons_zero, List.set_cons_succ]; rfl) ?_
          refine g_val (j := 37) (want := false) (c := o2) (v := (.slice (some ⟨b', off', none⟩) l'.length cap')) rfl rfl (fun hc V hV => by cases hc; exact rfl) (by simp only [Act.put, List.setIfInBounds_toArray, List.set_cons_zero, List.set_cons_succ]; rfl) ?_
          refine g_val (j := 37) (want := false) (c := o2) (v := (.int .i64 k)) rfl rfl (fun hc V hV => by cases hc; exact rfl) (by simp only [Act.put, List.setIfInBounds_toArray, List.set_cons_zero, List.set_cons_succ]; rfl) ?_
          refine g_val (j := 37) (want := false) (c := o2) (v := (.pointer (some ⟨b', off' + k * 8, none⟩))) rfl rfl (fun hc V hV => by cases hc; exact run_v (ix_st hlt2)) (by simp only [Act.put, List.setIfInBounds_toArray, List.set_cons_zero, List.set_cons_succ]; rfl) ?_
          refine g_val (j := 37) (want := false) (c := o2) (v := (.pointer (some ⟨b', off' + k * 8 + 3, none⟩))) rfl rfl (fun hc V hV => by cases hc; exact run_v fl_st3) (by simp only [Act.put, List.setIfInBounds_toArray, List.set_cons_zero, List.set_cons_succ]; rfl) ?_
          refine g_val (j := 37) (want := false) (c := o2) (v := (.bool ynw)) rfl rfl (fun hc V hV => by cases hc; exact run_v (ld_bool (below_in hV f3))) (by simp only [Act.put, List.setIfInBounds_toArray, List.set_cons_zero, List.set_cons_succ]; rfl) ?_
          refine g_val (j := 37) (want := false) (c := o2) (v := (.bool c3)) rfl rfl (fun hc V hV => by cases hc; exact run_v (n3 _ _ V)) (by simp only [Act.put, List.setIfInBounds_toArray, List.set_cons_zero, List.set_cons_succ]; rfl) ?_
          refine q_val (v := (.bool o3)) rfl (fun V hV => congrArg (fun v => Result.ok (Next.value v) V) k3) (by simp only [Act.put, List.setIfInBounds_toArray, List.set_cons_zero, List.set_cons_succ]; rfl) ?_
          refine q_val (v := (.bool o3)) rfl (fun V hV => rfl) (by simp only [Act.put, List.setIfInBounds_toArray, List.set_cons_zero, List.set_cons_succ]; rfl) ?_
          refine g_val (j := 50) (want := false) (c := o3) (v := (.slice (some ⟨b, off, none⟩) l.length cap)) rfl rfl (fun hc V hV => by cases hc; exact rfl) (by simp only [Act.put, List.setIfInBounds_toArray, List.set_cons_zero, List.set_cons_succ]; rfl) ?_
          refine g_val (j := 50) (want := false) (c := o3) (v := (.int .i64 k)) rfl rfl (fun hc V hV => by cases hc; exact rfl) (by simp only [Act.put, List.setIfInBounds_toArray, List.set_cons_zero, List.set_cons_succ]; rfl) ?_
          refine g_val (j := 50) (want := false) (c := o3) (v := (.pointer (some ⟨b, off + k * 8, none⟩))) rfl rfl (fun hc V hV => by cases hc; exact run_v (ix_st hlt1)) (by simp only [Act.put, List.setIfInBounds_toArray, List.set_cons_zero, List.set_cons_succ]; rfl) ?_
          refine g_val (j := 50) (want := false) (c := o3) (v := (.pointer (some ⟨b, off + k * 8 + 4, none⟩))) rfl rfl (fun hc V hV => by cases hc; exact run_v fl_st4) (by simp only [Act.put, List.setIfInBounds_toArray, List.set_cons_zero, List.set_cons_succ]; rfl) ?_
          refine g_val (j := 50) (want := false) (c := o3) (v := (.slice ea xe.length ecap)) rfl rfl (fun hc V hV => by cases hc; exact run_v (ld_exs (below_in hV d4))) (by simp only [Act.put, List.setIfInBounds_toArray, List.set_cons_zero, List.set_cons_succ]; rfl) ?_
          refine g_val (j := 50) (want := false) (c := o3) (v := (.slice (some ⟨b', off', none⟩) l'.length cap')) rfl rfl (fun hc V hV => by cases hc; exact rfl) (by simp only [Act.put, List.setIfInBounds_toArray, List.set_cons_zero, List.set_cons_succ]; rfl) ?_
          refine g_val (j := 50) (want := false) (c := o3) (v := (.int .i64 k)) rfl rfl (fun hc V hV => by cases hc; exact rfl) (by simp only [Act.put, List.setIfInBounds_toArray, List.set_cons_zero, List.set_cons_succ]; rfl) ?_
          refine g_val (j := 50) (want := false) (c := o3) (v := (.pointer (some ⟨b', off' + k * 8, none⟩))) rfl rfl (fun hc V hV => by cases hc; exact run_v (ix_st hlt2)) (by simp only [Act.put, List.setIfInBounds_toArray, List.set_cons_zero, List.set_cons_succ]; rfl) ?_
          refine g_val (j := 50) (want := false) (c := o3) (v := (.pointer (some ⟨b', off' + k * 8 + 4, none⟩))) rfl rfl (fun hc V hV => by cases hc; exact run_v fl_st4) (by simp only [Act.put, List.setIfInBounds_toArray, List.set_cons_zero, List.set_cons_succ]; rfl) ?_
          refine g_val (j := 50) (want := false) (c := o3) (v := (.slice fa ye.length fcap)) rfl rfl (fun hc V hV => by cases hc; exact run_v (ld_exs (below_in hV f4))) (by simp only [Act.put, List.setIfInBounds_toArray, List.set_cons_zero, List.set_cons_succ]; rfl) ?_
          refine g_call (j := 50) (want := false) (c := o3) (v := (.bool vE)) (f := 94) (args := #[(.slice ea xe.length ecap), (.slice fa ye.length fcap)]) rfl rfl (fun hc V hV => by cases hc; exact run_call2 rfl rfl rfl en_bobbinref02_sameExprs) (fun _ => q4) (by simp only [Act.put, List.setIfInBounds_toArray, List.set_cons_zero, List.set_cons_succ]; rfl) ?_
          refine g_val (j := 50) (want := false) (c := o3) (v := (.bool c4)) rfl rfl (fun hc V hV => by cases hc; exact run_v (n4 V)) (by simp only [Act.put, List.setIfInBounds_toArray, List.set_cons_zero, List.set_cons_succ]; rfl) ?_
          refine q_val (v := (.bool o4)) rfl (fun V hV => congrArg (fun v => Result.ok (Next.value v) V) k4) (by simp only [Act.put, List.setIfInBounds_toArray, List.set_cons_zero, List.set_cons_succ]; rfl) ?_
          refine q_val (v := (.bool o4)) rfl (fun V hV => rfl) (by simp only [Act.put, List.setIfInBounds_toArray, List.set_cons_zero, List.set_cons_succ]; rfl) ?_
          refine g_val (j := 64) (want := false) (c := o4) (v := (.slice (some ⟨b, off, none⟩) l.length cap)) rfl rfl (fun hc V hV => by cases hc; exact rfl) (by simp only [Act.put, List.setIfInBounds_toArray, List.set_cons_zero, List.set_cons_succ]; rfl) ?_
          refine g_val (j := 64) (want := false) (c := o4) (v := (.int .i64 k)) rfl rfl (fun hc V hV => by cases hc; exact rfl) (by simp only [Act.put, List.setIfInBounds_toArray, List.set_cons_zero, List.set_cons_succ]; rfl) ?_
          refine g_val (j := 64) (want := false) (c := o4) (v := (.pointer (some ⟨b, off + k * 8, none⟩))) rfl rfl (fun hc V hV => by cases hc; exact run_v (ix_st hlt1)) (by simp only [Act.put, List.setIfInBounds_toArray, List.set_cons_zero, List.set_cons_succ]; rfl) ?_
          refine g_val (j := 64) (want := false) (c := o4) (v := (.pointer (some ⟨b, off + k * 8 + 5, none⟩))) rfl rfl (fun hc V hV => by cases hc; exact run_v fl_st5) (by simp only [Act.put, List.setIfInBounds_toArray, List.set_cons_zero, List.set_cons_succ]; rfl) ?_
          refine g_val (j := 64) (want := false) (c := o4) (v := (.slice ba xbody.length bcap)) rfl rfl (fun hc V hV => by cases hc; exact run_v (ld_sts (below_in hV d5))) (by simp only [Act.put, List.setIfInBounds_toArray, List.set_cons_zero, List.set_cons_succ]; rfl) ?_
          refine g_val (j := 64) (want := false) (c := o4) (v := (.slice (some ⟨b', off', none⟩) l'.length cap')) rfl rfl (fun hc V hV => by cases hc; exact rfl) (by simp only [Act.put, List.setIfInBounds_toArray, List.set_cons_zero, List.set_cons_succ]; rfl) ?_
          refine g_val (j := 64) (want := false) (c := o4) (v := (.int .i64 k)) rfl rfl (fun hc V hV => by cases hc; exact rfl) (by simp only [Act.put, List.setIfInBounds_toArray, List.set_cons_zero, List.set_cons_succ]; rfl) ?_
          refine g_val (j := 64) (want := false) (c := o4) (v := (.pointer (some ⟨b', off' + k * 8, none⟩))) rfl rfl (fun hc V hV => by cases hc; exact run_v (ix_st hlt2)) (by simp only [Act.put, List.setIfInBounds_toArray, List.set_cons_zero, List.set_cons_succ]; rfl) ?_
          refine g_val (j := 64) (want := false) (c := o4) (v := (.pointer (some ⟨b', off' + k * 8 + 5, none⟩))) rfl rfl (fun hc V hV => by cases hc; exact run_v fl_st5) (by simp only [Act.put, List.setIfInBounds_toArray, List.set_cons_zero, List.set_cons_succ]; rfl) ?_
          refine g_val (j := 64) (want := false) (c := o4) (v := (.slice ca ybody.length ccap)) rfl rfl (fun hc V hV => by cases hc; exact run_v (ld_sts (below_in hV f5))) (by simp only [Act.put, List.setIfInBounds_toArray, List.set_cons_zero, List.set_cons_succ]; rfl) ?_
          refine g_call (j := 64) (want := false) (c := o4) (v := (.bool vB)) (f := 51) (args := #[(.slice ba xbody.length bcap), (.slice ca ybody.length ccap)]) rfl rfl (fun hc V hV => by cases hc; exact run_call2 rfl rfl rfl en_bobbinref02_sameStmts) (fun _ => q5) (by simp only [Act.put, List.setIfInBounds_toArray, List.set_cons_zero, List.set_cons_succ]; rfl) ?_
          refine g_val (j := 64) (want := false) (c := o4) (v := (.bool c5)) rfl rfl (fun hc V hV => by cases hc; exact run_v (n5 V)) (by simp only [Act.put, List.setIfInBounds_toArray, List.set_cons_zero, List.set_cons_succ]; rfl) ?_
          refine q_val (v := (.bool o5)) rfl (fun V hV => congrArg (fun v => Result.ok (Next.value v) V) k5) (by simp only [Act.put, List.setIfInBounds_toArray, List.set_cons_zero, List.set_cons_succ]; rfl) ?_
          refine q_val (v := (.bool o5)) rfl (fun V hV => rfl) (by simp only [Act.put, List.setIfInBounds_toArray, List.set_cons_zero, List.set_cons_succ]; rfl) ?_
          refine g_val (j := 78) (want := false) (c := o5) (v := (.slice (some ⟨b, off, none⟩) l.length cap)) rfl rfl (fun hc V hV => by cases hc; exact rfl) (by simp only [Act.put, List.setIfInBounds_toArray, List.set_cons_zero, List.set_cons_succ]; rfl) ?_
          refine g_val (j := 78) (want := false) (c := o5) (v := (.int .i64 k)) rfl rfl (fun hc V hV => by cases hc; exact rfl) (by simp only [Act.put, List.setIfInBounds_toArray, List.set_cons_zero, List.set_cons_succ]; rfl) ?_
          refine g_val (j := 78) (want := false) (c := o5) (v := (.pointer (some ⟨b, off + k * 8, none⟩))) rfl rfl (fun hc V hV => by cases hc; exact run_v (ix_st hlt1)) (by simp only [Act.put, List.setIfInBounds_toArray, List.set_cons_zero, List.set_cons_succ]; rfl) ?_
          refine g_val (j := 78) (want := false) (c := o5) (v := (.pointer (some ⟨b, off + k * 8 + 6, none⟩))) rfl rfl (fun hc V hV => by cases hc; exact run_v fl_st6) (by simp only [Act.put, List.setIfInBounds_toArray, List.set_cons_zero, List.set_cons_succ]; rfl) ?_
          refine g_val (j := 78) (want := false) (c := o5) (v := (.slice la xels.length lcap)) rfl rfl (fun hc V hV => by cases hc; exact run_v (ld_sts (below_in hV d6))) (by simp only [Act.put, List.setIfInBounds_toArray, List.set_cons_zero, List.set_cons_succ]; rfl) ?_
          refine g_val (j := 78) (want := false) (c := o5) (v := (.slice (some ⟨b', off', none⟩) l'.length cap')) rfl rfl (fun hc V hV => by cases hc; exact rfl) (by simp only [Act.put, List.setIfInBounds_toArray, List.set_cons_zero, List.set_cons_succ]; rfl) ?_
          refine g_val (j := 78) (want := false) (c := o5) (v := (.int .i64 k)) rfl rfl (fun hc V hV => by cases hc; exact rfl) (by simp only [Act.put, List.setIfInBounds_toArray, List.set_cons_zero, List.set_cons_succ]; rfl) ?_
          refine g_val (j := 78) (want := false) (c := o5) (v := (.pointer (some ⟨b', off' + k * 8, none⟩))) rfl rfl (fun hc V hV => by cases hc; exact run_v (ix_st hlt2)) (by simp only [Act.put, List.setIfInBounds_toArray, List.set_cons_zero, List.set_cons_succ]; rfl) ?_
          refine g_val (j := 78) (want := false) (c := o5) (v := (.pointer (some ⟨b', off' + k * 8 + 6, none⟩))) rfl rfl (fun hc V hV => by cases hc; exact run_v fl_st6) (by simp only [Act.put, List.setIfInBounds_toArray, List.set_cons_zero, List.set_cons_succ]; rfl) ?_
          refine g_val (j := 78) (want := false) (c := o5) (v := (.slice ma yels.length mcap)) rfl rfl (fun hc V hV => by cases hc; exact run_v (ld_sts (below_in hV f6))) (by simp only [Act.put, List.setIfInBounds_toArray, List.set_cons_zero, List.set_cons_succ]; rfl) ?_
          refine g_call (j := 78) (want := false) (c := o5) (v := (.bool vL)) (f := 51) (args := #[(.slice la xels.length lcap), (.slice ma yels.length mcap)]) rfl rfl (fun hc V hV => by cases hc; exact run_call2 rfl rfl rfl en_bobbinref02_sameStmts) (fun _ => q6) (by simp only [Act.put, List.setIfInBounds_toArray, List.set_cons_zero, List.set_cons_succ]; rfl) ?_
          refine g_val (j := 78) (want := false) (c := o5) (v := (.bool c6)) rfl rfl (fun hc V hV => by cases hc; exact run_v (n6 V)) (by simp only [Act.put, List.setIfInBounds_toArray, List.set_cons_zero, List.set_cons_succ]; rfl) ?_
          refine q_val (v := (.bool o6)) rfl (fun V hV => congrArg (fun v => Result.ok (Next.value v) V) k6) (by simp only [Act.put, List.setIfInBounds_toArray, List.set_cons_zero, List.set_cons_succ]; rfl) ?_
          refine wpQuiet_nil (fun V hV => ?_)
          have hd : o6 = (decide (¬ xk = yk) || decide (¬ xnm = ynm) || decide (¬ xto = yto) || decide (¬ xnw = ynw) || !vE || !vB || !vL) := by rw [g6.out, g5.out, g4.out, g3.out, g2.out, g1.out, e0.out, e1.out, e2.out, e3.out, e4.out, e5.out, e6.out]
          have hrr : sameSL l l' = (!o6 && sameSL (l.drop (k + 1)) (l'.drop (k + 1))) := by rw [hd, hsame1.out]; simp [Bool.and_assoc]
          replace hrr := Lib.hid hrr
          have hfn := hfin.out V hV
          clear hd hsame hsame1 hfin e0 e1 e2 e3 e4 e5 e6 g1 g2 g3 g4 g5 g6 k1 k2 k3 k4 k5 k6 n0 n1 n2 n3 n4 n5 n6 q4 q5 q6 d0 d1 d2 d3 d4 d5 d6 f0 f1 f2 f3 f4 f5 f6
          cases o6 with
          | true =>
            have hF : Hid (sameSL l l' = false) := Lib.hid (by rw [hrr.out]; rfl)
            clear hrr
            go_wp2_with fail
            go_ret
            exact ⟨ret_bool hF.out.symm, hfn⟩
          | false =>
            have hF : Hid (sameSL l l' = sameSL (l.drop (k + 1)) (l'.drop (k + 1))) := Lib.hid (by rw [hrr.out]; rfl)
            clear hrr
            go_wp2_with fail
            go_roundw
            case rel => exact ⟨k + 1, by omega, by go_num, hF, hfn⟩
            case measure => simp [intOf]; omega
        · have hF : Hid (sameSL l l' = true) := Lib.hid (by
            rw [hsame.out, List.drop_of_length_le (by omega), List.drop_of_length_le (by have := hle'.out; omega)]; rfl)
          clear hsame
          go_wp2_with fail
          go_ret
          exact ⟨ret_bool hF.out.symm, hbr⟩
    · have hne : ((l.length : Int) != (l'.length : Int)) = true := by simp; omega
      have hF : Hid (sameSL l l' = false) := Lib.hid (by rw [Bool.eq_false_iff]; intro h; exact hle (sameSL_len _ _ h))
      go_enter Tryz.func51, Tryz.ntmps51
      go_wp2_with fail
      go_ret
      exact ⟨ret_bool hF.out.symm, Below.refl _ _⟩
end Go.Proofs.YtfhmhplbkheojaaGreatDoor.Tr
