/- Walks of the document's own answers: Same. Conditions: none. -/
import Derived.Test.YtfhmhplbkheojaaGreatDoorRfIs
import Derived.Deep.Cut
import Derived.Deep.Quiet
import Derived.Deep.RegionHeld3
import Derived.Deep.DrawnRows
namespace Go.Proofs.YtfhmhplbkheojaaGreatDoor.Tr
open Go Go.RowKit
open Go.Proofs.YtfhmhplbkheojaaGreatDoor.Lx
open Go.Proofs.YtfhmhplbkheojaaGreatDoor.Qg

theorem orD {xk yk xn yn : Int} {xnm ynm : ByteArray} {xp yp : List ByteArray} {vB : Bool} (h : (decide (¬ xk = yk) || decide (¬ xnm = ynm) || decide (¬ xn = yn) || decide (¬ (xp.length : Int) = (yp.length : Int)) || !vB) = true) :
    (decide (xk = yk) && decide (xnm = ynm) && decide (xn = yn) && decide (xp = yp) && vB) = false := by
  rw [Bool.eq_false_iff]
  intro g
  simp only [Bool.and_eq_true, decide_eq_true_eq] at g
  obtain ⟨⟨⟨⟨rfl, rfl⟩, rfl⟩, rfl⟩, rfl⟩ := g
  simp at h
theorem orF {xk yk xn yn : Int} {xnm ynm : ByteArray} {xp yp : List ByteArray} {vB : Bool} (h : (decide (¬ xk = yk) || decide (¬ xnm = ynm) || decide (¬ xn = yn) || decide (¬ (xp.length : Int) = (yp.length : Int)) || !vB) = false) :
    (xk = yk ∧ xnm = ynm ∧ xn = yn ∧ xp.length = yp.length) ∧ vB = true := by
  simp only [Bool.or_eq_false_iff, decide_eq_false_iff_not, Decidable.not_not, Bool.not_eq_false'] at h
  obtain ⟨⟨⟨⟨h1, h2⟩, h3⟩, h4⟩, h5⟩ := h
  exact ⟨⟨h1, h2, h3, by omega⟩, h5⟩

set_option linter.unusedSimpArgs false in
set_option maxHeartbeats 40000000 in
set_option maxRecDepth 100000 in
theorem refSame_any (l l' : List De) (a a' : Option Addr) (cap cap' : Nat) (w : World) (hrow : RowAt w (fun _ => True) a cap l.length (deCells l)) (hrow' : RowAt w (fun _ => True) a' cap' l'.length (deCells l')) (hin : De.InL w (fun _ => True) l) (hin' : De.InL w (fun _ => True) l') :
    Calls Tryz.prog 24 #[.slice a l.length cap, .slice a' l'.length cap'] w fun x w' => x = .returned (.bool (sameDL l l')) ∧ Below w.heap.size w w' := by
  have hll : l.length ≤ 9223372036854775807 := by have := hrow.le; have := hrow.lim; unfold maxLen at this; omega
  have hll' : l'.length ≤ 9223372036854775807 := by have := hrow'.le; have := hrow'.lim; unfold maxLen at this; omega
  have hcx := fun (k : Nat) (x x' : De) (W : World) (hx : l[k]? = some x) (hx' : l'[k]? = some x') (hb : Below w.heap.size w W) => And.intro (De.In.below (Kps.of_below (S := fun _ => True) hb) (hin x (List.mem_of_getElem? hx))) (De.In.below (Kps.of_below (S := fun _ => True) hb) (hin' x' (List.mem_of_getElem? hx')))
  replace hcx := Lib.hid hcx
  clear hin hin'
  by_cases hle : l.length = l'.length
  · have hne : ((l.length : Int) != (l'.length : Int)) = false := by rw [hle]; simp
    have hle' := Lib.hid hle
    go_enter Tryz.func24, Tryz.ntmps24
    clear hle
    go_wp2_with fail
    go_loopw [5] (fun i wr => ∃ k : Nat, k ≤ l.length ∧ i = .int .i64 k ∧ Hid (sameDL l l' = sameDL (l.drop k) (l'.drop k)) ∧ Below w.heap.size w wr) (fun i _ => l.length - (intOf i).toNat)
    case atStart => exact ⟨0, Nat.zero_le _, rfl, Lib.hid rfl, Below.refl _ _⟩
    case round =>
      obtain ⟨k, hk, rfl, hsame, hbr⟩ := hrel
      by_cases hlt : k < l.length
      · have hlt' : k < l'.length := by rw [← hle'.out]; exact hlt
        obtain ⟨e, he⟩ : ∃ e, l[k]? = some e := ⟨l[k], by simp [hlt]⟩
        obtain ⟨e', he'⟩ : ∃ e, l'[k]? = some e := ⟨l'[k], by simp [hlt']⟩
        obtain ⟨b, off, rfl, _, hcell⟩ := de_row hrow k e he
        obtain ⟨b', off', rfl, _, hcell'⟩ := de_row hrow' k e' he'
        obtain ⟨hi1, hi2⟩ := hcx.out k e e' wr he he' hbr
        have hdr := sameDL_drop l l' k e e' he he'
        have hsame1 := hsame.out
        rw [hdr] at hsame1
        obtain ⟨xk, xnm, xn, pa, pcap, xp, ba, bcap, xbody, xpos⟩ := e
        obtain ⟨yk, ynm, yn, qa, qcap, yp, ca, ccap, ybody, ypos⟩ := e'
        obtain ⟨_, _, _, _, rp1, ip1, rb1, ib1⟩ := hi1
        obtain ⟨_, _, _, _, rp2, ip2, rb2, ib2⟩ := hi2
        simp only at rp1 ip1 rb1 ib1 rp2 ip2 rb2 ib2
        have hsd : sameD ⟨xk, xnm, xn, pa, pcap, xp, ba, bcap, xbody, xpos⟩ ⟨yk, ynm, yn, qa, qcap, yp, ca, ccap, ybody, ypos⟩ = (decide (xk = yk) && decide (xnm = ynm) && decide (xn = yn) && decide (xp = yp) && sameSL xbody ybody) := rfl
        rw [hsd] at hsame1
        have hxpl : xp.length ≤ 9223372036854775807 := by have := rp1.le; have := rp1.lim; unfold maxLen at this; omega
        have hypl : yp.length ≤ 9223372036854775807 := by have := rp2.le; have := rp2.lim; unfold maxLen at this; omega
        have cB := fun V (h : Below wr.heap.size wr V) => refsameSs_any (St.szL xbody) xbody ybody ba ca bcap ccap V (Nat.le_refl _) (rb1.below (Kps.of_below h)) (rb2.below (Kps.of_below h)) (St.InL.below (Kps.of_below h) _ ib1) (St.InL.below (Kps.of_below h) _ ib2)
        generalize sameSL xbody ybody = vB at *
        simp only [← Nat.add_assoc] at hcell hcell'
        have d0 := below_in hbr (hcell 0 _ rfl)
        have d1 := below_in hbr (hcell 1 _ rfl)
        have d2 := below_in hbr (hcell 2 _ rfl)
        have d3 := below_in hbr (hcell 3 _ rfl)
        have d4 := below_in hbr (hcell 4 _ rfl)
        have f0 := below_in hbr (hcell' 0 _ rfl)
        have f1 := below_in hbr (hcell' 1 _ rfl)
        have f2 := below_in hbr (hcell' 2 _ rfl)
        have f3 := below_in hbr (hcell' 3 _ rfl)
        have f4 := below_in hbr (hcell' 4 _ rfl)
        simp only [Nat.add_zero] at d0 f0
        have hfin : Hid (∀ V, Below wr.heap.size wr V → Below w.heap.size w V) := Lib.hid fun V h => hbr.trans (h.mono hbr.size)
        replace cB := Lib.hid cB
        replace hsame1 := Lib.hid hsame1
        replace rp1 := Lib.hid rp1
        replace rp2 := Lib.hid rp2
        replace hbr := Lib.hid hbr
        clear hcell hcell' he he' hrow hrow' hdr hsd rb1 ib1 rb2 ib2 ip1 ip2
        have hlt1 : (k : Int) < (l.length : Int) := by omega
        have hlt2 : (k : Int) < (l'.length : Int) := by omega
        obtain ⟨c0, e0⟩ : ∃ c : Bool, Hid (c = decide (¬ xk = yk)) := ⟨_, Lib.hid rfl⟩
        obtain ⟨c1, e1⟩ : ∃ c : Bool, Hid (c = decide (¬ xnm = ynm)) := ⟨_, Lib.hid rfl⟩
        obtain ⟨c2, e2⟩ : ∃ c : Bool, Hid (c = decide (¬ xn = yn)) := ⟨_, Lib.hid rfl⟩
        obtain ⟨c3, e3⟩ : ∃ c : Bool, Hid (c = decide (¬ (xp.length : Int) = (yp.length : Int))) := ⟨_, Lib.hid rfl⟩
        have n0 : ∀ (p q : Operand) (V : World), (do eqGuard .neq 5 p q (.int .u8 xk) (.int .u8 yk); binOp .neq 5 (.int .u8 xk) (.int .u8 yk) : Sem Value).run Tryz.prog V = .ok (.bool c0) V := fun p q V => by rw [e0.out]; exact ne_u8
        have n1 : ∀ (p q : Operand) (V : World), (do eqGuard .neq 9 p q (.string xnm) (.string ynm); binOp .neq 9 (.string xnm) (.string ynm) : Sem Value).run Tryz.prog V = .ok (.bool c1) V := fun p q V => by rw [e1.out]; exact ne_str
        have n2 : ∀ (p q : Operand) (V : World), (do eqGuard .neq 2 p q (.int .i64 xn) (.int .i64 yn); binOp .neq 2 (.int .i64 xn) (.int .i64 yn) : Sem Value).run Tryz.prog V = .ok (.bool c2) V := fun p q V => by rw [e2.out]; exact ne_i64
        have n3 : ∀ (p q : Operand) (V : World), (do eqGuard .neq 3 p q (.int .i64 xp.length) (.int .i64 yp.length); binOp .neq 3 (.int .i64 xp.length) (.int .i64 yp.length) : Sem Value).run Tryz.prog V = .ok (.bool c3) V := fun p q V => by rw [e3.out]; exact ne_int
        obtain ⟨c4, e4⟩ : ∃ c : Bool, Hid (c = !vB) := ⟨_, Lib.hid rfl⟩
        have n4 : ∀ V : World, (Op.unary .not (.bool vB)).run Tryz.prog V = .ok (.bool c4) V := fun V => by rw [e4.out]; exact not_run
        obtain ⟨o1, g1⟩ : ∃ c : Bool, Hid (c = (c0 || c1)) := ⟨_, Lib.hid rfl⟩
        have k1 : (if c0 = true then Value.bool true else gv c0 false (.bool c1)) = .bool o1 := by rw [g1.out]; exact pick_or
        obtain ⟨o2, g2⟩ : ∃ c : Bool, Hid (c = (o1 || c2)) := ⟨_, Lib.hid rfl⟩
        have k2 : (if o1 = true then Value.bool true else gv o1 false (.bool c2)) = .bool o2 := by rw [g2.out]; exact pick_or
        obtain ⟨o3, g3⟩ : ∃ c : Bool, Hid (c = (o2 || c3)) := ⟨_, Lib.hid rfl⟩
        have k3 : (if o2 = true then Value.bool true else gv o2 false (.bool c3)) = .bool o3 := by rw [g3.out]; exact pick_or
        obtain ⟨o4, g4⟩ : ∃ c : Bool, Hid (c = (o3 || c4)) := ⟨_, Lib.hid rfl⟩
        have k4 : (if o3 = true then Value.bool true else gv o3 false (.bool c4)) = .bool o4 := by rw [g4.out]; exact pick_or
        have q4 : ∀ V, Below wr.heap.size wr V → Calls Tryz.prog 51 #[(.slice ba xbody.length bcap), (.slice ca ybody.length ccap)] V (fun x w' => x = .returned (.bool vB) ∧ Below wr.heap.size wr w') := fun V hV => (cB.out V hV).mono fun x w' h2 => ⟨h2.1, hV.trans (h2.2.mono hV.size)⟩
        clear cB
        go_upto_region 6 with fail
        refine wp_region_quiet (C := fun V => Below wr.heap.size wr V) (by kernel_rfl) (by kernel_rfl) (Below.refl _ _).drew ?_
        refine t_val (v := (.slice (some ⟨b, off, none⟩) l.length cap)) rfl (fun V hV => rfl) (by simp only [Act.put, List.setIfInBounds_toArray, List.set_cons_zero, List.set_cons_succ]; rfl) ?_
        refine t_val (v := (.int .i64 k)) rfl (fun V hV => rfl) (by simp only [Act.put, List.setIfInBounds_toArray, List.set_cons_zero, List.set_cons_succ]; rfl) ?_
        refine t_val (v := (.pointer (some ⟨b, off + k * 6, none⟩))) rfl (fun V hV => run_v (ix_de hlt1)) (by simp only [Act.put, List.setIfInBounds_toArray, List.set_cons_zero, List.set_cons_succ]; rfl) ?_
        refine t_val (v := (.pointer (some ⟨b, off + k * 6, none⟩))) rfl (fun V hV => run_v fl_de0) (by simp only [Act.put, List.setIfInBounds_toArray, List.set_cons_zero, List.set_cons_succ]; rfl) ?_
        refine t_val (v := (.int .u8 xk)) rfl (fun V hV => run_v (ld_u8 (below_in hV d0))) (by simp only [Act.put, List.setIfInBounds_toArray, List.set_cons_zero, List.set_cons_succ]; rfl) ?_
        refine t_val (v := (.slice (some ⟨b', off', none⟩) l'.length cap')) rfl (fun V hV => rfl) (by simp only [Act.put, List.setIfInBounds_toArray, List.set_cons_zero, List.set_cons_succ]; rfl) ?_
        refine t_val (v := (.int .i64 k)) rfl (fun V hV => rfl) (by simp only [Act.put, List.setIfInBounds_toArray, List.set_cons_zero, List.set_cons_succ]; rfl) ?_
        refine t_val (v := (.pointer (some ⟨b', off' + k * 6, none⟩))) rfl (fun V hV => run_v (ix_de hlt2)) (by simp only [Act.put, List.setIfInBounds_toArray, List.set_cons_zero, List.set_cons_succ]; rfl) ?_
        refine t_val (v := (.pointer (some ⟨b', off' + k * 6, none⟩))) rfl (fun V hV => run_v fl_de0) (by simp only [Act.put, List.setIfInBounds_toArray, List.set_cons_zero, List.set_cons_succ]; rfl) ?_
        refine t_val (v := (.int .u8 yk)) rfl (fun V hV => run_v (ld_u8 (below_in hV f0))) (by simp only [Act.put, List.setIfInBounds_toArray, List.set_cons_zero, List.set_cons_succ]; rfl) ?_
        refine t_val (v := (.bool c0)) rfl (fun V hV => run_v (n0 _ _ V)) (by simp only [Act.put, List.setIfInBounds_toArray, List.set_cons_zero, List.set_cons_succ]; rfl) ?_
        refine t_val (v := (.bool c0)) rfl (fun V hV => rfl) (by simp only [Act.put, List.setIfInBounds_toArray, List.set_cons_zero, List.set_cons_succ]; rfl) ?_
        refine g_val (j := 11) (want := false) (c := c0) (v := (.slice (some ⟨b, off, none⟩) l.length cap)) rfl rfl (fun hc V hV => by cases hc; exact rfl) (by simp only [Act.put, List.setIfInBounds_toArray, List.set_cons_zero, List.set_cons_succ]; rfl) ?_
        refine g_val (j := 11) (want := false) (c := c0) (v := (.int .i64 k)) rfl rfl (fun hc V hV => by cases hc; exact rfl) (by simp only [Act.put, List.setIfInBounds_toArray, List.set_cons_zero, List.set_cons_succ]; rfl) ?_
        refine g_val (j := 11) (want := false) (c := c0) (v := (.pointer (some ⟨b, off + k * 6, none⟩))) rfl rfl (fun hc V hV => by cases hc; exact run_v (ix_de hlt1)) (by simp only [Act.put, List.setIfInBounds_toArray, List.set_cons_zero, List.set_cons_succ]; rfl) ?_
        refine g_val (j := 11) (want := false) (c := c0) (v := (.pointer (some ⟨b, off + k * 6 + 1, none⟩))) rfl rfl (fun hc V hV => by cases hc; exact run_v fl_de1) (by simp only [Act.put, List.setIfInBounds_toArray, List.set_cons_zero, List.set_cons_succ]; rfl) ?_
        refine g_val (j := 11) (want := false) (c := c0) (v := (.string xnm)) rfl rfl (fun hc V hV => by cases hc; exact run_v (ld_str (below_in hV d1))) (by simp only [Act.put, List.setIfInBounds_toArray, List.set_cons_zero, List.set_cons_succ]; rfl) ?_
        refine g_val (j := 11) (want := false) (c := c0) (v := (.slice (some ⟨b', off', none⟩) l'.length cap')) rfl rfl (fun hc V hV => by cases hc; exact rfl) (by simp only [Act.put, List.setIfInBounds_toArray, List.set_cons_zero, List.set_cons_succ]; rfl) ?_
        refine g_val (j := 11) (want := false) (c := c0) (v := (.int .i64 k)) rfl rfl (fun hc V hV => by cases hc; exact rfl) (by simp only [Act.put, List.setIfInBounds_toArray, List.set_cons_zero, List.set_cons_succ]; rfl) ?_
        refine g_val (j := 11) (want := false) (c := c0) (v := (.pointer (some ⟨b', off' + k * 6, none⟩))) rfl rfl (fun hc V hV => by cases hc; exact run_v (ix_de hlt2)) (by simp only [Act.put, List.setIfInBounds_toArray, List.set_cons_zero, List.set_cons_succ]; rfl) ?_
        refine g_val (j := 11) (want := false) (c := c0) (v := (.pointer (some ⟨b', off' + k * 6 + 1, none⟩))) rfl rfl (fun hc V hV => by cases hc; exact run_v fl_de1) (by simp only [Act.put, List.setIfInBounds_toArray, List.set_cons_zero, List.set_cons_succ]; rfl) ?_
        refine g_val (j := 11) (want := false) (c := c0) (v := (.string ynm)) rfl rfl (fun hc V hV => by cases hc; exact run_v (ld_str (below_in hV f1))) (by simp only [Act.put, List.setIfInBounds_toArray, List.set_cons_zero, List.set_cons_succ]; rfl) ?_
        refine g_val (j := 11) (want := false) (c := c0) (v := (.bool c1)) rfl rfl (fun hc V hV => by cases hc; exact run_v (n1 _ _ V)) (by simp only [Act.put, List.setIfInBounds_toArray, List.set_cons_zero, List.set_cons_succ]; rfl) ?_
        refine t_val (v := (.bool o1)) rfl (fun V hV => congrArg (fun v => Result.ok (Next.value v) V) k1) (by simp only [Act.put, List.setIfInBounds_toArray, List.set_cons_zero, List.set_cons_succ]; rfl) ?_
        refine t_val (v := (.bool o1)) rfl (fun V hV => rfl) (by simp only [Act.put, List.setIfInBounds_toArray, List.set_cons_zero, List.set_cons_succ]; rfl) ?_
        refine g_val (j := 24) (want := false) (c := o1) (v := (.slice (some ⟨b, off, none⟩) l.length cap)) rfl rfl (fun hc V hV => by cases hc; exact rfl) (by simp only [Act.put, List.setIfInBounds_toArray, List.set_cons_zero, List.set_cons_succ]; rfl) ?_
        refine g_val (j := 24) (want := false) (c := o1) (v := (.int .i64 k)) rfl rfl (fun hc V hV => by cases hc; exact rfl) (by simp only [Act.put, List.setIfInBounds_toArray, List.set_cons_zero, List.set_cons_succ]; rfl) ?_
        refine g_val (j := 24) (want := false) (c := o1) (v := (.pointer (some ⟨b, off + k * 6, none⟩))) rfl rfl (fun hc V hV => by cases hc; exact run_v (ix_de hlt1)) (by simp only [Act.put, List.setIfInBounds_toArray, List.set_cons_zero, List.set_cons_succ]; rfl) ?_
        refine g_val (j := 24) (want := false) (c := o1) (v := (.pointer (some ⟨b, off + k * 6 + 2, none⟩))) rfl rfl (fun hc V hV => by cases hc; exact run_v fl_de2) (by simp only [Act.put, List.setIfInBounds_toArray, List.set_cons_zero, List.set_cons_succ]; rfl) ?_
        refine g_val (j := 24) (want := false) (c := o1) (v := (.int .i64 xn)) rfl rfl (fun hc V hV => by cases hc; exact run_v (ld_i64 (below_in hV d2))) (by simp only [Act.put, List.setIfInBounds_toArray, List.set_cons_zero, List.set_cons_succ]; rfl) ?_
        refine g_val (j := 24) (want := false) (c := o1) (v := (.slice (some ⟨b', off', none⟩) l'.length cap')) rfl rfl (fun hc V hV => by cases hc; exact rfl) (by simp only [Act.put, List.setIfInBounds_toArray, List.set_cons_zero, List.set_cons_succ]; rfl) ?_
        refine g_val (j := 24) (want := false) (c := o1) (v := (.int .i64 k)) rfl rfl (fun hc V hV => by cases hc; exact rfl) (by simp only [Act.put, List.setIfInBounds_toArray, List.set_cons_zero, List.set_cons_succ]; rfl) ?_
        refine g_val (j := 24) (want := false) (c := o1) (v := (.pointer (some ⟨b', off' + k * 6, none⟩))) rfl rfl (fun hc V hV => by cases hc; exact run_v (ix_de hlt2)) (by simp only [Act.put, List.setIfInBounds_toArray, List.set_cons_zero, List.set_cons_succ]; rfl) ?_
        refine g_val (j := 24) (want := false) (c := o1) (v := (.pointer (some ⟨b', off' + k * 6 + 2, none⟩))) rfl rfl (fun hc V hV => by cases hc; exact run_v fl_de2) (by simp only [Act.put, List.setIfInBounds_toArray, List.set_cons_zero, List.set_cons_succ]; rfl) ?_
        refine g_val (j := 24) (want := false) (c := o1) (v := (.int .i64 yn)) rfl rfl (fun hc V hV => by cases hc; exact run_v (ld_i64 (below_in hV f2))) (by simp only [Act.put, List.setIfInBounds_toArray, List.set_cons_zero, List.set_cons_succ]; rfl) ?_
        refine g_val (j := 24) (want := false) (c := o1) (v := (.bool c2)) rfl rfl (fun hc V hV => by cases hc; exact run_v (n2 _ _ V)) (by simp only [Act.put, List.setIfInBounds_toArray, List.set_cons_zero, List.set_cons_succ]; rfl) ?_
        refine t_val (v := (.bool o2)) rfl (fun V hV => congrArg (fun v => Result.ok (Next.value v) V) k2) (by simp only [Act.put, List.setIfInBounds_toArray, List.set_cons_zero, List.set_cons_succ]; rfl) ?_
        refine t_val (v := (.bool o2)) rfl (fun V hV => rfl) (by simp only [Act.put, List.setIfInBounds_toArray, List.set_cons_zero, List.set_cons_succ]; rfl) ?_
        refine g_val (j := 37) (want := false) (c := o2) (v := (.slice (some ⟨b, off, none⟩) l.length cap)) rfl rfl (fun hc V hV => by cases hc; exact rfl) (by simp only [Act.put, List.setIfInBounds_toArray, List.set_cons_zero, List.set_cons_succ]; rfl) ?_
        refine g_val (j := 37) (want := false) (c := o2) (v := (.int .i64 k)) rfl rfl (fun hc V hV => by cases hc; exact rfl) (by simp only [Act.put, List.setIfInBounds_toArray, List.set_cons_zero, List.set_cons_succ]; rfl) ?_
        refine g_val (j := 37) (want := false) (c := o2) (v := (.pointer (some ⟨b, off + k * 6, none⟩))) rfl rfl (fun hc V hV => by cases hc; exact run_v (ix_de hlt1)) (by simp only [Act.put, List.setIfInBounds_toArray, List.set_cons_zero, List.set_cons_succ]; rfl) ?_
        refine g_val (j := 37) (want := false) (c := o2) (v := (.pointer (some ⟨b, off + k * 6 + 3, none⟩))) rfl rfl (fun hc V hV => by cases hc; exact run_v fl_de3) (by simp only [Act.put, List.setIfInBounds_toArray, List.set_cons_zero, List.set_cons_succ]; rfl) ?_
        refine g_val (j := 37) (want := false) (c := o2) (v := (.slice pa xp.length pcap)) rfl rfl (fun hc V hV => by cases hc; exact run_v (ld_strs (below_in hV d3))) (by simp only [Act.put, List.setIfInBounds_toArray, List.set_cons_zero, List.set_cons_succ]; rfl) ?_
        refine g_val (j := 37) (want := false) (c := o2) (v := (.int .i64 xp.length)) rfl rfl (fun hc V hV => by cases hc; exact run_len rfl rfl ln_strs) (by simp only [Act.put, List.setIfInBounds_toArray, List.set_cons_zero, List.set_cons_succ]; rfl) ?_
        refine g_val (j := 37) (want := false) (c := o2) (v := (.slice (some ⟨b', off', none⟩) l'.length cap')) rfl rfl (fun hc V hV => by cases hc; exact rfl) (by simp only [Act.put, List.setIfInBounds_toArray, List.set_cons_zero, List.set_cons_succ]; rfl) ?_
        refine g_val (j := 37) (want := false) (c := o2) (v := (.int .i64 k)) rfl rfl (fun hc V hV => by cases hc; exact rfl) (by simp only [Act.put, List.setIfInBounds_toArray, List.set_cons_zero, List.set_cons_succ]; rfl) ?_
        refine g_val (j := 37) (want := false) (c := o2) (v := (.pointer (some ⟨b', off' + k * 6, none⟩))) rfl rfl (fun hc V hV => by cases hc; exact run_v (ix_de hlt2)) (by simp only [Act.put, List.setIfInBounds_toArray, List.set_cons_zero, List.set_cons_succ]; rfl) ?_
        refine g_val (j := 37) (want := false) (c := o2) (v := (.pointer (some ⟨b', off' + k * 6 + 3, none⟩))) rfl rfl (fun hc V hV => by cases hc; exact run_v fl_de3) (by simp only [Act.put, List.setIfInBounds_toArray, List.set_cons_zero, List.set_cons_succ]; rfl) ?_
        refine g_val (j := 37) (want := false) (c := o2) (v := (.slice qa yp.length qcap)) rfl rfl (fun hc V hV => by cases hc; exact run_v (ld_strs (below_in hV f3))) (by simp only [Act.put, List.setIfInBounds_toArray, List.set_cons_zero, List.set_cons_succ]; rfl) ?_
        refine g_val (j := 37) (want := false) (c := o2) (v := (.int .i64 yp.length)) rfl rfl (fun hc V hV => by cases hc; exact run_len rfl rfl ln_strs) (by simp only [Act.put, List.setIfInBounds_toArray, List.set_cons_zero, List.set_cons_succ]; rfl) ?_
        refine g_val (j := 37) (want := false) (c := o2) (v := (.bool c3)) rfl rfl (fun hc V hV => by cases hc; exact run_v (n3 _ _ V)) (by simp only [Act.put, List.setIfInBounds_toArray, List.set_cons_zero, List.set_cons_succ]; rfl) ?_
        refine t_val (v := (.bool o3)) rfl (fun V hV => congrArg (fun v => Result.ok (Next.value v) V) k3) (by simp only [Act.put, List.setIfInBounds_toArray, List.set_cons_zero, List.set_cons_succ]; rfl) ?_
        refine t_val (v := (.bool o3)) rfl (fun V hV => rfl) (by simp only [Act.put, List.setIfInBounds_toArray, List.set_cons_zero, List.set_cons_succ]; rfl) ?_
        refine g_val (j := 52) (want := false) (c := o3) (v := (.slice (some ⟨b, off, none⟩) l.length cap)) rfl rfl (fun hc V hV => by cases hc; exact rfl) (by simp only [Act.put, List.setIfInBounds_toArray, List.set_cons_zero, List.set_cons_succ]; rfl) ?_
        refine g_val (j := 52) (want := false) (c := o3) (v := (.int .i64 k)) rfl rfl (fun hc V hV => by cases hc; exact rfl) (by simp only [Act.put, List.setIfInBounds_toArray, List.set_cons_zero, List.set_cons_succ]; rfl) ?_
        refine g_val (j := 52) (want := false) (c := o3) (v := (.pointer (some ⟨b, off + k * 6, none⟩))) rfl rfl (fun hc V hV => by cases hc; exact run_v (ix_de hlt1)) (by simp only [Act.put, List.setIfInBounds_toArray, List.set_cons_zero, List.set_cons_succ]; rfl) ?_
        refine g_val (j := 52) (want := false) (c := o3) (v := (.pointer (some ⟨b, off + k * 6 + 4, none⟩))) rfl rfl (fun hc V hV => by cases hc; exact run_v fl_de4) (by simp only [Act.put, List.setIfInBounds_toArray, List.set_cons_zero, List.set_cons_succ]; rfl) ?_
        refine g_val (j := 52) (want := false) (c := o3) (v := (.slice ba xbody.length bcap)) rfl rfl (fun hc V hV => by cases hc; exact run_v (ld_sts (below_in hV d4))) (by simp only [Act.put, List.setIfInBounds_toArray, List.set_cons_zero, List.set_cons_succ]; rfl) ?_
        refine g_val (j := 52) (want := false) (c := o3) (v := (.slice (some ⟨b', off', none⟩) l'.length cap')) rfl rfl (fun hc V hV => by cases hc; exact rfl) (by simp only [Act.put, List.setIfInBounds_toArray, List.set_cons_zero, List.set_cons_succ]; rfl) ?_
        refine g_val (j := 52) (want := false) (c := o3) (v := (.int .i64 k)) rfl rfl (fun hc V hV => by cases hc; exact rfl) (by simp only [Act.put, List.setIfInBounds_toArray, List.set_cons_zero, List.set_cons_succ]; rfl) ?_
        refine g_val (j := 52) (want := false) (c := o3) (v := (.pointer (some ⟨b', off' + k * 6, none⟩))) rfl rfl (fun hc V hV => by cases hc; exact run_v (ix_de hlt2)) (by simp only [Act.put, List.setIfInBounds_toArray, List.set_cons_zero, List.set_cons_succ]; rfl) ?_
        refine g_val (j := 52) (want := false) (c := o3) (v := (.pointer (some ⟨b', off' + k * 6 + 4, none⟩))) rfl rfl (fun hc V hV => by cases hc; exact run_v fl_de4) (by simp only [Act.put, List.setIfInBounds_toArray, List.set_cons_zero, List.set_cons_succ]; rfl) ?_
        refine g_val (j := 52) (want := false) (c := o3) (v := (.slice ca ybody.length ccap)) rfl rfl (fun hc V hV => by cases hc; exact run_v (ld_sts (below_in hV f4))) (by simp only [Act.put, List.setIfInBounds_toArray, List.set_cons_zero, List.set_cons_succ]; rfl) ?_
        refine g_call (j := 52) (want := false) (c := o3) (v := (.bool vB)) (f := 51) (args := #[(.slice ba xbody.length bcap), (.slice ca ybody.length ccap)]) rfl rfl (fun hc V hV => by cases hc; exact run_call2 rfl rfl rfl en_bobbinref02_sameStmts) (fun _ V hV => q4 V hV) (by simp only [Act.put, List.setIfInBounds_toArray, List.set_cons_zero, List.set_cons_succ]; rfl) ?_
        refine g_val (j := 52) (want := false) (c := o3) (v := (.bool c4)) rfl rfl (fun hc V hV => by cases hc; exact run_v (n4 V)) (by simp only [Act.put, List.setIfInBounds_toArray, List.set_cons_zero, List.set_cons_succ]; rfl) ?_
        refine t_val (v := (.bool o4)) rfl (fun V hV => congrArg (fun v => Result.ok (Next.value v) V) k4) (by simp only [Act.put, List.setIfInBounds_toArray, List.set_cons_zero, List.set_cons_succ]; rfl) ?_
        refine wpQuiet_nil (fun V hV => ?_)
        have hd : o4 = (decide (¬ xk = yk) || decide (¬ xnm = ynm) || decide (¬ xn = yn) || decide (¬ (xp.length : Int) = (yp.length : Int)) || !vB) := by rw [g4.out, g3.out, g2.out, g1.out, e0.out, e1.out, e2.out, e3.out, e4.out]
        have hfn := hfin.out V hV
        have x3 := below_in hV d3
        have x8 := below_in hV f3
        clear e0 e1 e2 e3 e4 g1 g2 g3 g4 k1 k2 k3 k4 n0 n1 n2 n3 n4 q4 d0 d1 d2 d3 d4 f0 f1 f2 f3 f4
        have hbq := Lib.hid hV
        clear hV
        cases o4 with
        | true =>
          have hF : Hid (sameDL l l' = false) := Lib.hid (by
            rw [hsame1.out]
            have h1 := orD hd.symm
            rw [h1]; rfl)
          clear hd hsame hsame1 hfin
          go_wp2_with fail
          go_ret
          exact ⟨ret_bool hF.out.symm, hfn⟩
        | false =>
          have hq := orF hd.symm
          obtain ⟨⟨rfl, rfl, rfl, h4⟩, rfl⟩ := hq
          have h4' := Lib.hid h4
          clear h4 hd
          go_wp2_with fail
          obtain ⟨wo, hwo⟩ : ∃ wo : World, wo = wr := ⟨_, rfl⟩
          subst hwo
          go_loopw [6] (fun i wi => ∃ j : Nat, j ≤ xp.length ∧ i = .int .i64 j ∧ Hid (xp.take j = yp.take j) ∧ Below V.heap.size V wi) (fun i _ => xp.length - (intOf i).toNat)
          case atStart => exact ⟨0, Nat.zero_le _, rfl, Lib.hid (by simp), Below.refl _ _⟩
          case round =>
            obtain ⟨j, hj, rfl, hpre, hbi⟩ := hrel
            have y3 := below_in hbi x3
            have y8 := below_in hbi x8
            have hbi' := Lib.hid hbi
            by_cases hjt : j < xp.length
            · have hjt' : j < yp.length := by have := h4'.out; omega
              obtain ⟨x, hx⟩ : ∃ e, xp[j]? = some e := ⟨xp[j], by simp [hjt]⟩
              obtain ⟨y, hy⟩ : ∃ e, yp[j]? = some e := ⟨yp[j], by simp [hjt']⟩
              obtain ⟨b3, off3, rfl, _, c1⟩ := str_row rp1.out j x hx
              obtain ⟨b4, off4, rfl, _, c2⟩ := str_row rp2.out j y hy
              have z1 := below_in hbi (below_in hbq.out c1)
              have z2 := below_in hbi (below_in hbq.out c2)
              have htx : xp.take (j + 1) = xp.take j ++ [x] := by rw [List.take_add_one, hx]; rfl
              have hty : yp.take (j + 1) = yp.take j ++ [y] := by rw [List.take_add_one, hy]; rfl
              replace htx := Lib.hid htx
              replace hty := Lib.hid hty
              replace hx := Lib.hid hx
              replace hy := Lib.hid hy
              clear c1 c2 hbi
              have hj1 : (j : Int) < (xp.length : Int) := by omega
              have hj2 : (j : Int) < (yp.length : Int) := by omega
              obtain ⟨c, ec⟩ : ∃ c : Bool, Hid (c = decide (¬ x = y)) := ⟨_, Lib.hid rfl⟩
              have nn : ∀ (p q : Operand) (V : World), (do eqGuard .neq 9 p q (.string x) (.string y); binOp .neq 9 (.string x) (.string y) : Sem Value).run Tryz.prog V = .ok (.bool c) V := fun p q V => by rw [ec.out]; exact ne_str
              go_upto_region 11 with fail
              refine wp_region_quiet (C := fun U => Below wr.heap.size wr U) (by kernel_rfl) (by kernel_rfl) (Below.refl _ _).drew ?_
              refine t_val (v := (.slice (some ⟨b, off, none⟩) l.length cap)) rfl (fun V hV => rfl) (by simp only [Act.put, List.setIfInBounds_toArray, List.set_cons_zero, List.set_cons_succ]; rfl) ?_
              refine t_val (v := (.int .i64 k)) rfl (fun V hV => rfl) (by simp only [Act.put, List.setIfInBounds_toArray, List.set_cons_zero, List.set_cons_succ]; rfl) ?_
              refine t_val (v := (.pointer (some ⟨b, off + k * 6, none⟩))) rfl (fun V hV => run_v (ix_de hlt1)) (by simp only [Act.put, List.setIfInBounds_toArray, List.set_cons_zero, List.set_cons_succ]; rfl) ?_
              refine t_val (v := (.pointer (some ⟨b, off + k * 6 + 3, none⟩))) rfl (fun V hV => run_v fl_de3) (by simp only [Act.put, List.setIfInBounds_toArray, List.set_cons_zero, List.set_cons_succ]; rfl) ?_
              refine t_val (v := (.slice (some ⟨b3, off3, none⟩) xp.length pcap)) rfl (fun V hV => run_v (ld_strs (below_in hV y3))) (by simp only [Act.put, List.setIfInBounds_toArray, List.set_cons_zero, List.set_cons_succ]; rfl) ?_
              refine t_val (v := (.int .i64 j)) rfl (fun V hV => rfl) (by simp only [Act.put, List.setIfInBounds_toArray, List.set_cons_zero, List.set_cons_succ]; rfl) ?_
              refine t_val (v := (.pointer (some ⟨b3, off3 + j, none⟩))) rfl (fun V hV => run_v (ix_str hj1)) (by simp only [Act.put, List.setIfInBounds_toArray, List.set_cons_zero, List.set_cons_succ]; rfl) ?_
              refine t_val (v := (.string x)) rfl (fun V hV => run_v (ld_str (below_in hV z1))) (by simp only [Act.put, List.setIfInBounds_toArray, List.set_cons_zero, List.set_cons_succ]; rfl) ?_
              refine t_val (v := (.slice (some ⟨b', off', none⟩) l'.length cap')) rfl (fun V hV => rfl) (by simp only [Act.put, List.setIfInBounds_toArray, List.set_cons_zero, List.set_cons_succ]; rfl) ?_
              refine t_val (v := (.int .i64 k)) rfl (fun V hV => rfl) (by simp only [Act.put, List.setIfInBounds_toArray, List.set_cons_zero, List.set_cons_succ]; rfl) ?_
              refine t_val (v := (.pointer (some ⟨b', off' + k * 6, none⟩))) rfl (fun V hV => run_v (ix_de hlt2)) (by simp only [Act.put, List.setIfInBounds_toArray, List.set_cons_zero, List.set_cons_succ]; rfl) ?_
              refine t_val (v := (.pointer (some ⟨b', off' + k * 6 + 3, none⟩))) rfl (fun V hV => run_v fl_de3) (by simp only [Act.put, List.setIfInBounds_toArray, List.set_cons_zero, List.set_cons_succ]; rfl) ?_
              refine t_val (v := (.slice (some ⟨b4, off4, none⟩) yp.length qcap)) rfl (fun V hV => run_v (ld_strs (below_in hV y8))) (by simp only [Act.put, List.setIfInBounds_toArray, List.set_cons_zero, List.set_cons_succ]; rfl) ?_
              refine t_val (v := (.int .i64 j)) rfl (fun V hV => rfl) (by simp only [Act.put, List.setIfInBounds_toArray, List.set_cons_zero, List.set_cons_succ]; rfl) ?_
              refine t_val (v := (.pointer (some ⟨b4, off4 + j, none⟩))) rfl (fun V hV => run_v (ix_str hj2)) (by simp only [Act.put, List.setIfInBounds_toArray, List.set_cons_zero, List.set_cons_succ]; rfl) ?_
              refine t_val (v := (.string y)) rfl (fun V hV => run_v (ld_str (below_in hV z2))) (by simp only [Act.put, List.setIfInBounds_toArray, List.set_cons_zero, List.set_cons_succ]; rfl) ?_
              refine t_val (v := (.bool c)) rfl (fun V hV => run_v (nn _ _ V)) (by simp only [Act.put, List.setIfInBounds_toArray, List.set_cons_zero, List.set_cons_succ]; rfl) ?_
              refine wpQuiet_nil (fun U hU => ?_)
              have hfu := hbi'.out.trans (hU.mono hbi'.out.size)
              replace hfu := Lib.hid hfu
              clear hU nn y3 y8 z1 z2 hbi'
              cases c with
              | true =>
                have hF : Hid (sameDL l l' = false) := Lib.hid (by
                  rw [hsame1.out]
                  have hxy : ¬ xp = yp := fun h => by
                    have h1 := hx.out
                    rw [h, hy.out] at h1
                    have h2 := ec.out
                    simp at h1 h2
                    exact h2 h1.symm
                  simp [hxy])
                clear hsame hsame1 hx hy htx hty hpre ec
                go_wp2_with fail
                go_ret
                exact ⟨ret_bool hF.out.symm, hfn.trans (hfu.out.mono hfn.size)⟩
              | false =>
                have hP : Hid (xp.take (j + 1) = yp.take (j + 1)) := Lib.hid (by
                  have h2 := ec.out
                  simp at h2
                  rw [htx.out, hty.out, hpre.out, h2])
                clear hsame hsame1 hx hy htx hty hpre ec
                go_wp2_with fail
                go_roundw
                case rel => exact ⟨j + 1, by omega, by go_num, hP, hfu.out⟩
                case measure => simp [intOf]; omega
            · have hxy : xp = yp := by
                have h1 := hpre.out
                have h2 := h4'.out
                rw [List.take_of_length_le (by omega), List.take_of_length_le (by omega)] at h1
                exact h1
              have hF : Hid (sameDL l l' = sameDL (l.drop (k + 1)) (l'.drop (k + 1))) := Lib.hid (by rw [hsame1.out]; simp [hxy])
              have hjl : j = xp.length := by omega
              have hfu := Lib.hid (hfn.trans (hbi.mono hfn.size))
              clear hsame hsame1 hpre hxy
              go_wp2_with fail
              go_roundw
              case rel => exact ⟨k + 1, by omega, by go_num, hF, hfu.out⟩
              case measure => simp [intOf]; omega
      · have hF : Hid (sameDL l l' = true) := Lib.hid (by
          rw [hsame.out, List.drop_of_length_le (by omega), List.drop_of_length_le (by have := hle'.out; omega)]; rfl)
        clear hsame
        go_wp2_with fail
        go_ret
        exact ⟨ret_bool hF.out.symm, hbr⟩
  · have hne : ((l.length : Int) != (l'.length : Int)) = true := by simp; omega
    have hF : Hid (sameDL l l' = false) := Lib.hid (by rw [Bool.eq_false_iff]; intro h; exact hle (sameDL_len _ _ h))
    go_enter Tryz.func24, Tryz.ntmps24
    go_wp2_with fail
    go_ret
    exact ⟨ret_bool hF.out.symm, Below.refl _ _⟩
end Go.Proofs.YtfhmhplbkheojaaGreatDoor.Tr
