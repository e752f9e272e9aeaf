/- The walk of alike: true of statements that are the same but for addresses and places. Conditions: what is read is such that shape answers; it is not too large. -/
import Derived.Test.YtfhmhplbkheojaaGreatDoorGrAX
import Derived.Test.YtfhmhplbkheojaaGreatDoorGrAF
import Derived.Deep.RegionHeld3
import Derived.Deep.DrawnRows
import Derived.Deep.Cut
import Derived.Deep.Quiet
import Derived.Deep.QuietTactic
import Derived.OrdersHeld
namespace Go.Proofs.YtfhmhplbkheojaaGreatDoor.Pa
open Go Go.RowKit
open Go.Proofs.YtfhmhplbkheojaaGreatDoor.Lx Go.Proofs.YtfhmhplbkheojaaGreatDoor.Tr

/-- a region that leaves two new blocks: what stands behind it is shown once for all orders -/
theorem pair_cut {P : Program} {c : Code} {Q : Exit → Act → World → Prop} {a : Act} {w : World} (G : Nat → Nat → Act → Act) (F : Nat → Nat → World → Prop)
    (h1 : c.wp P (fun e a' w' => e = .normal ∧ ∃ k k', F k k' w' ∧ a' = G k k' a) a w) (h2 : ∀ k k' w', F k k' w' → Q .normal (G k k' a) w') : c.wp P Q a w :=
  Code.wp_mono (fun e a' w' ⟨he, k, k', hF, ha⟩ => by subst he; subst ha; exact h2 k k' w' hF) h1
theorem up_cell {w : World} {b o : Nat} {v : Value} (h : w.cell? ⟨b, o, none⟩ = some v) : ∀ U : UpW w, U.val.cell? ⟨b, o, none⟩ = some v := fun U => below_in U.ok h
theorem stL_inj {l l' : List St} (h : St.erL l = St.erL l') {i : Nat} {e e' : St} (he : l[i]? = some e) (he' : l'[i]? = some e') : e.er = e'.er := by
  rw [St.erL_map, St.erL_map] at h
  have := congrArg (fun x => x[i]?) h
  simp only [List.getElem?_map, he, he'] at this
  exact Option.some.inj this
theorem exL_inj {l l' : List Ex} (h : Ex.erL l = Ex.erL l') {i : Nat} {e e' : Ex} (he : l[i]? = some e) (he' : l'[i]? = some e') : e.er = e'.er := by
  rw [Ex.erL_map, Ex.erL_map] at h
  have := congrArg (fun x => x[i]?) h
  simp only [List.getElem?_map, he, he'] at this
  exact Option.some.inj this
theorem gL_get {l : List Ex} (h : gL l = true) {i : Nat} {e : Ex} (he : l[i]? = some e) : gE e = true := by
  rw [gL_all] at h
  exact List.all_eq_true.1 h e (List.mem_of_getElem? he)
theorem gSL_get {l : List St} (h : gSL l = true) {i : Nat} {e : St} (he : l[i]? = some e) : gS e = true := by
  rw [gSL_all] at h
  exact List.all_eq_true.1 h e (List.mem_of_getElem? he)
/-- shape's contract of an expression and of one that is the same -/
theorem shape_two {w : World} {e e' : Ex} (h : e.er = e'.er) (hg : gE e = true) (hz : e.sz ≤ 22000) (hi : Ex.In w (fun _ => True) e') :
    Calls Tryz.prog 38 #[.agg ⟨e'.vals⟩] w fun x w' => x = .returned (.string (shp e)) ∧ Below w.heap.size w w' := by
  have h1 : shp e = shp e' := by rw [← shp_er e, ← shp_er e', h]
  have h2 : gE e' = true := by rw [← gE_er e', ← h, gE_er]; exact hg
  have h3 := shp_le e hg
  have h4 := shape_any _ e' w (Nat.le_refl _) (gE_ok e' h2) (by rw [← h1]; omega) hi
  rw [← h1] at h4
  exact h4
set_option linter.unusedSimpArgs false in
set_option maxHeartbeats 40000000 in
set_option maxRecDepth 100000 in
theorem alike_any : ∀ (s : Nat) (l l' : List St) (a a' : Option Addr) (cap cap' : Nat) (w : World), St.szL l ≤ s → RowAt w (fun _ => True) a cap l.length (stCells l) → RowAt w (fun _ => True) a' cap' l'.length (stCells l') → St.InL w (fun _ => True) l → St.InL w (fun _ => True) l' → St.erL l = St.erL l' → gSL l = true → St.szL l ≤ 22000 →
    Calls Tryz.prog 27 #[.slice a l.length cap, .slice a' l'.length cap'] w fun x w' => x = .returned (.bool true) ∧ Below w.heap.size w w' := by
  intro s
  induction s using Nat.strongRecOn with
  | _ s ih =>
    intro l l' a a' cap cap' w hs hrow hrow' hin hin' her hg hz
    have hll : l.length ≤ 9223372036854775807 := by have := hrow.le; have := hrow.lim; unfold maxLen at this; omega
    have hlen : l'.length = l.length := by rw [← St.erL_len l', ← her, St.erL_len]
    have hcx := Lib.hid (fun (k : Nat) (x x' : St) (hx : l[k]? = some x) (hx' : l'[k]? = some x') => (⟨St.InL.get hin hx, St.InL.get hin' hx', stL_inj her hx hx', gSL_get hg hx, St.sz_get hx⟩ : St.In w (fun _ => True) x ∧ St.In w (fun _ => True) x' ∧ x.er = x'.er ∧ gS x = true ∧ x.sz ≤ St.szL l))
    replace ih := Lib.hid ih
    rw [hlen] at hrow' ⊢
    clear hin hin' her hg
    go_enter Tryz.func27, Tryz.ntmps27
    go_wp2_with fail
    go_loopw [5] (fun i wr => ∃ k : Nat, k ≤ l.length ∧ i = .int .i64 k ∧ Below w.heap.size w wr) (fun i _ => l.length - (intOf i).toNat)
    case atStart => exact ⟨0, Nat.zero_le _, rfl, Below.refl _ _⟩
    case round =>
      obtain ⟨k, hk, rfl, hbr⟩ := hrel
      by_cases hlt : k < l.length
      · have hlt' : k < l'.length := by rw [hlen]; exact hlt
        obtain ⟨e, he⟩ : ∃ e, l[k]? = some e := ⟨l[k], by simp [hlt]⟩
        obtain ⟨e', he'⟩ : ∃ e, l'[k]? = some e := ⟨l'[k], by simp [hlt']⟩
        obtain ⟨hi1, hi2, he3, hg3, hz3⟩ := hcx.out k e e' he he'
        obtain ⟨b, off, rfl, _, hcell⟩ := st_row hrow k e he
        obtain ⟨b', off', rfl, _, hcell'⟩ := st_row (by rw [hlen]; exact hrow' : RowAt w (fun _ => True) a' cap' l'.length (stCells l')) k e' he'
        obtain ⟨xk, xnm, xto, xnw, ea, ecap, xe, ba, bcap, xbody, la, lcap, xels, xpos⟩ := e
        obtain ⟨yk, ynm, yto, ynw, fa, fcap, ye, ca, ccap, ybody, ma, mcap, yels, ypos⟩ := e'
        rw [St.er_eq, St.er_eq] at he3
        simp only [St.mk.injEq, true_and] at he3
        obtain ⟨rfl, rfl, rfl, rfl, heE, heB, heL, _⟩ := he3
        rw [gS_eq, Bool.and_eq_true, Bool.and_eq_true] at hg3
        obtain ⟨⟨gE3, gB3⟩, gL3⟩ := hg3
        rw [szS_mk] at hz3
        unfold St.In at hi1 hi2
        obtain ⟨_, _, _, _, re1, ie1, rb1, ib1, rl1, il1⟩ := hi1
        obtain ⟨_, _, _, _, re2, ie2, rb2, ib2, rl2, il2⟩ := hi2
        have elE : ye.length = xe.length := by rw [← Ex.erL_len ye, ← heE, Ex.erL_len]
        have elB : ybody.length = xbody.length := by rw [← St.erL_len ybody, ← heB, St.erL_len]
        have elL : yels.length = xels.length := by rw [← St.erL_len yels, ← heL, St.erL_len]
        have cB := Lib.hid (fun V (h : Below w.heap.size w V) => ih.out (St.szL xbody) (by omega) xbody ybody ba ca bcap ccap V (Nat.le_refl _) (rb1.below (Kps.of_below h)) (rb2.below (Kps.of_below h)) (St.InL.below (Kps.of_below h) _ ib1) (St.InL.below (Kps.of_below h) _ ib2) heB gB3 (by omega))
        have cL := Lib.hid (fun V (h : Below w.heap.size w V) => ih.out (St.szL xels) (by omega) xels yels la ma lcap mcap V (Nat.le_refl _) (rl1.below (Kps.of_below h)) (rl2.below (Kps.of_below h)) (St.InL.below (Kps.of_below h) _ il1) (St.InL.below (Kps.of_below h) _ il2) heL gL3 (by omega))
        have cE := Lib.hid (fun (j : Nat) (x x' : Ex) (hx : xe[j]? = some x) (hx' : ye[j]? = some x') V (h : Below w.heap.size w V) => (⟨shape_two (w := V) rfl (gL_get gE3 hx) (by have := Ex.sz_get hx; omega) (Ex.In.below (Kps.of_below h) _ (Ex.InL.get ie1 hx)), shape_two (exL_inj heE hx hx') (gL_get gE3 hx) (by have := Ex.sz_get hx; omega) (Ex.In.below (Kps.of_below h) _ (Ex.InL.get ie2 hx'))⟩ : _ ∧ _))
        have hxl : xe.length ≤ 9223372036854775807 := by have := re1.le; have := re1.lim; unfold maxLen at this; omega
        have rE1 := Lib.hid (fun (j : Nat) (x : Ex) (hx : xe[j]? = some x) => ex_row re1 j x hx)
        have rE2 := Lib.hid (fun (j : Nat) (x : Ex) (hx : ye[j]? = some x) => ex_row re2 j x hx)
        rw [elB] at cB
        rw [elL] at cL
        simp only [← Nat.add_assoc] at hcell hcell'
        have c0 := below_in hbr (hcell 0 _ rfl)
        have c1 := below_in hbr (hcell 1 _ rfl)
        have c2 := below_in hbr (hcell 2 _ rfl)
        have c3 := below_in hbr (hcell 3 _ rfl)
        have c4 := below_in hbr (hcell 4 _ rfl)
        have c5 := below_in hbr (hcell 5 _ rfl)
        have c6 := below_in hbr (hcell 6 _ rfl)
        have c7 := below_in hbr (hcell 7 _ rfl)
        have d0 := below_in hbr (hcell' 0 _ rfl)
        have d1 := below_in hbr (hcell' 1 _ rfl)
        have d2 := below_in hbr (hcell' 2 _ rfl)
        have d3 := below_in hbr (hcell' 3 _ rfl)
        have d4 := below_in hbr (hcell' 4 _ rfl)
        have d5 := below_in hbr (hcell' 5 _ rfl)
        have d6 := below_in hbr (hcell' 6 _ rfl)
        have d7 := below_in hbr (hcell' 7 _ rfl)
        rw [Nat.add_zero] at c0 d0
        rw [elE] at d4
        rw [elB] at d5
        rw [elL] at d6
        have hlt1 : (k : Int) < (l.length : Int) := by omega
        have hk0 : (0 : Int) ≤ (k : Int) := by omega
        replace hbr := Lib.hid hbr
        replace elE := Lib.hid elE
        clear hcell hcell' hrow hrow' heE heB heL gE3 gB3 gL3 re1 re2 rb1 rb2 rl1 rl2 ie1 ie2 ib1 ib2 il1 il2 elB elL hz3 he he' hcx ih
        go_upto_region 6 with fail
        refine pair_cut (G := (fun k6 k7 a => ((((((((((a.put (some 20) (.slice (some ⟨b, off, none⟩) l.length cap)).put (some 21) (.int .i64 k)).put (some 22) (.pointer (some ⟨b, off + k * 8, none⟩))).put (some 23) (.agg #[.int .u8 xk, .string xnm, .string xto, .bool xnw, .slice ea xe.length ecap, .slice ba xbody.length bcap, .slice la xels.length lcap, .int .i64 xpos])).put (some 24) (.slice (some ⟨b', off', none⟩) l.length cap')).put (some 25) (.int .i64 k)).put (some 26) (.pointer (some ⟨b', off' + k * 8, none⟩))).put (some 27) (.agg #[.int .u8 xk, .string xnm, .string xto, .bool xnw, .slice fa xe.length fcap, .slice ca xbody.length ccap, .slice ma xels.length mcap, .int .i64 ypos])).put (some 6) (.pointer (some ⟨k6, 0, none⟩))).put (some 7) (.pointer (some ⟨k7, 0, none⟩))))) (F := fun k6 k7 V => Below wr.heap.size wr V ∧ k6 ≠ k7 ∧ V.heap[k6]? = some (.cells #[.int .u8 xk, .string xnm, .string xto, .bool xnw, .slice ea xe.length ecap, .slice ba xbody.length bcap, .slice la xels.length lcap, .int .i64 xpos] 45 (0, 0)) ∧ V.heap[k7]? = some (.cells #[.int .u8 xk, .string xnm, .string xto, .bool xnw, .slice fa xe.length fcap, .slice ca xbody.length ccap, .slice ma xels.length mcap, .int .i64 ypos] 45 (0, 0))) ?reg ?rest
        case reg =>
          have hSb : Hid (∀ V, Below wr.heap.size wr V → (fun V : World => V.cell? ⟨b, off + k * 8, none⟩ = some (.int .u8 xk) ∧ V.cell? ⟨b, off + k * 8 + 1, none⟩ = some (.string xnm) ∧ V.cell? ⟨b, off + k * 8 + 2, none⟩ = some (.string xto) ∧ V.cell? ⟨b, off + k * 8 + 3, none⟩ = some (.bool xnw) ∧ V.cell? ⟨b, off + k * 8 + 4, none⟩ = some (.slice ea xe.length ecap) ∧ V.cell? ⟨b, off + k * 8 + 5, none⟩ = some (.slice ba xbody.length bcap) ∧ V.cell? ⟨b, off + k * 8 + 6, none⟩ = some (.slice la xels.length lcap) ∧ V.cell? ⟨b, off + k * 8 + 7, none⟩ = some (.int .i64 xpos) ∧ V.cell? ⟨b', off' + k * 8, none⟩ = some (.int .u8 xk) ∧ V.cell? ⟨b', off' + k * 8 + 1, none⟩ = some (.string xnm) ∧ V.cell? ⟨b', off' + k * 8 + 2, none⟩ = some (.string xto) ∧ V.cell? ⟨b', off' + k * 8 + 3, none⟩ = some (.bool xnw) ∧ V.cell? ⟨b', off' + k * 8 + 4, none⟩ = some (.slice fa xe.length fcap) ∧ V.cell? ⟨b', off' + k * 8 + 5, none⟩ = some (.slice ca xbody.length ccap) ∧ V.cell? ⟨b', off' + k * 8 + 6, none⟩ = some (.slice ma xels.length mcap) ∧ V.cell? ⟨b', off' + k * 8 + 7, none⟩ = some (.int .i64 ypos)) V) := Lib.hid fun V hV => ⟨below_in hV c0, below_in hV c1, below_in hV c2, below_in hV c3, below_in hV c4, below_in hV c5, below_in hV c6, below_in hV c7, below_in hV d0, below_in hV d1, below_in hV d2, below_in hV d3, below_in hV d4, below_in hV d5, below_in hV d6, below_in hV d7⟩
          have hSS := hSb.out wr.drew (Below.refl _ _).drew
          refine wp_region_noPanic ?_
          refine wp_region_held_drew (S := (fun V : World => V.cell? ⟨b, off + k * 8, none⟩ = some (.int .u8 xk) ∧ V.cell? ⟨b, off + k * 8 + 1, none⟩ = some (.string xnm) ∧ V.cell? ⟨b, off + k * 8 + 2, none⟩ = some (.string xto) ∧ V.cell? ⟨b, off + k * 8 + 3, none⟩ = some (.bool xnw) ∧ V.cell? ⟨b, off + k * 8 + 4, none⟩ = some (.slice ea xe.length ecap) ∧ V.cell? ⟨b, off + k * 8 + 5, none⟩ = some (.slice ba xbody.length bcap) ∧ V.cell? ⟨b, off + k * 8 + 6, none⟩ = some (.slice la xels.length lcap) ∧ V.cell? ⟨b, off + k * 8 + 7, none⟩ = some (.int .i64 xpos) ∧ V.cell? ⟨b', off' + k * 8, none⟩ = some (.int .u8 xk) ∧ V.cell? ⟨b', off' + k * 8 + 1, none⟩ = some (.string xnm) ∧ V.cell? ⟨b', off' + k * 8 + 2, none⟩ = some (.string xto) ∧ V.cell? ⟨b', off' + k * 8 + 3, none⟩ = some (.bool xnw) ∧ V.cell? ⟨b', off' + k * 8 + 4, none⟩ = some (.slice fa xe.length fcap) ∧ V.cell? ⟨b', off' + k * 8 + 5, none⟩ = some (.slice ca xbody.length ccap) ∧ V.cell? ⟨b', off' + k * 8 + 6, none⟩ = some (.slice ma xels.length mcap) ∧ V.cell? ⟨b', off' + k * 8 + 7, none⟩ = some (.int .i64 ypos))) (by kernel_rfl) hSS (fun hHeld => ?_)
          refine' wpAnyH_take (i := 0) (oi := _) (v := _) rfl (by kernel_rfl) (by kernel_rfl) (by kernel_rfl) (fun _ _ _ h => h) (Or.inl ⟨by rfl, ?hyp0⟩) (by assumption) ?restp0
          case hyp0 => (intro w hSw; obtain ⟨s0, s1, s2, s3, s4, s5, s6, s7, t0, t1, t2, t3, t4, t5, t6, t7⟩ := hSw; go_simp; all_goals (with_reducible rfl))
          try simp only [Act.put, List.getElem_toArray, List.getElem_cons_zero, List.getElem_cons_succ, List.setIfInBounds_toArray, List.set_cons_zero, List.set_cons_succ]
          refine' wpAnyH_take (i := 1) (oi := _) (v := _) rfl (by kernel_rfl) (by kernel_rfl) (by kernel_rfl) (fun _ _ _ h => h) (Or.inl ⟨by rfl, ?hyp1⟩) (by assumption) ?restp1
          case hyp1 => (intro w hSw; obtain ⟨s0, s1, s2, s3, s4, s5, s6, s7, t0, t1, t2, t3, t4, t5, t6, t7⟩ := hSw; go_simp; all_goals (with_reducible rfl))
          try simp only [Act.put, List.getElem_toArray, List.getElem_cons_zero, List.getElem_cons_succ, List.setIfInBounds_toArray, List.set_cons_zero, List.set_cons_succ]
          refine' wpAnyH_take (i := 2) (oi := _) (v := _) rfl (by kernel_rfl) (by kernel_rfl) (by kernel_rfl) (fun _ _ _ h => h) (Or.inl ⟨by rfl, ?hyp2⟩) (by assumption) ?restp2
          case hyp2 => (intro w hSw; obtain ⟨s0, s1, s2, s3, s4, s5, s6, s7, t0, t1, t2, t3, t4, t5, t6, t7⟩ := hSw; go_simp; all_goals (with_reducible rfl))
          try simp only [Act.put, List.getElem_toArray, List.getElem_cons_zero, List.getElem_cons_succ, List.setIfInBounds_toArray, List.set_cons_zero, List.set_cons_succ]
          refine' wpAnyH_take (i := 3) (oi := _) (v := _) rfl (by kernel_rfl) (by kernel_rfl) (by kernel_rfl) (fun _ _ _ h => h) (Or.inl ⟨by rfl, ?hyp3⟩) (by assumption) ?restp3
          case hyp3 => (intro w hSw; obtain ⟨s0, s1, s2, s3, s4, s5, s6, s7, t0, t1, t2, t3, t4, t5, t6, t7⟩ := hSw; go_simp; all_goals (with_reducible rfl))
          try simp only [Act.put, List.getElem_toArray, List.getElem_cons_zero, List.getElem_cons_succ, List.setIfInBounds_toArray, List.set_cons_zero, List.set_cons_succ]
          refine' wpAnyH_take (i := 4) (oi := _) (v := _) rfl (by kernel_rfl) (by kernel_rfl) (by kernel_rfl) (fun _ _ _ h => h) (Or.inl ⟨by rfl, ?hyp4⟩) (by assumption) ?restp4
          case hyp4 => (intro w hSw; obtain ⟨s0, s1, s2, s3, s4, s5, s6, s7, t0, t1, t2, t3, t4, t5, t6, t7⟩ := hSw; go_simp; all_goals (with_reducible rfl))
          try simp only [Act.put, List.getElem_toArray, List.getElem_cons_zero, List.getElem_cons_succ, List.setIfInBounds_toArray, List.set_cons_zero, List.set_cons_succ]
          refine' wpAnyH_take (i := 5) (oi := _) (v := _) rfl (by kernel_rfl) (by kernel_rfl) (by kernel_rfl) (fun _ _ _ h => h) (Or.inl ⟨by rfl, ?hyp5⟩) (by assumption) ?restp5
          case hyp5 => (intro w hSw; obtain ⟨s0, s1, s2, s3, s4, s5, s6, s7, t0, t1, t2, t3, t4, t5, t6, t7⟩ := hSw; go_simp; all_goals (with_reducible rfl))
          try simp only [Act.put, List.getElem_toArray, List.getElem_cons_zero, List.getElem_cons_succ, List.setIfInBounds_toArray, List.set_cons_zero, List.set_cons_succ]
          refine' wpAnyH_take (i := 6) (oi := _) (v := _) rfl (by kernel_rfl) (by kernel_rfl) (by kernel_rfl) (fun _ _ _ h => h) (Or.inl ⟨by rfl, ?hyp6⟩) (by assumption) ?restp6
          case hyp6 => (intro w hSw; obtain ⟨s0, s1, s2, s3, s4, s5, s6, s7, t0, t1, t2, t3, t4, t5, t6, t7⟩ := hSw; go_simp; all_goals (with_reducible rfl))
          try simp only [Act.put, List.getElem_toArray, List.getElem_cons_zero, List.getElem_cons_succ, List.setIfInBounds_toArray, List.set_cons_zero, List.set_cons_succ]
          refine' wpAnyH_take (i := 7) (oi := _) (v := _) rfl (by kernel_rfl) (by kernel_rfl) (by kernel_rfl) (fun _ _ _ h => h) (Or.inl ⟨by rfl, ?hyp7⟩) (by assumption) ?restp7
          case hyp7 => (intro w hSw; obtain ⟨s0, s1, s2, s3, s4, s5, s6, s7, t0, t1, t2, t3, t4, t5, t6, t7⟩ := hSw; go_simp; all_goals (with_reducible rfl))
          try simp only [Act.put, List.getElem_toArray, List.getElem_cons_zero, List.getElem_cons_succ, List.setIfInBounds_toArray, List.set_cons_zero, List.set_cons_succ]
          clear hSS
          refine wpAnyH_ready (rs := [8, 9]) (by kernel_rfl) (by simp) ?_
          refine AllReadyH.cons (o := _) rfl (fun K hK => ?_) (AllReadyH.cons (o := _) rfl (fun K hK => ?_) AllReadyH.nil)
          · go_simp
            obtain ⟨V1, hV1⟩ : ∃ W, (wr.alloc (.cells #[.int .u8 0, .string ⟨#[]⟩, .string ⟨#[]⟩, .bool false, .slice none 0 0, .slice none 0 0, .slice none 0 0, .int .i64 0] 45)).drew = W := ⟨_, rfl⟩
            have b1 : Below wr.heap.size wr V1 := by rw [← hV1]; exact ((Below.refl _ _).alloc (Nat.le_refl _) _).drew
            have l1 : wr.heap.size ≤ wr.heap.size := Nat.le_refl _
            have x1 : V1.heap[wr.heap.size]? = some (.cells #[.int .u8 0, .string ⟨#[]⟩, .string ⟨#[]⟩, .bool false, .slice none 0 0, .slice none 0 0, .slice none 0 0, .int .i64 0] 45 (0, 0)) := by rw [← hV1]; exact World.alloc_heap_new wr _
            rw [hV1]
            clear hV1
            refine hK.out _ _ (hSb.out _ b1) (fun hHeld => ?_)
            clear hK K
            try simp only [Act.put, List.getElem_toArray, List.getElem_cons_zero, List.getElem_cons_succ, List.setIfInBounds_toArray, List.set_cons_zero, List.set_cons_succ]
            refine wpAnyH_ready (rs := [9]) (by kernel_rfl) (by simp) ?_
            refine AllReadyH.cons (o := _) rfl (fun K hK => ?_) AllReadyH.nil
            go_simp
            obtain ⟨V2, hV2⟩ : ∃ W, V1.alloc (.cells #[.int .u8 0, .string ⟨#[]⟩, .string ⟨#[]⟩, .bool false, .slice none 0 0, .slice none 0 0, .slice none 0 0, .int .i64 0] 45) = W := ⟨_, rfl⟩
            have b2 : Below wr.heap.size wr V2 := by rw [← hV2]; exact b1.alloc b1.size _
            have l2 : wr.heap.size ≤ V1.heap.size := b1.size
            have x2 : V2.heap[V1.heap.size]? = some (.cells #[.int .u8 0, .string ⟨#[]⟩, .string ⟨#[]⟩, .bool false, .slice none 0 0, .slice none 0 0, .slice none 0 0, .int .i64 0] 45 (0, 0)) := by rw [← hV2]; exact World.alloc_heap_new V1 _
            have y2 : V2.heap[wr.heap.size]? = some (.cells #[.int .u8 0, .string ⟨#[]⟩, .string ⟨#[]⟩, .bool false, .slice none 0 0, .slice none 0 0, .slice none 0 0, .int .i64 0] 45 (0, 0)) := by rw [← hV2]; exact (heap_alloc_old V1 _ (cells_lt x1)).trans x1
            have hne : wr.heap.size ≠ V1.heap.size := Nat.ne_of_lt (cells_lt x1)
            rw [hV2]
            clear hV2
            refine hK.out _ _ (hSb.out _ b2) (fun hHeld => ?_)
            clear hK K
            try simp only [Act.put, List.getElem_toArray, List.getElem_cons_zero, List.getElem_cons_succ, List.setIfInBounds_toArray, List.set_cons_zero, List.set_cons_succ]
            refine wpAnyH_ready (rs := [10]) (by kernel_rfl) (by simp) ?_
            refine AllReadyH.cons (o := _) rfl (fun K hK => ?_) AllReadyH.nil
            have z3_0 := blk_cell y2 (j := 0) rfl
            have f3_0 := blk_free y2 0
            have z3_1 := blk_cell y2 (j := 1) rfl
            have f3_1 := blk_free y2 1
            have z3_2 := blk_cell y2 (j := 2) rfl
            have f3_2 := blk_free y2 2
            have z3_3 := blk_cell y2 (j := 3) rfl
            have f3_3 := blk_free y2 3
            have z3_4 := blk_cell y2 (j := 4) rfl
            have f3_4 := blk_free y2 4
            have z3_5 := blk_cell y2 (j := 5) rfl
            have f3_5 := blk_free y2 5
            have z3_6 := blk_cell y2 (j := 6) rfl
            have f3_6 := blk_free y2 6
            have z3_7 := blk_cell y2 (j := 7) rfl
            have f3_7 := blk_free y2 7
            go_simp
            obtain ⟨V3, hV3⟩ : ∃ W, ((((((((V2.setCell ⟨wr.heap.size, 0, none⟩ (.int .u8 xk)).setCell ⟨wr.heap.size, 1, none⟩ (.string xnm)).setCell ⟨wr.heap.size, 2, none⟩ (.string xto)).setCell ⟨wr.heap.size, 3, none⟩ (.bool xnw)).setCell ⟨wr.heap.size, 4, none⟩ (.slice ea xe.length ecap)).setCell ⟨wr.heap.size, 5, none⟩ (.slice ba xbody.length bcap)).setCell ⟨wr.heap.size, 6, none⟩ (.slice la xels.length lcap)).setCell ⟨wr.heap.size, 7, none⟩ (.int .i64 xpos)) = W := ⟨_, rfl⟩
            have b3 : Below wr.heap.size wr V3 := by rw [← hV3]; exact ((((((((b2.setCell (p := ⟨wr.heap.size, _, none⟩) l1 _).setCell (p := ⟨wr.heap.size, _, none⟩) l1 _).setCell (p := ⟨wr.heap.size, _, none⟩) l1 _).setCell (p := ⟨wr.heap.size, _, none⟩) l1 _).setCell (p := ⟨wr.heap.size, _, none⟩) l1 _).setCell (p := ⟨wr.heap.size, _, none⟩) l1 _).setCell (p := ⟨wr.heap.size, _, none⟩) l1 _).setCell (p := ⟨wr.heap.size, _, none⟩) l1 _)
            have x3 : V3.heap[wr.heap.size]? = some (.cells #[.int .u8 xk, .string xnm, .string xto, .bool xnw, .slice ea xe.length ecap, .slice ba xbody.length bcap, .slice la xels.length lcap, .int .i64 xpos] 45 (0, 0)) := by rw [← hV3]; simpa using (heap_set (heap_set (heap_set (heap_set (heap_set (heap_set (heap_set (heap_set y2 0 (.int .u8 xk)) 1 (.string xnm)) 2 (.string xto)) 3 (.bool xnw)) 4 (.slice ea xe.length ecap)) 5 (.slice ba xbody.length bcap)) 6 (.slice la xels.length lcap)) 7 (.int .i64 xpos))
            have y3 : V3.heap[V1.heap.size]? = some (.cells #[.int .u8 0, .string ⟨#[]⟩, .string ⟨#[]⟩, .bool false, .slice none 0 0, .slice none 0 0, .slice none 0 0, .int .i64 0] 45 (0, 0)) := by rw [← hV3]; rw [Below.heap_setCell _ _ _ _ (Ne.symm hne), Below.heap_setCell _ _ _ _ (Ne.symm hne), Below.heap_setCell _ _ _ _ (Ne.symm hne), Below.heap_setCell _ _ _ _ (Ne.symm hne), Below.heap_setCell _ _ _ _ (Ne.symm hne), Below.heap_setCell _ _ _ _ (Ne.symm hne), Below.heap_setCell _ _ _ _ (Ne.symm hne), Below.heap_setCell _ _ _ _ (Ne.symm hne)]; exact x2
            clear z3_0 f3_0 z3_1 f3_1 z3_2 f3_2 z3_3 f3_3 z3_4 f3_4 z3_5 f3_5 z3_6 f3_6 z3_7 f3_7
            rw [hV3]
            clear hV3
            refine hK.out _ _ (hSb.out _ b3) (fun hHeld => ?_)
            clear hK K
            try simp only [Act.put, List.getElem_toArray, List.getElem_cons_zero, List.getElem_cons_succ, List.setIfInBounds_toArray, List.set_cons_zero, List.set_cons_succ]
            refine wpAnyH_ready (rs := [11]) (by kernel_rfl) (by simp) ?_
            refine AllReadyH.cons (o := _) rfl (fun K hK => ?_) AllReadyH.nil
            have z4_0 := blk_cell y3 (j := 0) rfl
            have f4_0 := blk_free y3 0
            have z4_1 := blk_cell y3 (j := 1) rfl
            have f4_1 := blk_free y3 1
            have z4_2 := blk_cell y3 (j := 2) rfl
            have f4_2 := blk_free y3 2
            have z4_3 := blk_cell y3 (j := 3) rfl
            have f4_3 := blk_free y3 3
            have z4_4 := blk_cell y3 (j := 4) rfl
            have f4_4 := blk_free y3 4
            have z4_5 := blk_cell y3 (j := 5) rfl
            have f4_5 := blk_free y3 5
            have z4_6 := blk_cell y3 (j := 6) rfl
            have f4_6 := blk_free y3 6
            have z4_7 := blk_cell y3 (j := 7) rfl
            have f4_7 := blk_free y3 7
            go_simp
            obtain ⟨V4, hV4⟩ : ∃ W, ((((((((V3.setCell ⟨V1.heap.size, 0, none⟩ (.int .u8 xk)).setCell ⟨V1.heap.size, 1, none⟩ (.string xnm)).setCell ⟨V1.heap.size, 2, none⟩ (.string xto)).setCell ⟨V1.heap.size, 3, none⟩ (.bool xnw)).setCell ⟨V1.heap.size, 4, none⟩ (.slice fa xe.length fcap)).setCell ⟨V1.heap.size, 5, none⟩ (.slice ca xbody.length ccap)).setCell ⟨V1.heap.size, 6, none⟩ (.slice ma xels.length mcap)).setCell ⟨V1.heap.size, 7, none⟩ (.int .i64 ypos)) = W := ⟨_, rfl⟩
            have b4 : Below wr.heap.size wr V4 := by rw [← hV4]; exact ((((((((b3.setCell (p := ⟨V1.heap.size, _, none⟩) l2 _).setCell (p := ⟨V1.heap.size, _, none⟩) l2 _).setCell (p := ⟨V1.heap.size, _, none⟩) l2 _).setCell (p := ⟨V1.heap.size, _, none⟩) l2 _).setCell (p := ⟨V1.heap.size, _, none⟩) l2 _).setCell (p := ⟨V1.heap.size, _, none⟩) l2 _).setCell (p := ⟨V1.heap.size, _, none⟩) l2 _).setCell (p := ⟨V1.heap.size, _, none⟩) l2 _)
            have x4 : V4.heap[V1.heap.size]? = some (.cells #[.int .u8 xk, .string xnm, .string xto, .bool xnw, .slice fa xe.length fcap, .slice ca xbody.length ccap, .slice ma xels.length mcap, .int .i64 ypos] 45 (0, 0)) := by rw [← hV4]; simpa using (heap_set (heap_set (heap_set (heap_set (heap_set (heap_set (heap_set (heap_set y3 0 (.int .u8 xk)) 1 (.string xnm)) 2 (.string xto)) 3 (.bool xnw)) 4 (.slice fa xe.length fcap)) 5 (.slice ca xbody.length ccap)) 6 (.slice ma xels.length mcap)) 7 (.int .i64 ypos))
            have y4 : V4.heap[wr.heap.size]? = some (.cells #[.int .u8 xk, .string xnm, .string xto, .bool xnw, .slice ea xe.length ecap, .slice ba xbody.length bcap, .slice la xels.length lcap, .int .i64 xpos] 45 (0, 0)) := by rw [← hV4]; rw [Below.heap_setCell _ _ _ _ hne, Below.heap_setCell _ _ _ _ hne, Below.heap_setCell _ _ _ _ hne, Below.heap_setCell _ _ _ _ hne, Below.heap_setCell _ _ _ _ hne, Below.heap_setCell _ _ _ _ hne, Below.heap_setCell _ _ _ _ hne, Below.heap_setCell _ _ _ _ hne]; exact x3
            clear z4_0 f4_0 z4_1 f4_1 z4_2 f4_2 z4_3 f4_3 z4_4 f4_4 z4_5 f4_5 z4_6 f4_6 z4_7 f4_7
            rw [hV4]
            clear hV4
            refine hK.out _ _ (hSb.out _ b4) (fun hHeld => ?_)
            clear hK K
            try simp only [Act.put, List.getElem_toArray, List.getElem_cons_zero, List.getElem_cons_succ, List.setIfInBounds_toArray, List.set_cons_zero, List.set_cons_succ]
            refine wpAnyH_done (by kernel_rfl) ?_ _
            refine NoPanic.normal ?_
            exact ⟨rfl, wr.heap.size, V1.heap.size, ⟨b4, by exact hne, y4, x4⟩, by simp only [Act.put, List.getElem_toArray, List.getElem_cons_zero, List.getElem_cons_succ, List.setIfInBounds_toArray, List.set_cons_zero, List.set_cons_succ]⟩
          · go_simp
            obtain ⟨V5, hV5⟩ : ∃ W, (wr.alloc (.cells #[.int .u8 0, .string ⟨#[]⟩, .string ⟨#[]⟩, .bool false, .slice none 0 0, .slice none 0 0, .slice none 0 0, .int .i64 0] 45)).drew = W := ⟨_, rfl⟩
            have b5 : Below wr.heap.size wr V5 := by rw [← hV5]; exact ((Below.refl _ _).alloc (Nat.le_refl _) _).drew
            have l5 : wr.heap.size ≤ wr.heap.size := Nat.le_refl _
            have x5 : V5.heap[wr.heap.size]? = some (.cells #[.int .u8 0, .string ⟨#[]⟩, .string ⟨#[]⟩, .bool false, .slice none 0 0, .slice none 0 0, .slice none 0 0, .int .i64 0] 45 (0, 0)) := by rw [← hV5]; exact World.alloc_heap_new wr _
            rw [hV5]
            clear hV5
            refine hK.out _ _ (hSb.out _ b5) (fun hHeld => ?_)
            clear hK K
            try simp only [Act.put, List.getElem_toArray, List.getElem_cons_zero, List.getElem_cons_succ, List.setIfInBounds_toArray, List.set_cons_zero, List.set_cons_succ]
            refine wpAnyH_ready (rs := [8]) (by kernel_rfl) (by simp) ?_
            refine AllReadyH.cons (o := _) rfl (fun K hK => ?_) AllReadyH.nil
            go_simp
            obtain ⟨V6, hV6⟩ : ∃ W, V5.alloc (.cells #[.int .u8 0, .string ⟨#[]⟩, .string ⟨#[]⟩, .bool false, .slice none 0 0, .slice none 0 0, .slice none 0 0, .int .i64 0] 45) = W := ⟨_, rfl⟩
            have b6 : Below wr.heap.size wr V6 := by rw [← hV6]; exact b5.alloc b5.size _
            have l6 : wr.heap.size ≤ V5.heap.size := b5.size
            have x6 : V6.heap[V5.heap.size]? = some (.cells #[.int .u8 0, .string ⟨#[]⟩, .string ⟨#[]⟩, .bool false, .slice none 0 0, .slice none 0 0, .slice none 0 0, .int .i64 0] 45 (0, 0)) := by rw [← hV6]; exact World.alloc_heap_new V5 _
            have y6 : V6.heap[wr.heap.size]? = some (.cells #[.int .u8 0, .string ⟨#[]⟩, .string ⟨#[]⟩, .bool false, .slice none 0 0, .slice none 0 0, .slice none 0 0, .int .i64 0] 45 (0, 0)) := by rw [← hV6]; exact (heap_alloc_old V5 _ (cells_lt x5)).trans x5
            have hne : wr.heap.size ≠ V5.heap.size := Nat.ne_of_lt (cells_lt x5)
            rw [hV6]
            clear hV6
            refine hK.out _ _ (hSb.out _ b6) (fun hHeld => ?_)
            clear hK K
            try simp only [Act.put, List.getElem_toArray, List.getElem_cons_zero, List.getElem_cons_succ, List.setIfInBounds_toArray, List.set_cons_zero, List.set_cons_succ]
            refine wpAnyH_ready (rs := [10]) (by kernel_rfl) (by simp) ?_
            refine AllReadyH.cons (o := _) rfl (fun K hK => ?_) AllReadyH.nil
            have z7_0 := blk_cell x6 (j := 0) rfl
            have f7_0 := blk_free x6 0
            have z7_1 := blk_cell x6 (j := 1) rfl
            have f7_1 := blk_free x6 1
            have z7_2 := blk_cell x6 (j := 2) rfl
            have f7_2 := blk_free x6 2
            have z7_3 := blk_cell x6 (j := 3) rfl
            have f7_3 := blk_free x6 3
            have z7_4 := blk_cell x6 (j := 4) rfl
            have f7_4 := blk_free x6 4
            have z7_5 := blk_cell x6 (j := 5) rfl
            have f7_5 := blk_free x6 5
            have z7_6 := blk_cell x6 (j := 6) rfl
            have f7_6 := blk_free x6 6
            have z7_7 := blk_cell x6 (j := 7) rfl
            have f7_7 := blk_free x6 7
            go_simp
            obtain ⟨V7, hV7⟩ : ∃ W, ((((((((V6.setCell ⟨V5.heap.size, 0, none⟩ (.int .u8 xk)).setCell ⟨V5.heap.size, 1, none⟩ (.string xnm)).setCell ⟨V5.heap.size, 2, none⟩ (.string xto)).setCell ⟨V5.heap.size, 3, none⟩ (.bool xnw)).setCell ⟨V5.heap.size, 4, none⟩ (.slice ea xe.length ecap)).setCell ⟨V5.heap.size, 5, none⟩ (.slice ba xbody.length bcap)).setCell ⟨V5.heap.size, 6, none⟩ (.slice la xels.length lcap)).setCell ⟨V5.heap.size, 7, none⟩ (.int .i64 xpos)) = W := ⟨_, rfl⟩
            have b7 : Below wr.heap.size wr V7 := by rw [← hV7]; exact ((((((((b6.setCell (p := ⟨V5.heap.size, _, none⟩) l6 _).setCell (p := ⟨V5.heap.size, _, none⟩) l6 _).setCell (p := ⟨V5.heap.size, _, none⟩) l6 _).setCell (p := ⟨V5.heap.size, _, none⟩) l6 _).setCell (p := ⟨V5.heap.size, _, none⟩) l6 _).setCell (p := ⟨V5.heap.size, _, none⟩) l6 _).setCell (p := ⟨V5.heap.size, _, none⟩) l6 _).setCell (p := ⟨V5.heap.size, _, none⟩) l6 _)
            have x7 : V7.heap[V5.heap.size]? = some (.cells #[.int .u8 xk, .string xnm, .string xto, .bool xnw, .slice ea xe.length ecap, .slice ba xbody.length bcap, .slice la xels.length lcap, .int .i64 xpos] 45 (0, 0)) := by rw [← hV7]; simpa using (heap_set (heap_set (heap_set (heap_set (heap_set (heap_set (heap_set (heap_set x6 0 (.int .u8 xk)) 1 (.string xnm)) 2 (.string xto)) 3 (.bool xnw)) 4 (.slice ea xe.length ecap)) 5 (.slice ba xbody.length bcap)) 6 (.slice la xels.length lcap)) 7 (.int .i64 xpos))
            have y7 : V7.heap[wr.heap.size]? = some (.cells #[.int .u8 0, .string ⟨#[]⟩, .string ⟨#[]⟩, .bool false, .slice none 0 0, .slice none 0 0, .slice none 0 0, .int .i64 0] 45 (0, 0)) := by rw [← hV7]; rw [Below.heap_setCell _ _ _ _ hne, Below.heap_setCell _ _ _ _ hne, Below.heap_setCell _ _ _ _ hne, Below.heap_setCell _ _ _ _ hne, Below.heap_setCell _ _ _ _ hne, Below.heap_setCell _ _ _ _ hne, Below.heap_setCell _ _ _ _ hne, Below.heap_setCell _ _ _ _ hne]; exact y6
            clear z7_0 f7_0 z7_1 f7_1 z7_2 f7_2 z7_3 f7_3 z7_4 f7_4 z7_5 f7_5 z7_6 f7_6 z7_7 f7_7
            rw [hV7]
            clear hV7
            refine hK.out _ _ (hSb.out _ b7) (fun hHeld => ?_)
            clear hK K
            try simp only [Act.put, List.getElem_toArray, List.getElem_cons_zero, List.getElem_cons_succ, List.setIfInBounds_toArray, List.set_cons_zero, List.set_cons_succ]
            refine wpAnyH_ready (rs := [11]) (by kernel_rfl) (by simp) ?_
            refine AllReadyH.cons (o := _) rfl (fun K hK => ?_) AllReadyH.nil
            have z8_0 := blk_cell y7 (j := 0) rfl
            have f8_0 := blk_free y7 0
            have z8_1 := blk_cell y7 (j := 1) rfl
            have f8_1 := blk_free y7 1
            have z8_2 := blk_cell y7 (j := 2) rfl
            have f8_2 := blk_free y7 2
            have z8_3 := blk_cell y7 (j := 3) rfl
            have f8_3 := blk_free y7 3
            have z8_4 := blk_cell y7 (j := 4) rfl
            have f8_4 := blk_free y7 4
            have z8_5 := blk_cell y7 (j := 5) rfl
            have f8_5 := blk_free y7 5
            have z8_6 := blk_cell y7 (j := 6) rfl
            have f8_6 := blk_free y7 6
            have z8_7 := blk_cell y7 (j := 7) rfl
            have f8_7 := blk_free y7 7
            go_simp
            obtain ⟨V8, hV8⟩ : ∃ W, ((((((((V7.setCell ⟨wr.heap.size, 0, none⟩ (.int .u8 xk)).setCell ⟨wr.heap.size, 1, none⟩ (.string xnm)).setCell ⟨wr.heap.size, 2, none⟩ (.string xto)).setCell ⟨wr.heap.size, 3, none⟩ (.bool xnw)).setCell ⟨wr.heap.size, 4, none⟩ (.slice fa xe.length fcap)).setCell ⟨wr.heap.size, 5, none⟩ (.slice ca xbody.length ccap)).setCell ⟨wr.heap.size, 6, none⟩ (.slice ma xels.length mcap)).setCell ⟨wr.heap.size, 7, none⟩ (.int .i64 ypos)) = W := ⟨_, rfl⟩
            have b8 : Below wr.heap.size wr V8 := by rw [← hV8]; exact ((((((((b7.setCell (p := ⟨wr.heap.size, _, none⟩) l5 _).setCell (p := ⟨wr.heap.size, _, none⟩) l5 _).setCell (p := ⟨wr.heap.size, _, none⟩) l5 _).setCell (p := ⟨wr.heap.size, _, none⟩) l5 _).setCell (p := ⟨wr.heap.size, _, none⟩) l5 _).setCell (p := ⟨wr.heap.size, _, none⟩) l5 _).setCell (p := ⟨wr.heap.size, _, none⟩) l5 _).setCell (p := ⟨wr.heap.size, _, none⟩) l5 _)
            have x8 : V8.heap[wr.heap.size]? = some (.cells #[.int .u8 xk, .string xnm, .string xto, .bool xnw, .slice fa xe.length fcap, .slice ca xbody.length ccap, .slice ma xels.length mcap, .int .i64 ypos] 45 (0, 0)) := by rw [← hV8]; simpa using (heap_set (heap_set (heap_set (heap_set (heap_set (heap_set (heap_set (heap_set y7 0 (.int .u8 xk)) 1 (.string xnm)) 2 (.string xto)) 3 (.bool xnw)) 4 (.slice fa xe.length fcap)) 5 (.slice ca xbody.length ccap)) 6 (.slice ma xels.length mcap)) 7 (.int .i64 ypos))
            have y8 : V8.heap[V5.heap.size]? = some (.cells #[.int .u8 xk, .string xnm, .string xto, .bool xnw, .slice ea xe.length ecap, .slice ba xbody.length bcap, .slice la xels.length lcap, .int .i64 xpos] 45 (0, 0)) := by rw [← hV8]; rw [Below.heap_setCell _ _ _ _ (Ne.symm hne), Below.heap_setCell _ _ _ _ (Ne.symm hne), Below.heap_setCell _ _ _ _ (Ne.symm hne), Below.heap_setCell _ _ _ _ (Ne.symm hne), Below.heap_setCell _ _ _ _ (Ne.symm hne), Below.heap_setCell _ _ _ _ (Ne.symm hne), Below.heap_setCell _ _ _ _ (Ne.symm hne), Below.heap_setCell _ _ _ _ (Ne.symm hne)]; exact x7
            clear z8_0 f8_0 z8_1 f8_1 z8_2 f8_2 z8_3 f8_3 z8_4 f8_4 z8_5 f8_5 z8_6 f8_6 z8_7 f8_7
            rw [hV8]
            clear hV8
            refine hK.out _ _ (hSb.out _ b8) (fun hHeld => ?_)
            clear hK K
            try simp only [Act.put, List.getElem_toArray, List.getElem_cons_zero, List.getElem_cons_succ, List.setIfInBounds_toArray, List.set_cons_zero, List.set_cons_succ]
            refine wpAnyH_done (by kernel_rfl) ?_ _
            refine NoPanic.normal ?_
            exact ⟨rfl, V5.heap.size, wr.heap.size, ⟨b8, by exact Ne.symm hne, y8, x8⟩, by simp only [Act.put, List.getElem_toArray, List.getElem_cons_zero, List.getElem_cons_succ, List.setIfInBounds_toArray, List.set_cons_zero, List.set_cons_succ]⟩
        rintro k6 k7 W6 ⟨b6, hne, x6, y6⟩
        simp only [Act.put, List.getElem_toArray, List.setIfInBounds_toArray, List.set_cons_zero, List.set_cons_succ]
        have hb6 := Lib.hid (hbr.out.trans (b6.mono hbr.out.size))
        clear c0 c1 c2 c3 c4 c5 c6 c7 d0 d1 d2 d3 d4 d5 d6 d7
        have p0 := blk_cell x6 (j := 0) rfl
        have r0 := blk_cell y6 (j := 0) rfl
        have p1 := blk_cell x6 (j := 1) rfl
        have r1 := blk_cell y6 (j := 1) rfl
        have p2 := blk_cell x6 (j := 2) rfl
        have r2 := blk_cell y6 (j := 2) rfl
        have p3 := blk_cell x6 (j := 3) rfl
        have r3 := blk_cell y6 (j := 3) rfl
        have p4 := blk_cell x6 (j := 4) rfl
        have r4 := blk_cell y6 (j := 4) rfl
        have p5 := blk_cell x6 (j := 5) rfl
        have r5 := blk_cell y6 (j := 5) rfl
        have p6 := blk_cell x6 (j := 6) rfl
        have r6 := blk_cell y6 (j := 6) rfl
        have hx6 := Lib.hid x6
        have hy6 := Lib.hid y6
        clear b6 hne x6 y6
        go_wp2_with fail
        refine (cB.out W6 hb6.out).mono ?_
        rintro e w7 ⟨rfl, hb7⟩
        have x7 := Lib.hid ((hb7.block _ (cells_lt hx6.out)).trans hx6.out)
        have y7 := Lib.hid ((hb7.block _ (cells_lt hy6.out)).trans hy6.out)
        have hb07 := Lib.hid (hb6.out.trans (hb7.mono hb6.out.size))
        clear p0 p1 p2 p3 p4 p5 p6 r0 r1 r2 r3 r4 r5 r6 hx6 hy6 hb7 hb6 cB
        have p6 := blk_cell x7.out (j := 6) rfl
        have r6 := blk_cell y7.out (j := 6) rfl
        go_wp2_with fail
        refine (cL.out w7 hb07.out).mono ?_
        rintro e w8 ⟨rfl, hb8⟩
        have x8 := Lib.hid ((hb8.block _ (cells_lt x7.out)).trans x7.out)
        have y8 := Lib.hid ((hb8.block _ (cells_lt y7.out)).trans y7.out)
        have hb08 := Lib.hid (hb07.out.trans (hb8.mono hb07.out.size))
        clear p6 r6 x7 y7 hb8 hb07 cL
        go_wp2_with fail
        go_loopw [8] (fun i wr => ∃ j : Nat, j ≤ xe.length ∧ i = .int .i64 j ∧ Below w8.heap.size w8 wr) (fun i _ => xe.length - (intOf i).toNat)
        case atStart => exact ⟨0, Nat.zero_le _, rfl, Below.refl _ _⟩
        case round =>
          obtain ⟨j, hj, rfl, hbr2⟩ := hrel
          have x9 := Lib.hid ((hbr2.block _ (cells_lt x8.out)).trans x8.out)
          have y9 := Lib.hid ((hbr2.block _ (cells_lt y8.out)).trans y8.out)
          have p4 := blk_cell x9.out (j := 4) rfl
          have r4 := blk_cell y9.out (j := 4) rfl
          by_cases hjl : j < xe.length
          · obtain ⟨z, hzz⟩ : ∃ z, xe[j]? = some z := ⟨xe[j], by simp [hjl]⟩
            obtain ⟨z', hzz'⟩ : ∃ z, ye[j]? = some z := ⟨ye[j]'(by rw [elE.out]; exact hjl), by simp [elE.out, hjl]⟩
            obtain ⟨b2, off2, rfl, _, ecell⟩ := rE1.out j z hzz
            obtain ⟨b2', off2', rfl, _, ecell'⟩ := rE2.out j z' hzz'
            have hbw := hb08.out.trans (hbr2.mono hb08.out.size)
            have hS1 := Lib.hid (fun U : UpW wr => ((cE.out j z z' hzz hzz' U.val (hbw.trans (U.ok.mono hbw.size))).1.mono fun e w' h => (⟨h.1, ⟨w', U.ok.trans (h.2.mono U.ok.size)⟩, rfl⟩ : e = .returned (.string (shp z)) ∧ ∃ U' : UpW wr, w' = U'.val)))
            have hS2 := Lib.hid (fun U : UpW wr => ((cE.out j z z' hzz hzz' U.val (hbw.trans (U.ok.mono hbw.size))).2.mono fun e w' h => (⟨h.1, ⟨w', U.ok.trans (h.2.mono U.ok.size)⟩, rfl⟩ : e = .returned (.string (shp z)) ∧ ∃ U' : UpW wr, w' = U'.val)))
            obtain ⟨sz, hszz⟩ : ∃ x, shp z = x := ⟨_, rfl⟩
            rw [hszz] at hS1 hS2
            obtain ⟨zk, zn, zv, za, zc, zg, zp⟩ := z
            obtain ⟨tk, tn, tv, ta, tc, tg, tp⟩ := z'
            have v1 : (⟨(Ex.mk zk zn zv za zc zg zp).vals⟩ : Array Value) = #[.int .u8 zk, .string zn, .int .i64 zv, .slice za zg.length zc, .int .i64 zp] := rfl
            have v2 : (⟨(Ex.mk tk tn tv ta tc tg tp).vals⟩ : Array Value) = #[.int .u8 tk, .string tn, .int .i64 tv, .slice ta tg.length tc, .int .i64 tp] := rfl
            rw [v1] at hS1
            rw [v2] at hS2
            simp only [← Nat.add_assoc] at ecell ecell'
            have m0 := up_cell (below_in hbw (ecell 0 _ rfl))
            have m1 := up_cell (below_in hbw (ecell 1 _ rfl))
            have m2 := up_cell (below_in hbw (ecell 2 _ rfl))
            have m3 := up_cell (below_in hbw (ecell 3 _ rfl))
            have m4 := up_cell (below_in hbw (ecell 4 _ rfl))
            have n0 := up_cell (below_in hbw (ecell' 0 _ rfl))
            have n1 := up_cell (below_in hbw (ecell' 1 _ rfl))
            have n2 := up_cell (below_in hbw (ecell' 2 _ rfl))
            have n3 := up_cell (below_in hbw (ecell' 3 _ rfl))
            have n4 := up_cell (below_in hbw (ecell' 4 _ rfl))
            rw [Nat.add_zero] at m0 n0
            have p4u := up_cell p4
            have r4u := up_cell r4
            have hj1 : (j : Int) < (xe.length : Int) := by omega
            have hj0 : (0 : Int) ≤ (j : Int) := by omega
            have hj2 : j < xe.length := hjl
            clear ecell ecell' hszz hzz hzz' cE rE1 rE2 hbw v1 v2
            go_upto_region 12 with fail
            refine quiet_lit (C := fun V => ∃ U : UpW wr, V = U.val) (by kernel_rfl) (by kernel_rfl) ⟨⟨_, (Below.refl _ _).drew⟩, rfl⟩ ?_
            iterate 5 (quiet_step (fail))
            quiet_step (exact hS1.out _)
            iterate 5 (quiet_step (fail))
            quiet_step (exact hS2.out _)
            quiet_step (fail)
            refine wpQuiet_nil ?_
            rintro _ ⟨U, rfl⟩
            have hbU := Lib.hid (hbr2.trans (U.ok.mono hbr2.size))
            go_wp2_with fail
            go_roundw
            case rel => exact ⟨j + 1, by omega, by go_num, hbU.out⟩
            case measure => simp [intOf]; omega
          · have hje : j = xe.length := by omega
            subst hje
            have hj1 : ¬ (xe.length : Int) < (xe.length : Int) := by omega
            have hbw := Lib.hid (hb08.out.trans (hbr2.mono hb08.out.size))
            clear cE rE1 rE2 x8 y8 x9 y9
            go_wp2_with fail
            go_roundw
            case rel => exact ⟨k + 1, by omega, by go_num, hbw.out⟩
            case measure => simp [intOf]; omega
      · have hke : k = l.length := by omega
        subst hke
        have hlt1 : ¬ (l.length : Int) < (l.length : Int) := by omega
        replace hbr := Lib.hid hbr
        clear hcx ih hrow hrow'
        go_wp2_with fail
        go_ret
        exact ⟨rfl, hbr.out⟩
end Go.Proofs.YtfhmhplbkheojaaGreatDoor.Pa
