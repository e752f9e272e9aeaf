/- Walk of bobbinref08.Copy. Conditions: the memory lies in the world. -/
import Derived.Test.YtnoilcchegmpfaaMgL
import Derived.BigQuiet
set_option linter.unusedSimpArgs false
namespace Go.Proofs.Ytnoilcchegmpfaa.Me
open Go Go.RowKit
open Go.Proofs.Ytnoilcchegmpfaa.Vq Go.Proofs.Ytnoilcchegmpfaa.Qr

/-! ### what each operation of the first region leaves -/
def RL (B : Nat) (v : Value) (w : World) : Prop := ∃ g : Nat, v = .slice (some ⟨g, 0, none⟩) 0 0 ∧ B ≤ g ∧ g < w.heap.size
def RA (B : Nat) (T : TypeId) (n : Nat) (L : Nat → Option Value) (v : Value) (w : World) : Prop := ∃ ca cc, v = .slice ca n cc ∧ Slc w T ca n cc L ∧ ∀ b, aBlk ca b → B ≤ b ∧ b < w.heap.size
def RB (B : Nat) (d : Dm) (v : Value) (w : World) : Prop := ∃ u1 u2, v = .agg #[.slice none 0 0, u1, u2] ∧ RA B 4 d.locks d.heldL u1 w ∧ RA B 3 d.locks d.byL u2 w
def RX (B : Nat) (d : Dm) (v : Value) (w : World) : Prop := ∃ g u1 u2, v = .pointer (some ⟨g, 0, none⟩) ∧ w.heap[g]? = some (.cells #[.slice none 0 0, u1, u2] 62 (0, 0)) ∧ B ≤ g ∧ RA B 4 d.locks d.heldL u1 w ∧ RA B 3 d.locks d.byL u2 w
theorem RL.mono {B : Nat} : Mono (RL B) := fun _ _ _ hb ⟨g, h1, h2, h3⟩ => ⟨g, h1, h2, Nat.lt_of_lt_of_le h3 hb.size⟩
theorem RA.mono {B : Nat} {T : TypeId} {n : Nat} {L : Nat → Option Value} : Mono (RA B T n L) := fun _ _ _ hb ⟨ca, cc, h1, h2, h3⟩ => ⟨ca, cc, h1, h2.keep' fun b _ hv => hb.block b (cells_lt hv), fun b h => ⟨(h3 b h).1, Nat.lt_of_lt_of_le (h3 b h).2 hb.size⟩⟩
theorem RB.mono {B : Nat} {d : Dm} : Mono (RB B d) := fun _ _ _ hb ⟨u1, u2, h1, h2, h3⟩ => ⟨u1, u2, h1, RA.mono _ _ _ hb h2, RA.mono _ _ _ hb h3⟩
theorem RX.mono {B : Nat} {d : Dm} : Mono (RX B d) := fun _ _ _ hb ⟨g, u1, u2, h1, h2, h3, h4, h5⟩ => ⟨g, u1, u2, h1, (hb.block g (cells_lt h2)).trans h2, h3, RA.mono _ _ _ hb h4, RA.mono _ _ _ hb h5⟩
def rc (B : Nat) (d : Dm) : List (Value → World → Prop) :=
  [RL B, VK (.pointer (some ⟨d.mb, 0, none⟩)), VK (.pointer (some ⟨d.mb, 0, none⟩)), VK (.pointer (some ⟨d.mb, 1, none⟩)), VK (.slice d.ha d.locks d.hc), RA B 4 d.locks d.heldL,
   RL B, VK (.pointer (some ⟨d.mb, 0, none⟩)), VK (.pointer (some ⟨d.mb, 0, none⟩)), VK (.pointer (some ⟨d.mb, 2, none⟩)), VK (.slice d.ba d.locks d.bc), RA B 3 d.locks d.byL, RB B d, RX B d, RX B d]
theorem rc_mono (B : Nat) (d : Dm) : MonoL (rc B d) :=
  ⟨RL.mono, VK.mono, VK.mono, VK.mono, VK.mono, RA.mono, RL.mono, VK.mono, VK.mono, VK.mono, VK.mono, RA.mono, RB.mono, RX.mono, RX.mono, trivial⟩
theorem run_nc {P : Program} {a : Act} {o : Oper} {x : Operand} {p : Addr} {w : World} (ho : o.op = .nilCheck x) (hx : a.eval x = .pointer (some p)) : (execOp a.eval o).run P w = .ok (.value (.pointer (some p))) w := by
  unfold execOp
  rw [ho]
  simp only [hx]
  simp
theorem run_fa {P : Program} {a : Act} {o : Oper} {t : TypeId} {x : Operand} {f : Nat} {u v : Value} {w : World} (ho : o.op = .fieldAddr t x f) (hx : a.eval x = u) (hr : (Instr.fieldAt t u f).run P w = .ok v w) : (execOp a.eval o).run P w = .ok (.value v) w := by
  subst hx
  unfold execOp
  simp [ho, hr]
theorem run_ap {P : Program} {a : Act} {o : Oper} {x y : Operand} {t : TypeId} {w w' : World} {u1 u2 v : Value} (ho : o.op = .call { callee := .builtin .append, args := #[x, y], argTypes := #[t, t] }) (hx : a.eval x = u1) (hy : a.eval y = u2) (hr : (Builtin.append_ #[t, t] o.type #[u1, u2]).run P w = .ok v w') : (execOp a.eval o).run P w = .ok (.value v) w' := by
  unfold execOp
  simp [ho, hx, hy, resolve, invoke, builtin, hr]
theorem fa_mem (V : World) (b : Nat) (k : Nat) (hk : k = 0 ∨ k = 1 ∨ k = 2) : (Instr.fieldAt 62 (.pointer (some ⟨b, 0, none⟩)) k).run Try.prog V = .ok (.pointer (some ⟨b, k, none⟩)) V := by
  rcases hk with rfl | rfl | rfl <;> simp [go_sem]
theorem held_list (d : Dm) : (fun j => ((List.range d.locks).map fun j : Nat => Value.bool (d.h j).isSome)[j]?) = d.heldL := by
  funext j
  unfold Dm.heldL
  rw [List.getElem?_map]
  by_cases h : j < d.locks
  · rw [List.getElem?_range h, if_pos h]; rfl
  · rw [List.getElem?_eq_none (by simpa using h), if_neg h]; rfl
theorem by_list (d : Dm) : (fun j => ((List.range d.locks).map fun j : Nat => Value.int .i64 ((d.h j).getD 0))[j]?) = d.byL := by
  funext j
  unfold Dm.byL
  rw [List.getElem?_map]
  by_cases h : j < d.locks
  · rw [List.getElem?_range h, if_pos h]; rfl
  · rw [List.getElem?_eq_none (by simpa using h), if_neg h]; rfl
theorem app_RA {w : World} {t ty e : TypeId} {i : TypeInfo} {z : Value} {bytes B n : Nat} {L : Nat → Option Value} (ht : Try.prog.underlying t = some (.slice e)) (hi : Try.prog.info? e = some i) (hz : i.zero = some z) (hsize : i.size = 1) (hby : i.bytes = bytes)
    {news : List Value} (hn : news.length = n) (hL : (fun j => news[j]?) = L) {a : Option Addr} {cap : Nat} (h : Slc w e a n cap L) (h63 : n ≤ 1000000) (hb8 : bytes ≤ 64) {u : Value} (hu : RL B u w) (hB : B ≤ w.heap.size) :
    ∃ v' w', (Builtin.append_ #[t, t] ty #[u, .slice a n cap]).run Try.prog w = .ok v' w' ∧ Ext w w' ∧ RA B e n L v' w' := by
  obtain ⟨g, rfl, hg, hlt⟩ := hu
  subst hL
  obtain ⟨v', w', h1, h2, ca, cc, h3, h4, h5⟩ := app_lit (P := Try.prog) t ty e i z bytes ht hi hz hsize hby g news hn h h63 hb8
  refine ⟨v', w', h1, h2, ca, cc, h3, h4, fun b hb => ?_⟩
  rcases h5 b hb with rfl | hge
  · exact ⟨hg, Nat.lt_of_lt_of_le hlt h2.size⟩
  · exact ⟨Nat.le_trans hB hge.1, hge.2⟩
theorem lit_bool (V : World) : (Instr.buildSlice 59 0 #[]).run Try.prog V = .ok (.slice (some ⟨V.heap.size, 0, none⟩) 0 0) (V.alloc (.cells #[] 4)) := by kernel_rfl
theorem lit_int (V : World) : (Instr.buildSlice 60 0 #[]).run Try.prog V = .ok (.slice (some ⟨V.heap.size, 0, none⟩) 0 0) (V.alloc (.cells #[] 3)) := by kernel_rfl
theorem build_mem (u1 u2 : Value) (a1 : ∃ a n c, u1 = .slice a n c) (a2 : ∃ a n c, u2 = .slice a n c) (V : World) : (Instr.build 62 #[(1, u1), (2, u2)]).run Try.prog V = .ok (.agg #[.slice none 0 0, u1, u2]) V := by
  obtain ⟨a, n, c, rfl⟩ := a1
  obtain ⟨a', n', c', rfl⟩ := a2
  kernel_rfl
theorem box_mem (u1 u2 : Value) (a1 : ∃ a n c, u1 = .slice a n c) (a2 : ∃ a n c, u2 = .slice a n c) (V : World) : (Instr.box 62 (.agg #[.slice none 0 0, u1, u2])).run Try.prog V = .ok (.pointer (some ⟨V.heap.size, 0, none⟩)) (V.alloc (.cells #[.slice none 0 0, u1, u2] 62)) := by
  obtain ⟨a, n, c, rfl⟩ := a1
  obtain ⟨a', n', c', rfl⟩ := a2
  kernel_rfl
theorem wp_of_run {P : Program} {o : Oper} {a : Act} {w w' : World} {v : Value} {K : Act → World → Prop} {Q : Exit → Act → World → Prop} (hr : (execOp a.eval o).run P w = .ok (.value v) w') (hk : K (a.put o.dst v) w') : Oper.wp P o a w K Q := by
  unfold Oper.wp
  rw [hr]
  exact hk
theorem clone_lit {V : World} {r : Row} (h : r.In V) (t ty : TypeId) (ht : Try.prog.underlying t = some (.slice 2)) (g : Nat) :
    ∃ (r' : Row) (w' : World), (Builtin.append_ #[t, t] ty #[.slice (some ⟨g, 0, none⟩) 0 0, r.val]).run Try.prog V = .ok r'.val w' ∧ Below V.heap.size V w' ∧ r'.In w' ∧ r'.l = r.l ∧ (r'.b = g ∨ V.heap.size ≤ r'.b) := by
  obtain ⟨i0, hi, hz, hsz, hby⟩ := info_parts info_i64
  obtain ⟨vs, hb, hv⟩ := h.ex
  have hs := h.sz
  have hslc : Slc V 2 (some ⟨r.b, 0, none⟩) r.l.length r.cap (fun j => (numCells r.l)[j]?) := ⟨fun j u _ => ⟨r.b, vs, rfl, hb, fun i u hu => by
    unfold numCells at hu
    rw [List.getElem?_map] at hu
    obtain ⟨x, hx, rfl⟩ := Option.map_eq_some_iff.1 hu
    exact hv i x hx⟩, h.le, h.lim⟩
  obtain ⟨v', w', h1, h2, ca, cc, rfl, h4, h5⟩ := app_lit (P := Try.prog) t ty 2 i0 (.int .i64 0) 8 ht hi hz hsz hby g (numCells r.l) (by simp [numCells]) hslc (by omega) (by decide)
  obtain ⟨x0, hx0⟩ : ∃ x, r.l[0]? = some x := ⟨_, List.getElem?_eq_getElem (by omega)⟩
  obtain ⟨b, vs', rfl, hb', hv'⟩ := h4.at_ 0 (.int .i64 x0) (by unfold numCells; rw [List.getElem?_map, hx0]; rfl)
  refine ⟨⟨b, cc, r.l⟩, w', h1, h2, ⟨⟨vs', hb', fun j x hx => hv' j _ (by unfold numCells; rw [List.getElem?_map, hx]; rfl)⟩, hs, h4.le, h4.lim⟩, rfl, ?_⟩
  rcases h5 b ⟨_, rfl, rfl⟩ with h6 | h6
  · exact .inl h6
  · exact .inr h6.1
set_option maxHeartbeats 8000000 in
set_option maxRecDepth 100000 in
theorem dCopy_c {w : World} {d : Dm} (h : d.In w) : Calls Try.prog 8 #[.pointer (some ⟨d.mb, 0, none⟩)] w (PostDc d w) := by
  obtain ⟨ib, hib, hzb, hsb, hbb⟩ := info_parts info_bool
  obtain ⟨ii, hii, hzi, hsi, hbi⟩ := info_parts info_int
  have hup := Lib.hid (fun (V : World) (hV : Below w.heap.size w V) => h.below hV)
  have hl := h.lim
  have hk := h.lk
  have hkk : d.locks ≤ 1000000 := by omega
  clear h
  go_enter Try.func8, Try.ntmps8
  go_upto_region 1 with fail
  refine wp_region_rel (C := fun V => Ext w V) (E := Ext) (R := fun i => (rc w.heap.size d).getD i VT) (by kernel_rfl) (Below.refl _ _).drew (by kernel_rfl) (fun i v w' w'' _ hE h => mono_get _ i (rc_mono _ _) v w' w'' hE h) (steps_all ?hs) ?hend
  case hs =>
    refine stepsL_cons (s_new fun a W hC hs => ?_) ?_
    · exact ⟨wanted_none rfl, _, _, run_bs (qs := #[]) rfl (by simp) (lit_bool W), hC.trans ((Ext.al W _).mono hC.size), Ext.al _ _, _, rfl, hC.size, by simp⟩
    refine stepsL_cons (s_val fun a W hC hs => ?_) ?_
    · have ho := old_of hs 0 (by kernel_rfl) (by rfl)
      exact ⟨wanted_none rfl, _, run_mv (Or.inl rfl) (ev ho), rfl⟩
    refine stepsL_cons (s_val fun a W hC hs => ?_) ?_
    · obtain ⟨v0, hv0, hR0⟩ := got_of hs 1 6 (by kernel_rfl) (by rfl)
      have hR0' : v0 = _ := hR0
      subst hR0'
      exact ⟨wanted_none rfl, _, run_nc rfl (ev hv0), rfl⟩
    refine stepsL_cons (s_val fun a W hC hs => ?_) ?_
    · obtain ⟨v0, hv0, hR0⟩ := got_of hs 2 7 (by kernel_rfl) (by rfl)
      have hR0' : v0 = _ := hR0
      subst hR0'
      exact ⟨wanted_none rfl, _, run_fa rfl (ev hv0) (fa_mem W d.mb 1 (.inr (.inl rfl))), rfl⟩
    refine stepsL_cons (s_val fun a W hC hs => ?_) ?_
    · obtain ⟨v0, hv0, hR0⟩ := got_of hs 3 8 (by kernel_rfl) (by rfl)
      have hR0' : v0 = _ := hR0
      subst hR0'
      have hcell := (hup.out W hC).c1
      exact ⟨wanted_none rfl, _, run_ld rfl (ev hv0) (by simp [go_sem, hcell]), rfl⟩
    refine stepsL_cons (s_new fun a W hC hs => ?_) ?_
    · obtain ⟨v0, hv0, hR0⟩ := got_of hs 0 5 (by kernel_rfl) (by rfl)
      obtain ⟨v1, hv1, hR1⟩ := got_of hs 4 9 (by kernel_rfl) (by rfl)
      have hR1' : v1 = _ := hR1
      subst hR1'
      obtain ⟨v', w', q1, q2, q3⟩ := app_RA (t := 59) (ty := 59) (B := w.heap.size) Try.underlying59 hib hzb hsb hbb (by simp) (held_list d) (hup.out W hC).hs hkk (by decide) hR0 hC.size
      exact ⟨wanted_none rfl, _, _, run_ap rfl (ev hv0) (ev hv1) q1, hC.trans (q2.mono hC.size), q2, q3⟩
    refine stepsL_cons (s_new fun a W hC hs => ?_) ?_
    · exact ⟨wanted_none rfl, _, _, run_bs (qs := #[]) rfl (by simp) (lit_int W), hC.trans ((Ext.al W _).mono hC.size), Ext.al _ _, _, rfl, hC.size, by simp⟩
    refine stepsL_cons (s_val fun a W hC hs => ?_) ?_
    · have ho := old_of hs 0 (by kernel_rfl) (by rfl)
      exact ⟨wanted_none rfl, _, run_mv (Or.inl rfl) (ev ho), rfl⟩
    refine stepsL_cons (s_val fun a W hC hs => ?_) ?_
    · obtain ⟨v0, hv0, hR0⟩ := got_of hs 7 12 (by kernel_rfl) (by rfl)
      have hR0' : v0 = _ := hR0
      subst hR0'
      exact ⟨wanted_none rfl, _, run_nc rfl (ev hv0), rfl⟩
    refine stepsL_cons (s_val fun a W hC hs => ?_) ?_
    · obtain ⟨v0, hv0, hR0⟩ := got_of hs 8 13 (by kernel_rfl) (by rfl)
      have hR0' : v0 = _ := hR0
      subst hR0'
      exact ⟨wanted_none rfl, _, run_fa rfl (ev hv0) (fa_mem W d.mb 2 (.inr (.inr rfl))), rfl⟩
    refine stepsL_cons (s_val fun a W hC hs => ?_) ?_
    · obtain ⟨v0, hv0, hR0⟩ := got_of hs 9 14 (by kernel_rfl) (by rfl)
      have hR0' : v0 = _ := hR0
      subst hR0'
      have hcell := (hup.out W hC).c2
      exact ⟨wanted_none rfl, _, run_ld rfl (ev hv0) (by simp [go_sem, hcell]), rfl⟩
    refine stepsL_cons (s_new fun a W hC hs => ?_) ?_
    · obtain ⟨v0, hv0, hR0⟩ := got_of hs 6 11 (by kernel_rfl) (by rfl)
      obtain ⟨v1, hv1, hR1⟩ := got_of hs 10 15 (by kernel_rfl) (by rfl)
      have hR1' : v1 = _ := hR1
      subst hR1'
      obtain ⟨v', w', q1, q2, q3⟩ := app_RA (t := 60) (ty := 60) (B := w.heap.size) Try.underlying60 hii hzi hsi hbi (by simp) (by_list d) (hup.out W hC).bs hkk (by decide) hR0 hC.size
      exact ⟨wanted_none rfl, _, _, run_ap rfl (ev hv0) (ev hv1) q1, hC.trans (q2.mono hC.size), q2, q3⟩
    refine stepsL_cons (s_val fun a W hC hs => ?_) ?_
    · obtain ⟨v0, hv0, hR0⟩ := got_of hs 5 10 (by kernel_rfl) (by rfl)
      obtain ⟨v1, hv1, hR1⟩ := got_of hs 11 16 (by kernel_rfl) (by rfl)
      have hR0' : RA w.heap.size 4 d.locks d.heldL v0 W := hR0
      have hR1' : RA w.heap.size 3 d.locks d.byL v1 W := hR1
      have e0 := hR0'
      have e1 := hR1'
      obtain ⟨ca, cc, g0, _⟩ := e0
      obtain ⟨cb, cd, g1, _⟩ := e1
      exact ⟨wanted_none rfl, _, run_b rfl (by simp only [List.map_toArray, List.map_cons, List.map_nil, ev hv0, ev hv1]) (build_mem v0 v1 ⟨_, _, _, g0⟩ ⟨_, _, _, g1⟩ W), v0, v1, rfl, hR0', hR1'⟩
    refine stepsL_cons (s_new fun a W hC hs => ?_) ?_
    · obtain ⟨v0, hv0, hR0⟩ := got_of hs 12 17 (by kernel_rfl) (by rfl)
      obtain ⟨u1, u2, rfl, g1, g2⟩ : RB w.heap.size d v0 W := hR0
      have e0 := g1
      have e1 := g2
      obtain ⟨ca, cc, k1, _⟩ := e0
      obtain ⟨cb, cd, k2, _⟩ := e1
      exact ⟨wanted_none rfl, _, _, run_bx rfl (ev hv0) (box_mem u1 u2 ⟨_, _, _, k1⟩ ⟨_, _, _, k2⟩ W), hC.trans ((Ext.al W _).mono hC.size), Ext.al _ _, _, u1, u2, rfl, (MapKept.heap_alloc W _).1, hC.size, RA.mono _ _ _ (Ext.al W _) g1, RA.mono _ _ _ (Ext.al W _) g2⟩
    refine stepsL_cons (s_val fun a W hC hs => ?_) ?_
    · obtain ⟨v0, hv0, hR0⟩ := got_of hs 13 18 (by kernel_rfl) (by rfl)
      exact ⟨wanted_none rfl, _, run_mv (Or.inr rfl) (ev hv0), hR0⟩
    exact stepsL_nil
  case hend =>
    intro σ V hC hR
    generalize hF : fillL _ _ _ _ _ = F
    simp [fillL, dstOf, List.range, List.range.loop, Act.put] at hF
    subst hF
    obtain ⟨g, u1, u2, hv14, hg, hlo, ⟨ha, hc, rfl, hs1, hl1⟩, ⟨ba, bc, rfl, hs2, hl2⟩⟩ : RX w.heap.size d (σ 14) V := hR 14 (by simp)
    rw [hv14]
    have hN : Hid (Dk w d g ha hc ba bc 0 (.slice none 0 0) V) := Lib.hid ⟨hg, ⟨[], rfl, by simp, World.ownsRow_nil _ _ _ _, fun r hr => (by simp at hr), List.nodup_nil⟩, hs1, hs2, hlo, hl1, hl2, hC⟩
    clear hR hg hs1 hs2 hl1 hl2 hC hv14
    go_wp2_with fail
    go_loopw [4] (fun t4 V => ∃ (k : Nat) (v : Value), k ≤ d.rows.length ∧ t4 = .int .i64 k ∧ Hid (Dk w d g ha hc ba bc k v V)) (fun t4 _ => d.rows.length - (intOf t4).toNat)
    case atStart => exact ⟨0, _, Nat.zero_le _, rfl, hN⟩
    case round =>
      clear hN
      obtain ⟨k, v, hk2, rfl, hN⟩ := hrel
      have hIn := hup.out _ hN.out.bl
      have c0 := hIn.c0
      have hle0 := hIn.cs.le
      by_cases hlt : k < d.rows.length
      · obtain ⟨r, hr⟩ : ∃ r, d.rows[k]? = some r := ⟨_, List.getElem?_eq_getElem hlt⟩
        obtain ⟨hR, cb, e1, d1⟩ := hIn.row hr
        have hx : d.C[k]? = some r.l := by unfold Dm.C; rw [List.getElem?_map, hr]; rfl
        obtain ⟨i0, hI, hZ, hI1, hI2⟩ := info_parts info_row
        obtain ⟨R, hR1, hR2, hR3, hR4, hR5⟩ := hN.out.ex
        have hstep := Lib.hid (fun V2 V3 v' r' hV2 q1 q2 q3 o => hN.out.step (V2 := V2) (V3 := V3) (v' := v') hx hV2 (r' := r') q1 q2 q3 o hR1 hR2 hR3 hR4 hR5)
        have m0 : wr.cell? ⟨g, 0, none⟩ = some v := blk_cell hN.out.mb rfl
        have m1 : wr.frozen? ⟨g, 0, none⟩ = false := blk_free hN.out.mb 0
        have hgl := cells_lt hN.out.mb
        have hws := hN.out.bl.size
        rw [e1] at c0
        have hi0 : (0 : Int) ≤ (k : Int) := by omega
        have hi1 : (k : Int) < (d.rows.length : Int) := by omega
        have hRlt := hR.lt
        have hold : Hid (∀ (V2 : World) (o : Obj), Below wr.heap.size wr V2 → (V2.alloc o).ownsRow w.heap.size 52 1 v k (R.map Row.val)) := Lib.hid fun V2 o hb2 => own_keep hR3 fun g cs hc => (Below.heap_alloc _ _ _ (by have := hb2.size; have := cells_lt hc; omega)).trans (hb2.block g (cells_lt hc))
        have hmbs : Hid (∀ (V2 w3 : World) (o : Obj), Below wr.heap.size wr V2 → (V2.alloc o).grownBy w3 v.ownBlock → w3.cell? ⟨g, 0, none⟩ = some v ∧ w3.frozen? ⟨g, 0, none⟩ = false ∧ Below w.heap.size w w3) := Lib.hid fun V2 w3 o hb2 hg => by
          have e : w3.heap[g]? = wr.heap[g]? := (hg.block _ (by have := hb2.size; simp; omega) (fun e => by
            obtain ⟨_, cs, hc⟩ := own_blk hR3 e.symm
            rw [hN.out.mb] at hc; simp at hc)).trans ((Below.heap_alloc _ _ _ (by have := hb2.size; omega)).trans (hb2.block _ hgl))
          exact ⟨(World.cell?_of_block (w := wr) e).trans m0, (World.frozen?_of_block (w := wr) e).trans m1, ((hN.out.bl.trans (hb2.mono hws)).alloc (by have := hb2.size; omega) o).grown hg (by have := hb2.size; simp; omega) (fun k e => (own_blk hR3 e).1)⟩
        have hrow : Hid (∀ X : World, Below w.heap.size w X → X.cell? ⟨d.mb, 0, none⟩ = some (.slice (some ⟨cb, 0, none⟩) d.rows.length d.cc) ∧ X.cell? ⟨cb, k, none⟩ = some r.val) := Lib.hid fun X hX => by
          have hI2 := hup.out X hX
          obtain ⟨_, cb', e1', d1'⟩ := hI2.row hr
          rw [e1] at e1'
          cases e1'
          have := hI2.c0
          rw [e1] at this
          exact ⟨this, d1'⟩
        have hSS : Hid (∀ X : World, Below wr.heap.size wr X → X.cell? ⟨g, 0, none⟩ = some v ∧ X.cell? ⟨d.mb, 0, none⟩ = some (.slice (some ⟨cb, 0, none⟩) d.rows.length d.cc) ∧ X.cell? ⟨cb, k, none⟩ = some r.val) := Lib.hid fun X hX =>
          ⟨(hX.cell (p := ⟨g, 0, none⟩) hgl).trans m0, hrow.out X (hN.out.bl.trans (hX.mono hws))⟩
        have hRk : Hid (∀ X : World, Below wr.heap.size wr X → r.In X) := Lib.hid fun X hX => hR.below hX
        replace hR3 := Lib.hid hR3
        clear hx hR hR4 hR5 hR2 hIn hN m0 hr hup
        go_upto_region 5 with fail
        have hS0 : (fun X : World => X.cell? ⟨g, 0, none⟩ = some v ∧ X.cell? ⟨d.mb, 0, none⟩ = some (.slice (some ⟨cb, 0, none⟩) d.rows.length d.cc) ∧ X.cell? ⟨cb, k, none⟩ = some r.val) wr.drew := hSS.out _ (Below.refl _ _).drew
        refine wp_region_noPanic ?_
        refine wp_region_L (k := 16) (S := (fun X : World => X.cell? ⟨g, 0, none⟩ = some v ∧ X.cell? ⟨d.mb, 0, none⟩ = some (.slice (some ⟨cb, 0, none⟩) d.rows.length d.cc) ∧ X.cell? ⟨cb, k, none⟩ = some r.val)) (by kernel_rfl) ?_
        refine' wpAnyL_take (by kernel_rfl) (i := 0) (oi := _) (v := _) (by decide) rfl (by kernel_rfl) (by kernel_rfl) (by kernel_rfl) (fun _ _ _ h => h) (Or.inl ⟨by rfl, ?hyp0⟩) (by assumption) ?restp0
        case hyp0 => (intro w hSw; obtain ⟨s0, s1, s2⟩ := hSw; go_simp; all_goals (with_reducible rfl))
        try simp only [Act.put, List.getElem_toArray, List.getElem_cons_zero, List.getElem_cons_succ, List.setIfInBounds_toArray, List.set_cons_zero, List.set_cons_succ]
        refine' wpAnyL_take (by kernel_rfl) (i := 1) (oi := _) (v := _) (by decide) rfl (by kernel_rfl) (by kernel_rfl) (by kernel_rfl) (fun _ _ _ h => h) (Or.inl ⟨by rfl, ?hyp1⟩) (by assumption) ?restp1
        case hyp1 => (intro w hSw; obtain ⟨s0, s1, s2⟩ := hSw; go_simp; all_goals (with_reducible rfl))
        try simp only [Act.put, List.getElem_toArray, List.getElem_cons_zero, List.getElem_cons_succ, List.setIfInBounds_toArray, List.set_cons_zero, List.set_cons_succ]
        refine' wpAnyL_take (by kernel_rfl) (i := 2) (oi := _) (v := _) (by decide) rfl (by kernel_rfl) (by kernel_rfl) (by kernel_rfl) (fun _ _ _ h => h) (Or.inl ⟨by rfl, ?hyp2⟩) (by assumption) ?restp2
        case hyp2 => (intro w hSw; obtain ⟨s0, s1, s2⟩ := hSw; go_simp; all_goals (with_reducible rfl))
        try simp only [Act.put, List.getElem_toArray, List.getElem_cons_zero, List.getElem_cons_succ, List.setIfInBounds_toArray, List.set_cons_zero, List.set_cons_succ]
        refine' wpAnyL_take (by kernel_rfl) (i := 3) (oi := _) (v := _) (by decide) rfl (by kernel_rfl) (by kernel_rfl) (by kernel_rfl) (fun _ _ _ h => h) (Or.inl ⟨by rfl, ?hyp3⟩) (by assumption) ?restp3
        case hyp3 => (intro w hSw; obtain ⟨s0, s1, s2⟩ := hSw; go_simp; all_goals (with_reducible rfl))
        try simp only [Act.put, List.getElem_toArray, List.getElem_cons_zero, List.getElem_cons_succ, List.setIfInBounds_toArray, List.set_cons_zero, List.set_cons_succ]
        refine' wpAnyL_take (by kernel_rfl) (i := 4) (oi := _) (v := _) (by decide) rfl (by kernel_rfl) (by kernel_rfl) (by kernel_rfl) (fun _ _ _ h => h) (Or.inl ⟨by rfl, ?hyp4⟩) (by assumption) ?restp4
        case hyp4 => (intro w hSw; obtain ⟨s0, s1, s2⟩ := hSw; go_simp; all_goals (with_reducible rfl))
        try simp only [Act.put, List.getElem_toArray, List.getElem_cons_zero, List.getElem_cons_succ, List.setIfInBounds_toArray, List.set_cons_zero, List.set_cons_succ]
        refine' wpAnyL_take (by kernel_rfl) (i := 6) (oi := _) (v := _) (by decide) rfl (by kernel_rfl) (by kernel_rfl) (by kernel_rfl) (fun _ _ _ h => h) (Or.inl ⟨by rfl, ?hyp6⟩) (by assumption) ?restp6
        case hyp6 => (intro w hSw; obtain ⟨s0, s1, s2⟩ := hSw; go_simp; all_goals (with_reducible rfl))
        try simp only [Act.put, List.getElem_toArray, List.getElem_cons_zero, List.getElem_cons_succ, List.setIfInBounds_toArray, List.set_cons_zero, List.set_cons_succ]
        refine' wpAnyL_take (by kernel_rfl) (i := 7) (oi := _) (v := _) (by decide) rfl (by kernel_rfl) (by kernel_rfl) (by kernel_rfl) (fun _ _ _ h => h) (Or.inl ⟨by rfl, ?hyp7⟩) (by assumption) ?restp7
        case hyp7 => (intro w hSw; obtain ⟨s0, s1, s2⟩ := hSw; go_simp; all_goals (with_reducible rfl))
        try simp only [Act.put, List.getElem_toArray, List.getElem_cons_zero, List.getElem_cons_succ, List.setIfInBounds_toArray, List.set_cons_zero, List.set_cons_succ]
        refine' wpAnyL_take (by kernel_rfl) (i := 8) (oi := _) (v := _) (by decide) rfl (by kernel_rfl) (by kernel_rfl) (by kernel_rfl) (fun _ _ _ h => h) (Or.inl ⟨by rfl, ?hyp8⟩) (by assumption) ?restp8
        case hyp8 => (intro w hSw; obtain ⟨s0, s1, s2⟩ := hSw; go_simp; all_goals (with_reducible rfl))
        try simp only [Act.put, List.getElem_toArray, List.getElem_cons_zero, List.getElem_cons_succ, List.setIfInBounds_toArray, List.set_cons_zero, List.set_cons_succ]
        refine' wpAnyL_take (by kernel_rfl) (i := 9) (oi := _) (v := _) (by decide) rfl (by kernel_rfl) (by kernel_rfl) (by kernel_rfl) (fun _ _ _ h => h) (Or.inl ⟨by rfl, ?hyp9⟩) (by assumption) ?restp9
        case hyp9 => (intro w hSw; obtain ⟨s0, s1, s2⟩ := hSw; go_simp; all_goals (with_reducible rfl))
        try simp only [Act.put, List.getElem_toArray, List.getElem_cons_zero, List.getElem_cons_succ, List.setIfInBounds_toArray, List.set_cons_zero, List.set_cons_succ]
        refine' wpAnyL_take (by kernel_rfl) (i := 10) (oi := _) (v := _) (by decide) rfl (by kernel_rfl) (by kernel_rfl) (by kernel_rfl) (fun _ _ _ h => h) (Or.inl ⟨by rfl, ?hyp10⟩) (by assumption) ?restp10
        case hyp10 => (intro w hSw; obtain ⟨s0, s1, s2⟩ := hSw; go_simp; all_goals (with_reducible rfl))
        try simp only [Act.put, List.getElem_toArray, List.getElem_cons_zero, List.getElem_cons_succ, List.setIfInBounds_toArray, List.set_cons_zero, List.set_cons_succ]
        refine' wpAnyL_take (by kernel_rfl) (i := 11) (oi := _) (v := _) (by decide) rfl (by kernel_rfl) (by kernel_rfl) (by kernel_rfl) (fun _ _ _ h => h) (Or.inl ⟨by rfl, ?hyp11⟩) (by assumption) ?restp11
        case hyp11 => (intro w hSw; obtain ⟨s0, s1, s2⟩ := hSw; go_simp; all_goals (with_reducible rfl))
        try simp only [Act.put, List.getElem_toArray, List.getElem_cons_zero, List.getElem_cons_succ, List.setIfInBounds_toArray, List.set_cons_zero, List.set_cons_succ]
        refine' wpAnyL_take (by kernel_rfl) (i := 12) (oi := _) (v := _) (by decide) rfl (by kernel_rfl) (by kernel_rfl) (by kernel_rfl) (fun _ _ _ h => h) (Or.inl ⟨by rfl, ?hyp12⟩) (by assumption) ?restp12
        case hyp12 => (intro w hSw; obtain ⟨s0, s1, s2⟩ := hSw; go_simp; all_goals (with_reducible rfl))
        try simp only [Act.put, List.getElem_toArray, List.getElem_cons_zero, List.getElem_cons_succ, List.setIfInBounds_toArray, List.set_cons_zero, List.set_cons_succ]
        refine wpAnyL_one (i := 5) (o := _) (by kernel_rfl) rfl (fun K hK => ?_)
        go_simp
        have hb5 : Below wr.heap.size wr (wr.drew.alloc (.cells #[] 2)) := (Below.refl _ _).drew.alloc (Nat.le_refl _) _
        refine hK.out _ _ (fun _ => hSS.out _ hb5) ?_
        clear hK K
        try simp only [Act.put, List.getElem_toArray, List.getElem_cons_zero, List.getElem_cons_succ, List.setIfInBounds_toArray, List.set_cons_zero, List.set_cons_succ]
        refine wpAnyL_one (i := 13) (o := _) (by kernel_rfl) rfl (fun K hK => ?_)
        rw [if_pos (wanted_none rfl)]
        obtain ⟨r', V2, q1, q2, q3, q4, q5⟩ := clone_lit (hRk.out _ hb5) 52 52 Try.underlying52 wr.heap.size
        have hb13 : Below wr.heap.size wr V2 := hb5.trans (q2.mono hb5.size)
        have hlo : wr.heap.size ≤ r'.b := by
          rcases q5 with q5 | q5
          · omega
          · have := hb5.size; omega
        refine wp_of_run (run_ap rfl rfl rfl q1) ?_
        refine hK.out _ _ (fun _ => hSS.out _ hb13) ?_
        clear hK K
        try simp only [Act.put, List.getElem_toArray, List.getElem_cons_zero, List.getElem_cons_succ, List.setIfInBounds_toArray, List.set_cons_zero, List.set_cons_succ]
        refine wpAnyL_one (i := 14) (o := _) (by kernel_rfl) rfl (fun K hK => ?_)
        go_simp
        have hb14 : Below wr.heap.size wr (V2.alloc (.cells #[r'.val] 52)) := hb13.alloc hb13.size _
        refine hK.out _ _ (fun _ => hSS.out _ hb14) ?_
        clear hK K
        try simp only [Act.put, List.getElem_toArray, List.getElem_cons_zero, List.getElem_cons_succ, List.setIfInBounds_toArray, List.set_cons_zero, List.set_cons_succ]
        refine wpAnyL_one (i := 15) (o := _) (by kernel_rfl) rfl (fun K hK => ?_)
        rw [if_pos (wanted_none rfl)]
        refine wp_append_own _ _ _ 44 rfl w.heap.size 52 i0 (.slice none 0 0) 1 24 Try.underlying44 hI hZ hI1 hI2 rfl (by decide) v k (R.map Row.val) rfl (hold.out V2 _ hb13) ⟨V2.heap.size, 0, none⟩ 1 1 [r'.val] rfl rfl (news1 (T := 52) V2 r'.val) (by simp [Value.oneCell', Row.val]) (by unfold maxLen; omega) (by omega) (by have := hb13.size; simp; omega) (fun v' w3 hown3 hgrow _ => ?_)
        obtain ⟨s0, s1, hbw3⟩ := hmbs.out _ _ _ hb13 hgrow
        have hnext := Lib.hid (hstep.out V2 w3 v' r' hb13 q3 hlo q4 _ hown3 hgrow)
        obtain ⟨ca, cc, rfl, _⟩ := own_slc hown3
        refine hK.out _ _ (fun _ => ⟨s0, hrow.out _ hbw3⟩) ?_
        clear hstep hold hmbs hSS hRk hown3 hgrow q1 q2 q3 q4 q5 hb5 hb13 hb14
        clear hK K
        try simp only [Act.put, List.getElem_toArray, List.getElem_cons_zero, List.getElem_cons_succ, List.setIfInBounds_toArray, List.set_cons_zero, List.set_cons_succ]
        refine wpAnyL_one (i := 16) (o := _) (by kernel_rfl) rfl (fun K hK => ?_)
        go_simp
        refine hK.out _ _ (fun h => absurd h (by decide)) ?_
        clear hK K
        try simp only [Act.put, List.getElem_toArray, List.getElem_cons_zero, List.getElem_cons_succ, List.setIfInBounds_toArray, List.set_cons_zero, List.set_cons_succ]
        refine wpAnyL_one (i := 17) (o := _) (by kernel_rfl) rfl (fun K hK => ?_)
        go_simp
        refine hK.out _ _ (fun h => absurd h (by decide)) ?_
        clear hK K
        try simp only [Act.put, List.getElem_toArray, List.getElem_cons_zero, List.getElem_cons_succ, List.setIfInBounds_toArray, List.set_cons_zero, List.set_cons_succ]
        refine wpAnyL_one (i := 18) (o := _) (by kernel_rfl) rfl (fun K hK => ?_)
        go_simp
        refine hK.out _ _ (fun h => absurd h (by decide)) ?_
        clear hK K
        try simp only [Act.put, List.getElem_toArray, List.getElem_cons_zero, List.getElem_cons_succ, List.setIfInBounds_toArray, List.set_cons_zero, List.set_cons_succ]
        refine wpAnyL_done (by kernel_rfl) ?_ _
        refine NoPanic.normal ?_
        go_wp2_with fail
        go_roundw
        case rel => exact ⟨k + 1, _, by omega, by go_num, hnext⟩
        case measure => simp [intOf]; omega
      · have hkl : k = d.rows.length := by omega
        subst hkl
        have hfin := Lib.hid (hN.out.done hl hk)
        clear hup hN hIn
        go_wp2_with fail
        go_ret
        exact hfin.out
end Go.Proofs.Ytnoilcchegmpfaa.Me
