/- Walk of around. Conditions: none. -/
import Derived.Test.YtkmlhijnkilfpaaDoorJFwJ
import Derived.Test.YtkmlhijnkilfpaaDoorJFwM0
import Derived.Test.YtkmlhijnkilfpaaDoorJaN
import Derived.Test.YtkmlhijnkilfpaaDoorJaK
import Derived.BigQuiet
import Derived.Deep.Cut
import Derived.Deep.QuietTactic
set_option linter.unusedSimpArgs false
set_option linter.unusedVariables false
namespace Go.Proofs.YtkmlhijnkilfpaaDoor.Fw
open Go Go.RowKit
open Go.Proofs.YtkmlhijnkilfpaaDoor.Lx Go.Proofs.YtkmlhijnkilfpaaDoor.Tr Go.Proofs.YtkmlhijnkilfpaaDoor.Cd
open Go.Proofs.YtkmlhijnkilfpaaDoor.Vq Go.Proofs.YtkmlhijnkilfpaaDoor.Qr Go.Proofs.YtkmlhijnkilfpaaDoor.QrT

theorem steps_front {P : Program} {l : List Oper} {Q : Exit → Act → World → Prop} {C : World → Prop} {R : Nat → Value → World → Prop} {a0 : Act} (m : Nat) (h : StepsL P l.toArray Q C R a0 0 (l.take m)) : ∀ j o, j < m → l.toArray[j]? = some o → Step P l.toArray Q C R a0 j o := fun j o hj ho => by
  have := stepsL_get (l.take m) 0 j o h (by rw [List.getElem?_take, if_pos hj]; simpa using ho)
  rwa [Nat.zero_add] at this
theorem mk_mem (V : World) : (Instr.makeSlice 22 (.int .i64 1) (.int .i64 1)).run Tryd.prog V = .ok (.slice (some ⟨V.heap.size, 0, none⟩) 1 1) (V.alloc (.cells #[.string ⟨#[]⟩, .int .i64 0, .int .i64 0] 56)) := by kernel_rfl
theorem mk_str (V : World) : (Instr.makeSlice 23 (.int .i64 1) (.int .i64 1)).run Tryd.prog V = .ok (.slice (some ⟨V.heap.size, 0, none⟩) 1 1) (V.alloc (.cells #[.string ⟨#[]⟩] 9)) := by kernel_rfl
theorem mk_ins (V : World) : (Instr.makeSlice 39 (.int .i64 1) (.int .i64 1)).run Tryd.prog V = .ok (.slice (some ⟨V.heap.size, 0, none⟩) 1 1) (V.alloc (.cells #[.int .u8 0, .int .i64 0, .int .i64 0, .int .i64 0, .int .i64 0, .slice none 0 0] 44)) := by kernel_rfl
theorem mk_fn1 (V : World) (regs : Int) (a : Option Addr) : (Instr.buildSlice 24 1 #[(0, .agg #[.string ⟨#[]⟩, .bool false, .int .i64 0, .int .i64 regs, .slice a 1 1])]).run Tryd.prog V = .ok (.slice (some ⟨V.heap.size, 0, none⟩) 1 1) (V.alloc (.cells #[.string ⟨#[]⟩, .bool false, .int .i64 0, .int .i64 regs, .slice a 1 1] 52)) := by kernel_rfl
def VS1 (v : Value) (_ : World) : Prop := ∃ a, v = .slice a 1 1
theorem VS1.mono : Mono VS1 := fun _ _ _ _ h => h
def VFz (regs : Int) (v : Value) (_ : World) : Prop := ∃ a, v = .agg #[.string ⟨#[]⟩, .bool false, .int .i64 0, .int .i64 regs, .slice a 1 1]
theorem VFz.mono {regs : Int} : Mono (VFz regs) := fun _ _ _ _ h => h
def VFr (B : Nat) (regs : Int) (v : Value) (w : World) : Prop := ∃ a g, v = .slice (some ⟨g, 0, none⟩) 1 1 ∧ w.ownsRow B 52 5 v 1 [.string ⟨#[]⟩, .bool false, .int .i64 0, .int .i64 regs, .slice a 1 1]
theorem VFr.mono {B : Nat} {regs : Int} : Mono (VFr B regs) := fun _ _ _ hb ⟨a, g, h, h2⟩ => ⟨a, g, h, own_below h2 hb⟩
def VPz (B : Nat) (regs : Int) (v : Value) (w : World) : Prop := ∃ a a' v3, v = .agg #[.slice a 1 1, .slice a' 1 1, v3] ∧ VFr B regs v3 w
theorem VPz.mono {B : Nat} {regs : Int} : Mono (VPz B regs) := fun _ _ _ hb ⟨a, a', v3, h, h2⟩ => ⟨a, a', v3, h, VFr.mono _ _ _ hb h2⟩
def VBx (B : Nat) (v : Value) (w : World) : Prop := ∃ b, v = .pointer (some ⟨b, 0, none⟩) ∧ B ≤ b ∧ w.heap[b]? = some (.cells #[.slice none 0 0, .slice none 0 0, .slice none 0 0] 26 (0, 0))
theorem VBx.mono {B : Nat} : Mono (VBx B) := fun _ _ _ hb ⟨b, h, h1, h2⟩ => ⟨b, h, h1, (hb.block b (Array.getElem?_eq_some_iff.1 h2).1).trans h2⟩
def ra (B bx : Nat) (regs : Int) : List (Value → World → Prop) :=
  [VS1, VS1, VK (.pointer (some ⟨bx, 3, none⟩)), VK (.int .i64 regs), VS1, VFz regs, VFr B regs, VPz B regs, VBx B]
theorem ra_mono {B bx : Nat} {regs : Int} : MonoL (ra B bx regs) := ⟨VS1.mono, VS1.mono, VK.mono, VK.mono, VS1.mono, VFz.mono, VFr.mono, VPz.mono, VBx.mono, trivial⟩
theorem fl_g3 {V : World} {b : Nat} : (Instr.fieldAt 37 (.pointer (some ⟨b, 0, none⟩)) 3).run Tryd.prog V = .ok (.pointer (some ⟨b, 3, none⟩)) V := by go_simp
theorem run_fa {P : Program} {a : Act} {o : Oper} {t : TypeId} {x : Operand} {u v : Value} {k : Nat} {w w' : World} (ho : o.op = .fieldAddr t x k) (hx : a.eval x = u) (hr : (Instr.fieldAt t u k).run P w = .ok v w') : (execOp a.eval o).run P w = .ok (.value v) w' := by
  subst hx
  unfold execOp
  simp [ho, hr]
theorem run_al {P : Program} {a : Act} {o : Oper} {t : TypeId} {v : Value} {w w' : World} (ho : o.op = .alloc t) (hr : (Instr.alloc t true (.tuple #[])).run P w = .ok v w') : (execOp a.eval o).run P w = .ok (.value v) w' := by
  unfold execOp
  simp [ho, hr]
theorem al_prog (V : World) : (Instr.alloc 26 true (.tuple #[])).run Tryd.prog V = .ok (.pointer (some ⟨V.heap.size, 0, none⟩)) (V.alloc (.cells #[.slice none 0 0, .slice none 0 0, .slice none 0 0] 26)) := by go_simp
/-- the Funs of the program around: one with the registers, then one for each number of Params -/
def parF (k : Nat) : Cd.Fn := ⟨⟨#[]⟩, false, k, 0, none, 0, []⟩
def firstF (regs : Int) (a : Option Addr) : Cd.Fn := ⟨⟨#[]⟩, false, 0, regs, a, 1, [(⟨0, 0, 0, 0, 0, none, 0, []⟩ : Ins)]⟩
def arF (regs : Int) (a : Option Addr) (n : Nat) : List Cd.Fn := firstF regs a :: (List.range n).map parF
theorem arF_len (regs : Int) (a : Option Addr) (n : Nat) : (arF regs a n).length = n + 1 := by simp [arF]
theorem arF_succ (regs : Int) (a : Option Addr) (n : Nat) : arF regs a (n + 1) = arF regs a n ++ [parF n] := by simp [arF, List.range_succ]
set_option maxHeartbeats 4000000 in
set_option maxRecDepth 100000 in
theorem around_c (g : Gr) (w : World) :
    Calls Tryd.prog 70 #[.agg ⟨g.vals⟩] w fun e w' => (∃ a1 a2 a v cap, e = .returned (.agg #[.slice a1 1 1, .slice a2 1 1, .slice v 10 cap]) ∧ RowAt w' Tt v cap 10 (fnCells (arF g.regs a 9))) ∧ Below w.heap.size w w' := by
  have hst := Lib.hid (b_alloc2 w (.cells #[.string g.name, .bool g.thread, .int .i64 g.params, .int .i64 g.regs, .slice g.ba g.blocks.length g.bcap] 37) (.cells #[.slice none 0 0, .slice none 0 0, .slice none 0 0] 26))
  have hq := Lib.hid (box5 w g)
  have hqq := Lib.hid (blk_new (w.alloc (.cells #[.string g.name, .bool g.thread, .int .i64 g.params, .int .i64 g.regs, .slice g.ba g.blocks.length g.bcap] 37)) (.cells #[.slice none 0 0, .slice none 0 0, .slice none 0 0] 26) (b := w.heap.size + 1) (by simp))
  obtain ⟨name, thread, params, regs, ba, bcap, blocks⟩ := g
  simp only at *
  unfold Gr.vals
  simp only
  obtain ⟨i0, hi0, hz0, hz1, hz2⟩ := info_parts info_fn
  go_enter Tryd.func70, Tryd.ntmps70
  go_upto_region 1 with fail
  generalize hW0 : (w.alloc (.cells #[.string name, .bool thread, .int .i64 params, .int .i64 regs, .slice ba blocks.length bcap] 37)).alloc (.cells #[.slice none 0 0, .slice none 0 0, .slice none 0 0] 26) = W0 at *
  have q3 : Hid (W0.cell? ⟨w.heap.size, 3, none⟩ = some (.int .i64 regs)) := Lib.hid (by rw [← hW0]; exact below_in (b_alloc _ _) hq.out.2.2.2.1)
  clear hW0 hq
  refine wp_region_tail (C := fun V => Below W0.heap.size W0 V) (E := Ext) (R := fun j => (ra W0.heap.size w.heap.size regs).getD j VT) (by kernel_rfl) ((Below.refl _ _).drew) (by kernel_rfl) (fun j v w' w'' _ hE h => mono_get _ j ra_mono v w' w'' hE h) (m := 9) rfl rfl rfl (by kernel_rfl) (steps_front 9 ?hs) ?hend
  case hs =>
    refine stepsL_cons (s_new fun a W hC hs => ?_) ?_
    · exact ⟨wanted_none rfl, _, _, run_ms rfl (ev_const _) (ev_const _) (mk_mem W), hC.alloc hC.size _, Ext.al _ _, ⟨_, rfl⟩⟩
    refine stepsL_cons (s_new fun a W hC hs => ?_) ?_
    · exact ⟨wanted_none rfl, _, _, run_ms rfl (ev_const _) (ev_const _) (mk_str W), hC.alloc hC.size _, Ext.al _ _, ⟨_, rfl⟩⟩
    refine stepsL_cons (s_val fun a W hC hs => ?_) ?_
    · have h1 := old_of hs 1 (by kernel_rfl) (by rfl)
      exact ⟨wanted_none rfl, _, run_fa rfl (ev h1) fl_g3, rfl⟩
    refine stepsL_cons (s_val fun a W hC hs => ?_) ?_
    · obtain ⟨v2, hv2, hR2⟩ := got_of hs 2 7 (by kernel_rfl) (by rfl)
      replace hR2 : v2 = _ := hR2
      subst hR2
      exact ⟨wanted_none rfl, _, run_ld rfl (ev hv2) (by have := below_in hC q3.out; simp [go_sem, this]), rfl⟩
    refine stepsL_cons (s_new fun a W hC hs => ?_) ?_
    · exact ⟨wanted_none rfl, _, _, run_ms rfl (ev_const _) (ev_const _) (mk_ins W), hC.alloc hC.size _, Ext.al _ _, ⟨_, rfl⟩⟩
    refine stepsL_cons (s_val fun a W hC hs => ?_) ?_
    · obtain ⟨v3, hv3, hR3⟩ := got_of hs 3 8 (by kernel_rfl) (by rfl)
      replace hR3 : v3 = _ := hR3
      subst hR3
      obtain ⟨v4, hv4, hR4⟩ := got_of hs 4 9 (by kernel_rfl) (by rfl)
      obtain ⟨a4, rfl⟩ := hR4
      exact ⟨wanted_none rfl, _, run_b (qs := #[(3, .int .i64 regs), (4, .slice a4 1 1)]) rfl (by simp [ev hv3, ev hv4]) (by kernel_rfl), ⟨a4, rfl⟩⟩
    refine stepsL_cons (s_new fun a W hC hs => ?_) ?_
    · obtain ⟨v5, hv5, hR5⟩ := got_of hs 5 10 (by kernel_rfl) (by rfl)
      obtain ⟨a5, rfl⟩ := hR5
      refine ⟨wanted_none rfl, _, _, run_bs (qs := #[(0, .agg #[.string ⟨#[]⟩, .bool false, .int .i64 0, .int .i64 regs, .slice a5 1 1])]) rfl (by simp [ev hv5]) (mk_fn1 W regs a5), hC.alloc hC.size _, Ext.al _ _, ⟨a5, _, rfl, rfl, .inr ⟨_, 1, _, rfl, ?_, blk_new _ _ rfl, Nat.le_refl _, by unfold maxLen; omega, rfl, rfl⟩⟩⟩
      exact hC.size
    refine stepsL_cons (s_val fun a W hC hs => ?_) ?_
    · obtain ⟨v0, hv0, hR0⟩ := got_of hs 0 5 (by kernel_rfl) (by rfl)
      obtain ⟨a0, rfl⟩ := hR0
      obtain ⟨v1, hv1, hR1⟩ := got_of hs 1 6 (by kernel_rfl) (by rfl)
      obtain ⟨a1, rfl⟩ := hR1
      obtain ⟨v6, hv6, hR6⟩ := got_of hs 6 11 (by kernel_rfl) (by rfl)
      exact ⟨wanted_none rfl, _, run_b (qs := #[(0, .slice a0 1 1), (1, .slice a1 1 1), (2, v6)]) rfl (by simp [ev hv0, ev hv1, ev hv6]) (by obtain ⟨a6, g6, rfl, _⟩ := hR6; kernel_rfl), ⟨a0, a1, v6, rfl, hR6⟩⟩
    refine stepsL_cons (s_new fun a W hC hs => ?_) ?_
    · refine ⟨wanted_none rfl, _, _, run_al rfl (al_prog W), hC.alloc hC.size _, Ext.al _ _, ⟨_, rfl, ?_, blk_new _ _ rfl⟩⟩
      exact hC.size
    exact stepsL_nil
  case hend =>
    intro σ V hC hR
    generalize hF : fillL _ _ _ _ _ = F
    simp [fillL, dstOf, List.range, List.range.loop, Act.put] at hF
    subst hF
    obtain ⟨b, hb, hbB, hbh⟩ : VBx W0.heap.size (σ 8) V := hR 8 (by simp)
    obtain ⟨a1, a2, v3, h7, a, gg, rfl, hv3⟩ : VPz W0.heap.size regs (σ 7) V := hR 7 (by simp)
    rw [hb, h7]
    have c0 := blk_cell hbh (j := 0) (u := .slice none 0 0) rfl
    have c1 := blk_cell hbh (j := 1) (u := .slice none 0 0) rfl
    have c2 := blk_cell hbh (j := 2) (u := .slice none 0 0) rfl
    have d0 := blk_free hbh 0
    have d1 := blk_free hbh 1
    have d2 := blk_free hbh 2
    have hBx : Hid (Bx W0.heap.size b (.slice a1 1 1) (.slice a2 1 1) (arF regs a 0) (((V.setCell ⟨b, 0, none⟩ (.slice a1 1 1)).setCell ⟨b, 1, none⟩ (.slice a2 1 1)).setCell ⟨b, 2, none⟩ (.slice (some ⟨gg, 0, none⟩) 1 1))) := Lib.hid (by
      have hne := own_neF hbh hv3
      refine ⟨hbB, some ⟨gg, 0, none⟩, 1, ?_, ?_⟩
      · have := heap_set1 (heap_set1 (heap_set1 hbh 0 (.slice a1 1 1)) 1 (.slice a2 1 1)) 2 (.slice (some ⟨gg, 0, none⟩) 1 1)
        rw [this]; rfl
      · exact ownsRow_setCell_other (ownsRow_setCell_other (ownsRow_setCell_other hv3 hne _) hne _) hne _)
    have hB1 : Hid (Below W0.heap.size W0 (((V.setCell ⟨b, 0, none⟩ (.slice a1 1 1)).setCell ⟨b, 1, none⟩ (.slice a2 1 1)).setCell ⟨b, 2, none⟩ (.slice (some ⟨gg, 0, none⟩) 1 1))) := Lib.hid (((hC.setCell (p := ⟨b, 0, none⟩) hbB _).setCell (p := ⟨b, 1, none⟩) hbB _).setCell (p := ⟨b, 2, none⟩) hbB _)
    clear hR hv3 hbh hC h7 hb
    unfold Oper.wp
    unfold execOp
    simp [go_sem, c0, c1, c2, d0, d1, d2]
    clear c0 c1 c2 d0 d1 d2
    generalize ((V.setCell ⟨b, 0, none⟩ (.slice a1 1 1)).setCell ⟨b, 1, none⟩ (.slice a2 1 1)).setCell ⟨b, 2, none⟩ (.slice (some ⟨gg, 0, none⟩) 1 1) = W1 at *
    generalize (Value.agg #[Value.slice a1 1 1, Value.slice a2 1 1, Value.slice (some { block := gg, off := 0 }) 1 1]) = z7
    generalize σ 0 = z0
    generalize σ 1 = z1
    generalize σ 2 = z2
    generalize σ 3 = z3
    generalize σ 4 = z4
    generalize σ 5 = z5
    generalize σ 6 = z6
    go_wp2_with fail
    go_loopw [13] (fun i wr => ∃ k : Nat, k ≤ 9 ∧ i = .int .i64 k ∧ Hid (Bx W0.heap.size b (.slice a1 1 1) (.slice a2 1 1) (arF regs a k) wr) ∧ Hid (Below W0.heap.size W0 wr)) (fun i _ => 9 - (intOf i).toNat)
    case atStart => exact ⟨0, Nat.zero_le _, rfl, hBx, hB1⟩
    case round =>
      clear hBx hB1
      obtain ⟨k, hk, rfl, hX, hb⟩ := hrel
      obtain ⟨v, cap, e0, e1, e2, ho, hbl⟩ := hX.out.get
      have efr : wr.frozen? ⟨b, 2, none⟩ = false := by
        obtain ⟨_, _, _, h1, _⟩ := hX.out
        exact blk_free h1 _
      have hln := arF_len regs a k
      by_cases hlt : k < 9
      · have hk9 : (k : Int) < 9 := by omega
        have hstep := Lib.hid (fun (w3 : World) (o : Obj) (v' : Value) hgr h3 => hX.out.step (w3 := w3) (o := o) (v' := v') (x := parF k) e2 hgr h3)
        have hown := Lib.hid ho
        rw [← arF_succ] at hstep
        rw [hln] at e2 hstep hown
        have hbb : Hid (∀ (o : Obj) (w3 : World) (u : Value), (wr.alloc o).grownBy w3 (Value.slice v (k + 1) cap).ownBlock → Below W0.heap.size W0 (w3.setCell ⟨b, 2, none⟩ u)) := Lib.hid (by
          intro o w3 u hg
          exact ((hb.out.alloc hb.out.size o).grown hg (by have := hb.out.size; simp; omega) (fun q e => (hown.out.lt q e).1)).setCell (p := ⟨b, 2, none⟩) hbB _)
        clear ho e0 e1 hX hln
        go_wp2_with (at_builtin; refine wpList_append_own_at _ rfl _ _ 24 rfl W0.heap.size 52 i0 _ 5 64 Tryd.underlying24 hi0 hz0 hz1 hz2 rfl (by decide) _ _ _ rfl (own_below hown.out (b_alloc _ _)) _ 1 1 (parF k).vals rfl rfl (row_at _ (parF k).vals _ _ (by first | rfl | simp)) (by simp [Value.oneCell', parF, Cd.Fn.vals]) ?c1 ?c2 ?c3 ?_)
        case c1 => unfold maxLen; omega
        case c2 => omega
        case c3 => have := hb.out.size; simp; omega
        intro v' w3 hown3 hg3 _ hat3
        obtain ⟨⟨va, vcap, rfl⟩, ⟨h3c, h3f, h3l⟩, hX2⟩ := hstep.out _ _ _ hg3 hown3
        have hb2 := Lib.hid (hbb.out _ _ (.slice va (k + 1 + 1) vcap) hg3)
        replace hX2 := Lib.hid hX2
        clear hstep hown hbb hown3 hg3 hat3 e2 efr
        go_wp2_with fail
        go_roundw
        case rel => exact ⟨k + 1, by omega, by go_num, hX2, hb2⟩
        case measure => simp [intOf]; omega
      · have hk2 : k = 9 := by omega
        subst hk2
        rw [hln] at e2
        have hrow := Lib.hid (hX.out.row ho)
        have hown := Lib.hid ho
        rw [hln] at hrow hown
        have hres : wr.heap[w.heap.size + 1]? = some (.cells #[.slice none 0 0, .slice none 0 0, .slice none 0 0] 26 (0, 0)) := (hb.out.block _ (Array.getElem?_eq_some_iff.1 hqq.out).1).trans hqq.out
        have hrl := (Array.getElem?_eq_some_iff.1 hqq.out).1
        have r0 := blk_cell hres (j := 0) (u := .slice none 0 0) rfl
        have r1 := blk_cell hres (j := 1) (u := .slice none 0 0) rfl
        have r2 := blk_cell hres (j := 2) (u := .slice none 0 0) rfl
        have f0 := blk_free hres 0
        have f1 := blk_free hres 1
        have f2 := blk_free hres 2
        replace hres := Lib.hid hres
        clear hX hln ho
        go_wp2_with fail
        have hW : Below W0.heap.size W0 wr := hb.out
        have hbw : Below w.heap.size w wr := hst.out.trans (hb.out.mono hst.out.size)
        have hne : (Value.slice v 10 cap).ownBlock ≠ some (w.heap.size + 1) := fun e => by have := (hown.out.lt _ e).1; omega
        have hfin := ownsRow_setCell_other (ownsRow_setCell_other (ownsRow_setCell_other hown.out (a := ⟨w.heap.size + 1, 0, none⟩) hne (.slice a1 1 1)) (a := ⟨w.heap.size + 1, 1, none⟩) hne (.slice a2 1 1)) (a := ⟨w.heap.size + 1, 2, none⟩) hne (.slice v 10 cap)
        obtain ⟨fa, fc, fe, fr⟩ := Cd.row_own hfin
        cases fe
        have hh := heap_set1 (heap_set1 (heap_set1 hres.out 0 (.slice a1 1 1)) 1 (.slice a2 1 1)) 2 (.slice v 10 cap)
        exact bodyPost_ret (v := .agg #[.slice a1 1 1, .slice a2 1 1, .slice v 10 cap]) (results_cell_row Tryd.results70 _ _ (w.heap.size + 1) _ _ _ _ rfl hh Tryd.underlying26 rfl (by kernel_rfl)) rfl ⟨⟨a1, a2, a, v, cap, rfl, fr.mono fun _ _ => trivial⟩, ((hbw.setCell (p := ⟨w.heap.size + 1, 0, none⟩) (by show w.heap.size ≤ w.heap.size + 1; omega) _).setCell (p := ⟨w.heap.size + 1, 1, none⟩) (by show w.heap.size ≤ w.heap.size + 1; omega) _).setCell (p := ⟨w.heap.size + 1, 2, none⟩) (by show w.heap.size ≤ w.heap.size + 1; omega) _⟩
end Go.Proofs.YtkmlhijnkilfpaaDoor.Fw
