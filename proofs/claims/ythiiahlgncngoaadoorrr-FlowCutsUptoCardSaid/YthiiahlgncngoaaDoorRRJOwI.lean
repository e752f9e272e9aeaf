/- Walk of cut. Conditions: the instructions lie in memory, and lead to instructions. -/
import Derived.Test.YthiiahlgncngoaaDoorRRJM7
set_option maxHeartbeats 16000000
set_option maxRecDepth 100000
set_option linter.unusedSimpArgs false
set_option linter.unusedVariables false
namespace Go.Proofs.YthiiahlgncngoaaDoorRR.Fw
open Go Go.RowKit
open Go.Proofs.YthiiahlgncngoaaDoorRR.Lx Go.Proofs.YthiiahlgncngoaaDoorRR.Tr Go.Proofs.YthiiahlgncngoaaDoorRR.Cd
open Go.Proofs.YthiiahlgncngoaaDoorRR.Vq Go.Proofs.YthiiahlgncngoaaDoorRR.Qr Go.Proofs.YthiiahlgncngoaaDoorRR.QrT
open Go.Proofs.YthiiahlgncngoaaDoorRR.Qg (Z5 Z2 run_call3)
theorem row_old {W : World} {S : Nat → Prop} {a : Option Addr} {cap n : Nat} {xs : List Value} (h : RowAt W S a cap n xs) : RowAt W (fun b => S b ∧ b < W.heap.size) a cap n xs :=
 ⟨h.le, h.lim, h.nil, fun j u hj => by
  obtain ⟨b, off, ha, hS, hc⟩ := h.at_ j u hj
  exact ⟨b, off, ha, ⟨hS, World.block_lt_of_cell? _ _ hc⟩, hc⟩⟩
theorem ins_old {W : World} {S : Nat → Prop} {y : Ins} (h : Ins.In W S y) : Ins.In W (fun b => S b ∧ b < W.heap.size) y := ⟨h.op, h.r, h.a, h.b, h.n, row_old h.row, h.nums⟩
/-- the instructions of all blocks, in one row of the call's own, ahead of the blocks' row; their numbers, in rows beside it -/
structure CodeI (B g : Nat) (a7 : Option Addr) (c7 : Nat) (m : List Ins) (W : World) : Prop where
 row : W.ownsRow B 44 6 (.slice a7 m.length c7) m.length (Q8 m)
 lt : ∀ q, (Value.slice a7 m.length c7).ownBlock = some q → q < g
 args : ∀ (j : Nat) (y : Ins), m[j]? = some y → Ins.In W (fun b => B ≤ b ∧ b < g ∧ (Value.slice a7 m.length c7).ownBlock ≠ some b) y ∧ W.ownsRow B 3 1 (.slice y.aa y.args.length y.acap) y.args.length (Qc y.args) ∧ ∀ q, (Value.slice y.aa y.args.length y.acap).ownBlock = some q → q < g
theorem run_ixB {P : Program} {a : Act} {o : Oper} {t : TypeId} {x y : Operand} {u v r : Value} {w w' : World} (ho : o.op = .indexAddr t x y) (hx : a.eval x = u) (hy : a.eval y = v) (hr : (Instr.indexAt t u v).run P w = .ok r w') : (execOp a.eval o).run P w = .ok (.value r) w' := by
 subst hx hy
 unfold execOp
 simp [ho, hr]
theorem ix_bk {V : World} {b n cap k : Nat} (h : (k : Int) < (n : Int)) : (Instr.indexAt 35 (.slice (some ⟨b, 0, none⟩) n cap) (.int .i64 k)).run Tryd.prog V = .ok (.pointer (some ⟨b, k * 4, none⟩)) V := by go_simp
theorem run_slB {P : Program} {a : Act} {o : Oper} {t : TypeId} {x y z : Operand} {u v r q : Value} {w w' : World} (ho : o.op = .slice t x (some y) (some z) none) (hx : a.eval x = u) (hy : a.eval y = v) (hz : a.eval z = q) (hr : (Instr.sliceAt t u (some v) (some q) none).run P w = .ok r w') : (execOp a.eval o).run P w = .ok (.value r) w' := by
 subst hx hy hz
 unfold execOp
 simp [ho, hr]
theorem run_sl3 {P : Program} {a : Act} {o : Oper} {t : TypeId} {x y z z' : Operand} {u v r q q' : Value} {w w' : World} (ho : o.op = .slice t x (some y) (some z) (some z')) (hx : a.eval x = u) (hy : a.eval y = v) (hz : a.eval z = q) (hz' : a.eval z' = q') (hr : (Instr.sliceAt t u (some v) (some q) (some q')).run P w = .ok r w') : (execOp a.eval o).run P w = .ok (.value r) w' := by
 subst hx hy hz hz'
 unfold execOp
 simp [ho, hr]
theorem sl_ins {V : World} {a : Option Addr} {n cap lo hi : Nat} (h1 : lo ≤ hi) (h2 : hi ≤ cap) : (Instr.sliceAt 39 (.slice a n cap) (some (.int .i64 lo)) (some (.int .i64 hi)) none).run Tryd.prog V = .ok (.slice (if cap = lo then a else a.map (·.add (lo * 6))) (hi - lo) (cap - lo)) V := by
 have e1 : (0 : Int) ≤ (lo : Int) := by omega
 have e2 : (lo : Int) ≤ (hi : Int) := by omega
 have e3 : (hi : Int) ≤ (cap : Int) := by omega
 go_simp
theorem sl_ins3 {V : World} {a : Option Addr} {n cap lo hi : Nat} (h1 : lo ≤ hi) (h2 : hi ≤ cap) : (Instr.sliceAt 39 (.slice a n cap) (some (.int .i64 lo)) (some (.int .i64 hi)) (some (.int .i64 hi))).run Tryd.prog V = .ok (.slice (if hi = lo then a else a.map (·.add (lo * 6))) (hi - lo) (hi - lo)) V := by
 have e1 : (0 : Int) ≤ (lo : Int) := by omega
 have e2 : (lo : Int) ≤ (hi : Int) := by omega
 have e3 : (hi : Int) ≤ (cap : Int) := by omega
 have e4 : (hi : Int) ≤ (hi : Int) := by omega
 go_simp
theorem b_bk {V : World} (a b : Option Addr) (n c m d : Nat) : (Instr.build 42 #[(1, .slice a n c), (3, .slice b m d)]).run Tryd.prog V = .ok (.agg #[.slice none 0 0, .slice a n c, .slice none 0 0, .slice b m d]) V := by kernel_rfl
theorem run_addB {a : Act} {o : Oper} {x : Operand} {n : Int} {w : World} (ho : o.op = .binOp .add 3 x (.const (.int .i64 1)) 3) (hx : a.eval x = .int .i64 n) (h1 : -9223372036854775808 ≤ n + 1) (h2 : n + 1 ≤ 9223372036854775807) : (execOp a.eval o).run Tryd.prog w = .ok (.value (.int .i64 (n + 1))) w := by
 unfold execOp
 simp only [ho]
 rw [hx]
 go_simp
 rw [IntWalk.i64_in _ (by omega)]
def VT68 (B : Nat) (t : List Int) (v : Value) (V : World) : Prop := ∃ ta tcap, v = .slice ta t.length tcap ∧ V.ownsRow B 3 1 v t.length (Qc t)
theorem VT68.mono {B : Nat} {t : List Int} : Mono (VT68 B t) := fun _ _ _ hb ⟨ta, tcap, h, h2⟩ => ⟨ta, tcap, h, Qn h2 hb⟩
def VB69 (B : Nat) (t : List Int) (c : Value) (v : Value) (V : World) : Prop := ∃ u, v = .agg #[.slice none 0 0, c, .slice none 0 0, u] ∧ VT68 B t u V
theorem VB69.mono {B : Nat} {t : List Int} {c : Value} : Mono (VB69 B t c) := fun _ _ _ hb ⟨u, h, h2⟩ => ⟨u, h, VT68.mono _ _ _ hb h2⟩
def ra16 (B : Nat) (T : List Int) (P8 Pk P7 Pst Pen P59 P0 P63 P64 P66 P67 P70 : Value) : List (Value → World → Prop) :=
 [VK P8, VK Pk, VK P7, VK Pst, VK Pen, VK Pen, VK P59, VK P0, VK Pst, VK Pen, VK P63, VK P64, VK Pk, VK P66, VK P67, VT68 B T, VB69 B T P59, VK P70]
theorem ra16_mono {B : Nat} {T : List Int} {P8 Pk P7 Pst Pen P59 P0 P63 P64 P66 P67 P70 : Value} : MonoL (ra16 B T P8 Pk P7 Pst Pen P59 P0 P63 P64 P66 P67 P70) := ⟨VK.mono, VK.mono, VK.mono, VK.mono, VK.mono, VK.mono, VK.mono, VK.mono, VK.mono, VK.mono, VK.mono, VK.mono, VK.mono, VK.mono, VK.mono, VT68.mono, VB69.mono, VK.mono, trivial⟩
theorem cut_c (a : Option Addr) (cap : Nat) (l : List Ins) (w : World) (hrow : RowAt w Tt a cap l.length (Q8 l)) (hin : ∀ y ∈ l, Ins.In w Tt y) (hT : OpTab w) (hl : l.length ≤ 65536) (ha : ∀ y ∈ l, y.args.length ≤ 1048576) (hg : ∀ y ∈ l, (glP y).2 = true → 0 ≤ (glP y).1 ∧ (glP y).1 < (l.length : Int)) :
 Calls Tryd.prog 53 #[.slice a l.length cap] w fun e w' => ∃ g bs m a7 c7, e = .returned (.slice (some ⟨g, 0, none⟩) (begL l).length (begL l).length) ∧ m.length = l.length ∧ (∀ (j : Nat) (x y : Ins), l[j]? = some x → m[j]? = some y → bareR x y) ∧ CodeI w.heap.size g a7 c7 m w' ∧ CutI a7 g l m bs (begL l).length w' ∧ Below w.heap.size w w' := by
 obtain ⟨hc1, hc2⟩ := Q2 hrow
 have hbl := begL_len l
 have hbeg := Lh (begins_c a cap l w hrow hin hT (by omega) hg)
 have hbare := Lh (fun V (hv : Below w.heap.size w V) => bare_c a cap l V (hrow.below (Kps.of_below hv)) (fun y hy => (hin y hy).below (Kps.of_below hv)) (hT.keep hv) (by omega) ha)
 have hR := Lh (fun V (hv : Below w.heap.size w V) => hrow.below (Kps.of_below hv))
 have hT' := Lh (fun V (hv : Below w.heap.size w V) => hT.keep hv)
 have hI := Lh (fun (x : Ins) (hx : x ∈ l) => (hin x hx).op)
 have hL0 := Lh (begL_in l)
 have hse := Lh (fun b h => st_en (l := l) (b := b) h)
 have hst0 := Lh (fun b x h => stN_of (l := l) (b := b) (x := x) h)
 replace hg := Lh hg
 clear hrow hin hT ha
 go_enter Tryd.func53, Tryd.ntmps53
 go_upto_region 1 with fail
 go_wp2_with fail
 refine hbeg.out.mono ?_
 rintro e w1 ⟨v, rfl, hv, hb1⟩
 clear hbeg
 obtain ⟨va, vcap, rfl, hLr⟩ := row_own1 hv
 have hLr' := Lh (fun V (hv : Below w1.heap.size w1 V) => hLr.below (Kps.of_below hv))
 obtain ⟨hd1, hd2⟩ := Q2 hLr
 have hmk := make_in l.length (by omega) w1
 have hB1 := Lh (Qh w1 (.cells (Array.replicate l.length (.int .i64 0)) 3))
 have hN0 := Lh (InB.start w1 l.length)
 replace hb1 := Lh hb1
 have hnb : Hid (enN l = fun b => if b + 1 < (begL l).length then ((begL l).getD (b + 1) 0).toNat else l.length) := Lh rfl
 clear hv hLr
 generalize hLd : begL l = L at *
 have hLd' : Hid (begL l = L) := Lh hLd
 clear hLd
 go_wp2_with fail
 go_loopw [19] (fun i wr => ∃ k : Nat, k ≤ L.length ∧ i = .int .i64 k ∧ Hid (InB w1.heap.size l.length (numF 0 (L.take k) fun _ => 0) wr) ∧ Hid (Below w1.heap.size w1 wr)) (fun i _ => L.length - (intOf i).toNat)
 case atStart => exact ⟨0, Nat.zero_le _, rfl, Lh (hN0.out.cong fun n _ => by simp [numF]), hB1⟩
 case round =>
  obtain ⟨k, hk, rfl, hN, hb⟩ := hrel
  by_cases hlt : k < L.length
  · obtain ⟨x, hx⟩ : ∃ x, L[k]? = some x := ⟨_, List.getElem?_eq_getElem hlt⟩
    obtain ⟨b, off, ha, _, c0⟩ := Xa (hLr'.out _ hb.out) k x hx
    have hxr := hL0.out x (List.mem_of_getElem? hx)
    obtain ⟨m, rfl⟩ : ∃ m : Nat, x = m := ⟨x.toNat, by omega⟩
    have hm0 : (0 : Int) ≤ (m : Int) := by omega
    have hm1 : (m : Int) < (l.length : Int) := by omega
    have hml : m < l.length := by omega
    have hi0' : (0 : Int) ≤ (k : Int) := by omega
    have hi1 : (k : Int) < (L.length : Int) := by omega
    obtain ⟨t1, t2⟩ := hN.out.get hml
    have hgl := hN.out.lt
    have hN2 := Lh (hN.out.set hml (k : Int) (numF 0 (L.take (k + 1)) fun _ => 0) (fun i _ => by rw [numF_take hx]; by_cases e : i = m <;> simp [e]; omega))
    have hb2 := Lh (hb.out.setCell (p := ⟨w1.heap.size, m, none⟩) (Nat.le_refl _) (.int .i64 k))
    subst ha
    clear hx hxr hN hb
    go_wp2_with fail
    go_roundw
    case rel => exact ⟨k + 1, by omega, by go_num, hN2, hb2⟩
    case measure => simp [intOf]; omega
  · have hk2 : k = L.length := by omega
    subst hk2
    have hN3 : Hid (InB w1.heap.size l.length (numF 0 L fun _ => 0) wr) := Lh (hN.out.cong fun n _ => by rw [List.take_length])
    have hbw := Lh (hb1.out.trans (hb.out.mono hb1.out.size))
    have hLr2 := Lh (hLr'.out _ hb.out)
    clear hN hLr'
    go_upto_region 8 with fail
    go_wp2_with fail
    refine (hbare.out _ hbw.out).mono ?_
    rintro e w3 ⟨v7, m, rfl, hml, hbr, hv7, hmI, hb3⟩
    clear hbare
    have hbx := Lh (hbw.out.trans (hb3.mono hbw.out.size))
    have hmk2 := make_bk L.length (by omega) w3
    have hB3 := Lh (Qh w3 (.cells ⟨Qu (List.replicate L.length Bk0)⟩ 42))
    have hN4 := Lh (hN3.out.keep hb3)
    have hNl := Lh (fun V (hv : Below w3.heap.size w3 V) => (hN4.out.keep hv).row (by unfold maxLen; omega))
    have hLr3 := Lh (fun V (hv : Below w3.heap.size w3 V) => (hLr2.out.below (Kps.of_below hb3)).below (Kps.of_below hv))
    obtain ⟨a7, c7, rfl, hrow7⟩ : ∃ a c, v7 = .slice a l.length c ∧ RowAt w3 (fun q => w.heap.size ≤ q ∧ q ≠ w3.heap.size) a c m.length (Q8 m) := by
     rcases OwnI.of hv7 with ⟨rfl, rfl⟩ | ⟨g, c, rfl, ho⟩
     · exact ⟨none, 0, by rw [← hml]; rfl, ⟨Nat.le_refl _, by unfold maxLen; omega, fun _ => rfl, fun j u hj => by simp [Q8] at hj⟩⟩
     · refine ⟨_, c, by rw [hml], (row_old ho.row).mono fun b hb => ⟨by have := hbw.out.size; omega, by omega⟩⟩
    have hC0 : Hid (CutI a7 w3.heap.size l m (List.replicate L.length Bk0) 0 (w3.alloc (.cells ⟨Qu (List.replicate L.length Bk0)⟩ 42))) := Lh ⟨by rw [hLd'.out]; simp, OwnB.start w3 _, fun j x hj => by omega, fun i j x y _ hj => by omega⟩
    have hg7 : ∀ q, (Value.slice a7 l.length c7).ownBlock = some q → q < w3.heap.size := fun q hq => (hv7.lt q hq).2
    have hend := Lh (fun bs V (h : CutI a7 w3.heap.size l m bs L.length V) (hv : Below w3.heap.size w3 V) => (⟨_, bs, m, a7, c7, rfl, hml, hbr, ⟨by rw [hml]; exact Xc (Qn (by rw [← hml] at hv7 ⊢; exact hv7) hv) hbw.out.size, by rw [hml]; exact hg7, fun j y hy => ⟨((ins_old (hmI j y hy).1).below (Kps.of_below hv)).mono fun b hb => ⟨Nat.le_trans hbw.out.size hb.1.1, hb.2, by rw [hml]; exact hb.1.2⟩, Xc (Qn (hmI j y hy).2 hv) hbw.out.size, fun q hq => ((hmI j y hy).2.lt q hq).2⟩⟩, h, hbx.out.trans (hv.mono hbx.out.size)⟩ : ∃ g bs m a7 c7, Ending.returned (.slice (some ⟨w3.heap.size, 0, none⟩) L.length L.length) = Ending.returned (.slice (some ⟨g, 0, none⟩) L.length L.length) ∧ m.length = l.length ∧ (∀ (j : Nat) (x y : Ins), l[j]? = some x → m[j]? = some y → bareR x y) ∧ CodeI w.heap.size g a7 c7 m V ∧ CutI a7 g l m bs L.length V ∧ Below w.heap.size w V))
    have hr7 := Lh (fun V (hv : Below w3.heap.size w3 V) => hrow7.below (Kps.of_below hv))
    have hc7 : l.length ≤ c7 ∧ c7 ≤ 9223372036854775807 := ⟨by rw [← hml]; exact hrow7.le, hrow7.lim⟩
    obtain ⟨hc71, hc72⟩ := hc7
    replace hml := Lh hml
    clear hN3 hN4 hLr2 hb3 hv7 hmI hbr hrow7 hN0 hB1 hmk
    go_wp2_with fail
    go_loopw [36] (fun i wr => ∃ (k : Nat), k ≤ L.length ∧ i = .int .i64 k ∧ Hid (∃ bs, CutI a7 w3.heap.size l m bs k wr) ∧ Hid (Below w3.heap.size w3 wr)) (fun i _ => L.length - (intOf i).toNat)
    case atStart => exact ⟨0, Nat.zero_le _, rfl, Lh ⟨_, hC0.out⟩, hB3⟩
    case round =>
     obtain ⟨k, hk, rfl, hC, hb4⟩ := hrel
     by_cases hlt : k < L.length
     · skip
       obtain ⟨x, hx⟩ : ∃ x, L[k]? = some x := ⟨_, List.getElem?_eq_getElem hlt⟩
       obtain ⟨b, off, ha, _, c0⟩ := Xa (hLr3.out _ hb4.out) k x hx
       have hstx := hst0.out k x hx
       obtain ⟨hse1, hse2⟩ := hse.out k hlt
       have henk := congrFun hnb.out k
       generalize hst' : stN l k = st at *
       generalize hen' : enN l k = en at *
       replace hst' := Lh hst'
       replace hen' := Lh hen'
       subst hstx
       have hi0' : (0 : Int) ≤ (k : Int) := by omega
       have hi1 : (k : Int) < (L.length : Int) := by omega
       have hk64 : k + 1 ≤ 65537 := by omega
       have hse3 : en ≤ c7 := by omega
       have hse4 : en ≤ cap := by omega
       obtain ⟨T, hTd⟩ : ∃ T, toL l k = T := ⟨_, rfl⟩
       replace hTd := Lh hTd
       have hlast := Lh (fun W (hC : Below wr.heap.size wr W) => last_c (seg l st en) _ _ W (row_sub (hR.out W (hbx.out.trans ((hb4.out.trans (hC.mono hb4.out.size)).mono hbx.out.size))) hse1 hse2 hse4 (Nat.le_refl _)))
       have hgo : Hid (∀ W, Below wr.heap.size wr W → Calls Tryd.prog 86 #[.agg ⟨(Z9 (seg l st en)).vals⟩, .int .i64 ((k : Int) + 1), .slice (some ⟨w1.heap.size, 0, none⟩) l.length l.length] W fun e w' => ∃ v, e = .returned v ∧ w'.ownsRow W.heap.size 3 1 v T.length (Qc T) ∧ Below W.heap.size W w') := Lh (fun W hC => by
        have hT2 : T = goL (Z9 (seg l st en)) ((k : Int) + 1) (nums l.length (numF 0 L fun _ => 0)) := by
         rw [← hTd.out]; unfold toL blkL; rw [hLd'.out, hst'.out, hen'.out]
        have hC3 : Below w3.heap.size w3 W := hb4.out.trans (hC.mono hb4.out.size)
        have hrn := hNl.out W hC3
        have hln := nums_len l.length (numF 0 L fun _ => 0)
        rw [hT2]
        generalize nums l.length (numF 0 L fun _ => 0) = Z at hrn hln ⊢
        have hu : U8 (Z9 (seg l st en)).op := by
         rcases seg_last (l := l) (lo := st) (hi := en) with h | h
         · exact hI.out _ h
         · rw [h]; show U8 0; unfold U8; omega
        have hgl : (glP (Z9 (seg l st en))).2 = true → 0 ≤ (glP (Z9 (seg l st en))).1 ∧ (glP (Z9 (seg l st en))).1 < (Z.length : Int) := fun h2 => by
         rw [hln]
         rcases seg_last (l := l) (lo := st) (hi := en) with h | h
         · exact hg.out _ h h2
         · rw [h] at h2; cases h2
        have hg3 := goals_c (Z9 (seg l st en)) ((k : Int) + 1) Z (some ⟨w1.heap.size, 0, none⟩) l.length W hu (hT'.out W (hbx.out.trans (hC3.mono hbx.out.size))) (by rw [hln]; exact hrn) hgl
        rw [hln] at hg3
        exact hg3)
       rw [seg_len hse1 hse2] at hlast
       subst ha
       by_cases hk1 : k + 1 < L.length
       · rw [if_pos hk1] at henk
         obtain ⟨y, hy⟩ : ∃ y, L[k + 1]? = some y := ⟨_, List.getElem?_eq_getElem hk1⟩
         have hyr := hL0.out y (List.mem_of_getElem? hy)
         have hye : y = (en : Int) := by rw [henk, List.getD_eq_getElem?_getD, hy]; simp; omega
         subst hye
         obtain ⟨b', off', ha', _, c1⟩ := Xa (hLr3.out _ hb4.out) (k + 1) _ hy
         cases ha'
         have hj1 : (k : Int) + 1 < (L.length : Int) := by omega
         have hj0 : (0 : Int) ≤ (k : Int) + 1 := by omega
         have hj2 : ((k : Int) + 1).toNat = k + 1 := by omega
         clear hx hy henk hyr
         go_upto_region 16 with fail
         refine wp_region_tail (C := fun V => Below wr.heap.size wr V) (E := Ext) (R := fun j => (ra16 wr.heap.size T (.slice (some ⟨w3.heap.size, 0, none⟩) L.length L.length) (.int .i64 (k : Int)) (.slice a7 l.length c7) (.int .i64 (st : Int)) (.int .i64 (en : Int)) (.slice (if en = st then a7 else a7.map (·.add (st * 6))) (en - st) (en - st)) (.slice a l.length cap) (.slice (if cap = st then a else a.map (·.add (st * 6))) (en - st) (cap - st)) (.agg ⟨(Z9 (seg l st en)).vals⟩) (.int .i64 ((k : Int) + 1)) (.slice (some ⟨w1.heap.size, 0, none⟩) l.length l.length) (.pointer (some ⟨w3.heap.size, k * 4, none⟩))).getD j VT) (by kernel_rfl) ((Below.refl _ _).drew) (by kernel_rfl) (fun j v w' w'' _ hE h => Zr _ j ra16_mono v w' w'' hE h) (m := 18) rfl rfl rfl (by kernel_rfl) (steps_front 18 ?hs) ?hend
         case hs =>
          refine Qa (Ql fun a W hC hs => ?_) ?_
          · have h1 := Qo hs 8 (by kernel_rfl) (by rfl)
            exact ⟨Qb rfl, _, Qw (.inl rfl) (ev h1), rfl⟩
          refine Qa (Ql fun a W hC hs => ?_) ?_
          · have h1 := Qo hs 9 (by kernel_rfl) (by rfl)
            exact ⟨Qb rfl, _, Qw (.inl rfl) (ev h1), rfl⟩
          refine Qa (Ql fun a W hC hs => ?_) ?_
          · have h1 := Qo hs 7 (by kernel_rfl) (by rfl)
            exact ⟨Qb rfl, _, Qw (.inl rfl) (ev h1), rfl⟩
          refine Qa (Ql fun a W hC hs => ?_) ?_
          · have h1 := Qo hs 10 (by kernel_rfl) (by rfl)
            exact ⟨Qb rfl, _, Qw (.inl rfl) (ev h1), rfl⟩
          refine Qa (Ql fun a W hC hs => ?_) ?_
          · have h1 := Qo hs 11 (by kernel_rfl) (by rfl)
            exact ⟨Qb rfl, _, Qw (.inl rfl) (ev h1), rfl⟩
          refine Qa (Ql fun a W hC hs => ?_) ?_
          · have h1 := Qo hs 11 (by kernel_rfl) (by rfl)
            exact ⟨Qb rfl, _, Qw (.inl rfl) (ev h1), rfl⟩
          refine Qa (Ql fun a W hC hs => ?_) ?_
          · obtain ⟨vx, hvx, hRx⟩ := Qf hs 2 55 (by kernel_rfl) (by rfl)
            replace hRx : vx = _ := hRx
            subst hRx
            obtain ⟨vy, hvy, hRy⟩ := Qf hs 3 56 (by kernel_rfl) (by rfl)
            replace hRy : vy = _ := hRy
            subst hRy
            obtain ⟨vz, hvz, hRz⟩ := Qf hs 4 57 (by kernel_rfl) (by rfl)
            replace hRz : vz = _ := hRz
            subst hRz
            obtain ⟨vt, hvt, hRt⟩ := Qf hs 5 58 (by kernel_rfl) (by rfl)
            replace hRt : vt = _ := hRt
            subst hRt
            exact ⟨Qb rfl, _, run_sl3 rfl (ev hvx) (ev hvy) (ev hvz) (ev hvt) (sl_ins3 hse1 hse3), rfl⟩
          refine Qa (Ql fun a W hC hs => ?_) ?_
          · have h1 := Qo hs 0 (by kernel_rfl) (by rfl)
            exact ⟨Qb rfl, _, Qw (.inl rfl) (ev h1), rfl⟩
          refine Qa (Ql fun a W hC hs => ?_) ?_
          · have h1 := Qo hs 10 (by kernel_rfl) (by rfl)
            exact ⟨Qb rfl, _, Qw (.inl rfl) (ev h1), rfl⟩
          refine Qa (Ql fun a W hC hs => ?_) ?_
          · have h1 := Qo hs 11 (by kernel_rfl) (by rfl)
            exact ⟨Qb rfl, _, Qw (.inl rfl) (ev h1), rfl⟩
          refine Qa (Ql fun a W hC hs => ?_) ?_
          · obtain ⟨vx, hvx, hRx⟩ := Qf hs 7 60 (by kernel_rfl) (by rfl)
            replace hRx : vx = _ := hRx
            subst hRx
            obtain ⟨vy, hvy, hRy⟩ := Qf hs 8 61 (by kernel_rfl) (by rfl)
            replace hRy : vy = _ := hRy
            subst hRy
            obtain ⟨vz, hvz, hRz⟩ := Qf hs 9 62 (by kernel_rfl) (by rfl)
            replace hRz : vz = _ := hRz
            subst hRz
            exact ⟨Qb rfl, _, run_slB rfl (ev hvx) (ev hvy) (ev hvz) (sl_ins hse1 hse4), rfl⟩
          refine Qa (s_call fun a W hC hs => ?_) ?_
          · obtain ⟨vx, hvx, hRx⟩ := Qf hs 10 63 (by kernel_rfl) (by rfl)
            replace hRx : vx = _ := hRx
            subst hRx
            refine ⟨Qb rfl, 87, _, Z5 rfl (ev hvx) (fun _ _ => rfl), ((hlast.out W hC).mono ?_)⟩
            rintro e w' ⟨rfl, hb'⟩
            exact ⟨_, rfl, hC.trans (hb'.mono hC.size), hb', rfl⟩
          refine Qa (Ql fun a W hC hs => ?_) ?_
          · have h1 := Qo hs 9 (by kernel_rfl) (by rfl)
            exact ⟨Qb rfl, _, Qw (.inl rfl) (ev h1), rfl⟩
          refine Qa (Ql fun a W hC hs => ?_) ?_
          · obtain ⟨vx, hvx, hRx⟩ := Qf hs 12 65 (by kernel_rfl) (by rfl)
            replace hRx : vx = _ := hRx
            subst hRx
            exact ⟨Qb rfl, _, run_addB rfl (ev hvx) (by omega) (by omega), rfl⟩
          refine Qa (Ql fun a W hC hs => ?_) ?_
          · have h1 := Qo hs 4 (by kernel_rfl) (by rfl)
            exact ⟨Qb rfl, _, Qw (.inl rfl) (ev h1), rfl⟩
          refine Qa (s_call fun a W hC hs => ?_) ?_
          · obtain ⟨vx, hvx, hRx⟩ := Qf hs 11 64 (by kernel_rfl) (by rfl)
            replace hRx : vx = _ := hRx
            subst hRx
            obtain ⟨vy, hvy, hRy⟩ := Qf hs 13 66 (by kernel_rfl) (by rfl)
            replace hRy : vy = _ := hRy
            subst hRy
            obtain ⟨vz, hvz, hRz⟩ := Qf hs 14 67 (by kernel_rfl) (by rfl)
            replace hRz : vz = _ := hRz
            subst hRz
            refine ⟨Qb rfl, 86, _, run_call3 rfl (ev hvx) (ev hvy) (ev hvz) (fun _ _ => rfl), ((hgo.out W hC).mono ?_)⟩
            rintro e w' ⟨v, rfl, hv, hb'⟩
            obtain ⟨ta, tcap, rfl, _⟩ := row_own1 hv
            exact ⟨_, rfl, hC.trans (hb'.mono hC.size), hb', ⟨ta, tcap, rfl, Xc hv hC.size⟩⟩
          refine Qa (Ql fun a W hC hs => ?_) ?_
          · obtain ⟨vx, hvx, hRx⟩ := Qf hs 6 59 (by kernel_rfl) (by rfl)
            replace hRx : vx = _ := hRx
            subst hRx
            obtain ⟨vy, hvy, hRy⟩ := Qf hs 15 68 (by kernel_rfl) (by rfl)
            obtain ⟨ta, tcap, rfl, hto⟩ := hRy
            exact ⟨Qb rfl, _, run_b (qs := #[(1, .slice (if en = st then a7 else a7.map (·.add (st * 6))) (en - st) (en - st)), (3, .slice ta T.length tcap)]) rfl (by simp [ev hvx, ev hvy]) (b_bk _ _ _ _ _ _), ⟨_, rfl, ta, tcap, rfl, hto⟩⟩
          refine Qa (Ql fun a W hC hs => ?_) ?_
          · obtain ⟨vx, hvx, hRx⟩ := Qf hs 0 53 (by kernel_rfl) (by rfl)
            replace hRx : vx = _ := hRx
            subst hRx
            obtain ⟨vy, hvy, hRy⟩ := Qf hs 1 54 (by kernel_rfl) (by rfl)
            replace hRy : vy = _ := hRy
            subst hRy
            exact ⟨Qb rfl, _, run_ixB rfl (ev hvx) (ev hvy) (ix_bk hi1), rfl⟩
          exact Qx
         case hend =>
          intro σ V hCV hRV
          generalize hF : Q6 _ _ _ _ _ = F
          simp [Q6, dstOf, List.range, List.range.loop, Act.put] at hF
          subst hF
          obtain ⟨u, h16, ta, tcap, rfl, hto⟩ : VB69 wr.heap.size T (.slice (if en = st then a7 else a7.map (·.add (st * 6))) (en - st) (en - st)) (σ 16) V := hRV 16 (by simp)
          have h17 : σ 17 = .pointer (some ⟨w3.heap.size, k * 4, none⟩) := hRV 17 (by simp)
          rw [h16, h17]
          obtain ⟨bs, hbs⟩ := hC.out
          have hbsl := hbs.len
          rw [hLd'.out] at hbsl
          have hown := hbs.own.keep hCV
          obtain ⟨x0, hx0⟩ : ∃ x0, bs[k]? = some x0 := ⟨_, List.getElem?_eq_getElem (by omega)⟩
          obtain ⟨e0, e1, e2, e3⟩ := hown.get (by unfold maxLen; omega) hx0
          have f0 := hown.free (k * 4)
          have f1 := hown.free (k * 4 + 1)
          have f2 := hown.free (k * 4 + 2)
          have f3 := hown.free (k * 4 + 3)
          have hkL : Hid (k < (begL l).length) := Lh (by rw [hLd'.out]; exact hlt)
          have hlm : Hid (en ≤ m.length) := Lh (by rw [hml.out]; exact hse2)
          have hnew := Lh (hbs.step (y := ⟨none, 0, [], (if en = st then a7 else a7.map (·.add (st * 6))), en - st, seg m st en, none, 0, [], ta, tcap, T⟩) hkL.out hCV
           ⟨by rw [hst'.out, hen'.out], by rw [hst'.out, hen'.out], by rw [hst'.out, hen'.out], ⟨rfl, rfl, rfl⟩, ⟨rfl, rfl, rfl⟩, hTd.out.symm, Xc hto hbs.own.lt⟩ hto)
          have hbz := Lh ((((((hb4.out.trans (hCV.mono hb4.out.size)).setCell (p := ⟨w3.heap.size, k * 4, none⟩) (Nat.le_refl _) (.slice none 0 0)).setCell (p := ⟨w3.heap.size, k * 4 + 1, none⟩) (Nat.le_refl _) (.slice (if en = st then a7 else a7.map (·.add (st * 6))) (en - st) (en - st))).setCell (p := ⟨w3.heap.size, k * 4 + 2, none⟩) (Nat.le_refl _) (.slice none 0 0)).setCell (p := ⟨w3.heap.size, k * 4 + 3, none⟩) (Nat.le_refl _) (.slice ta T.length tcap)))
          unfold put4 at hnew
          simp only [List.length_nil, seg_len hse1 hlm.out] at hnew
          clear hRV hto hbs hx0 hCV h16 h17 hlast hgo
          unfold Oper.wp
          unfold execOp
          simp [go_sem, e0, e1, e2, e3, f0, f1, f2, f3]
          clear e0 e1 e2 e3 f0 f1 f2 f3 hkL hlm hown hC hend hst' hen' hTd hbsl hr7 hLr3 hNl hmk2
          generalize (((V.setCell ⟨w3.heap.size, k * 4, none⟩ (.slice none 0 0)).setCell ⟨w3.heap.size, k * 4 + 1, none⟩ (.slice (if en = st then a7 else a7.map (·.add (st * 6))) (en - st) (en - st))).setCell ⟨w3.heap.size, k * 4 + 2, none⟩ (.slice none 0 0)).setCell ⟨w3.heap.size, k * 4 + 3, none⟩ (.slice ta T.length tcap) = W9 at *
          have hn : Hid (∃ bs, CutI a7 w3.heap.size l m bs (k + 1) W9) := Lh ⟨_, hnew.out⟩
          clear hnew
          generalize σ 0 = z0
          generalize σ 1 = z1
          generalize σ 2 = z2
          generalize σ 3 = z3
          generalize σ 4 = z4
          generalize σ 5 = z5
          generalize σ 6 = z6
          generalize σ 7 = z7
          generalize σ 8 = z8
          generalize σ 9 = z9
          generalize σ 10 = z10
          generalize σ 11 = z11
          generalize σ 12 = z12
          generalize σ 13 = z13
          generalize σ 14 = z14
          generalize σ 15 = z15
          generalize σ 16 = z16
          generalize σ 17 = z17
          go_wp2_with fail
          go_roundw
          case rel => exact ⟨k + 1, by omega, by go_num, hn, hbz⟩
          case measure => simp [intOf]; omega
       · rw [if_neg hk1] at henk
         have hj1 : ¬ (k : Int) + 1 < (L.length : Int) := by omega
         clear hx
         subst henk
         go_upto_region 16 with fail
         refine wp_region_tail (C := fun V => Below wr.heap.size wr V) (E := Ext) (R := fun j => (ra16 wr.heap.size T (.slice (some ⟨w3.heap.size, 0, none⟩) L.length L.length) (.int .i64 (k : Int)) (.slice a7 l.length c7) (.int .i64 (st : Int)) (.int .i64 (l.length : Int)) (.slice (if l.length = st then a7 else a7.map (·.add (st * 6))) (l.length - st) (l.length - st)) (.slice a l.length cap) (.slice (if cap = st then a else a.map (·.add (st * 6))) (l.length - st) (cap - st)) (.agg ⟨(Z9 (seg l st l.length)).vals⟩) (.int .i64 ((k : Int) + 1)) (.slice (some ⟨w1.heap.size, 0, none⟩) l.length l.length) (.pointer (some ⟨w3.heap.size, k * 4, none⟩))).getD j VT) (by kernel_rfl) ((Below.refl _ _).drew) (by kernel_rfl) (fun j v w' w'' _ hE h => Zr _ j ra16_mono v w' w'' hE h) (m := 18) rfl rfl rfl (by kernel_rfl) (steps_front 18 ?hs) ?hend
         case hs =>
          refine Qa (Ql fun a W hC hs => ?_) ?_
          · have h1 := Qo hs 8 (by kernel_rfl) (by rfl)
            exact ⟨Qb rfl, _, Qw (.inl rfl) (ev h1), rfl⟩
          refine Qa (Ql fun a W hC hs => ?_) ?_
          · have h1 := Qo hs 9 (by kernel_rfl) (by rfl)
            exact ⟨Qb rfl, _, Qw (.inl rfl) (ev h1), rfl⟩
          refine Qa (Ql fun a W hC hs => ?_) ?_
          · have h1 := Qo hs 7 (by kernel_rfl) (by rfl)
            exact ⟨Qb rfl, _, Qw (.inl rfl) (ev h1), rfl⟩
          refine Qa (Ql fun a W hC hs => ?_) ?_
          · have h1 := Qo hs 10 (by kernel_rfl) (by rfl)
            exact ⟨Qb rfl, _, Qw (.inl rfl) (ev h1), rfl⟩
          refine Qa (Ql fun a W hC hs => ?_) ?_
          · have h1 := Qo hs 11 (by kernel_rfl) (by rfl)
            exact ⟨Qb rfl, _, Qw (.inl rfl) (ev h1), rfl⟩
          refine Qa (Ql fun a W hC hs => ?_) ?_
          · have h1 := Qo hs 11 (by kernel_rfl) (by rfl)
            exact ⟨Qb rfl, _, Qw (.inl rfl) (ev h1), rfl⟩
          refine Qa (Ql fun a W hC hs => ?_) ?_
          · obtain ⟨vx, hvx, hRx⟩ := Qf hs 2 55 (by kernel_rfl) (by rfl)
            replace hRx : vx = _ := hRx
            subst hRx
            obtain ⟨vy, hvy, hRy⟩ := Qf hs 3 56 (by kernel_rfl) (by rfl)
            replace hRy : vy = _ := hRy
            subst hRy
            obtain ⟨vz, hvz, hRz⟩ := Qf hs 4 57 (by kernel_rfl) (by rfl)
            replace hRz : vz = _ := hRz
            subst hRz
            obtain ⟨vt, hvt, hRt⟩ := Qf hs 5 58 (by kernel_rfl) (by rfl)
            replace hRt : vt = _ := hRt
            subst hRt
            exact ⟨Qb rfl, _, run_sl3 rfl (ev hvx) (ev hvy) (ev hvz) (ev hvt) (sl_ins3 hse1 hse3), rfl⟩
          refine Qa (Ql fun a W hC hs => ?_) ?_
          · have h1 := Qo hs 0 (by kernel_rfl) (by rfl)
            exact ⟨Qb rfl, _, Qw (.inl rfl) (ev h1), rfl⟩
          refine Qa (Ql fun a W hC hs => ?_) ?_
          · have h1 := Qo hs 10 (by kernel_rfl) (by rfl)
            exact ⟨Qb rfl, _, Qw (.inl rfl) (ev h1), rfl⟩
          refine Qa (Ql fun a W hC hs => ?_) ?_
          · have h1 := Qo hs 11 (by kernel_rfl) (by rfl)
            exact ⟨Qb rfl, _, Qw (.inl rfl) (ev h1), rfl⟩
          refine Qa (Ql fun a W hC hs => ?_) ?_
          · obtain ⟨vx, hvx, hRx⟩ := Qf hs 7 60 (by kernel_rfl) (by rfl)
            replace hRx : vx = _ := hRx
            subst hRx
            obtain ⟨vy, hvy, hRy⟩ := Qf hs 8 61 (by kernel_rfl) (by rfl)
            replace hRy : vy = _ := hRy
            subst hRy
            obtain ⟨vz, hvz, hRz⟩ := Qf hs 9 62 (by kernel_rfl) (by rfl)
            replace hRz : vz = _ := hRz
            subst hRz
            exact ⟨Qb rfl, _, run_slB rfl (ev hvx) (ev hvy) (ev hvz) (sl_ins hse1 hse4), rfl⟩
          refine Qa (s_call fun a W hC hs => ?_) ?_
          · obtain ⟨vx, hvx, hRx⟩ := Qf hs 10 63 (by kernel_rfl) (by rfl)
            replace hRx : vx = _ := hRx
            subst hRx
            refine ⟨Qb rfl, 87, _, Z5 rfl (ev hvx) (fun _ _ => rfl), ((hlast.out W hC).mono ?_)⟩
            rintro e w' ⟨rfl, hb'⟩
            exact ⟨_, rfl, hC.trans (hb'.mono hC.size), hb', rfl⟩
          refine Qa (Ql fun a W hC hs => ?_) ?_
          · have h1 := Qo hs 9 (by kernel_rfl) (by rfl)
            exact ⟨Qb rfl, _, Qw (.inl rfl) (ev h1), rfl⟩
          refine Qa (Ql fun a W hC hs => ?_) ?_
          · obtain ⟨vx, hvx, hRx⟩ := Qf hs 12 65 (by kernel_rfl) (by rfl)
            replace hRx : vx = _ := hRx
            subst hRx
            exact ⟨Qb rfl, _, run_addB rfl (ev hvx) (by omega) (by omega), rfl⟩
          refine Qa (Ql fun a W hC hs => ?_) ?_
          · have h1 := Qo hs 4 (by kernel_rfl) (by rfl)
            exact ⟨Qb rfl, _, Qw (.inl rfl) (ev h1), rfl⟩
          refine Qa (s_call fun a W hC hs => ?_) ?_
          · obtain ⟨vx, hvx, hRx⟩ := Qf hs 11 64 (by kernel_rfl) (by rfl)
            replace hRx : vx = _ := hRx
            subst hRx
            obtain ⟨vy, hvy, hRy⟩ := Qf hs 13 66 (by kernel_rfl) (by rfl)
            replace hRy : vy = _ := hRy
            subst hRy
            obtain ⟨vz, hvz, hRz⟩ := Qf hs 14 67 (by kernel_rfl) (by rfl)
            replace hRz : vz = _ := hRz
            subst hRz
            refine ⟨Qb rfl, 86, _, run_call3 rfl (ev hvx) (ev hvy) (ev hvz) (fun _ _ => rfl), ((hgo.out W hC).mono ?_)⟩
            rintro e w' ⟨v, rfl, hv, hb'⟩
            obtain ⟨ta, tcap, rfl, _⟩ := row_own1 hv
            exact ⟨_, rfl, hC.trans (hb'.mono hC.size), hb', ⟨ta, tcap, rfl, Xc hv hC.size⟩⟩
          refine Qa (Ql fun a W hC hs => ?_) ?_
          · obtain ⟨vx, hvx, hRx⟩ := Qf hs 6 59 (by kernel_rfl) (by rfl)
            replace hRx : vx = _ := hRx
            subst hRx
            obtain ⟨vy, hvy, hRy⟩ := Qf hs 15 68 (by kernel_rfl) (by rfl)
            obtain ⟨ta, tcap, rfl, hto⟩ := hRy
            exact ⟨Qb rfl, _, run_b (qs := #[(1, .slice (if l.length = st then a7 else a7.map (·.add (st * 6))) (l.length - st) (l.length - st)), (3, .slice ta T.length tcap)]) rfl (by simp [ev hvx, ev hvy]) (b_bk _ _ _ _ _ _), ⟨_, rfl, ta, tcap, rfl, hto⟩⟩
          refine Qa (Ql fun a W hC hs => ?_) ?_
          · obtain ⟨vx, hvx, hRx⟩ := Qf hs 0 53 (by kernel_rfl) (by rfl)
            replace hRx : vx = _ := hRx
            subst hRx
            obtain ⟨vy, hvy, hRy⟩ := Qf hs 1 54 (by kernel_rfl) (by rfl)
            replace hRy : vy = _ := hRy
            subst hRy
            exact ⟨Qb rfl, _, run_ixB rfl (ev hvx) (ev hvy) (ix_bk hi1), rfl⟩
          exact Qx
         case hend =>
          intro σ V hCV hRV
          generalize hF : Q6 _ _ _ _ _ = F
          simp [Q6, dstOf, List.range, List.range.loop, Act.put] at hF
          subst hF
          obtain ⟨u, h16, ta, tcap, rfl, hto⟩ : VB69 wr.heap.size T (.slice (if l.length = st then a7 else a7.map (·.add (st * 6))) (l.length - st) (l.length - st)) (σ 16) V := hRV 16 (by simp)
          have h17 : σ 17 = .pointer (some ⟨w3.heap.size, k * 4, none⟩) := hRV 17 (by simp)
          rw [h16, h17]
          obtain ⟨bs, hbs⟩ := hC.out
          have hbsl := hbs.len
          rw [hLd'.out] at hbsl
          have hown := hbs.own.keep hCV
          obtain ⟨x0, hx0⟩ : ∃ x0, bs[k]? = some x0 := ⟨_, List.getElem?_eq_getElem (by omega)⟩
          obtain ⟨e0, e1, e2, e3⟩ := hown.get (by unfold maxLen; omega) hx0
          have f0 := hown.free (k * 4)
          have f1 := hown.free (k * 4 + 1)
          have f2 := hown.free (k * 4 + 2)
          have f3 := hown.free (k * 4 + 3)
          have hkL : Hid (k < (begL l).length) := Lh (by rw [hLd'.out]; exact hlt)
          have hlm : Hid (l.length ≤ m.length) := Lh (by rw [hml.out]; exact hse2)
          have hnew := Lh (hbs.step (y := ⟨none, 0, [], (if l.length = st then a7 else a7.map (·.add (st * 6))), l.length - st, seg m st l.length, none, 0, [], ta, tcap, T⟩) hkL.out hCV
           ⟨by rw [hst'.out, hen'.out], by rw [hst'.out, hen'.out], by rw [hst'.out, hen'.out], ⟨rfl, rfl, rfl⟩, ⟨rfl, rfl, rfl⟩, hTd.out.symm, Xc hto hbs.own.lt⟩ hto)
          have hbz := Lh ((((((hb4.out.trans (hCV.mono hb4.out.size)).setCell (p := ⟨w3.heap.size, k * 4, none⟩) (Nat.le_refl _) (.slice none 0 0)).setCell (p := ⟨w3.heap.size, k * 4 + 1, none⟩) (Nat.le_refl _) (.slice (if l.length = st then a7 else a7.map (·.add (st * 6))) (l.length - st) (l.length - st))).setCell (p := ⟨w3.heap.size, k * 4 + 2, none⟩) (Nat.le_refl _) (.slice none 0 0)).setCell (p := ⟨w3.heap.size, k * 4 + 3, none⟩) (Nat.le_refl _) (.slice ta T.length tcap)))
          unfold put4 at hnew
          simp only [List.length_nil, seg_len hse1 hlm.out] at hnew
          clear hRV hto hbs hx0 hCV h16 h17 hlast hgo
          unfold Oper.wp
          unfold execOp
          simp [go_sem, e0, e1, e2, e3, f0, f1, f2, f3]
          clear e0 e1 e2 e3 f0 f1 f2 f3 hkL hlm hown hC hend hst' hen' hTd hbsl hr7 hLr3 hNl hmk2
          generalize (((V.setCell ⟨w3.heap.size, k * 4, none⟩ (.slice none 0 0)).setCell ⟨w3.heap.size, k * 4 + 1, none⟩ (.slice (if l.length = st then a7 else a7.map (·.add (st * 6))) (l.length - st) (l.length - st))).setCell ⟨w3.heap.size, k * 4 + 2, none⟩ (.slice none 0 0)).setCell ⟨w3.heap.size, k * 4 + 3, none⟩ (.slice ta T.length tcap) = W9 at *
          have hn : Hid (∃ bs, CutI a7 w3.heap.size l m bs (k + 1) W9) := Lh ⟨_, hnew.out⟩
          clear hnew
          generalize σ 0 = z0
          generalize σ 1 = z1
          generalize σ 2 = z2
          generalize σ 3 = z3
          generalize σ 4 = z4
          generalize σ 5 = z5
          generalize σ 6 = z6
          generalize σ 7 = z7
          generalize σ 8 = z8
          generalize σ 9 = z9
          generalize σ 10 = z10
          generalize σ 11 = z11
          generalize σ 12 = z12
          generalize σ 13 = z13
          generalize σ 14 = z14
          generalize σ 15 = z15
          generalize σ 16 = z16
          generalize σ 17 = z17
          go_wp2_with fail
          go_roundw
          case rel => exact ⟨k + 1, by omega, by go_num, hn, hbz⟩
          case measure => simp [intOf]; omega
     · have hk2 : k = L.length := by omega
       subst hk2
       go_wp2_with fail
       go_ret
       obtain ⟨bs, hbs⟩ := hC.out
       rw [hLd'.out]
       exact hend.out bs _ hbs hb4.out
end Go.Proofs.YthiiahlgncngoaaDoorRR.Fw
