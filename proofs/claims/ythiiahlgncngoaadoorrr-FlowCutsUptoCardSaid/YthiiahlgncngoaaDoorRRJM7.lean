/- Walk of begins. Conditions: the instructions lie in memory, and lead to instructions. -/
import Derived.Test.YthiiahlgncngoaaDoorRRJM6
set_option maxHeartbeats 16000000
set_option maxRecDepth 100000
namespace Go.Proofs.YthiiahlgncngoaaDoorRR.Fw
open Go Go.RowKit
open Go.Proofs.YthiiahlgncngoaaDoorRR.Lx Go.Proofs.YthiiahlgncngoaaDoorRR.Tr Go.Proofs.YthiiahlgncngoaaDoorRR.Cd
theorem mk_next {l : List Ins} {k : Nat} {x : Ins} (h : l[k]? = some x) (a b : Bool) (m : Nat) (ha : (glP x).2 = a) (hb : Xr x.op = b) (hm : a = true → (glP x).1 = (m : Int)) (n : Nat) :
 mkF 0 (l.take (k + 1)) n = if b = true ∧ n = k + 1 then true else if a = true ∧ n = m then true else mkF 0 (l.take k) n := by
 rw [mkF_take h, ha, hb]
 cases a <;> cases b <;> simp
 · by_cases e : n = k + 1 <;> simp [e]
 · rw [hm rfl]
   by_cases e : n = m
   · subst e; simp
   · rw [decide_eq_false (by omega : ¬ (m : Int) = (n : Int))]; simp [e]
 · rw [hm rfl]
   by_cases e : n = k + 1
   · simp [e]
   · by_cases e' : n = m
     · subst e'; simp
     · rw [decide_eq_false (by omega : ¬ (m : Int) = (n : Int))]; simp [e, e']
theorem Xc {W : World} {B B' : Nat} {e : TypeId} {c : Nat} {v : Value} {n : Nat} {xs : List Value} (h : W.ownsRow B e c v n xs) (hB : B' ≤ B) : W.ownsRow B' e c v n xs :=
 ⟨h.1, h.2.imp id fun ⟨g, cap, cur, hv, hb, hr⟩ => ⟨g, cap, cur, hv, Nat.le_trans hB hb, hr⟩⟩
theorem MkB.grown {g n : Nat} {f : Nat → Bool} {W W' : World} {row : Option Nat} (h : MkB g n f W) (hg : W.grownBy W' row) (hr : row ≠ some g) : MkB g n f W' :=
 ⟨(hg.block g h.lt (fun e => hr e.symm)).trans h.ex⟩
theorem Yb {W : World} {B g : Nat} {e : TypeId} {c : Nat} {v : Value} {n : Nat} {xs : List Value} (h : W.ownsRow B e c v n xs) (hg : g < B) : v.ownBlock ≠ some g := fun e' => by
 have := (h.lt _ e').1
 omega
theorem mk_zero (f : Nat → Bool) (n : Nat) : (n == 0 || f n) = if n = 0 then true else f n := by
 by_cases h : n = 0 <;> simp [h]
theorem begins_c (a : Option Addr) (cap : Nat) (l : List Ins) (w : World) (hrow : RowAt w Tt a cap l.length (Q8 l)) (hin : ∀ y ∈ l, Ins.In w Tt y) (hT : OpTab w) (hl : l.length ≤ 1048576) (hg : ∀ y ∈ l, (glP y).2 = true → 0 ≤ (glP y).1 ∧ (glP y).1 < (l.length : Int)) :
 Calls Tryd.prog 84 #[.slice a l.length cap] w fun e w' => ∃ v, e = .returned v ∧ w'.ownsRow w.heap.size 3 1 v (begL l).length (Qc (begL l)) ∧ Below w.heap.size w w' := by
 obtain ⟨hc1, hc2⟩ := Q2 hrow
 obtain ⟨i0, z0, hi0, hz0, hz1, hz2, hz3⟩ := info_int1
 have hR := Lh (fun V (hv : Below w.heap.size w V) => hrow.below (Kps.of_below hv))
 have hI := Lh (fun (x : Ins) V (hx : x ∈ l) (hv : Below w.heap.size w V) => (hin x hx).below (Kps.of_below hv))
 have hT' := Lh (fun V (hv : Below w.heap.size w V) => hT.keep hv)
 have hmk : (Instr.makeSlice 72 (.int .i64 ((l.length : Int) + 1)) (.int .i64 ((l.length : Int) + 1))).run Tryd.prog w = .ok (.slice (some ⟨w.heap.size, 0, none⟩) (l.length + 1) (l.length + 1)) (w.alloc (.cells (Array.replicate (l.length + 1) (Value.bool false)) 4)) := make_bb (l.length + 1) (by omega) w
 have hB0 := Lh (Qh w (.cells (Array.replicate (l.length + 1) (.bool false)) 4))
 have hM0 := Lh (MkB.start w (l.length + 1))
 replace hg := Lh hg
 have hl0 : l.length + 1 ≤ 9223372036854775807 := by omega
 clear hrow hin hT
 go_enter Tryd.func84, Tryd.ntmps84
 go_wp2_with fail
 go_loopw [18] (fun i wr => ∃ k : Nat, k ≤ l.length ∧ i = .int .i64 k ∧ Hid (MkB w.heap.size (l.length + 1) (fun n => mkF 0 (l.take k) n) wr) ∧ Hid (Below w.heap.size w wr)) (fun i _ => l.length - (intOf i).toNat)
 case atStart => exact ⟨0, Nat.zero_le _, rfl, Lh (hM0.out.cong fun n _ => by simp [mkF]), hB0⟩
 case round =>
  obtain ⟨k, hk, rfl, hM, hb⟩ := hrel
  by_cases hlt : k < l.length
  · obtain ⟨x, hx⟩ : ∃ x, l[k]? = some x := ⟨_, List.getElem?_eq_getElem hlt⟩
    have hxm := List.mem_of_getElem? hx
    obtain ⟨b, off, ha, _, c0, c1, c2, c3, c4, c5⟩ := X1 (hR.out _ hb.out) k x hx
    have hbl : b < wr.heap.size := World.block_lt_of_cell? _ _ c0
    have hi0' : (0 : Int) ≤ (k : Int) := by omega
    have hi1 : (k : Int) < (l.length : Int) := by omega
    have hbe := Lh (Qh wr (.cells #[.int .u8 x.op, .int .i64 x.r, .int .i64 x.a, .int .i64 x.b, .int .i64 x.n, .slice x.aa x.args.length x.acap] 44))
    have hq := Lh (box6 wr x)
    have hbx := Lh (hb.out.trans (hbe.out.mono hb.out.size))
    have hM1 := Lh (hM.out.keep hbe.out)
    have hG := Lh (fun V (hv : Below w.heap.size w V) => goal_any x V (hI.out x wr hxm hb.out).op (hT'.out V hv))
    have hE := Lh (fun V => exits_c x.op V)
    have hgx := Lh (hg.out x hxm)
    have hnx := Lh (fun a b m => mk_next hx a b m)
    have hlw : w.heap.size < wr.heap.size := hM.out.lt
    subst ha
    clear hx hxm hM hI hT' hg hR hbe hmk
    generalize glP x = gp at *
    obtain ⟨g1, g2⟩ := gp
    generalize Xr x.op = ge at *
    simp only at *
    go_upto_region 5 with fail
    generalize hW1 : wr.alloc (.cells #[.int .u8 x.op, .int .i64 x.r, .int .i64 x.a, .int .i64 x.b, .int .i64 x.n, .slice x.aa x.args.length x.acap] 44) = W1 at hbx hM1 hq ⊢
    obtain ⟨q0, q1, q2, q3, q4, q5⟩ := hq.out
    have hlx : wr.heap.size < W1.heap.size := World.block_lt_of_cell? _ _ q0
    clear hW1 hq c0 c1 c2 c3 c4 c5
    cases g2
    · cases ge
      · clear hgx
        go_wp2_with fail
        refine (hG.out _ hbx.out).mono ?_
        rintro e w2 ⟨rfl, hb2⟩
        have hM2 := Lh (hM1.out.keep hb2)
        have hbw := Lh (hbx.out.trans (hb2.mono hbx.out.size))
        have p0 : w2.cell? ⟨wr.heap.size, 0, none⟩ = some (.int .u8 x.op) := ((Q1 hb2).1 _ 0 hlx).trans q0
        have hl2 : wr.heap.size < w2.heap.size := Nat.lt_of_lt_of_le hlx hb2.size
        clear hM1 hb2 hG hbx q0 q1 q2 q3 q4 q5
        go_wp2_with fail
        refine (hE.out w2).mono ?_
        rintro e w5 ⟨rfl, hb5⟩
        have hM5 := Lh (hM2.out.keep hb5)
        have hb6 := Lh (hbw.out.trans (hb5.mono hbw.out.size))
        have hM7 : Hid (MkB w.heap.size (l.length + 1) (fun n => mkF 0 (l.take (k + 1)) n) w5) := Lh (hM5.out.cong fun n _ => (by have := hnx.out false false 0 rfl rfl (fun h => by cases h) n; simpa using this.symm))
        clear hM5 hb5
        go_wp2_with fail
        go_roundw
        case rel => exact ⟨k + 1, by omega, by go_num, hM7, hb6⟩
        case measure => simp [intOf]; omega
      · clear hgx
        go_wp2_with fail
        refine (hG.out _ hbx.out).mono ?_
        rintro e w2 ⟨rfl, hb2⟩
        have hM2 := Lh (hM1.out.keep hb2)
        have hbw := Lh (hbx.out.trans (hb2.mono hbx.out.size))
        have p0 : w2.cell? ⟨wr.heap.size, 0, none⟩ = some (.int .u8 x.op) := ((Q1 hb2).1 _ 0 hlx).trans q0
        have hl2 : wr.heap.size < w2.heap.size := Nat.lt_of_lt_of_le hlx hb2.size
        clear hM1 hb2 hG hbx q0 q1 q2 q3 q4 q5
        go_wp2_with fail
        refine (hE.out w2).mono ?_
        rintro e w5 ⟨rfl, hb5⟩
        have hM5 := Lh (hM2.out.keep hb5)
        have hb6 := Lh (hbw.out.trans (hb5.mono hbw.out.size))
        obtain ⟨t1, t2⟩ := hM5.out.get (show k + 1 < l.length + 1 by omega)
        have hgl5 := hM5.out.lt
        have hM7 := Lh (hM5.out.set (show k + 1 < l.length + 1 by omega) (fun n => mkF 0 (l.take (k + 1)) n) (fun n _ => (by have := hnx.out false true 0 rfl rfl (fun h => by cases h) n; simpa using this)))
        have hb7 := Lh (hb6.out.setCell (p := ⟨w.heap.size, k + 1, none⟩) (Nat.le_refl _) (.bool true))
        have hk2 : (k : Int) + 1 < (l.length : Int) + 1 := by omega
        have hk3 : ((k : Int) + 1).toNat = k + 1 := by omega
        have hk4 : (0 : Int) ≤ (k : Int) + 1 := by omega
        clear hM5 hb6 hb5
        go_wp2_with fail
        go_roundw
        case rel => exact ⟨k + 1, by omega, by go_num, hM7, hb7⟩
        case measure => simp [intOf]; omega
    · obtain ⟨r1, r2⟩ := hgx.out rfl
      obtain ⟨m, rfl⟩ : ∃ m : Nat, g1 = m := ⟨g1.toNat, by omega⟩
      have hm : m < l.length + 1 := by omega
      have hm2 : (m : Int) < (l.length : Int) + 1 := by omega
      have hm3 : (0 : Int) ≤ (m : Int) := by omega
      have hmg : (m : Int) = (m : Int) := rfl
      cases ge
      · clear hgx
        go_wp2_with fail
        refine (hG.out _ hbx.out).mono ?_
        rintro e w2 ⟨rfl, hb2⟩
        have hM2 := Lh (hM1.out.keep hb2)
        have hbw := Lh (hbx.out.trans (hb2.mono hbx.out.size))
        have p0 : w2.cell? ⟨wr.heap.size, 0, none⟩ = some (.int .u8 x.op) := ((Q1 hb2).1 _ 0 hlx).trans q0
        have hl2 : wr.heap.size < w2.heap.size := Nat.lt_of_lt_of_le hlx hb2.size
        obtain ⟨t1, t2⟩ := hM2.out.get hm
        have hgl2 := hM2.out.lt
        have hM3 := Lh (hM2.out.set hm (fun n => if n = m then true else mkF 0 (l.take k) n) (fun n _ => rfl))
        have hb3 := Lh (hbw.out.setCell (p := ⟨w.heap.size, m, none⟩) (Nat.le_refl _) (.bool true))
        have p3 : (w2.setCell ⟨w.heap.size, m, none⟩ (.bool true)).cell? ⟨wr.heap.size, 0, none⟩ = some (.int .u8 x.op) := by
         rw [World.cell?_setCell_other _ _ _ _ (by intro e; simp only [Addr.mk.injEq] at e; omega)]
         exact p0
        clear hM1 hM2 hbw hb2 hG hbx
        go_upto_region 8 with fail
        generalize hW3 : w2.setCell ⟨w.heap.size, m, none⟩ (.bool true) = W3 at *
        clear hW3 p0 t1 t2 q0 q1 q2 q3 q4 q5 hl2
        have hl3 : wr.heap.size < W3.heap.size := World.block_lt_of_cell? _ _ p3
        go_wp2_with fail
        refine (hE.out W3).mono ?_
        rintro e w5 ⟨rfl, hb5⟩
        have hM5 := Lh (hM3.out.keep hb5)
        have hb6 := Lh (hb3.out.trans (hb5.mono hb3.out.size))
        have hM7 : Hid (MkB w.heap.size (l.length + 1) (fun n => mkF 0 (l.take (k + 1)) n) w5) := Lh (hM5.out.cong fun n _ => (by have := hnx.out true false m rfl rfl (fun _ => rfl) n; simpa using this.symm))
        clear hM5 hb5
        go_wp2_with fail
        go_roundw
        case rel => exact ⟨k + 1, by omega, by go_num, hM7, hb6⟩
        case measure => simp [intOf]; omega
      · clear hgx
        go_wp2_with fail
        refine (hG.out _ hbx.out).mono ?_
        rintro e w2 ⟨rfl, hb2⟩
        have hM2 := Lh (hM1.out.keep hb2)
        have hbw := Lh (hbx.out.trans (hb2.mono hbx.out.size))
        have p0 : w2.cell? ⟨wr.heap.size, 0, none⟩ = some (.int .u8 x.op) := ((Q1 hb2).1 _ 0 hlx).trans q0
        have hl2 : wr.heap.size < w2.heap.size := Nat.lt_of_lt_of_le hlx hb2.size
        obtain ⟨t1, t2⟩ := hM2.out.get hm
        have hgl2 := hM2.out.lt
        have hM3 := Lh (hM2.out.set hm (fun n => if n = m then true else mkF 0 (l.take k) n) (fun n _ => rfl))
        have hb3 := Lh (hbw.out.setCell (p := ⟨w.heap.size, m, none⟩) (Nat.le_refl _) (.bool true))
        have p3 : (w2.setCell ⟨w.heap.size, m, none⟩ (.bool true)).cell? ⟨wr.heap.size, 0, none⟩ = some (.int .u8 x.op) := by
         rw [World.cell?_setCell_other _ _ _ _ (by intro e; simp only [Addr.mk.injEq] at e; omega)]
         exact p0
        clear hM1 hM2 hbw hb2 hG hbx
        go_upto_region 8 with fail
        generalize hW3 : w2.setCell ⟨w.heap.size, m, none⟩ (.bool true) = W3 at *
        clear hW3 p0 t1 t2 q0 q1 q2 q3 q4 q5 hl2
        have hl3 : wr.heap.size < W3.heap.size := World.block_lt_of_cell? _ _ p3
        go_wp2_with fail
        refine (hE.out W3).mono ?_
        rintro e w5 ⟨rfl, hb5⟩
        have hM5 := Lh (hM3.out.keep hb5)
        have hb6 := Lh (hb3.out.trans (hb5.mono hb3.out.size))
        obtain ⟨t1, t2⟩ := hM5.out.get (show k + 1 < l.length + 1 by omega)
        have hgl5 := hM5.out.lt
        have hM7 := Lh (hM5.out.set (show k + 1 < l.length + 1 by omega) (fun n => mkF 0 (l.take (k + 1)) n) (fun n _ => (by have := hnx.out true true m rfl rfl (fun _ => rfl) n; simpa using this)))
        have hb7 := Lh (hb6.out.setCell (p := ⟨w.heap.size, k + 1, none⟩) (Nat.le_refl _) (.bool true))
        have hk2 : (k : Int) + 1 < (l.length : Int) + 1 := by omega
        have hk3 : ((k : Int) + 1).toNat = k + 1 := by omega
        have hk4 : (0 : Int) ≤ (k : Int) + 1 := by omega
        clear hM5 hb6 hb5
        go_wp2_with fail
        go_roundw
        case rel => exact ⟨k + 1, by omega, by go_num, hM7, hb7⟩
        case measure => simp [intOf]; omega
  · have hk2 : k = l.length := by omega
    subst hk2
    have hM2 : Hid (MkB w.heap.size (l.length + 1) (fun n => mkF 0 l n) wr) := Lh (hM.out.cong fun n _ => by rw [List.take_length])
    obtain ⟨t1, t2⟩ := hM2.out.get (show 0 < l.length + 1 by omega)
    have hgl := hM2.out.lt
    have hp1 : (0 : Int) < (l.length : Int) + 1 := by omega
    obtain ⟨BS, hBS, hBS0⟩ : ∃ BS, w.heap.size < BS ∧ BS ≤ wr.heap.size := ⟨wr.heap.size, hgl, Nat.le_refl _⟩
    have hbz := bgN_zero l
    clear hM
    cases h0 : mkF 0 l 0
    · rw [h0, if_neg (by simp)] at hbz
      rw [h0] at t1
      have hown : Hid (wr.ownsRow BS 3 1 (.slice none 0 0) (bgN l 0).length (Qc (bgN l 0))) := Lh (by rw [hbz]; exact World.ownsRow_nil _ _ _ _)
      have hBS4 : BS ≤ wr.heap.size := by omega
      clear h0 hbz
      obtain ⟨u1, u2⟩ := hM2.out.get (show 0 < l.length + 1 by omega)
      have hgl2 := hM2.out.lt
      have hM5 := Lh (hM2.out.set (show 0 < l.length + 1 by omega) (fun n => n == 0 || mkF 0 l n) (fun n _ => mk_zero _ n))
      have hb5 := Lh (hb.out.setCell (p := ⟨w.heap.size, 0, none⟩) (Nat.le_refl _) (.bool true))
      have hown5 := Lh (ownsRow_setCell_other hown.out (a := ⟨w.heap.size, 0, none⟩) (Yb hown.out hBS) (.bool true))
      have hBS5 : BS ≤ (wr.setCell ⟨w.heap.size, 0, none⟩ (.bool true)).heap.size := by simp [World.setCell]; omega
      clear hM2 hb hown
      go_upto_region 17 with fail
      generalize hW5 : wr.setCell ⟨w.heap.size, 0, none⟩ (.bool true) = W5 at *
      clear hW5 u1 u2 hgl2
      go_wp2_with fail
      go_loopw [10, 54] (fun v i wq => ∃ j : Nat, j ≤ l.length ∧ i = .int .i64 j ∧ Hid (wq.ownsRow BS 3 1 v (bgN l j).length (Qc (bgN l j))) ∧ Hid (MkB w.heap.size (l.length + 1) (fun n => n == 0 || mkF 0 l n) wq) ∧ Hid (Below w.heap.size w wq) ∧ BS ≤ wq.heap.size) (fun _ i _ => l.length - (intOf i).toNat)
      case atStart => exact ⟨0, Nat.zero_le _, rfl, hown5, hM5, hb5, hBS5⟩
      case round =>
       obtain ⟨j, hj, rfl, hown, hM, hb, hBw⟩ := hrel
       by_cases hlt : j < l.length
       · obtain ⟨t1, t2⟩ := hM.out.get (show j < l.length + 1 by omega)
         have hgl3 := hM.out.lt
         have hj0 : (0 : Int) ≤ (j : Int) := by omega
         have hj1 : (j : Int) < (l.length : Int) := by omega
         have hj2 : (j : Int) < (l.length : Int) + 1 := by omega
         cases hjb : (j == 0 || mkF 0 l j)
         · have hn : Hid (bgN l (j + 1) = bgN l j) := Lh (bgN_no hjb)
           simp only [hjb] at t1
           have hown2 := hown.out
           rw [← hn.out] at hown2
           replace hown2 := Lh hown2
           clear hjb hn hown
           go_wp2_with fail
           go_roundw
           case rel => exact ⟨j + 1, by omega, by go_num, hown2, hM, hb, hBw⟩
           case measure => simp [intOf]; omega
         · have hn : Hid (bgN l (j + 1) = bgN l j ++ [(j : Int)]) := Lh (bgN_yes hjb)
           simp only [hjb] at t1
           have hln := bgN_len l j
           clear hjb
           generalize hZ : bgN l j = Z at *
           clear hZ
           go_wp2_with (at_builtin; refine wpList_append_own_at _ rfl _ _ 40 rfl BS 3 i0 _ 1 8 Tryd.underlying40 hi0 hz0 hz1 hz2 hz3 (by decide) _ _ _ rfl (Qn hown.out (Qh _ _)) _ 1 1 [.int .i64 j] rfl rfl (one_at _ _ _ _ (by first | rfl | simp)) (by simp [Value.oneCell']) ?c1 ?c2 ?c3 ?_)
           case c1 => unfold maxLen; omega
           case c2 => omega
           case c3 => simp; omega
           intro v' w3 hown3 hg3 _ _
           have hown4 : Hid (w3.ownsRow BS 3 1 v' (bgN l (j + 1)).length (Qc (bgN l (j + 1)))) := Lh (by
            rw [hn.out, List.length_append, num_snoc]; exact hown3)
           have hM4 := Lh ((hM.out.keep (Qh _ _)).grown hg3 (Yb hown.out hBS))
           have hb4 : Hid (Below w.heap.size w w3) := Lh ((hb.out.alloc (by have := hb.out.size; omega) _).grown hg3 (by have := hb.out.size; simp; omega) (fun q e => by have := (hown.out.lt q e).1; omega))
           have hB4 : BS ≤ w3.heap.size := by have := hg3.size; simp at this; omega
           clear hown3 hg3 hown hM hb hn
           go_wp2_with fail
           go_roundw
           case rel => exact ⟨j + 1, by omega, by go_num, hown4, hM4, hb4, hB4⟩
           case measure => simp [intOf]; omega
       · have hj2 : j = l.length := by omega
         subst hj2
         go_wp2_with fail
         go_ret
         exact ⟨_, rfl, Xc hown.out (by omega), hb.out⟩
    · rw [h0, if_pos rfl] at hbz
      rw [h0] at t1
      clear h0
      go_wp2_with (at_builtin; refine wpList_append_own_at _ rfl _ _ 40 rfl BS 3 i0 _ 1 8 Tryd.underlying40 hi0 hz0 hz1 hz2 hz3 (by decide) _ _ _ rfl (World.ownsRow_nil _ _ _ _) _ 1 1 [.int .i64 0] rfl rfl (one_at _ _ _ _ (by first | rfl | simp)) (by simp [Value.oneCell']) ?d1 ?d2 ?d3 ?_)
      case d1 => unfold maxLen; omega
      case d2 => omega
      case d3 => simp; omega
      intro v1 w4 hown4 hg4 _ _
      have hown : Hid (w4.ownsRow BS 3 1 v1 (bgN l 0).length (Qc (bgN l 0))) := Lh (by rw [hbz]; exact hown4)
      have hM4 := Lh ((hM2.out.keep (Qh _ _)).grown hg4 (by intro e; cases e))
      have hb4 : Hid (Below w.heap.size w w4) := Lh ((hb.out.alloc (by have := hb.out.size; omega) _).grown hg4 (by have := hb.out.size; simp; omega) (fun q e => by cases e))
      have hBS4 : BS ≤ w4.heap.size := by have := hg4.size; simp at this; omega
      clear hown4 hg4 hM2 hb hbz t1 t2 hgl
      obtain ⟨u1, u2⟩ := hM4.out.get (show 0 < l.length + 1 by omega)
      have hgl2 := hM4.out.lt
      have hM5 := Lh (hM4.out.set (show 0 < l.length + 1 by omega) (fun n => n == 0 || mkF 0 l n) (fun n _ => mk_zero _ n))
      have hb5 := Lh (hb4.out.setCell (p := ⟨w.heap.size, 0, none⟩) (Nat.le_refl _) (.bool true))
      have hown5 := Lh (ownsRow_setCell_other hown.out (a := ⟨w.heap.size, 0, none⟩) (Yb hown.out hBS) (.bool true))
      have hBS5 : BS ≤ (w4.setCell ⟨w.heap.size, 0, none⟩ (.bool true)).heap.size := by simp [World.setCell]; omega
      clear hM4 hb4 hown
      go_upto_region 17 with fail
      generalize hW5 : w4.setCell ⟨w.heap.size, 0, none⟩ (.bool true) = W5 at *
      clear hW5 u1 u2 hgl2
      go_wp2_with fail
      go_loopw [10, 54] (fun v i wq => ∃ j : Nat, j ≤ l.length ∧ i = .int .i64 j ∧ Hid (wq.ownsRow BS 3 1 v (bgN l j).length (Qc (bgN l j))) ∧ Hid (MkB w.heap.size (l.length + 1) (fun n => n == 0 || mkF 0 l n) wq) ∧ Hid (Below w.heap.size w wq) ∧ BS ≤ wq.heap.size) (fun _ i _ => l.length - (intOf i).toNat)
      case atStart => exact ⟨0, Nat.zero_le _, rfl, hown5, hM5, hb5, hBS5⟩
      case round =>
       obtain ⟨j, hj, rfl, hown, hM, hb, hBw⟩ := hrel
       by_cases hlt : j < l.length
       · obtain ⟨t1, t2⟩ := hM.out.get (show j < l.length + 1 by omega)
         have hgl3 := hM.out.lt
         have hj0 : (0 : Int) ≤ (j : Int) := by omega
         have hj1 : (j : Int) < (l.length : Int) := by omega
         have hj2 : (j : Int) < (l.length : Int) + 1 := by omega
         cases hjb : (j == 0 || mkF 0 l j)
         · have hn : Hid (bgN l (j + 1) = bgN l j) := Lh (bgN_no hjb)
           simp only [hjb] at t1
           have hown2 := hown.out
           rw [← hn.out] at hown2
           replace hown2 := Lh hown2
           clear hjb hn hown
           go_wp2_with fail
           go_roundw
           case rel => exact ⟨j + 1, by omega, by go_num, hown2, hM, hb, hBw⟩
           case measure => simp [intOf]; omega
         · have hn : Hid (bgN l (j + 1) = bgN l j ++ [(j : Int)]) := Lh (bgN_yes hjb)
           simp only [hjb] at t1
           have hln := bgN_len l j
           clear hjb
           generalize hZ : bgN l j = Z at *
           clear hZ
           go_wp2_with (at_builtin; refine wpList_append_own_at _ rfl _ _ 40 rfl BS 3 i0 _ 1 8 Tryd.underlying40 hi0 hz0 hz1 hz2 hz3 (by decide) _ _ _ rfl (Qn hown.out (Qh _ _)) _ 1 1 [.int .i64 j] rfl rfl (one_at _ _ _ _ (by first | rfl | simp)) (by simp [Value.oneCell']) ?c1 ?c2 ?c3 ?_)
           case c1 => unfold maxLen; omega
           case c2 => omega
           case c3 => simp; omega
           intro v' w3 hown3 hg3 _ _
           have hown4 : Hid (w3.ownsRow BS 3 1 v' (bgN l (j + 1)).length (Qc (bgN l (j + 1)))) := Lh (by
            rw [hn.out, List.length_append, num_snoc]; exact hown3)
           have hM4 := Lh ((hM.out.keep (Qh _ _)).grown hg3 (Yb hown.out hBS))
           have hb4 : Hid (Below w.heap.size w w3) := Lh ((hb.out.alloc (by have := hb.out.size; omega) _).grown hg3 (by have := hb.out.size; simp; omega) (fun q e => by have := (hown.out.lt q e).1; omega))
           have hB4 : BS ≤ w3.heap.size := by have := hg3.size; simp at this; omega
           clear hown3 hg3 hown hM hb hn
           go_wp2_with fail
           go_roundw
           case rel => exact ⟨j + 1, by omega, by go_num, hown4, hM4, hb4, hB4⟩
           case measure => simp [intOf]; omega
       · have hj2 : j = l.length := by omega
         subst hj2
         go_wp2_with fail
         go_ret
         exact ⟨_, rfl, Xc hown.out (by omega), hb.out⟩
/-- numbers in a block -/
structure InB (g n : Nat) (f : Nat → Int) (W : World) : Prop where
 ex : W.heap[g]? = some (.cells ⟨(List.range n).map fun j => .int .i64 (f j)⟩ 3 (0, 0))
theorem InB.start (W : World) (n : Nat) : InB W.heap.size n (fun _ => 0) (W.alloc (.cells (Array.replicate n (.int .i64 0)) 3)) := ⟨by
 rw [Qt W _ rfl]
 congr 2
 apply Array.toList_inj.1
 apply List.ext_getElem?
 intro i
 simp [List.getElem?_replicate]
 by_cases h : i < n <;> simp [h]⟩
theorem InB.keep {g n : Nat} {f : Nat → Int} {W W' : World} (h : InB g n f W) (hb : Below W.heap.size W W') : InB g n f W' :=
 ⟨(hb.block g (Array.getElem?_eq_some_iff.1 h.ex).1).trans h.ex⟩
theorem InB.lt {g n : Nat} {f : Nat → Int} {W : World} (h : InB g n f W) : g < W.heap.size := (Array.getElem?_eq_some_iff.1 h.ex).1
theorem InB.cong {g n : Nat} {f f' : Nat → Int} {W : World} (h : InB g n f W) (e : ∀ k, k < n → f k = f' k) : InB g n f' W := ⟨by
 rw [h.ex]
 congr 3
 apply List.map_congr_left
 intro k hk
 rw [e k (List.mem_range.1 hk)]⟩
theorem InB.get {g n : Nat} {f : Nat → Int} {W : World} (h : InB g n f W) {k : Nat} (hk : k < n) : W.cell? ⟨g, k, none⟩ = some (.int .i64 (f k)) ∧ W.frozen? ⟨g, k, none⟩ = false :=
 ⟨Qk h.ex (by simp [hk]), Qd h.ex _⟩
theorem InB.set {g n : Nat} {f : Nat → Int} {W : World} (h : InB g n f W) {k : Nat} (hk : k < n) (x : Int) (f' : Nat → Int) (hf : ∀ i, i < n → f' i = if i = k then x else f i) : InB g n f' (W.setCell ⟨g, k, none⟩ (.int .i64 x)) := ⟨by
 rw [Qy h.ex]
 congr 2
 apply Array.toList_inj.1
 rw [Array.toList_setIfInBounds]
 apply List.ext_getElem?
 intro i
 by_cases hi : i < n
 · rw [List.getElem?_set]
   simp only [List.getElem?_map, List.getElem?_range hi, Option.map_some, List.length_map, List.length_range]
   rw [hf i hi]
   by_cases e : k = i
   · rw [if_pos e, if_pos (by omega), if_pos e.symm]
   · rw [if_neg e, if_neg (by omega)]
 · rw [List.getElem?_eq_none (by simp; omega), List.getElem?_eq_none (by simp; omega)]⟩
def nums (n : Nat) (f : Nat → Int) : List Int := (List.range n).map f
theorem nums_len (n : Nat) (f : Nat → Int) : (nums n f).length = n := by simp [nums]
theorem nums_get {n k : Nat} (f : Nat → Int) (h : k < n) : (nums n f)[k]? = some (f k) := by simp [nums, h]
theorem InB.row {g n : Nat} {f : Nat → Int} {W : World} (h : InB g n f W) (hn : n ≤ maxLen) : RowAt W Tt (some ⟨g, 0, none⟩) n n (Qc (nums n f)) := by
 refine ⟨Nat.le_refl _, hn, fun e => (by cases e), fun j u hu => ⟨g, 0, rfl, trivial, ?_⟩⟩
 rw [Nat.zero_add]
 refine Qk h.ex ?_
 unfold Qc nums at hu
 rw [List.map_map] at hu
 simpa using hu
/-- the number of the block that an instruction begins: the last one that begins there -/
def numF : Nat → List Int → (Nat → Int) → Nat → Int
 | _, [], f => f
 | i, x :: r, f => numF (i + 1) r fun n => if (n : Int) = x then (i : Int) else f n
theorem numF_app (l r : List Int) (i : Nat) (f : Nat → Int) : numF i (l ++ r) f = numF (i + l.length) r (numF i l f) := by
 induction l generalizing i f with
 | nil => simp [numF]
 | cons x l ih => rw [List.cons_append, numF, numF, ih, List.length_cons, show i + 1 + l.length = i + (l.length + 1) by omega]
theorem numF_take {l : List Int} {k : Nat} {x : Int} (h : l[k]? = some x) (f : Nat → Int) (n : Nat) : numF 0 (l.take (k + 1)) f n = if (n : Int) = x then (k : Int) else numF 0 (l.take k) f n := by
 have hk : k < l.length := (List.getElem?_eq_some_iff.1 h).1
 rw [List.take_add_one, h, numF_app]
 have : (l.take k).length = k := by rw [List.length_take]; omega
 rw [this]
 simp [numF]
theorem numF_in (l : List Int) (i : Nat) (f : Nat → Int) (n : Nat) (m : Int) (hf : 0 ≤ f n ∧ f n < m) (hm : (i + l.length : Nat) ≤ m) : 0 ≤ numF i l f n ∧ numF i l f n < m := by
 induction l generalizing i f with
 | nil => exact hf
 | cons x l ih =>
   rw [numF]
   refine ih (i + 1) _ ?_ ?_
   · split
     · rw [List.length_cons] at hm; omega
     · exact hf
   · rw [List.length_cons] at hm; omega
/-- the beginnings lie within, and rise -/
theorem bgN_in (l : List Ins) (k : Nat) (hk : k ≤ l.length) : ∀ y ∈ bgN l k, 0 ≤ y ∧ y < (l.length : Int) := fun y hy => by
 unfold bgN at hy
 rcases List.mem_append.1 hy with h | h
 · split at h
   · rename_i hm
     have := List.mem_singleton.1 h
     subst this
     cases l with
     | nil => simp [mkF] at hm
     | cons x r => simp
   · simp at h
 · obtain ⟨n, hn, rfl⟩ := List.mem_map.1 h
   have := List.mem_range.1 (List.mem_filter.1 hn).1
   show 0 ≤ (n : Int) ∧ (n : Int) < _
   omega
theorem begL_in (l : List Ins) : ∀ y ∈ begL l, 0 ≤ y ∧ y < (l.length : Int) := bgN_in l l.length (Nat.le_refl _)
theorem bgN_rise (l : List Ins) (k : Nat) : (bgN l k).Pairwise (· ≤ ·) := by
 unfold bgN
 rw [List.pairwise_append]
 refine ⟨by split <;> simp, ?_, fun a ha b hb => ?_⟩
 · rw [List.pairwise_map]
   have h : ((List.range k).filter fun n => n == 0 || mkF 0 l n).Pairwise (· ≤ ·) := List.Pairwise.filter _ (List.pairwise_le_range)
   refine h.imp fun hab => ?_
   show ((_ : Nat) : Int) ≤ ((_ : Nat) : Int)
   omega
 · split at ha
   · have := List.mem_singleton.1 ha
     subst this
     obtain ⟨n, _, rfl⟩ := List.mem_map.1 hb
     show 0 ≤ (n : Int)
     omega
   · simp at ha
theorem begL_rise (l : List Ins) {i : Nat} {x y : Int} (hx : (begL l)[i]? = some x) (hy : (begL l)[i + 1]? = some y) : x ≤ y := by
 obtain ⟨h1, rfl⟩ := List.getElem?_eq_some_iff.1 hx
 obtain ⟨h2, rfl⟩ := List.getElem?_eq_some_iff.1 hy
 exact List.pairwise_iff_getElem.1 (bgN_rise l l.length) i (i + 1) h1 h2 (by omega)
theorem begL_len (l : List Ins) : (begL l).length ≤ l.length + 1 := bgN_len l l.length
def seg (l : List Ins) (lo hi : Nat) : List Ins := (l.drop lo).take (hi - lo)
theorem seg_len {l : List Ins} {lo hi : Nat} (h1 : lo ≤ hi) (h2 : hi ≤ l.length) : (seg l lo hi).length = hi - lo := by
 unfold seg; rw [List.length_take, List.length_drop]; omega
theorem seg_get {l : List Ins} {lo hi j : Nat} {x : Ins} (h : (seg l lo hi)[j]? = some x) : l[lo + j]? = some x ∧ j < hi - lo := by
 unfold seg at h
 rw [List.getElem?_take] at h
 split at h
 · rename_i hj
   rw [List.getElem?_drop] at h
   exact ⟨h, hj⟩
 · cases h
theorem row_sub {W : World} {S : Nat → Prop} {a : Option Addr} {cap : Nat} {l : List Ins} {lo hi mx : Nat} (h : RowAt W S a cap l.length (Q8 l)) (h1 : lo ≤ hi) (h2 : hi ≤ l.length) (h3 : hi ≤ mx) (h4 : mx ≤ cap) :
 RowAt W S (if mx = lo then a else a.map (·.add (lo * 6))) (mx - lo) (seg l lo hi).length (Q8 (seg l lo hi)) := by
 have hl := seg_len h1 h2
 refine ⟨by omega, by have := h.lim; omega, fun e => ?_, fun j u hj => ?_⟩
 · have ha : a = none := by
    split at e
    · exact e
    · cases a with
      | none => rfl
      | some a => cases e
   have := h.nil ha
   omega
 · have hjl : j < (hi - lo) * 6 := by
    have := (List.getElem?_eq_some_iff.1 hj).1
    rw [in_len, hl] at this
    exact this
   have hj2 : (Q8 l)[lo * 6 + j]? = some u := by
    have hj' : j = j / 6 * 6 + j % 6 := by have := Nat.div_add_mod j 6; omega
    have hk : j / 6 < (seg l lo hi).length := by rw [hl]; omega
    obtain ⟨x, hx⟩ : ∃ x, (seg l lo hi)[j / 6]? = some x := ⟨_, List.getElem?_eq_getElem hk⟩
    have e1 := flat_at Ins.vals 6 Ins.vals_len (seg l lo hi) (j / 6) (j % 6) x hx (Nat.mod_lt _ (by omega))
    have e2 := flat_at Ins.vals 6 Ins.vals_len l (lo + j / 6) (j % 6) x (seg_get hx).1 (Nat.mod_lt _ (by omega))
    rw [← hj'] at e1
    rw [show (lo + j / 6) * 6 + j % 6 = lo * 6 + j by omega] at e2
    show (l.flatMap Ins.vals)[lo * 6 + j]? = some u
    rw [e2, ← e1]
    exact hj
   obtain ⟨b, off, rfl, hS, hc⟩ := h.at_ _ _ hj2
   rw [if_neg (by omega)]
   refine ⟨b, off + lo * 6, by rw [Option.map_some, Go.WideShapes.add_plain], hS, ?_⟩
   rw [Nat.add_assoc]
   exact hc
theorem seg_last {l : List Ins} {lo hi : Nat} : Z9 (seg l lo hi) ∈ l ∨ Z9 (seg l lo hi) = Z9 [] := by
 by_cases h : (seg l lo hi) = []
 · rw [h]; exact .inr rfl
 · refine .inl ?_
   obtain ⟨x, hx⟩ : ∃ x, (seg l lo hi)[(seg l lo hi).length - 1]? = some x := ⟨_, List.getElem?_eq_getElem (by have := List.length_pos_iff.2 h; omega)⟩
   rw [lastI_at hx]
   exact List.mem_of_getElem? (seg_get hx).1
/-! ### rows of blocks -/
theorem bk_len (l : List Bk) : (Qu l).length = l.length * 4 := flat_lenM Bk.vals 4 Bk.vals_len l
def Bk0 : Bk := ⟨none, 0, [], none, 0, [], none, 0, [], none, 0, []⟩
theorem set_bk : ∀ (l : List Bk) (k j : Nat) (x x' : Bk) (v : Value), l[k]? = some x → j < 4 → x'.vals = x.vals.set j v → Qu (l.set k x') = (Qu l).set (k * 4 + j) v
 | [], k, _, _, _, _, h, _, _ => by simp at h
 | y :: r, 0, j, x, x', v, h, hj, he => by
   obtain rfl : y = x := by simpa using h
   show x'.vals ++ Qu r = (y.vals ++ Qu r).set (0 * 4 + j) v
   rw [List.set_append_left _ _ (by rw [Bk.vals_len]; omega), he, Nat.zero_mul, Nat.zero_add]
 | y :: r, k + 1, j, x, x', v, h, hj, he => by
   show y.vals ++ Qu (r.set k x') = (y.vals ++ Qu r).set ((k + 1) * 4 + j) v
   rw [List.set_append_right _ _ (by rw [Bk.vals_len]; omega), set_bk r k j x x' v (by simpa using h) hj he, Bk.vals_len, show (k + 1) * 4 + j - 4 = k * 4 + j by omega]
structure OwnB (g : Nat) (bs : List Bk) (W : World) : Prop where
 ex : W.heap[g]? = some (.cells ⟨Qu bs⟩ 42 (0, 0))
theorem OwnB.keep {g : Nat} {l : List Bk} {W W' : World} (h : OwnB g l W) (hb : Below W.heap.size W W') : OwnB g l W' :=
 ⟨(hb.block g (Array.getElem?_eq_some_iff.1 h.ex).1).trans h.ex⟩
theorem OwnB.lt {g : Nat} {l : List Bk} {W : World} (h : OwnB g l W) : g < W.heap.size := (Array.getElem?_eq_some_iff.1 h.ex).1
theorem OwnB.free {g : Nat} {l : List Bk} {W : World} (h : OwnB g l W) (j : Nat) : W.frozen? ⟨g, j, none⟩ = false := Qd h.ex j
theorem OwnB.row {g : Nat} {l : List Bk} {W : World} (h : OwnB g l W) (hn : l.length ≤ maxLen) : RowAt W (fun b => b = g) (some ⟨g, 0, none⟩) l.length l.length (Qu l) := by
 refine ⟨Nat.le_refl _, hn, fun e => (by cases e), fun j u hu => ⟨g, 0, rfl, rfl, ?_⟩⟩
 rw [Nat.zero_add]
 exact Qk h.ex (by simpa using hu)
theorem OwnB.get {g : Nat} {l : List Bk} {W : World} (h : OwnB g l W) (hn : l.length ≤ maxLen) {k : Nat} {e : Bk} (hx : l[k]? = some e) :
 W.cell? ⟨g, k * 4, none⟩ = some (.slice e.pa e.phis.length e.pcap) ∧ W.cell? ⟨g, k * 4 + 1, none⟩ = some (.slice e.ca e.code.length e.ccap) ∧ W.cell? ⟨g, k * 4 + 2, none⟩ = some (.slice e.fa e.fm.length e.fcap) ∧ W.cell? ⟨g, k * 4 + 3, none⟩ = some (.slice e.ta e.tt.length e.tcap) := by
 obtain ⟨b, off, ha, _, c0, c1, c2, c3⟩ := X4 (h.row hn) k e hx
 cases ha
 simp only [Nat.zero_add] at c0 c1 c2 c3
 exact ⟨c0, c1, c2, c3⟩
theorem OwnB.set {g : Nat} {l : List Bk} {W : World} (h : OwnB g l W) {k j : Nat} {x x' : Bk} {v : Value} (hx : l[k]? = some x) (hj : j < 4) (he : x'.vals = x.vals.set j v) : OwnB g (l.set k x') (W.setCell ⟨g, k * 4 + j, none⟩ v) := by
 refine ⟨?_⟩
 rw [Qy h.ex]
 congr 2
 apply Array.toList_inj.1
 rw [Array.toList_setIfInBounds, set_bk l k j x x' v hx hj he]
/-- a whole block is stored -/
theorem OwnB.set4 {g : Nat} {l : List Bk} {W : World} (h : OwnB g l W) {k : Nat} {x : Bk} (y : Bk) (hx : l[k]? = some x) :
 OwnB g (l.set k y) ((((W.setCell ⟨g, k * 4, none⟩ (.slice y.pa y.phis.length y.pcap)).setCell ⟨g, k * 4 + 1, none⟩ (.slice y.ca y.code.length y.ccap)).setCell ⟨g, k * 4 + 2, none⟩ (.slice y.fa y.fm.length y.fcap)).setCell ⟨g, k * 4 + 3, none⟩ (.slice y.ta y.tt.length y.tcap)) := by
 have hk : k < l.length := (List.getElem?_eq_some_iff.1 hx).1
 have h0 := h.set (j := 0) (x' := { x with pa := y.pa, phis := y.phis, pcap := y.pcap }) hx (by omega) rfl
 have h1 := h0.set (j := 1) (x' := { y with fa := x.fa, fm := x.fm, fcap := x.fcap, ta := x.ta, tt := x.tt, tcap := x.tcap }) (List.getElem?_set_self (by simpa using hk)) (by omega) rfl
 have h2 := h1.set (j := 2) (x' := { y with ta := x.ta, tt := x.tt, tcap := x.tcap }) (List.getElem?_set_self (by simpa using hk)) (by omega) rfl
 have h3 := h2.set (j := 3) (x' := y) (List.getElem?_set_self (by simpa using hk)) (by omega) rfl
 simp only [List.set_set] at h3
 exact h3
theorem info_bk4 : ∃ i, Tryd.prog.info? 42 = some i ∧ i.zero = some (.agg ⟨Bk0.vals⟩) ∧ i.size = 4 ∧ i.bytes = 96 := ⟨_, rfl, rfl, rfl, rfl⟩
theorem made_bk (n : Nat) : madeCells (Value.agg ⟨Bk0.vals⟩).cells (n * 4) = ⟨Qu (List.replicate n Bk0)⟩ := by
 apply Array.toList_inj.1
 apply List.ext_getElem?
 intro j
 have hl : (Qu (List.replicate n Bk0)).length = n * 4 := by rw [bk_len, List.length_replicate]
 by_cases hj : j < n * 4
 · have hj' : j = j / 4 * 4 + j % 4 := by have := Nat.div_add_mod j 4; omega
   have hk : j / 4 < n := by omega
   have e1 := flat_at Bk.vals 4 Bk.vals_len (List.replicate n Bk0) (j / 4) (j % 4) Bk0 (by rw [List.getElem?_replicate, if_pos hk]) (Nat.mod_lt _ (by omega))
   rw [← hj'] at e1
   show _ = (List.flatMap Bk.vals (List.replicate n Bk0))[j]?
   rw [e1]
   have hm : j % 4 = 0 ∨ j % 4 = 1 ∨ j % 4 = 2 ∨ j % 4 = 3 := by omega
   unfold madeCells
   rcases hm with hm | hm | hm | hm <;> simp [hj, hm, Bk0, Bk.vals, Value.cells]
 · rw [List.getElem?_eq_none (by simp [madeCells]; omega), List.getElem?_eq_none (by rw [hl]; omega)]
theorem make_bk (n : Nat) (hn : n ≤ 1000000) (V : World) : (Instr.makeSlice 35 (.int .i64 (n : Int)) (.int .i64 (n : Int))).run Tryd.prog V = .ok (.slice (some ⟨V.heap.size, 0, none⟩) n n) (V.alloc (.cells ⟨Qu (List.replicate n Bk0)⟩ 42)) := by
 obtain ⟨i0, hi0, hz0, hz1, hz2⟩ := info_bk4
 have h := run_makeSlice (P := Tryd.prog) V 35 42 i0 _ Tryd.underlying35 hi0 hz0 .i64 .i64 (n : Int) (n : Int) (by omega) (Int.le_refl _) (by rw [hz1]; omega) (by rw [hz2]; omega) (by omega)
 rw [hz1, Int.toNat_natCast, made_bk] at h
 exact h
theorem OwnB.start (W : World) (n : Nat) : OwnB W.heap.size (List.replicate n Bk0) (W.alloc (.cells ⟨Qu (List.replicate n Bk0)⟩ 42)) := ⟨Qt W _ rfl⟩
/-- where block b begins and ends -/
def stN (l : List Ins) (b : Nat) : Nat := ((begL l).getD b 0).toNat
def enN (l : List Ins) (b : Nat) : Nat := if b + 1 < (begL l).length then ((begL l).getD (b + 1) 0).toNat else l.length
/-- to which block an instruction belongs that begins one -/
def blkL (l : List Ins) : List Int := nums l.length (numF 0 (begL l) fun _ => 0)
def toL (l : List Ins) (b : Nat) : List Int := goL (Z9 (seg l (stN l b) (enN l b))) ((b : Int) + 1) (blkL l)
theorem stN_of {l : List Ins} {b : Nat} {x : Int} (h : (begL l)[b]? = some x) : (stN l b : Int) = x := by
 unfold stN
 rw [List.getD_eq_getElem?_getD, h]
 have := begL_in l x (List.mem_of_getElem? h)
 simp; omega
theorem st_en {l : List Ins} {b : Nat} (h : b < (begL l).length) : stN l b ≤ enN l b ∧ enN l b ≤ l.length := by
 obtain ⟨x, hx⟩ : ∃ x, (begL l)[b]? = some x := ⟨_, List.getElem?_eq_getElem h⟩
 have h1 := stN_of hx
 have h2 := begL_in l x (List.mem_of_getElem? hx)
 unfold enN
 split
 · rename_i h3
   obtain ⟨y, hy⟩ : ∃ y, (begL l)[b + 1]? = some y := ⟨_, List.getElem?_eq_getElem h3⟩
   have h4 := stN_of hy
   have h5 := begL_in l y (List.mem_of_getElem? hy)
   have h6 := begL_rise l hx hy
   unfold stN at h4
   omega
 · omega
/-- what is stored for block b -/
structure CutR (a7 : Option Addr) (g : Nat) (l m : List Ins) (b : Nat) (x : Bk) (W : World) : Prop where
 code : x.code = seg m (stN l b) (enN l b)
 ca : x.ca = if enN l b = stN l b then a7 else a7.map (·.add (stN l b * 6))
 ccap : x.ccap = enN l b - stN l b
 ph : x.phis = [] ∧ x.pa = none ∧ x.pcap = 0
 fm : x.fm = [] ∧ x.fa = none ∧ x.fcap = 0
 tt : x.tt = toL l b
 tow : W.ownsRow (g + 1) 3 1 (.slice x.ta x.tt.length x.tcap) x.tt.length (Qc x.tt)
theorem CutR.keep {a7 : Option Addr} {g b : Nat} {l m : List Ins} {x : Bk} {W W' : World} (h : CutR a7 g l m b x W) (hb : Below W.heap.size W W') : CutR a7 g l m b x W' :=
 ⟨h.code, h.ca, h.ccap, h.ph, h.fm, h.tt, Qn h.tow hb⟩
theorem CutR.put {a7 : Option Addr} {g b o : Nat} {l m : List Ins} {x : Bk} {W : World} (h : CutR a7 g l m b x W) (v : Value) : CutR a7 g l m b x (W.setCell ⟨g, o, none⟩ v) :=
 ⟨h.code, h.ca, h.ccap, h.ph, h.fm, h.tt, ownsRow_setCell_other h.tow (show _ ≠ some g from Yb h.tow (Nat.lt_succ_self g)) v⟩
structure CutI (a7 : Option Addr) (g : Nat) (l m : List Ins) (bs : List Bk) (k : Nat) (W : World) : Prop where
 len : bs.length = (begL l).length
 own : OwnB g bs W
 done : ∀ (j : Nat) (x : Bk), j < k → bs[j]? = some x → CutR a7 g l m j x W
 apart : ∀ (i j : Nat) (x y : Bk), i < j → j < k → bs[i]? = some x → bs[j]? = some y → ∀ q, (Value.slice y.ta y.tt.length y.tcap).ownBlock = some q → (Value.slice x.ta x.tt.length x.tcap).ownBlock ≠ some q
def put4 (W : World) (g k : Nat) (y : Bk) : World := (((W.setCell ⟨g, k * 4, none⟩ (.slice y.pa y.phis.length y.pcap)).setCell ⟨g, k * 4 + 1, none⟩ (.slice y.ca y.code.length y.ccap)).setCell ⟨g, k * 4 + 2, none⟩ (.slice y.fa y.fm.length y.fcap)).setCell ⟨g, k * 4 + 3, none⟩ (.slice y.ta y.tt.length y.tcap)
theorem CutI.step {a7 : Option Addr} {g k : Nat} {l m : List Ins} {bs : List Bk} {W w1 : World} {y : Bk} (h : CutI a7 g l m bs k W) (hk : k < (begL l).length) (hb : Below W.heap.size W w1)
 (hy : CutR a7 g l m k y w1) (hto : w1.ownsRow W.heap.size 3 1 (.slice y.ta y.tt.length y.tcap) y.tt.length (Qc y.tt)) : CutI a7 g l m (bs.set k y) (k + 1) (put4 w1 g k y) := by
 obtain ⟨x0, hx0⟩ : ∃ x, bs[k]? = some x := ⟨_, List.getElem?_eq_getElem (by rw [h.len]; exact hk)⟩
 have hget : ∀ (j : Nat) (x : Bk), (bs.set k y)[j]? = some x → (j = k ∧ x = y) ∨ (j ≠ k ∧ bs[j]? = some x) := fun j x hx => by
  by_cases e : j = k
  · subst e
    rw [List.getElem?_set_self (by rw [h.len]; exact hk)] at hx
    cases hx; exact .inl ⟨rfl, rfl⟩
  · rw [List.getElem?_set_ne (by omega)] at hx
    exact .inr ⟨e, hx⟩
 refine ⟨by simp [h.len], (h.own.keep hb).set4 y hx0, fun j x hj hx => ?_, fun i j x z hij hj hx hz q hq => ?_⟩
 · rcases hget j x hx with ⟨rfl, rfl⟩ | ⟨e, hx⟩
   · exact (((hy.put _).put _).put _).put _
   · exact (((((h.done j x (by omega) hx).keep hb).put _).put _).put _).put _
 · rcases hget i x hx with ⟨rfl, rfl⟩ | ⟨e, hx1⟩
   · omega
   · rcases hget j z hz with ⟨rfl, rfl⟩ | ⟨e', hz1⟩
     · intro e2
       have h1 := (hto.lt q hq).1
       have h2 := ((h.done i x (by omega) hx1).tow.lt q e2).2
       omega
     · exact h.apart i j x z hij (by omega) hx1 hz1 q hq
end Go.Proofs.YthiiahlgncngoaaDoorRR.Fw
