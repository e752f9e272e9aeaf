/- many: it answers yes or no, and all stays. Conditions: the program lies in memory. -/
import Derived.Deep.CutBlock
import Derived.Deep.DeepCutAuto
import Derived.Test.YthiiahlgncngoaaDoorRRJCtK
set_option maxHeartbeats 16000000
set_option maxRecDepth 100000
namespace Go.Proofs.YthiiahlgncngoaaDoorRR.Cd
open Go Go.RowKit
open Go.Proofs.YthiiahlgncngoaaDoorRR.Lx Go.Proofs.YthiiahlgncngoaaDoorRR.Tr Go.Proofs.YthiiahlgncngoaaDoorRR.Pa
def IsB (e : Ending) : Prop := ∃ b, e = .returned (.bool b)
theorem many_any (p : Pg) (w : World) (hp : Pg.In w (fun _ => True) p) :
 Calls Tryd.prog 6 #[p.val] w fun e w' => IsB e ∧ Below w.heap.size w w' := by
 obtain ⟨hm1, hm2⟩ := Q2 hp.mrow
 obtain ⟨hl1, hl2⟩ := Q2 hp.lrow
 obtain ⟨hf1, hf2⟩ := Q2 hp.frow
 have hst : Hid (Below w.heap.size w (w.alloc (.cells #[.slice p.ma p.mems.length p.mcap, .slice p.la p.locks.length p.lcap, .slice p.fa p.funs.length p.fcap] 26))) := Lh (Qh _ _)
 have hbx := Xm (p := p) (Zk w p.vals 26)
 have hq : Pg.In (w.alloc (.cells #[.slice p.ma p.mems.length p.mcap, .slice p.la p.locks.length p.lcap, .slice p.fa p.funs.length p.fcap] 26)) (fun _ => True) p := hp.below (Kps.of_below hst.out)
 replace hbx : Hid ((w.alloc (.cells #[.slice p.ma p.mems.length p.mcap, .slice p.la p.locks.length p.lcap, .slice p.fa p.funs.length p.fcap] 26)).cell? ⟨w.heap.size, 0, none⟩ = some (.slice p.ma p.mems.length p.mcap) ∧ (w.alloc (.cells #[.slice p.ma p.mems.length p.mcap, .slice p.la p.locks.length p.lcap, .slice p.fa p.funs.length p.fcap] 26)).cell? ⟨w.heap.size, 1, none⟩ = some (.slice p.la p.locks.length p.lcap) ∧ (w.alloc (.cells #[.slice p.ma p.mems.length p.mcap, .slice p.la p.locks.length p.lcap, .slice p.fa p.funs.length p.fcap] 26)).cell? ⟨w.heap.size, 2, none⟩ = some (.slice p.fa p.funs.length p.fcap)) := Lh hbx
 replace hq := Lh hq
 clear hp
 go_enter Tryd.func6, Tryd.ntmps6
 go_upto_block 0 with fail
 generalize hW0 : w.alloc (.cells #[.slice p.ma p.mems.length p.mcap, .slice p.la p.locks.length p.lcap, .slice p.fa p.funs.length p.fcap] 26) = W0 at *
 clear hW0
 obtain ⟨g0, g1, g2⟩ := hbx.out
 go_cut [3, 4, 5] from 13 to 61 (fun n i j wx => (∃ v, n = .int .i64 v) ∧ ∃ m, wx = W0.drewN m)
 case first =>
  go_wp2_with fail
  go_loopw [3, 4] (fun n i wr => (∃ v, n = .int .i64 v) ∧ (∃ k : Nat, k ≤ p.funs.length ∧ i = .int .i64 k) ∧ ∃ m, wr = W0.drewN m) (fun _ i _ => p.funs.length - (intOf i).toNat)
  case atStart => exact ⟨⟨_, rfl⟩, ⟨0, Nat.zero_le _, rfl⟩, 0, rfl⟩
  case round =>
   obtain ⟨⟨v, rfl⟩, ⟨k, hk, rfl⟩, m0, rfl⟩ := hrel
   by_cases hkl : k < p.funs.length
   · by_cases hv : v < 3000
     · obtain ⟨x, hx⟩ : ∃ x, p.funs[k]? = some x := ⟨_, List.getElem?_eq_getElem hkl⟩
       obtain ⟨b, off, ha, _, c0, c1, c2, c3, c4⟩ := Yd hq.out.frow k x hx
       have hfi := hq.out.funs x (List.mem_of_getElem? hx)
       obtain ⟨hx1, hx2⟩ := Q2 hfi.row
       have hrow := Lh hfi.row
       rw [ha] at g2
       have hi0 : (0 : Int) ≤ (k : Int) := by omega
       have hi1 : (k : Int) < (p.funs.length : Int) := by omega
       clear ha hx hfi
       go_wp2_with fail
       go_loopw [3, 5] (fun n i wr => (∃ v, n = .int .i64 v) ∧ (∃ k : Nat, k ≤ x.code.length ∧ i = .int .i64 k) ∧ ∃ m, wr = W0.drewN m) (fun _ i _ => x.code.length - (intOf i).toNat)
       case atStart => exact ⟨⟨_, rfl⟩, ⟨0, Nat.zero_le _, rfl⟩, m0, rfl⟩
       case round =>
        obtain ⟨⟨v', rfl⟩, ⟨j, hj, rfl⟩, m3, rfl⟩ := hrel
        by_cases hjl : j < x.code.length
        · by_cases hv' : v' < 3000
          · obtain ⟨y, hy⟩ : ∃ y, x.code[j]? = some y := ⟨_, List.getElem?_eq_getElem hjl⟩
            obtain ⟨b2, off2, ha2, _, e0, e1, e2, e3, e4, e5⟩ := X1 hrow.out j y hy
            rw [ha2] at c4
            have hj0 : (0 : Int) ≤ (j : Int) := by omega
            have hj1 : (j : Int) < (x.code.length : Int) := by omega
            clear ha2 hy
            go_wp2_with fail
            go_roundw
            case rel => exact ⟨⟨_, rfl⟩, ⟨j + 1, by omega, by go_num⟩, _, rfl⟩
            case measure => simp [intOf]; omega
          · have hj1 : (j : Int) < (x.code.length : Int) := by omega
            go_wp2_with fail
            go_roundw
            case rel => exact ⟨⟨_, rfl⟩, ⟨k + 1, by omega, by go_num⟩, _, rfl⟩
            case measure => simp [intOf]; omega
        · have hj1 : ¬ (j : Int) < (x.code.length : Int) := by omega
          go_wp2_with fail
          go_roundw
          case rel => exact ⟨⟨_, rfl⟩, ⟨k + 1, by omega, by go_num⟩, _, rfl⟩
          case measure => simp [intOf]; omega
     · have hi1 : (k : Int) < (p.funs.length : Int) := by omega
       go_wp2_with fail
       go_meet
       case rel => exact ⟨⟨_, rfl⟩, _, rfl⟩
   · have hi1 : ¬ (k : Int) < (p.funs.length : Int) := by omega
     go_wp2_with fail
     go_meet
     case rel => exact ⟨⟨_, rfl⟩, _, rfl⟩
 case rest =>
 obtain ⟨⟨v3, rfl⟩, m3, rfl⟩ := hcut
 have hbn := Lh (hst.out.trans (⟨rfl, rfl, rfl, Nat.le_refl _, fun _ _ => rfl⟩ : Below w.heap.size W0 (W0.drewN m3)))
 by_cases hv : 3000 ≤ v3
 · go_wp2_with fail
   go_ret
   exact ⟨⟨_, rfl⟩, hbn.out⟩
 · go_wp2_with fail
   go_ret
   exact ⟨⟨_, rfl⟩, hbn.out⟩
end Go.Proofs.YthiiahlgncngoaaDoorRR.Cd
set_option linter.unusedVariables false
set_option linter.unusedSimpArgs false
namespace Go.Proofs.YthiiahlgncngoaaDoorRR.Fw
open Go Go.RowKit
open Go.Proofs.YthiiahlgncngoaaDoorRR.Lx Go.Proofs.YthiiahlgncngoaaDoorRR.Tr Go.Proofs.YthiiahlgncngoaaDoorRR.Cd
def Fm0 : Fm := ⟨none, 0, [], none, 0, [], none, 0, []⟩
theorem fm0_in (W : World) : Fm.In W Fm0 := ⟨row_none _ _, fun m hm => (by cases hm), row_none _ _, fun m hm => (by cases hm), row_none _ _, fun m hm => (by cases hm)⟩
/-- what Of makes may be written over -/
structure PRes (B : Nat) (x : Fm) (W : World) : Prop where
 mem : Fm.In W x
 wr : ∀ g ∈ x.funs, ∀ b ∈ g.blocks, WrB B b W
 lk : W.ownsRow B 9 1 (.slice x.la x.locks.length x.lcap) x.locks.length (Ze x.locks)
 fr : W.ownsRow B 37 5 (.slice x.fa x.funs.length x.fcap) x.funs.length (Xb x.funs)
 br : ∀ g ∈ x.funs, W.ownsRow B 42 4 (.slice g.ba g.blocks.length g.bcap) g.blocks.length (Qu g.blocks)
theorem GrQ.bk {B : Nat} {l : List Ins} {ba : Option Addr} {bcap : Nat} {L : List Bk} {W : World} (h : GrQ B l ba bcap L W) (h0 : 0 < l.length) : W.ownsRow B 42 4 (.slice ba L.length bcap) L.length (Qu L) := by
 obtain ⟨g, g2, bs, m, a7, c7, fa, fc, k1, k2, k3, rfl, k5, _⟩ := h
 have := k2.le (by rw [k1.mlen]; exact h0)
 exact Xc k5.to (by omega)
theorem of_any (p : Pg) (w : World) (hp : Pg.In w Tt p) (hT : OpTab w) (hsg : SignsIn w) (hS : Sml p) :
 Calls Tryd.prog 8 #[p.val] w fun e w' => ∃ x : Fm, e = .returned (.tuple #[.agg ⟨x.vals⟩, .int .i64 (if mayP p = true then 0 else 4)]) ∧ PRes w.heap.size x w' ∧ ((mayP p = true ∧ FmO w.heap.size p x w') ∨ (mayP p = false ∧ x = Fm0)) ∧ Below w.heap.size w w' := by
 have hsum := hS.sum
 cases hm : mayP p
 · refine (ofno_c p w hp hT hsg (by omega) hm).mono ?_
   rintro e w' ⟨rfl, h⟩
   exact ⟨Fm0, rfl, ⟨fm0_in _, fun g hg => (by cases hg), World.ownsRow_nil _ _ _ _, World.ownsRow_nil _ _ _ _, fun g hg => (by cases hg)⟩, .inr ⟨rfl, rfl⟩, h⟩
 · refine (ofyes_c p w hp hT hsg (by omega) hm).mono ?_
   rintro e w' ⟨x, rfl, h1, h2⟩
   refine ⟨x, rfl, ⟨h1.in hp hm, h1.wr hm, h1.srow, h1.frow, fun g hg => ?_⟩, .inl ⟨rfl, h1⟩, h2⟩
   obtain ⟨i, hi⟩ := List.mem_iff_getElem?.1 hg
   have hl : i < p.funs.length := by rw [← h1.len]; exact (List.getElem?_eq_some_iff.1 hi).1
   have hf : p.funs[i]? = some p.funs[i] := List.getElem?_eq_getElem hl
   exact (h1.grs i _ g hf hi).q.bk (fun_ok hm (List.mem_of_getElem? hf)).1
theorem rof_any (p : Pg) (w : World) (hp : Pg.In w Tt p) (hS : Sml p) :
 Calls Tryd.prog 7 #[p.val] w fun e w' => ∃ x : Fm, e = .returned (.tuple #[.agg ⟨x.vals⟩, .int .i64 (if mayP p = true then 0 else 4)]) ∧ Fm.In w' x ∧ ((mayP p = true ∧ FdO w.heap.size p x w') ∨ (mayP p = false ∧ x = Fm0)) ∧ Below w.heap.size w w' := by
 cases hm : mayP p
 · refine (rofno_c p w hp hS hm).mono ?_
   rintro e w' ⟨rfl, h⟩
   exact ⟨Fm0, rfl, fm0_in _, .inr ⟨rfl, rfl⟩, h⟩
 · refine (rofyes_c p w hp hS hm).mono ?_
   rintro e w' ⟨x, rfl, h1, h2⟩
   exact ⟨x, rfl, h1.in (hp.below (Kps.of_below h2)) hm, .inl ⟨rfl, h1⟩, h2⟩
theorem any_same {B B' : Nat} {p : Pg} {x y : Fm} {W V : World} (h : (mayP p = true ∧ FmO B p x W) ∨ (mayP p = false ∧ x = Fm0)) (h' : (mayP p = true ∧ FdO B' p y V) ∨ (mayP p = false ∧ y = Fm0)) : sameFm x y = true := by
 rcases h with ⟨h, h1⟩ | ⟨h, rfl⟩ <;> rcases h' with ⟨k, h2⟩ | ⟨k, rfl⟩
 · exact of_same h1 h2
 · rw [h] at k; cases k
 · rw [h] at k; cases k
 · exact sameFm_refl _
theorem PRes.keep {B : Nat} {x : Fm} {W V : World} (h : PRes B x W) (hb : Below W.heap.size W V) (hm : Fm.In V x) : PRes B x V :=
 ⟨hm, fun g hg b hx => ⟨fun k y hy => by
  obtain ⟨q, off, cur, h1, h2, h3, h4, h5⟩ := (h.wr g hg b hx).code k y hy
  exact ⟨q, off, cur, h1, h2, (hb.block q (Array.getElem?_eq_some_iff.1 h3).1).trans h3, h4, Qn h5 hb⟩, Qn (h.wr g hg b hx).to hb⟩, Qn h.lk hb, Qn h.fr hb, fun g hg => Qn (h.br g hg) hb⟩
theorem Chg.own {B B' c n : Nat} {e : TypeId} {v : Value} {xs : List Value} {W V : World} (h : Chg B W V) (hr : W.ownsRow B' e c v n xs) (h1 : e ≠ 44) (h2 : e ≠ 3) (h3 : e ≠ 9) : V.ownsRow B' e c v n xs :=
 ⟨hr.1, hr.2.imp id fun ⟨g, cap, cur, hv, hB, hh, hx⟩ => ⟨g, cap, cur, hv, hB, h.keep g cur e hh h1 h2 h3, hx⟩⟩
end Go.Proofs.YthiiahlgncngoaaDoorRR.Fw
