/- Walks of thread and blocks: the blocks of a program of one thread. Conditions: the program may be; the packages' tables hold their lists. Walk of works. Conditions: the packages' tables hold their lists. -/
import Derived.Test.YtkmlhijnkilfpaaDoorJOj
set_option linter.unusedVariables false
set_option linter.unusedSimpArgs false
namespace Go.Proofs.YtkmlhijnkilfpaaDoor.Fw
open Go Go.RowKit
open Go.Proofs.YtkmlhijnkilfpaaDoor.Lx Go.Proofs.YtkmlhijnkilfpaaDoor.Tr Go.Proofs.YtkmlhijnkilfpaaDoor.Cd

def thF (l : List Ins) (a : Option Addr) (cap : Nat) : Cd.Fn := ⟨⟨#[116]⟩, true, 0, 4, a, cap, l⟩
def thP (l : List Ins) (a : Option Addr) (cap : Nat) (q : Nat) : Pg := ⟨none, 0, [], none, 0, [], some ⟨q, 0, none⟩, 1, [thF l a cap]⟩
set_option maxHeartbeats 4000000 in
set_option maxRecDepth 100000 in
theorem thread_c (l : List Ins) (a : Option Addr) (cap : Nat) (w : World) :
    Calls Tryd.prog 87 #[.int .i64 4, .slice a l.length cap] w fun e w' => ∃ q, e = .returned (thP l a cap q).val ∧ w'.heap[q]? = some (.cells ⟨(thF l a cap).vals⟩ 52 (0, 0)) ∧ Below w.heap.size w w' := by
  have hb0 := b_alloc w (.cells #[.slice none 0 0, .slice none 0 0, .slice none 0 0] 26)
  go_enter Tryd.func87, Tryd.ntmps87
  go_wp2_with fail
  have hh : ((w.alloc (.cells #[.slice none 0 0, .slice none 0 0, .slice (some ⟨w.heap.size + 1, 0, none⟩) 1 1] 26)).alloc (.cells #[.string ⟨#[116]⟩, .bool true, .int .i64 0, .int .i64 4, .slice a l.length cap] 52)).heap[w.heap.size]? = some (.cells #[.slice none 0 0, .slice none 0 0, .slice (some ⟨w.heap.size + 1, 0, none⟩) 1 1] 26 (0, 0)) :=
    ((b_alloc _ _).block _ (by simp)).trans (blk_new _ _ rfl)
  exact bodyPost_ret (v := .agg #[.slice none 0 0, .slice none 0 0, .slice (some ⟨w.heap.size + 1, 0, none⟩) 1 1]) (results_cell_row Tryd.results87 _ _ w.heap.size _ _ _ _ rfl hh Tryd.underlying26 rfl (by kernel_rfl)) rfl ⟨w.heap.size + 1, rfl, blk_new _ _ (by simp), b_alloc2 _ _ _⟩
theorem GrO.low {B B' : Nat} {f : Cd.Fn} {x : Gr} {W : World} (h : GrO B f x W) (hB : B' ≤ B) : GrO B' f x W := ⟨h.name, h.thread, h.params, h.regs, h.q.low hB⟩
theorem th_in {l : List Ins} {a : Option Addr} {cap q : Nat} {W : World} (hrow : RowAt W Tt a cap l.length (inCells l)) (hin : ∀ y ∈ l, Ins.In W Tt y) (hq : W.heap[q]? = some (.cells ⟨(thF l a cap).vals⟩ 52 (0, 0))) : Pg.In W Tt (thP l a cap q) := by
  refine ⟨row_none _ _, fun m hm => (by cases hm), row_none _ _, fun s hs => (by cases hs), ⟨Nat.le_refl _, by show 1 ≤ maxLen; unfold maxLen; decide, fun e => (by cases e), fun j u hu => ⟨q, 0, rfl, trivial, ?_⟩⟩, fun f hf => ?_⟩
  · rw [Nat.zero_add]
    refine blk_cell hq ?_
    have : fnCells [thF l a cap] = (thF l a cap).vals := by simp [fnCells]
    rw [show (thP l a cap q).funs = [thF l a cap] from rfl, this] at hu
    simpa using hu
  · rw [show (thP l a cap q).funs = [thF l a cap] from rfl, List.mem_singleton] at hf
    subst hf
    exact ⟨by show (1 : Nat) ≤ maxLen; unfold maxLen; decide, by show I64 0; unfold I64; omega, by show I64 4; unfold I64; omega, hrow, hin⟩
set_option maxHeartbeats 4000000 in
set_option maxRecDepth 100000 in
theorem blocks_c (l : List Ins) (a : Option Addr) (cap : Nat) (w : World) (hrow : RowAt w Tt a cap l.length (inCells l)) (hin : ∀ y ∈ l, Ins.In w Tt y) (hT : OpTab w) (hsg : SignsIn w) (hm : ∀ q, mayP (thP l a cap q) = true) :
    Calls Tryd.prog 46 #[.slice a l.length cap] w fun e w' => ∃ x : Gr, e = .returned (.slice x.ba x.blocks.length x.bcap) ∧ GrO w.heap.size (thF l a cap) x w' ∧ Below w.heap.size w w' := by
  have hth := Lib.hid (thread_c l a cap w)
  have hof := Lib.hid (fun V q (hv : Below w.heap.size w V) (hq : V.heap[q]? = some (.cells ⟨(thF l a cap).vals⟩ 52 (0, 0))) => ofyes_c (thP l a cap q) V (th_in (hrow.below (Kps.of_below hv)) (fun y hy => (hin y hy).below (Kps.of_below hv)) hq) (hT.keep hv) (hsg.below hsg.lt hv) (by show 0 + 0 + 1 ≤ 1099511627776; decide) (hm q))
  obtain ⟨hc1, hc2⟩ := len_i hrow
  clear hrow hin hT hsg hm
  go_enter Tryd.func46, Tryd.ntmps46
  go_wp2_with fail
  refine hth.out.mono ?_
  rintro e w1 ⟨q, rfl, hq, hb1⟩
  have hof1 := Lib.hid (hof.out w1 q hb1 hq)
  replace hb1 := Lib.hid hb1
  clear hth hof hq
  have hv : (thP l a cap q).val = .agg #[.slice none 0 0, .slice none 0 0, .slice (some ⟨q, 0, none⟩) 1 1] := rfl
  rw [hv] at hof1
  rw [hv]
  clear hv
  go_wp2_with fail
  refine hof1.out.mono ?_
  rintro e w2 ⟨x, rfl, hx, hb2⟩
  obtain ⟨g, hg⟩ : ∃ g, x.funs = [g] := by
    have := hx.len
    exact List.length_eq_one_iff.1 this
  have hgo := Lib.hid ((hx.grs 0 (thF l a cap) g rfl (by rw [hg]; rfl)))
  have hfr := hx.frow
  have hbx := Lib.hid (hb1.out.trans (hb2.mono hb1.out.size))
  obtain ⟨ma, mc, ms, la, lc, ls, fa, fc, fs⟩ := x
  simp only at hg hfr
  subst hg
  have hbl := b_alloc w2 (.cells #[.slice ma ms.length mc, .slice la ls.length lc, .slice fa 1 fc] 30)
  obtain ⟨q1, c1, e1, r1⟩ : ∃ q1 c1, fa = some ⟨q1, 0, none⟩ ∧ w2.cell? ⟨q1, 4, none⟩ = some (.slice g.ba g.blocks.length g.bcap) := by
    rcases hfr.2 with ⟨_, h0⟩ | ⟨q1, cap, cur, hv, _, hh, k1, k2, k3, k4⟩
    · simp at h0
    · have e1 : fa = some ⟨q1, 0, none⟩ := by injection hv
      refine ⟨q1, 0, e1, blk_cell hh ?_⟩
      have : (grCells [g])[4]? = some (.slice g.ba g.blocks.length g.bcap) := rfl
      rw [← k4, List.getElem?_take, if_pos (by simp)] at this
      simpa using this
  subst e1
  have hlq := World.block_lt_of_cell? _ _ r1
  have hfv : Value.agg ⟨(⟨ma, mc, ms, la, lc, ls, some ⟨q1, 0, none⟩, fc, [g]⟩ : Fm).vals⟩ = .agg #[.slice ma ms.length mc, .slice la ls.length lc, .slice (some ⟨q1, 0, none⟩) 1 fc] := rfl
  rw [hfv]
  have hfin := Lib.hid (⟨g, rfl, (hgo.out.keep hbl).low hb1.out.size, hbx.out.trans (hbl.mono hbx.out.size)⟩ : ∃ x : Gr, Ending.returned (.slice g.ba g.blocks.length g.bcap) = .returned (.slice x.ba x.blocks.length x.bcap) ∧ GrO w.heap.size (thF l a cap) x (w2.alloc (.cells #[.slice ma ms.length mc, .slice la ls.length lc, .slice (some ⟨q1, 0, none⟩) 1 fc] 30)) ∧ Below w.heap.size w (w2.alloc (.cells #[.slice ma ms.length mc, .slice la ls.length lc, .slice (some ⟨q1, 0, none⟩) 1 fc] 30)))
  clear hx hfr hgo hbx hbl hb2 hof1 hfv
  go_wp2_with fail
  go_ret
  exact hfin.out
end Go.Proofs.YtkmlhijnkilfpaaDoor.Fw
set_option linter.unusedVariables false
set_option linter.unusedSimpArgs false
namespace Go.Proofs.YtkmlhijnkilfpaaDoor.Fw
open Go Go.RowKit
open Go.Proofs.YtkmlhijnkilfpaaDoor.Lx Go.Proofs.YtkmlhijnkilfpaaDoor.Tr Go.Proofs.YtkmlhijnkilfpaaDoor.Cd

abbrev opI (op n : Int) : Ins := ⟨op, 0, 0, 0, n, none, 0, []⟩
set_option maxRecDepth 100000 in
theorem set_c (w : World) : Calls Tryd.prog 47 #[] w fun e w' => e = .returned (.agg ⟨(opI 1 0).vals⟩) ∧ Below w.heap.size w w' := by
  go_enter Tryd.func47, Tryd.ntmps47
  go_wp2_with fail
  exact bodyPost_ret (v := .agg ⟨(opI 1 0).vals⟩) (results_cell_row Tryd.results47 _ _ w.heap.size _ _ _ _ rfl (blk_new _ _ rfl) Tryd.underlying44 rfl (by kernel_rfl)) rfl ⟨rfl, b_alloc _ _⟩
set_option maxRecDepth 100000 in
theorem back_c (w : World) : Calls Tryd.prog 50 #[] w fun e w' => e = .returned (.agg ⟨(opI 13 0).vals⟩) ∧ Below w.heap.size w w' := by
  go_enter Tryd.func50, Tryd.ntmps50
  go_wp2_with fail
  exact bodyPost_ret (v := .agg ⟨(opI 13 0).vals⟩) (results_cell_row Tryd.results50 _ _ w.heap.size _ _ _ _ rfl (blk_new _ _ rfl) Tryd.underlying44 rfl (by kernel_rfl)) rfl ⟨rfl, b_alloc _ _⟩
set_option maxRecDepth 100000 in
theorem jump_c (n : Int) (w : World) : Calls Tryd.prog 49 #[.int .i64 n] w fun e w' => e = .returned (.agg ⟨(opI 11 n).vals⟩) ∧ Below w.heap.size w w' := by
  go_enter Tryd.func49, Tryd.ntmps49
  go_wp2_with fail
  exact bodyPost_ret (v := .agg ⟨(opI 11 n).vals⟩) (results_cell_row Tryd.results49 _ _ w.heap.size _ _ _ _ rfl (blk_new _ _ rfl) Tryd.underlying44 rfl (by kernel_rfl)) rfl ⟨rfl, b_alloc _ _⟩
set_option maxRecDepth 100000 in
theorem branch_c (n : Int) (w : World) : Calls Tryd.prog 48 #[.int .i64 n] w fun e w' => e = .returned (.agg ⟨(opI 12 n).vals⟩) ∧ Below w.heap.size w w' := by
  go_enter Tryd.func48, Tryd.ntmps48
  go_wp2_with fail
  exact bodyPost_ret (v := .agg ⟨(opI 12 n).vals⟩) (results_cell_row Tryd.results48 _ _ w.heap.size _ _ _ _ rfl (blk_new _ _ rfl) Tryd.underlying44 rfl (by kernel_rfl)) rfl ⟨rfl, b_alloc _ _⟩
def l5 : List Ins := [opI 1 0, opI 12 3, opI 11 0, opI 1 0, opI 13 0]
set_option maxRecDepth 100000 in
theorem l5_may (a : Option Addr) (cap q : Nat) : mayP (thP l5 a cap q) = true := by kernel_rfl
set_option maxRecDepth 100000 in
theorem l5_shape : shpBs (skG l5) = [62, 49, 60, 32, 99, 114, 62, 50, 51, 60, 48, 50, 32, 106, 62, 49, 60, 49, 32, 99, 120, 62, 60, 49, 32] := by kernel_rfl
theorem op_in (W : World) (op n : Int) (h : U8 op) (k : I64 n) : Ins.In W Tt (opI op n) := ⟨h, by show I64 0; unfold I64; omega, by show I64 0; unfold I64; omega, by show I64 0; unfold I64; omega, k, row_none _ _, fun y hy => by cases hy⟩
/-- blocks and shape, one behind the other -/
theorem blocks_shape (l : List Ins) (a : Option Addr) (cap : Nat) (w : World) (hrow : RowAt w Tt a cap l.length (inCells l)) (hin : ∀ y ∈ l, Ins.In w Tt y) (hT : OpTab w) (hsg : SignsIn w) (hm : ∀ q, mayP (thP l a cap q) = true) (s : List UInt8) (hs : shpBs (skG l) = s) (hsz : s.length ≤ 1000000) :
    Calls Tryd.prog 46 #[.slice a l.length cap] w fun e w' => (∃ v, e = .returned v ∧ Calls Tryd.prog 45 #[v] w' fun e w2 => e = .returned (.string (strU s)) ∧ Below w'.heap.size w' w2) ∧ Below w.heap.size w w' := by
  refine (blocks_c l a cap w hrow hin hT hsg hm).mono ?_
  rintro e w' ⟨x, rfl, hx, hb⟩
  refine ⟨⟨_, rfl, ?_⟩, hb⟩
  have hok := fun_ok (hm 0) (f := thF l a cap) (by show thF l a cap ∈ [thF l a cap]; simp)
  obtain ⟨h1, h2, h3, h4, h5⟩ := hok
  have hop : ∀ z ∈ l, 0 ≤ z.op ∧ z.op < 14 := fun z hz => by
    obtain ⟨_, _, _, _, h7⟩ := mayP_parts (hm 0)
    have h8 := List.all_eq_true.1 h7 (thF l a cap) (by show thF l a cap ∈ [thF l a cap]; simp)
    unfold codeP at h8
    simp only [Bool.and_eq_true] at h8
    have h9 := List.all_eq_true.1 h8.1.2 z hz
    unfold mayF knownP at h9
    simp only [Bool.and_eq_true, decide_eq_true_eq] at h9
    omega
  have := shape_of hx h1 h2 h5 hop (by show (shpBs (skG l)).length ≤ _; rw [hs]; exact hsz)
  rw [show (thF l a cap).code = l from rfl, hs] at this
  exact this
set_option maxHeartbeats 4000000 in
set_option maxRecDepth 100000 in
theorem works_c (w : World) (hT : OpTab w) (hsg : SignsIn w) : Calls Tryd.prog 18 #[] w fun e w' => e = .returned (.bool true) ∧ Below w.heap.size w w' := by
  have hbs := Lib.hid (fun V (hv : Below w.heap.size w V) a cap (hrow : RowAt V Tt a cap l5.length (inCells l5)) => blocks_shape l5 a cap V hrow (fun y hy => by
    unfold l5 at hy
    simp only [List.mem_cons, List.not_mem_nil, or_false] at hy
    rcases hy with rfl | rfl | rfl | rfl | rfl <;> exact op_in _ _ _ (by unfold U8; omega) (by unfold I64; omega)) (hT.keep hv) (hsg.below hsg.lt hv) (l5_may a cap) _ l5_shape (by decide))
  clear hT hsg
  have hset := Lib.hid set_c
  have hback := Lib.hid back_c
  have hjump := Lib.hid jump_c
  have hbranch := Lib.hid branch_c
  go_enter Tryd.func18, Tryd.ntmps18
  go_wp2_with fail
  refine (hset.out w).mono ?_
  rintro e w1 ⟨rfl, hb1⟩
  go_wp2_with fail
  refine (hbranch.out 3 w1).mono ?_
  rintro e w2 ⟨rfl, hb2⟩
  go_wp2_with fail
  refine (hjump.out 0 w2).mono ?_
  rintro e w3 ⟨rfl, hb3⟩
  go_wp2_with fail
  refine (hset.out w3).mono ?_
  rintro e w4 ⟨rfl, hb4⟩
  go_wp2_with fail
  refine (hback.out w4).mono ?_
  rintro e w5 ⟨rfl, hb5⟩
  have hb := Lib.hid (hb1.trans ((hb2.trans ((hb3.trans ((hb4.trans (hb5.mono hb4.size)).mono hb3.size)).mono hb2.size)).mono hb1.size))
  clear hb1 hb2 hb3 hb4 hb5 hset hback hjump hbranch
  unfold opI Ins.vals
  go_wp2_with fail
  have hbl := b_alloc w5 (.cells ⟨inCells l5⟩ 44)
  have hrow : RowAt (w5.alloc (.cells ⟨inCells l5⟩ 44)) Tt (some ⟨w5.heap.size, 0, none⟩) 5 l5.length (inCells l5) := ⟨Nat.le_refl _, by unfold maxLen; decide, fun e => (by cases e), fun j u hu => ⟨w5.heap.size, 0, rfl, trivial, by rw [Nat.zero_add]; exact box_new w5 (inCells l5) _ j u hu⟩⟩
  have hcall := hbs.out _ (hb.out.trans (hbl.mono hb.out.size)) _ _ hrow
  have hbx := Lib.hid (hb.out.trans (hbl.mono hb.out.size))
  clear hbs hrow hbl hb
  refine Calls.mono (show Calls Tryd.prog 46 _ (w5.alloc (.cells ⟨inCells l5⟩ 44)) _ from hcall) ?_
  rintro e w6 ⟨⟨v, rfl, hsh⟩, hb6⟩
  rw [show strU [62, 49, 60, 32, 99, 114, 62, 50, 51, 60, 48, 50, 32, 106, 62, 49, 60, 49, 32, 99, 120, 62, 60, 49, 32] = ⟨#[62, 49, 60, 32, 99, 114, 62, 50, 51, 60, 48, 50, 32, 106, 62, 49, 60, 49, 32, 99, 120, 62, 60, 49, 32]⟩ from rfl] at hsh
  have hby := Lib.hid (hbx.out.trans (hb6.mono hbx.out.size))
  replace hsh := Lib.hid hsh
  clear hb6 hbx hcall
  go_wp2_with fail
  refine hsh.out.mono ?_
  rintro e w7 ⟨rfl, hb7⟩
  have hbz := Lib.hid (hby.out.trans (hb7.mono hby.out.size))
  clear hb7 hby hsh
  go_wp2_with fail
  go_ret
  exact ⟨rfl, hbz.out⟩
end Go.Proofs.YtkmlhijnkilfpaaDoor.Fw
