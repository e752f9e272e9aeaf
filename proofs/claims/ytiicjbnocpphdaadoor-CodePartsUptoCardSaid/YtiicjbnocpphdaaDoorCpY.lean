/- large: it answers yes or no, and all stays. Conditions: the program lies in memory. CodeParts answers true. Conditions: the program and the instruction lie in memory; their lists are of bounded length; the packages' tables hold their lists. -/
import Derived.Test.YtiicjbnocpphdaaDoorCfF
import Derived.Deep.CutBlock
import Derived.Deep.DeepCutAuto
import Derived.Test.YtiicjbnocpphdaaDoorCpX
import Derived.Test.YtiicjbnocpphdaaDoorCsX
namespace Go.Proofs.YtiicjbnocpphdaaDoor.Cd
open Go Go.RowKit
open Go.Proofs.YtiicjbnocpphdaaDoor.Lx Go.Proofs.YtiicjbnocpphdaaDoor.Tr Go.Proofs.YtiicjbnocpphdaaDoor.Pa

theorem no_lt {k n : Nat} {v : Int} (h : ¬ (k < n ∧ v < 40000)) (hk : k < n) : ¬ v < 40000 := fun h2 => h ⟨hk, h2⟩
/-- yes or no -/
def IsB (e : Ending) : Prop := ∃ b, e = .returned (.bool b)
set_option maxHeartbeats 8000000 in
set_option maxRecDepth 100000 in
theorem large_any (p : Pg) (w : World) (hp : Pg.In w (fun _ => True) p) :
    Calls Tryd.prog 12 #[p.val] w fun e w' => IsB e ∧ Below w.heap.size w w' := by
  obtain ⟨hm1, hm2⟩ := len_i hp.mrow
  obtain ⟨hl1, hl2⟩ := len_i hp.lrow
  obtain ⟨hf1, hf2⟩ := len_i hp.frow
  have hst : Hid (Below w.heap.size w (w.alloc (.cells #[.slice p.ma p.mems.length p.mcap, .slice p.la p.locks.length p.lcap, .slice p.fa p.funs.length p.fcap] 27))) := Lib.hid (b_alloc _ _)
  have hbx := pg_cells (p := p) (box_new w p.vals 27)
  have hq : Pg.In (w.alloc (.cells #[.slice p.ma p.mems.length p.mcap, .slice p.la p.locks.length p.lcap, .slice p.fa p.funs.length p.fcap] 27)) (fun _ => True) p := hp.below (Kps.of_below hst.out)
  replace hbx : Hid ((w.alloc (.cells #[.slice p.ma p.mems.length p.mcap, .slice p.la p.locks.length p.lcap, .slice p.fa p.funs.length p.fcap] 27)).cell? ⟨w.heap.size, 0, none⟩ = some (.slice p.ma p.mems.length p.mcap) ∧ (w.alloc (.cells #[.slice p.ma p.mems.length p.mcap, .slice p.la p.locks.length p.lcap, .slice p.fa p.funs.length p.fcap] 27)).cell? ⟨w.heap.size, 1, none⟩ = some (.slice p.la p.locks.length p.lcap) ∧ (w.alloc (.cells #[.slice p.ma p.mems.length p.mcap, .slice p.la p.locks.length p.lcap, .slice p.fa p.funs.length p.fcap] 27)).cell? ⟨w.heap.size, 2, none⟩ = some (.slice p.fa p.funs.length p.fcap)) := Lib.hid hbx
  replace hq := Lib.hid hq
  clear hp
  go_enter Tryd.func12, Tryd.ntmps12
  go_upto_block 0 with fail
  generalize hW0 : w.alloc (.cells #[.slice p.ma p.mems.length p.mcap, .slice p.la p.locks.length p.lcap, .slice p.fa p.funs.length p.fcap] 27) = W0 at *
  clear hW0
  obtain ⟨g0, g1, g2⟩ := hbx.out
  go_cut [3, 4] from 17 to 37 (fun n i wx => (∃ v, n = .int .i64 v) ∧ ∃ m, wx = W0.drewN m)
  case first =>
    go_wp2_with fail
    go_loopw [3, 4] (fun n i wr => (∃ v, n = .int .i64 v) ∧ (∃ k : Nat, k ≤ p.mems.length ∧ i = .int .i64 k) ∧ ∃ m, wr = W0.drewN m) (fun _ i _ => p.mems.length - (intOf i).toNat)
    case atStart => exact ⟨⟨_, rfl⟩, ⟨0, Nat.zero_le _, rfl⟩, 0, rfl⟩
    case round =>
      obtain ⟨⟨v, rfl⟩, ⟨k, hk, rfl⟩, m0, rfl⟩ := hrel
      by_cases hkl : k < p.mems.length
      · by_cases hv : v < 40000
        · obtain ⟨x, hx⟩ : ∃ x, p.mems[k]? = some x := ⟨_, List.getElem?_eq_getElem hkl⟩
          obtain ⟨b, off, ha, _, c0, c1, c2⟩ := mm_row hq.out.mrow k x hx
          rw [ha] at g0
          have hi0 : (0 : Int) ≤ (k : Int) := by omega
          have hi1 : (k : Int) < (p.mems.length : Int) := by omega
          clear ha hx
          go_wp2_with fail
          go_roundw
          case rel => exact ⟨⟨_, rfl⟩, ⟨k + 1, by omega, by go_num⟩, _, rfl⟩
          case measure => simp [intOf]; omega
        · have hi1 : (k : Int) < (p.mems.length : Int) := by omega
          go_wp2_with fail
          go_meet
          case rel => exact ⟨⟨_, rfl⟩, _, rfl⟩
      · have hi1 : ¬ (k : Int) < (p.mems.length : Int) := by omega
        go_wp2_with fail
        go_meet
        case rel => exact ⟨⟨_, rfl⟩, _, rfl⟩
  case rest =>
  obtain ⟨⟨v1, rfl⟩, m1, rfl⟩ := hcut
  go_upto_block 2 with fail
  go_cut [3, 5] from 38 to 57 (fun n i wx => (∃ v, n = .int .i64 v) ∧ ∃ m, wx = W0.drewN m)
  case first =>
    go_wp2_with fail
    go_loopw [3, 5] (fun n i wr => (∃ v, n = .int .i64 v) ∧ (∃ k : Nat, k ≤ p.locks.length ∧ i = .int .i64 k) ∧ ∃ m, wr = W0.drewN m) (fun _ i _ => p.locks.length - (intOf i).toNat)
    case atStart => exact ⟨⟨_, rfl⟩, ⟨0, Nat.zero_le _, rfl⟩, _, rfl⟩
    case round =>
      obtain ⟨⟨v, rfl⟩, ⟨k, hk, rfl⟩, m0, rfl⟩ := hrel
      by_cases hkl : k < p.locks.length
      · by_cases hv : v < 40000
        · obtain ⟨x, hx⟩ : ∃ x, p.locks[k]? = some x := ⟨_, List.getElem?_eq_getElem hkl⟩
          obtain ⟨b, off, ha, _, c0⟩ := str_row hq.out.lrow k x hx
          rw [ha] at g1
          have hi0 : (0 : Int) ≤ (k : Int) := by omega
          have hi1 : (k : Int) < (p.locks.length : Int) := by omega
          clear ha hx
          go_wp2_with fail
          go_roundw
          case rel => exact ⟨⟨_, rfl⟩, ⟨k + 1, by omega, by go_num⟩, _, rfl⟩
          case measure => simp [intOf]; omega
        · have hi1 : (k : Int) < (p.locks.length : Int) := by omega
          go_wp2_with fail
          go_meet
          case rel => exact ⟨⟨_, rfl⟩, _, rfl⟩
      · have hi1 : ¬ (k : Int) < (p.locks.length : Int) := by omega
        go_wp2_with fail
        go_meet
        case rel => exact ⟨⟨_, rfl⟩, _, rfl⟩
  case rest =>
  obtain ⟨⟨v2, rfl⟩, m2, rfl⟩ := hcut
  go_upto_block 4 with fail
  go_cut [3, 6, 7] from 58 to 115 (fun n i j wx => (∃ v, n = .int .i64 v) ∧ ∃ m, wx = W0.drewN m)
  case first =>
    go_wp2_with fail
    go_loopw [3, 6] (fun n i wr => (∃ v, n = .int .i64 v) ∧ (∃ k : Nat, k ≤ p.funs.length ∧ i = .int .i64 k) ∧ ∃ m, wr = W0.drewN m) (fun _ i _ => p.funs.length - (intOf i).toNat)
    case atStart => exact ⟨⟨_, rfl⟩, ⟨0, Nat.zero_le _, rfl⟩, _, rfl⟩
    case round =>
      obtain ⟨⟨v, rfl⟩, ⟨k, hk, rfl⟩, m0, rfl⟩ := hrel
      by_cases hkl : k < p.funs.length
      · by_cases hv : v < 40000
        · obtain ⟨x, hx⟩ : ∃ x, p.funs[k]? = some x := ⟨_, List.getElem?_eq_getElem hkl⟩
          obtain ⟨b, off, ha, _, c0, c1, c2, c3, c4⟩ := fn_row hq.out.frow k x hx
          have hfi := hq.out.funs x (List.mem_of_getElem? hx)
          obtain ⟨hx1, hx2⟩ := len_i hfi.row
          have hrow := Lib.hid hfi.row
          rw [ha] at g2
          have hi0 : (0 : Int) ≤ (k : Int) := by omega
          have hi1 : (k : Int) < (p.funs.length : Int) := by omega
          clear ha hx hfi
          go_wp2_with fail
          go_quiet (fail)
          go_wp2_with fail
          go_loopw [3, 7] (fun n i wr => (∃ v, n = .int .i64 v) ∧ (∃ k : Nat, k ≤ x.code.length ∧ i = .int .i64 k) ∧ ∃ m, wr = W0.drewN m) (fun _ i _ => x.code.length - (intOf i).toNat)
          case atStart => exact ⟨⟨_, rfl⟩, ⟨0, Nat.zero_le _, rfl⟩, m0 + nq, by rw [World.drewN_drewN]⟩
          case round =>
            obtain ⟨⟨v', rfl⟩, ⟨j, hj, rfl⟩, m3, rfl⟩ := hrel
            by_cases hjl : j < x.code.length
            · by_cases hv' : v' < 40000
              · obtain ⟨y, hy⟩ : ∃ y, x.code[j]? = some y := ⟨_, List.getElem?_eq_getElem hjl⟩
                obtain ⟨b2, off2, ha2, _, e0, e1, e2, e3, e4, e5⟩ := in_row hrow.out j y hy
                rw [ha2] at c4
                have hj0 : (0 : Int) ≤ (j : Int) := by omega
                have hj1 : (j : Int) < (x.code.length : Int) := by omega
                clear ha2 hy
                go_wp2_with fail
                go_roundw
                case rel => exact ⟨⟨_, rfl⟩, ⟨j + 1, by omega, by go_num⟩, _, rfl⟩
                case measure => simp [intOf]; omega
              · have hj1 : (j : Int) < (x.code.length : Int) := by omega
                go_wp2_with fail
                go_roundw
                case rel => exact ⟨⟨_, rfl⟩, ⟨k + 1, by omega, by go_num⟩, _, rfl⟩
                case measure => simp [intOf]; omega
            · have hj1 : ¬ (j : Int) < (x.code.length : Int) := by omega
              go_wp2_with fail
              go_roundw
              case rel => exact ⟨⟨_, rfl⟩, ⟨k + 1, by omega, by go_num⟩, _, rfl⟩
              case measure => simp [intOf]; omega
        · have hi1 : (k : Int) < (p.funs.length : Int) := by omega
          go_wp2_with fail
          go_meet
          case rel => exact ⟨⟨_, rfl⟩, _, rfl⟩
      · have hi1 : ¬ (k : Int) < (p.funs.length : Int) := by omega
        go_wp2_with fail
        go_meet
        case rel => exact ⟨⟨_, rfl⟩, _, rfl⟩
  case rest =>
  obtain ⟨⟨v3, rfl⟩, m3, rfl⟩ := hcut
  have hbn := Lib.hid (hst.out.trans (⟨rfl, rfl, rfl, Nat.le_refl _, fun _ _ => rfl⟩ : Below w.heap.size W0 (W0.drewN m3)))
  by_cases hv : 40000 ≤ v3
  · go_wp2_with fail
    go_ret
    exact ⟨⟨_, rfl⟩, hbn.out⟩
  · go_wp2_with fail
    go_ret
    exact ⟨⟨_, rfl⟩, hbn.out⟩
end Go.Proofs.YtiicjbnocpphdaaDoor.Cd

set_option linter.unusedSimpArgs false
set_option linter.unusedVariables false
namespace Go.Proofs.YtiicjbnocpphdaaDoor.Cd
open Go Go.RowKit
open Go.Proofs.YtiicjbnocpphdaaDoor.Lx Go.Proofs.YtiicjbnocpphdaaDoor.Tr Go.Proofs.YtiicjbnocpphdaaDoor.Pa
open Go.Proofs.YtiicjbnocpphdaaDoor.Vq Go.Proofs.YtiicjbnocpphdaaDoor.Qr
open Go.Proofs.YtiicjbnocpphdaaDoor.Qg (run_call1 run_call2 run_call3)

def Bq (B : Nat) (p : Pg) (i : Ins) (V : World) : Prop :=
  Bp1 B p V ∧ (V.cell? ⟨B + 1, 0, none⟩ = some (.int .u8 i.op) ∧ V.cell? ⟨B + 1, 1, none⟩ = some (.int .i64 i.r) ∧ V.cell? ⟨B + 1, 2, none⟩ = some (.int .i64 i.a) ∧ V.cell? ⟨B + 1, 3, none⟩ = some (.int .i64 i.b) ∧ V.cell? ⟨B + 1, 4, none⟩ = some (.int .i64 i.n) ∧ V.cell? ⟨B + 1, 5, none⟩ = some (.slice i.aa i.args.length i.acap))
theorem Bq.below {B : Nat} {p : Pg} {i : Ins} {V V' : World} (h : Bq B p i V) (hb : Below V.heap.size V V') : Bq B p i V' :=
  ⟨h.1.below hb, below_in hb h.2.1, below_in hb h.2.2.1, below_in hb h.2.2.2.1, below_in hb h.2.2.2.2.1, below_in hb h.2.2.2.2.2.1, below_in hb h.2.2.2.2.2.2⟩
theorem bq_new (w : World) (p : Pg) (i : Ins) : Bq w.heap.size p i ((w.alloc (.cells ⟨p.vals⟩ 27)).alloc (.cells ⟨i.vals⟩ 31)) := by
  have h0 := fun j u hj => below_in (b_alloc (w.alloc (.cells ⟨p.vals⟩ 27)) (.cells ⟨i.vals⟩ 31)) (box_new w p.vals 27 j u hj)
  have h1 := cells_of (t := 31) (blk_new (w.alloc (.cells ⟨p.vals⟩ 27)) (.cells ⟨i.vals⟩ 31) (b := w.heap.size + 1) (by simp))
  exact ⟨pg_cells (p := p) h0, ins_cells (i := i) h1⟩
theorem may_len {p : Pg} (h : mayP p = true) {k : Nat} {x : Fn} (hx : p.funs[k]? = some x) : 1 ≤ x.code.length ∧ x.code.length ≤ 16384 := by
  obtain ⟨_, _, _, _, h5⟩ := mayP_parts h
  have h6 := List.all_eq_true.1 h5 x (List.mem_of_getElem? hx)
  unfold codeP at h6
  simp only [Bool.and_eq_true, decide_eq_true_eq] at h6
  exact ⟨h6.1.1.1, h6.1.1.2⟩
theorem run_eqi {a : Act} {o : Oper} {t t2 : TypeId} {x y : Operand} {n m : Int} {w : World} (ht : Tryd.prog.underlying t = some (.int .i64)) (ho : o.op = .binOp .eql t x y t2) (hx : a.eval x = .int .i64 n) (hy : a.eval y = .int .i64 m) : (execOp a.eval o).run Tryd.prog w = .ok (.value (.bool (decide (n = m)))) w := by
  unfold execOp
  rw [ho]
  simp only [hx, hy]
  simp [go_sem, ht]
  try rfl
def Gf (f : Fn) : Bool × Int × Int × List Ins := (f.thread, f.params, f.regs, f.code)
theorem same_of_G {l m : List Fn} (h : l.map Gf = m.map Gf) (k : Nat) (x y : Fn) (hx : l[k]? = some x) (hy : m[k]? = some y) : x.thread = y.thread ∧ x.params = y.params ∧ x.regs = y.regs ∧ x.code = y.code := by
  have h1 : (l.map Gf)[k]? = some (Gf x) := by rw [List.getElem?_map, hx]; rfl
  rw [h, List.getElem?_map, hy] at h1
  have h2 : Gf y = Gf x := Option.some.inj h1
  unfold Gf at h2
  simp only [Prod.mk.injEq] at h2
  exact ⟨h2.1.symm, h2.2.1.symm, h2.2.2.1.symm, h2.2.2.2.symm⟩
def rs12 (p pz : Pg) (k : Nat) (i : Ins) (b : Bool) : List (Value → World → Prop) :=
  [VK pz.val, VK (.bool b), VK p.val, VK (.int .i64 k), VK (.agg ⟨i.vals⟩), VK (.bool b), VK (.bool false)]
theorem rs12_mono {p pz : Pg} {k : Nat} {i : Ins} {b : Bool} : MonoL (rs12 p pz k i b) := ⟨VK.mono, VK.mono, VK.mono, VK.mono, VK.mono, VK.mono, VK.mono, trivial⟩
def rs18 (p pz : Pg) (b : Bool) (l : Int) : List (Value → World → Prop) :=
  [VK pz.val, VK (.bool true), VK (.bool true), VK p.val, VK pz.val, VK (.bool b), VK (.int .i64 l), VK (.bool b), VK (.bool true), VK (.bool true), VK (.bool true)]
theorem rs18_mono {p pz : Pg} {b : Bool} {l : Int} : MonoL (rs18 p pz b l) := ⟨VK.mono, VK.mono, VK.mono, VK.mono, VK.mono, VK.mono, VK.mono, VK.mono, VK.mono, VK.mono, VK.mono, trivial⟩
set_option maxHeartbeats 16000000 in
set_option maxRecDepth 100000 in
theorem codeParts_law (p : Pg) (fn at_ : Int) (i : Ins) (w : World) (hp : Pg.In w (fun _ => True) p) (hi : Ins.In w (fun _ => True) i) (hfn : I64 fn) (hat : I64 at_) (hS : Sml p) (hT : OpTab w) (hsg : SignsIn w) :
    Calls Tryd.prog 5 #[p.val, .int .i64 fn, .int .i64 at_, i.val] w fun e w' => e = .returned (.bool true) ∧ Below w.heap.size w w' := by
  have hsum := hS.sum
  obtain ⟨pf1, pf2⟩ := len_i hp.frow
  obtain ⟨ar1, ar2⟩ := len_i hi.row
  have hpV : Hid (∀ V, Below w.heap.size w V → Pg.In V (fun _ => True) p) := Lib.hid fun V hV => hp.below (Kps.of_below hV)
  have hiV : Hid (∀ V, Below w.heap.size w V → Ins.In V (fun _ => True) i) := Lib.hid fun V hV => hi.below (Kps.of_below hV)
  have hTV : Hid (∀ V, Below w.heap.size w V → OpTab V) := Lib.hid fun V hV => hT.keep hV
  have hwk0 := Lib.hid (fun V (hV : Below w.heap.size w V) => works_c V (hT.keep hV) (hsg.below hsg.lt hV))
  have hlg0 := Lib.hid (fun V (hV : Below w.heap.size w V) => large_any p V (hp.below (Kps.of_below hV)))
  have hmy0 := Lib.hid (fun (q : Pg) V (hV : Below w.heap.size w V) (hq : Pg.In V (fun _ => True) q) (hs : q.mems.length + q.locks.length + q.funs.length ≤ 1048576) => may_any q V hq (hT.keep hV) (hsg.below hsg.lt hV) (by omega))
  have hin0 := Lib.hid (fun V (hV : Below w.heap.size w V) (hm : mayP p = true) => inside_any p V (hp.below (Kps.of_below hV)) hm hS (hT.keep hV))
  have hst : Hid (Below w.heap.size w ((w.alloc (.cells #[.slice p.ma p.mems.length p.mcap, .slice p.la p.locks.length p.lcap, .slice p.fa p.funs.length p.fcap] 27)).alloc (.cells #[.int .u8 i.op, .int .i64 i.r, .int .i64 i.a, .int .i64 i.b, .int .i64 i.n, .slice i.aa i.args.length i.acap] 31))) := Lib.hid (b_alloc2 _ _ _)
  have hbx : Hid (Bq w.heap.size p i ((w.alloc (.cells #[.slice p.ma p.mems.length p.mcap, .slice p.la p.locks.length p.lcap, .slice p.fa p.funs.length p.fcap] 27)).alloc (.cells #[.int .u8 i.op, .int .i64 i.r, .int .i64 i.a, .int .i64 i.b, .int .i64 i.n, .slice i.aa i.args.length i.acap] 31))) := Lib.hid (bq_new w p i)
  clear hp hi hS hT hsg
  go_enter Tryd.func5, Tryd.ntmps5
  go_upto_region 1 with fail
  generalize hW0 : ((w.alloc (.cells #[.slice p.ma p.mems.length p.mcap, .slice p.la p.locks.length p.lcap, .slice p.fa p.funs.length p.fcap] 27)).alloc (.cells #[.int .u8 i.op, .int .i64 i.r, .int .i64 i.a, .int .i64 i.b, .int .i64 i.n, .slice i.aa i.args.length i.acap] 31)) = W0 at *
  clear hW0
  have hcell : Hid (∀ V, Below W0.heap.size W0 V → Bq w.heap.size p i V ∧ Below w.heap.size w V) := Lib.hid fun V hV => ⟨hbx.out.below hV, hst.out.trans (hV.mono hst.out.size)⟩
  have hwk : Hid (∀ V, Hid (Below W0.heap.size W0 V) → Calls Tryd.prog 7 #[] V fun e V' => e = .returned (.bool true) ∧ Hid (Below W0.heap.size W0 V') ∧ Bq w.heap.size p i V') := Lib.hid fun V hV => (hwk0.out V (hcell.out V hV.out).2).mono fun e V' ⟨h1, h2⟩ => ⟨h1, Lib.hid (hV.out.trans (h2.mono hV.out.size)), (hcell.out V' (hV.out.trans (h2.mono hV.out.size))).1⟩
  have hlg : Hid (∀ V, Hid (Below W0.heap.size W0 V) → Calls Tryd.prog 12 #[p.val] V fun e V' => IsB e ∧ Hid (Below W0.heap.size W0 V') ∧ Bq w.heap.size p i V') := Lib.hid fun V hV => (hlg0.out V (hcell.out V hV.out).2).mono fun e V' ⟨h1, h2⟩ => ⟨h1, Lib.hid (hV.out.trans (h2.mono hV.out.size)), (hcell.out V' (hV.out.trans (h2.mono hV.out.size))).1⟩
  have hb0 : Hid (Below W0.heap.size W0 W0) := Lib.hid (Below.refl _ _)
  clear hst hwk0 hlg0
  unfold Pg.val at hlg
  obtain ⟨mp, hmp⟩ : ∃ mp, mayP p = mp := ⟨_, rfl⟩
  have hmy : Hid (∀ V, Hid (Below W0.heap.size W0 V) → Calls Tryd.prog 13 #[p.val] V fun e V' => e = .returned (.bool mp) ∧ Hid (Below W0.heap.size W0 V') ∧ Bq w.heap.size p i V') := Lib.hid fun V hV => by
    have hbw := (hcell.out V hV.out).2
    refine (hmy0.out p V hbw (hpV.out V hbw) hsum).mono fun e V' ⟨h1, h2⟩ => ?_
    rw [hmp] at h1
    exact ⟨h1, Lib.hid (hV.out.trans (h2.mono hV.out.size)), (hcell.out V' (hV.out.trans (h2.mono hV.out.size))).1⟩
  unfold Pg.val at hmy
  obtain ⟨⟨x0, x1, x2⟩, z0, z1, z2, z3, z4, z5⟩ := hbx.out
  clear hbx
  go_wp2_with (go_at_call 7; refine (hwk.out _ (by assumption)).mono ?_; rintro e V ⟨rfl, hbV, ⟨x0, x1, x2⟩, z0, z1, z2, z3, z4, z5⟩)
  refine (hlg.out _ (by assumption)).mono ?_
  rintro e V1 ⟨⟨bl, rfl⟩, hbV1, ⟨x0, x1, x2⟩, z0, z1, z2, z3, z4, z5⟩
  cases bl with
  | true =>
    go_wp2_with (first | (go_at_call 7; refine (hwk.out _ (by assumption)).mono ?_; rintro e V ⟨rfl, hbV, ⟨x0, x1, x2⟩, z0, z1, z2, z3, z4, z5⟩) | (go_at_call 13; refine (hmy.out _ (by assumption)).mono ?_; rintro e V ⟨rfl, hbV, ⟨x0, x1, x2⟩, z0, z1, z2, z3, z4, z5⟩))
    go_ret
    exact ⟨rfl, (hcell.out _ hbV.out).2⟩
  | false =>
  by_cases g1 : (100 : Int) < (i.args.length : Int)
  · go_wp2_with (first | (go_at_call 7; refine (hwk.out _ (by assumption)).mono ?_; rintro e V ⟨rfl, hbV, ⟨x0, x1, x2⟩, z0, z1, z2, z3, z4, z5⟩) | (go_at_call 13; refine (hmy.out _ (by assumption)).mono ?_; rintro e V ⟨rfl, hbV, ⟨x0, x1, x2⟩, z0, z1, z2, z3, z4, z5⟩))
    go_ret
    exact ⟨rfl, (hcell.out _ hbV.out).2⟩
  cases mp with
  | false =>
    go_wp2_with (first | (go_at_call 7; refine (hwk.out _ (by assumption)).mono ?_; rintro e V ⟨rfl, hbV, ⟨x0, x1, x2⟩, z0, z1, z2, z3, z4, z5⟩) | (go_at_call 13; refine (hmy.out _ (by assumption)).mono ?_; rintro e V ⟨rfl, hbV, ⟨x0, x1, x2⟩, z0, z1, z2, z3, z4, z5⟩))
    go_ret
    exact ⟨rfl, (hcell.out _ hbV.out).2⟩
  | true =>
  by_cases h0 : p.funs.length = 0
  · have h0' : (p.funs.length : Int) = 0 := by omega
    rw [h0] at x2 hmy
    go_wp2_with (first | (go_at_call 7; refine (hwk.out _ (by assumption)).mono ?_; rintro e V ⟨rfl, hbV, ⟨x0, x1, x2⟩, z0, z1, z2, z3, z4, z5⟩) | (go_at_call 13; refine (hmy.out _ (by assumption)).mono ?_; rintro e V ⟨rfl, hbV, ⟨x0, x1, x2⟩, z0, z1, z2, z3, z4, z5⟩))
    go_ret
    exact ⟨rfl, (hcell.out _ hbV.out).2⟩
  have h0' : ¬ (p.funs.length : Int) = 0 := by omega
  have hor : Hid (¬ ((100 : Int) < (i.args.length : Int) ∨ ((p.funs.length : Int) == 0) = true)) := Lib.hid (by
    intro h
    rcases h with h | h
    · exact g1 h
    · exact h0' (eq_of_beq h))
  go_upto_region 3 with (first | (go_at_call 7; refine (hwk.out _ (by assumption)).mono ?_; rintro e V ⟨rfl, hbV, ⟨x0, x1, x2⟩, z0, z1, z2, z3, z4, z5⟩) | (go_at_call 13; refine (hmy.out _ (by assumption)).mono ?_; rintro e V ⟨rfl, hbV, ⟨x0, x1, x2⟩, z0, z1, z2, z3, z4, z5⟩))
  clear hor
  have hin : Hid (∀ V, Hid (Below W0.heap.size W0 V) → Calls Tryd.prog 20 #[p.val] V fun e V' => e = .returned (.bool true) ∧ Hid (Below W0.heap.size W0 V') ∧ Bq w.heap.size p i V') := Lib.hid fun V hV => (hin0.out V (hcell.out V hV.out).2 hmp).mono fun e V' ⟨h1, h2⟩ => ⟨h1, Lib.hid (hV.out.trans (h2.mono hV.out.size)), (hcell.out V' (hV.out.trans (h2.mono hV.out.size))).1⟩
  unfold Pg.val at hin
  obtain ⟨k, hkk, hkl⟩ := rem_len fn p.funs.length h0 (by omega)
  have hlw : IntKind.u64.wrap (p.funs.length : Int) = (p.funs.length : Int) := IntWalk.u64_in _ (by omega)
  have hkw : IntKind.i64.wrap (k : Int) = (k : Int) := IntWalk.i64_in _ (by omega)
  clear hmy hlg hwk hin0
  go_upto_region 5 with (go_at_call 20; refine (hin.out _ (by assumption)).mono ?_; rintro e V3 ⟨rfl, hbV3, ⟨x0, x1, x2⟩, z0, z1, z2, z3, z4, z5⟩)
  go_upto_region 6 with fail
  clear hkk hlw hkw h0' hin
  obtain ⟨x, hx⟩ : ∃ x, p.funs[k]? = some x := ⟨_, List.getElem?_eq_getElem hkl⟩
  obtain ⟨hxl1, hxl2⟩ := may_len hmp hx
  have hbw3 := (hcell.out _ hbV3.out).2
  have hk0 : (0 : Int) ≤ (k : Int) := by omega
  have hk1 : (k : Int) < (p.funs.length : Int) := by omega
  obtain ⟨i0, hi0, hz0, hz1, hz2⟩ := info_f
  obtain ⟨b, off, ha, _, _, _, _, _, _⟩ := fn_row (hpV.out _ hbw3).frow k x hx
  obtain ⟨e0, he0⟩ : ∃ e0, x.code[0]? = some e0 := ⟨_, List.getElem?_eq_getElem (by omega)⟩
  obtain ⟨bc, offc, hxa, _, _⟩ := in_row ((hpV.out _ hbw3).funs x (List.mem_of_getElem? hx)).row 0 e0 he0
  obtain ⟨xc1, xc2⟩ := len_i ((hpV.out _ hbw3).funs x (List.mem_of_getElem? hx)).row
  have hIx := Lib.hid (fun V (hV : Below w.heap.size w V) => (hpV.out V hV).funs x (List.mem_of_getElem? hx))
  have hPC : Hid (∀ V, Below W0.heap.size W0 V → V.cell? ⟨w.heap.size, 2, none⟩ = some (.slice (some ⟨b, off, none⟩) p.funs.length p.fcap) ∧ V.cell? ⟨b, off + k * 5 + 4, none⟩ = some (.slice (some ⟨bc, offc, none⟩) x.code.length x.ccap)) := Lib.hid fun V hV => by
    obtain ⟨⟨⟨_, _, q2⟩, _⟩, q3⟩ := hcell.out V hV
    obtain ⟨b', off', ha', _, _, _, _, _, q4⟩ := fn_row (hpV.out V q3).frow k x hx
    rw [ha] at ha' q2
    cases ha'
    rw [hxa] at q4
    exact ⟨q2, q4⟩
  have hrowz := (hpV.out _ hbw3).frow
  rw [ha] at hrowz x2
  have hnewz : Hid (∀ o o' j u, (fnCells p.funs)[j]? = some u → ((V3.alloc o).alloc o').cell? ((⟨b, off, none⟩ : Addr).add j) = some u) := Lib.hid fun o o' j u hj => by
    obtain ⟨b', off', ha', _, hc⟩ := hrowz.at_ j u hj
    cases ha'
    rw [Go.WideShapes.add_plain]
    exact below_in (b_alloc _ _) (below_in (b_alloc _ _) hc)
  have hlitz : Hid (∀ o, ((V3.alloc o).alloc (.cells #[] 42)).ownsRow (V3.heap.size + 1) 42 5 (.slice (some ⟨V3.heap.size + 1, 0, none⟩) 0 0) 0 []) := Lib.hid fun o => by
    have := World.ownsRow_lit (base := (V3.alloc o).heap.size) (e := 42) (size := 5) (V3.alloc o) #[] 0 (Nat.le_refl _) (Nat.zero_le _) rfl
    simpa using this
  have hV3s := hbw3.size
  have hC3' := hbV3
  have hbw3' := Lib.hid hbw3
  have hbxz : Hid (∀ w3, ((V3.alloc (.cells #[.slice p.ma p.mems.length p.mcap, .slice p.la p.locks.length p.lcap, .slice (some ⟨b, off, none⟩) p.funs.length p.fcap] 27)).alloc (.cells #[] 42)).grownBy w3 (some (V3.heap.size + 1)) → w3.heap[V3.heap.size]? = some (.cells #[.slice p.ma p.mems.length p.mcap, .slice p.la p.locks.length p.lcap, .slice (some ⟨b, off, none⟩) p.funs.length p.fcap] 27 (0, 0)) ∧ w3.cell? ⟨V3.heap.size, 2, none⟩ = some (.slice (some ⟨b, off, none⟩) p.funs.length p.fcap) ∧ w3.frozen? ⟨V3.heap.size, 2, none⟩ = false ∧ Below V3.heap.size V3 w3) := Lib.hid fun w3 hg => by
    have h1 : w3.heap[V3.heap.size]? = some (.cells #[.slice p.ma p.mems.length p.mcap, .slice p.la p.locks.length p.lcap, .slice (some ⟨b, off, none⟩) p.funs.length p.fcap] 27 (0, 0)) := (hg.block V3.heap.size (by simp; omega) (by simp)).trans ((Below.heap_alloc _ _ _ (by simp)).trans (MapKept.heap_alloc V3 _).1)
    exact ⟨h1, blk_cell h1 rfl, by simp [World.frozen?, h1], (((Below.refl _ V3).alloc (Nat.le_refl _) _).alloc (by simp) _).grown hg (by simp; omega) (fun q e => by cases e; omega)⟩
  have x2a := fun o => below_in (b_alloc V3 o) x2
  have x2b := fun o o' => below_in (b_alloc (V3.alloc o) o') (x2a o)
  have hpl : p.funs.length ≤ 1048576 := by omega
  clear hbw3 hrowz z0 z1 z2 z3 z4 z5
  go_upto_region 8 with (at_builtin; refine wpList_append_own_at _ rfl _ _ 25 rfl (V3.heap.size + 1) 42 i0 _ 5 64 Tryd.underlying25 hi0 hz0 hz1 hz2 rfl (by decide) _ 0 [] rfl (hlitz.out _) ⟨b, off, none⟩ p.funs.length p.fcap (fnCells p.funs) rfl (fn_len _) (hnewz.out _ _) (fn_one _) (by unfold maxLen; omega) (by omega) (by simp) ?_; intro v' w3 hown3 hg3 _ _; obtain ⟨gz, capz, rfl, hgB, hR⟩ := own_R hown3 (by omega); obtain ⟨hbk, s0, s1, hb3⟩ := hbxz.out w3 hg3)
  rw [Nat.zero_add] at hR
  rw [List.nil_append] at hR
  have hgne : ¬ gz = V3.heap.size := by omega
  have hR2 := hR.keep (w' := w3.setCell ⟨V3.heap.size, 2, none⟩ (.slice (some ⟨gz, 0, none⟩) (0 + p.funs.length) capz)) (heap_set_ne hgne _ _)
  have hbk2 := heap_set hbk 2 (.slice (some ⟨gz, 0, none⟩) (0 + p.funs.length) capz)
  have hbs : Below V3.heap.size V3 (w3.setCell ⟨V3.heap.size, 2, none⟩ (.slice (some ⟨gz, 0, none⟩) (0 + p.funs.length) capz)) := hb3.setCell (Nat.le_refl _) _
  rw [Nat.zero_add] at hR2 hbk2 hbs
  generalize hWq : w3.setCell ⟨V3.heap.size, 2, none⟩ (.slice (some ⟨gz, 0, none⟩) p.funs.length capz) = Wq at *
  have hcz : (fnCells p.funs)[k * 5 + 4]? = some (.slice x.ca x.code.length x.ccap) := flat_at Fn.vals 5 Fn.vals_len p.funs k 4 x hx (by omega)
  rw [hxa] at hcz
  have hRd : OwnR Wq.drew 42 gz capz p.funs.length (fnCells p.funs) := hR2.keep rfl
  have hbkd : Wq.drew.heap[V3.heap.size]? = _ := hbk2
  have hbd : Below V3.heap.size V3 Wq.drew := hbs.drew
  clear hWq hR2 hR hbk2 hbs hown3 hg3 hbk s0 s1 hb3 x0 x1 x2 x2a x2b hnewz hlitz hbxz
  refine wp_region_noPanic ?_
  refine wp_region_L (k := 11) (S := (fun X : World => X.cell? ⟨V3.heap.size, 2, none⟩ = some (.slice (some ⟨gz, 0, none⟩) p.funs.length capz) ∧ X.cell? ⟨w.heap.size, 2, none⟩ = some (.slice (some ⟨b, off, none⟩) p.funs.length p.fcap) ∧ X.cell? ⟨b, off + k * 5 + 4, none⟩ = some (.slice (some ⟨bc, offc, none⟩) x.code.length x.ccap))) (by kernel_rfl) ?_
  generalize Wq.drew = Wd at *
  have hltd : V3.heap.size < Wd.heap.size := (Array.getElem?_eq_some_iff.1 hbkd).1
  have hSd : Hid (∀ V, Below Wd.heap.size Wd V → (fun X : World => X.cell? ⟨V3.heap.size, 2, none⟩ = some (.slice (some ⟨gz, 0, none⟩) p.funs.length capz) ∧ X.cell? ⟨w.heap.size, 2, none⟩ = some (.slice (some ⟨b, off, none⟩) p.funs.length p.fcap) ∧ X.cell? ⟨b, off + k * 5 + 4, none⟩ = some (.slice (some ⟨bc, offc, none⟩) x.code.length x.ccap)) V) := Lib.hid fun V hV => ⟨below_in hV (blk_cell hbkd rfl), hPC.out V (hC3'.out.trans ((hbd.trans (hV.mono (by omega))).mono hC3'.out.size))⟩
  have hS0 := hSd.out Wd (Below.refl _ _)
  obtain ⟨j0, hj0, hy1, hy2, hy3⟩ := info_n
  have hgd := hRd.lt
  have hcapz := hRd.le
  have hlit3 : (Wd.alloc (.cells #[] 31)).ownsRow Wd.heap.size 31 6 (.slice (some ⟨Wd.heap.size, 0, none⟩) 0 0) 0 [] := by
    have := World.ownsRow_lit (base := Wd.heap.size) (e := 31) (size := 6) Wd #[] 0 (Nat.le_refl _) (Nat.zero_le _) rfl
    simpa using this
  have hT21 : Hid (∀ V, Below w.heap.size w V → ∀ j u, (inCells x.code)[j]? = some u → V.cell? ((⟨bc, offc, none⟩ : Addr).add j) = some u) := Lib.hid fun V hV j u hj => by
    have hrow := (hIx.out V hV).row
    rw [hxa] at hrow
    obtain ⟨b', off', ha', _, hc⟩ := hrow.at_ j u hj
    cases ha'
    rw [Go.WideShapes.add_plain]
    exact hc
  have hal : Below Wd.heap.size Wd (Wd.alloc (.cells #[] 31)) := b_alloc _ _
  have hbda : Below V3.heap.size V3 (Wd.alloc (.cells #[] 31)) := hbd.trans (hal.mono (by omega))
  refine' wpAnyL_take (by kernel_rfl) (i := 0) (oi := _) (v := _) (by decide) rfl (by kernel_rfl) (by kernel_rfl) (by kernel_rfl) (fun _ _ _ h => h) (Or.inl ⟨by rfl, ?hyz0⟩) (by assumption) ?rtz0
  case hyz0 => (intro w hSw; obtain ⟨s0, s1, s2⟩ := hSw; go_simp; all_goals (with_reducible rfl))
  try simp only [Act.put, List.getElem_toArray, List.getElem_cons_zero, List.getElem_cons_succ, List.setIfInBounds_toArray, List.set_cons_zero, List.set_cons_succ]
  refine' wpAnyL_take (by kernel_rfl) (i := 1) (oi := _) (v := _) (by decide) rfl (by kernel_rfl) (by kernel_rfl) (by kernel_rfl) (fun _ _ _ h => h) (Or.inl ⟨by rfl, ?hyz1⟩) (by assumption) ?rtz1
  case hyz1 => (intro w hSw; obtain ⟨s0, s1, s2⟩ := hSw; go_simp; all_goals (with_reducible rfl))
  try simp only [Act.put, List.getElem_toArray, List.getElem_cons_zero, List.getElem_cons_succ, List.setIfInBounds_toArray, List.set_cons_zero, List.set_cons_succ]
  refine' wpAnyL_take (by kernel_rfl) (i := 2) (oi := _) (v := _) (by decide) rfl (by kernel_rfl) (by kernel_rfl) (by kernel_rfl) (fun _ _ _ h => h) (Or.inl ⟨by rfl, ?hyz2⟩) (by assumption) ?rtz2
  case hyz2 => (intro w hSw; obtain ⟨s0, s1, s2⟩ := hSw; go_simp; all_goals (with_reducible rfl))
  try simp only [Act.put, List.getElem_toArray, List.getElem_cons_zero, List.getElem_cons_succ, List.setIfInBounds_toArray, List.set_cons_zero, List.set_cons_succ]
  refine' wpAnyL_take (by kernel_rfl) (i := 4) (oi := _) (v := _) (by decide) rfl (by kernel_rfl) (by kernel_rfl) (by kernel_rfl) (fun _ _ _ h => h) (Or.inl ⟨by rfl, ?hyz4⟩) (by assumption) ?rtz4
  case hyz4 => (intro w hSw; obtain ⟨s0, s1, s2⟩ := hSw; go_simp; all_goals (with_reducible rfl))
  try simp only [Act.put, List.getElem_toArray, List.getElem_cons_zero, List.getElem_cons_succ, List.setIfInBounds_toArray, List.set_cons_zero, List.set_cons_succ]
  refine' wpAnyL_take (by kernel_rfl) (i := 5) (oi := _) (v := _) (by decide) rfl (by kernel_rfl) (by kernel_rfl) (by kernel_rfl) (fun _ _ _ h => h) (Or.inl ⟨by rfl, ?hyz5⟩) (by assumption) ?rtz5
  case hyz5 => (intro w hSw; obtain ⟨s0, s1, s2⟩ := hSw; go_simp; all_goals (with_reducible rfl))
  try simp only [Act.put, List.getElem_toArray, List.getElem_cons_zero, List.getElem_cons_succ, List.setIfInBounds_toArray, List.set_cons_zero, List.set_cons_succ]
  refine' wpAnyL_take (by kernel_rfl) (i := 6) (oi := _) (v := _) (by decide) rfl (by kernel_rfl) (by kernel_rfl) (by kernel_rfl) (fun _ _ _ h => h) (Or.inl ⟨by rfl, ?hyz6⟩) (by assumption) ?rtz6
  case hyz6 => (intro w hSw; obtain ⟨s0, s1, s2⟩ := hSw; go_simp; all_goals (with_reducible rfl))
  try simp only [Act.put, List.getElem_toArray, List.getElem_cons_zero, List.getElem_cons_succ, List.setIfInBounds_toArray, List.set_cons_zero, List.set_cons_succ]
  refine' wpAnyL_take (by kernel_rfl) (i := 7) (oi := _) (v := _) (by decide) rfl (by kernel_rfl) (by kernel_rfl) (by kernel_rfl) (fun _ _ _ h => h) (Or.inl ⟨by rfl, ?hyz7⟩) (by assumption) ?rtz7
  case hyz7 => (intro w hSw; obtain ⟨s0, s1, s2⟩ := hSw; go_simp; all_goals (with_reducible rfl))
  try simp only [Act.put, List.getElem_toArray, List.getElem_cons_zero, List.getElem_cons_succ, List.setIfInBounds_toArray, List.set_cons_zero, List.set_cons_succ]
  refine' wpAnyL_take (by kernel_rfl) (i := 8) (oi := _) (v := _) (by decide) rfl (by kernel_rfl) (by kernel_rfl) (by kernel_rfl) (fun _ _ _ h => h) (Or.inl ⟨by rfl, ?hyz8⟩) (by assumption) ?rtz8
  case hyz8 => (intro w hSw; obtain ⟨s0, s1, s2⟩ := hSw; go_simp; all_goals (with_reducible rfl))
  try simp only [Act.put, List.getElem_toArray, List.getElem_cons_zero, List.getElem_cons_succ, List.setIfInBounds_toArray, List.set_cons_zero, List.set_cons_succ]
  refine' wpAnyL_take (by kernel_rfl) (i := 9) (oi := _) (v := _) (by decide) rfl (by kernel_rfl) (by kernel_rfl) (by kernel_rfl) (fun _ _ _ h => h) (Or.inl ⟨by rfl, ?hyz9⟩) (by assumption) ?rtz9
  case hyz9 => (intro w hSw; obtain ⟨s0, s1, s2⟩ := hSw; go_simp; all_goals (with_reducible rfl))
  try simp only [Act.put, List.getElem_toArray, List.getElem_cons_zero, List.getElem_cons_succ, List.setIfInBounds_toArray, List.set_cons_zero, List.set_cons_succ]
  refine wpAnyL_one (i := 3) (o := _) (by kernel_rfl) rfl (fun K hK => ?_)
  go_simp
  refine hK.out _ _ (fun _ => hSd.out _ hal) ?_
  clear hK K
  try simp only [Act.put, List.getElem_toArray, List.getElem_cons_zero, List.getElem_cons_succ, List.setIfInBounds_toArray, List.set_cons_zero, List.set_cons_succ]
  refine wpAnyL_one (i := 10) (o := _) (by kernel_rfl) rfl (fun K hK => ?_)
  rw [if_pos (wanted_none rfl)]
  refine wp_append_own _ _ _ 40 rfl Wd.heap.size 31 j0 _ 6 64 Tryd.underlying40 hj0 hy1 hy2 hy3 rfl (by decide) _ 0 [] rfl hlit3 ⟨bc, offc, none⟩ x.code.length x.ccap (inCells x.code) rfl (in_len _) (fun j u hj => hT21.out _ (hbw3'.out.trans (hbda.mono hbw3'.out.size)) j u hj) (in_one _) (by unfold maxLen; omega) (by omega) (by simp) ?_
  intro v8 w8 hown8 hg8 _
  obtain ⟨gc, ccz, rfl, hgcB, hRc⟩ := own_R hown8 (by omega)
  rw [Nat.zero_add] at hRc
  rw [List.nil_append] at hRc
  have hb8 : Below Wd.heap.size Wd w8 := hal.grown hg8 (by simp) (fun q e => by cases e; exact Nat.le_refl _)
  have hR8 : OwnR w8 42 gz capz p.funs.length (fnCells p.funs) := hRd.keep (hb8.block _ hgd)
  have hbk8 : w8.heap[V3.heap.size]? = _ := (hb8.block _ hltd).trans hbkd
  obtain ⟨s2, s3⟩ := hR8.cell hcz
  refine hK.out _ _ (fun _ => hSd.out _ hb8) ?_
  clear hK K
  try simp only [Act.put, List.getElem_toArray, List.getElem_cons_zero, List.getElem_cons_succ, List.setIfInBounds_toArray, List.set_cons_zero, List.set_cons_succ]
  refine wpAnyL_one (i := 11) (o := _) (by kernel_rfl) rfl (fun K hK => ?_)
  go_simp
  refine hK.out _ _ (fun h => absurd h (by decide)) ?_
  clear hK K
  try simp only [Act.put, List.getElem_toArray, List.getElem_cons_zero, List.getElem_cons_succ, List.setIfInBounds_toArray, List.set_cons_zero, List.set_cons_succ]
  refine wpAnyL_one (i := 12) (o := _) (by kernel_rfl) rfl (fun K hK => ?_)
  go_simp
  refine hK.out _ _ (fun h => absurd h (by decide)) ?_
  clear hK K
  try simp only [Act.put, List.getElem_toArray, List.getElem_cons_zero, List.getElem_cons_succ, List.setIfInBounds_toArray, List.set_cons_zero, List.set_cons_succ]
  refine wpAnyL_one (i := 13) (o := _) (by kernel_rfl) rfl (fun K hK => ?_)
  go_simp
  refine hK.out _ _ (fun h => absurd h (by decide)) ?_
  clear hK K
  try simp only [Act.put, List.getElem_toArray, List.getElem_cons_zero, List.getElem_cons_succ, List.setIfInBounds_toArray, List.set_cons_zero, List.set_cons_succ]
  refine wpAnyL_done (by kernel_rfl) ?_ _
  refine NoPanic.normal ?_
  obtain ⟨xz, hxz⟩ : ∃ xz : Fn, ({ x with ca := some ⟨gc, 0, none⟩, ccap := ccz } : Fn) = xz := ⟨_, rfl⟩
  have hfz : (fnCells p.funs).set (k * 5 + 4) (.slice (some ⟨gc, 0, none⟩) x.code.length ccz) = fnCells (p.funs.set k xz) := flat_set Fn.vals 5 Fn.vals_len p.funs k 4 x xz _ hx (by omega) (by rw [← hxz]; rfl)
  have hRs := hR8.set hcz (.slice (some ⟨gc, 0, none⟩) x.code.length ccz)
  rw [hfz] at hRs
  have hgzc : gz ≠ gc := by omega
  have hRcs := hRc.keep (w' := w8.setCell ⟨gz, k * 5 + 4, none⟩ (.slice (some ⟨gc, 0, none⟩) x.code.length ccz)) (heap_set_ne (fun e => hgzc e.symm) _ _)
  have hbks := (heap_set_ne (w := w8) (fun e => hgne e.symm) (k * 5 + 4) (.slice (some ⟨gc, 0, none⟩) x.code.length ccz)).trans hbk8
  have hbWs : Below V3.heap.size V3 (w8.setCell ⟨gz, k * 5 + 4, none⟩ (.slice (some ⟨gc, 0, none⟩) x.code.length ccz)) := (hbd.trans (hb8.mono (by omega))).setCell (p := ⟨gz, k * 5 + 4, none⟩) (show V3.heap.size ≤ gz by omega) _
  have hgc3 : V3.heap.size ≠ gc := by omega
  have hgcV : V3.heap.size ≤ gc := by omega
  have hgzV : V3.heap.size ≤ gz := by omega
  generalize hWs : w8.setCell ⟨gz, k * 5 + 4, none⟩ (.slice (some ⟨gc, 0, none⟩) x.code.length ccz) = Ws at *
  have hxk : (p.funs.set k xz)[k]? = some xz := by rw [List.getElem?_set_self hkl]
  have hc22 : (fnCells (p.funs.set k xz))[k * 5 + 4]? = some (.slice (some ⟨gc, 0, none⟩) x.code.length ccz) := by
    have := flat_at Fn.vals 5 Fn.vals_len (p.funs.set k xz) k 4 xz hxk (by omega)
    rw [← hxz] at this
    rw [← hxz]
    exact this
  clear hWs hR8 hRc hbk8 hown8 hg8 s2 s3 hfz hRd hbkd hbd hT21 hal hbda hlit3 hS0 hSd
  clear hgcB hb8 hgd hltd
  obtain ⟨m, hmm, hml⟩ := rem_len at_ x.code.length (by omega) (by omega)
  have hlw2 : IntKind.u64.wrap (x.code.length : Int) = (x.code.length : Int) := IntWalk.u64_in _ (by omega)
  have hmw : IntKind.i64.wrap (m : Int) = (m : Int) := IntWalk.i64_in _ (by omega)
  have hl1w : IntKind.i64.wrap ((x.code.length : Int) - 1) = (x.code.length : Int) - 1 := IntWalk.i64_in _ (by omega)
  have hs0 : Ws.cell? ⟨V3.heap.size, 2, none⟩ = some (.slice (some ⟨gz, 0, none⟩) p.funs.length capz) := blk_cell hbks rfl
  have hs1 := (hRs.cell hc22).1
  obtain ⟨y0, hy0⟩ : ∃ y0, x.code[m]? = some y0 := ⟨_, List.getElem?_eq_getElem hml⟩
  have hm0 : (0 : Int) ≤ (m : Int) := by omega
  have hm1 : (m : Int) < (x.code.length : Int) := by omega
  have hcc := hRcs.le
  go_upto_region 10 with fail
  clear hmm hlw2 hmw
  by_cases hkm : m + 1 < x.code.length
  · have hkm' : (m : Int) < (x.code.length : Int) - 1 := by omega
    go_upto_region 11 with fail
    clear hl1w hkm' hs0 hs1
    refine wp_region_noPanic ?_
    refine wp_region_L (k := 8) (S := (fun X : World => X.cell? ⟨V3.heap.size, 2, none⟩ = some (.slice (some ⟨gz, 0, none⟩) p.funs.length capz) ∧ X.cell? ⟨gz, k * 5 + 4, none⟩ = some (.slice (some ⟨gc, 0, none⟩) x.code.length ccz) ∧ X.cell? ⟨w.heap.size + 1, 0, none⟩ = some (.int .u8 i.op) ∧ X.cell? ⟨w.heap.size + 1, 1, none⟩ = some (.int .i64 i.r) ∧ X.cell? ⟨w.heap.size + 1, 2, none⟩ = some (.int .i64 i.a) ∧ X.cell? ⟨w.heap.size + 1, 3, none⟩ = some (.int .i64 i.b) ∧ X.cell? ⟨w.heap.size + 1, 4, none⟩ = some (.int .i64 i.n) ∧ X.cell? ⟨w.heap.size + 1, 5, none⟩ = some (.slice i.aa i.args.length i.acap))) (by kernel_rfl) ?_
    have hRz := hRs.keep (w' := Ws.drew) rfl
    have hRc := hRcs.keep (w' := Ws.drew) rfl
    have hbk : Ws.drew.heap[V3.heap.size]? = some (.cells #[.slice p.ma p.mems.length p.mcap, .slice p.la p.locks.length p.lcap, .slice (some ⟨gz, 0, none⟩) p.funs.length capz] 27 (0, 0)) := hbks
    have hbj := hbWs.drew
    clear hRs hRcs hbks hbWs
    generalize Ws.drew = We at *
    have hS0 : (fun X : World => X.cell? ⟨V3.heap.size, 2, none⟩ = some (.slice (some ⟨gz, 0, none⟩) p.funs.length capz) ∧ X.cell? ⟨gz, k * 5 + 4, none⟩ = some (.slice (some ⟨gc, 0, none⟩) x.code.length ccz) ∧ X.cell? ⟨w.heap.size + 1, 0, none⟩ = some (.int .u8 i.op) ∧ X.cell? ⟨w.heap.size + 1, 1, none⟩ = some (.int .i64 i.r) ∧ X.cell? ⟨w.heap.size + 1, 2, none⟩ = some (.int .i64 i.a) ∧ X.cell? ⟨w.heap.size + 1, 3, none⟩ = some (.int .i64 i.b) ∧ X.cell? ⟨w.heap.size + 1, 4, none⟩ = some (.int .i64 i.n) ∧ X.cell? ⟨w.heap.size + 1, 5, none⟩ = some (.slice i.aa i.args.length i.acap)) We := ⟨blk_cell hbk rfl, (hRz.cell hc22).1, (hcell.out _ (hC3'.out.trans (hbj.mono hC3'.out.size))).1.2⟩
    have hd0 : (inCells x.code)[m * 6]? = some (.int .u8 y0.op) := flat_at Ins.vals 6 Ins.vals_len _ m 0 y0 hy0 (by omega)
    have hd1 : (inCells x.code)[m * 6 + 1]? = some (.int .i64 y0.r) := flat_at Ins.vals 6 Ins.vals_len _ m 1 y0 hy0 (by omega)
    have hd2 : (inCells x.code)[m * 6 + 2]? = some (.int .i64 y0.a) := flat_at Ins.vals 6 Ins.vals_len _ m 2 y0 hy0 (by omega)
    have hd3 : (inCells x.code)[m * 6 + 3]? = some (.int .i64 y0.b) := flat_at Ins.vals 6 Ins.vals_len _ m 3 y0 hy0 (by omega)
    have hd4 : (inCells x.code)[m * 6 + 4]? = some (.int .i64 y0.n) := flat_at Ins.vals 6 Ins.vals_len _ m 4 y0 hy0 (by omega)
    have hd5 : (inCells x.code)[m * 6 + 5]? = some (.slice y0.aa y0.args.length y0.acap) := flat_at Ins.vals 6 Ins.vals_len _ m 5 y0 hy0 (by omega)
    obtain ⟨e0, f0⟩ := hRc.cell hd0
    obtain ⟨e1, f1⟩ := hRc.cell hd1
    obtain ⟨e2, f2⟩ := hRc.cell hd2
    obtain ⟨e3, f3⟩ := hRc.cell hd3
    obtain ⟨e4, f4⟩ := hRc.cell hd4
    obtain ⟨e5, f5⟩ := hRc.cell hd5
    refine' wpAnyL_take (by kernel_rfl) (i := 0) (oi := _) (v := _) (by decide) rfl (by kernel_rfl) (by kernel_rfl) (by kernel_rfl) (fun _ _ _ h => h) (Or.inl ⟨by rfl, ?hyu0⟩) (by assumption) ?rtu0
    case hyu0 => (intro w hSw; obtain ⟨s0, s1, s2, s3, s4, s5, s6, s7⟩ := hSw; go_simp; all_goals (with_reducible rfl))
    try simp only [Act.put, List.getElem_toArray, List.getElem_cons_zero, List.getElem_cons_succ, List.setIfInBounds_toArray, List.set_cons_zero, List.set_cons_succ]
    refine' wpAnyL_take (by kernel_rfl) (i := 1) (oi := _) (v := _) (by decide) rfl (by kernel_rfl) (by kernel_rfl) (by kernel_rfl) (fun _ _ _ h => h) (Or.inl ⟨by rfl, ?hyu1⟩) (by assumption) ?rtu1
    case hyu1 => (intro w hSw; obtain ⟨s0, s1, s2, s3, s4, s5, s6, s7⟩ := hSw; go_simp; all_goals (with_reducible rfl))
    try simp only [Act.put, List.getElem_toArray, List.getElem_cons_zero, List.getElem_cons_succ, List.setIfInBounds_toArray, List.set_cons_zero, List.set_cons_succ]
    refine' wpAnyL_take (by kernel_rfl) (i := 2) (oi := _) (v := _) (by decide) rfl (by kernel_rfl) (by kernel_rfl) (by kernel_rfl) (fun _ _ _ h => h) (Or.inl ⟨by rfl, ?hyu2⟩) (by assumption) ?rtu2
    case hyu2 => (intro w hSw; obtain ⟨s0, s1, s2, s3, s4, s5, s6, s7⟩ := hSw; go_simp; all_goals (with_reducible rfl))
    try simp only [Act.put, List.getElem_toArray, List.getElem_cons_zero, List.getElem_cons_succ, List.setIfInBounds_toArray, List.set_cons_zero, List.set_cons_succ]
    refine' wpAnyL_take (by kernel_rfl) (i := 3) (oi := _) (v := _) (by decide) rfl (by kernel_rfl) (by kernel_rfl) (by kernel_rfl) (fun _ _ _ h => h) (Or.inl ⟨by rfl, ?hyu3⟩) (by assumption) ?rtu3
    case hyu3 => (intro w hSw; obtain ⟨s0, s1, s2, s3, s4, s5, s6, s7⟩ := hSw; go_simp; all_goals (with_reducible rfl))
    try simp only [Act.put, List.getElem_toArray, List.getElem_cons_zero, List.getElem_cons_succ, List.setIfInBounds_toArray, List.set_cons_zero, List.set_cons_succ]
    refine' wpAnyL_take (by kernel_rfl) (i := 4) (oi := _) (v := _) (by decide) rfl (by kernel_rfl) (by kernel_rfl) (by kernel_rfl) (fun _ _ _ h => h) (Or.inl ⟨by rfl, ?hyu4⟩) (by assumption) ?rtu4
    case hyu4 => (intro w hSw; obtain ⟨s0, s1, s2, s3, s4, s5, s6, s7⟩ := hSw; go_simp; all_goals (with_reducible rfl))
    try simp only [Act.put, List.getElem_toArray, List.getElem_cons_zero, List.getElem_cons_succ, List.setIfInBounds_toArray, List.set_cons_zero, List.set_cons_succ]
    refine' wpAnyL_take (by kernel_rfl) (i := 5) (oi := _) (v := _) (by decide) rfl (by kernel_rfl) (by kernel_rfl) (by kernel_rfl) (fun _ _ _ h => h) (Or.inl ⟨by rfl, ?hyu5⟩) (by assumption) ?rtu5
    case hyu5 => (intro w hSw; obtain ⟨s0, s1, s2, s3, s4, s5, s6, s7⟩ := hSw; go_simp; all_goals (with_reducible rfl))
    try simp only [Act.put, List.getElem_toArray, List.getElem_cons_zero, List.getElem_cons_succ, List.setIfInBounds_toArray, List.set_cons_zero, List.set_cons_succ]
    refine' wpAnyL_take (by kernel_rfl) (i := 6) (oi := _) (v := _) (by decide) rfl (by kernel_rfl) (by kernel_rfl) (by kernel_rfl) (fun _ _ _ h => h) (Or.inl ⟨by rfl, ?hyu6⟩) (by assumption) ?rtu6
    case hyu6 => (intro w hSw; obtain ⟨s0, s1, s2, s3, s4, s5, s6, s7⟩ := hSw; go_simp; all_goals (with_reducible rfl))
    try simp only [Act.put, List.getElem_toArray, List.getElem_cons_zero, List.getElem_cons_succ, List.setIfInBounds_toArray, List.set_cons_zero, List.set_cons_succ]
    refine' wpAnyL_take (by kernel_rfl) (i := 7) (oi := _) (v := _) (by decide) rfl (by kernel_rfl) (by kernel_rfl) (by kernel_rfl) (fun _ _ _ h => h) (Or.inl ⟨by rfl, ?hyu7⟩) (by assumption) ?rtu7
    case hyu7 => (intro w hSw; obtain ⟨s0, s1, s2, s3, s4, s5, s6, s7⟩ := hSw; go_simp; all_goals (with_reducible rfl))
    try simp only [Act.put, List.getElem_toArray, List.getElem_cons_zero, List.getElem_cons_succ, List.setIfInBounds_toArray, List.set_cons_zero, List.set_cons_succ]
    refine wpAnyL_one (i := 8) (o := _) (by kernel_rfl) rfl (fun K hK => ?_)
    go_simp
    refine hK.out _ _ (fun h => absurd h (by decide)) ?_
    clear hK K
    try simp only [Act.put, List.getElem_toArray, List.getElem_cons_zero, List.getElem_cons_succ, List.setIfInBounds_toArray, List.set_cons_zero, List.set_cons_succ]
    refine wpAnyL_one (i := 9) (o := _) (by kernel_rfl) rfl (fun K hK => ?_)
    go_simp
    refine hK.out _ _ (fun h => absurd h (by decide)) ?_
    clear hK K
    try simp only [Act.put, List.getElem_toArray, List.getElem_cons_zero, List.getElem_cons_succ, List.setIfInBounds_toArray, List.set_cons_zero, List.set_cons_succ]
    refine wpAnyL_done (by kernel_rfl) ?_ _
    refine NoPanic.normal ?_
    have hRt := store6_own i hRc hy0
    have hRzt := hRz.keep (w' := ((((((We.setCell ⟨gc, m * 6, none⟩ (.int .u8 i.op)).setCell ⟨gc, m * 6 + 1, none⟩ (.int .i64 i.r)).setCell ⟨gc, m * 6 + 2, none⟩ (.int .i64 i.a)).setCell ⟨gc, m * 6 + 3, none⟩ (.int .i64 i.b)).setCell ⟨gc, m * 6 + 4, none⟩ (.int .i64 i.n)).setCell ⟨gc, m * 6 + 5, none⟩ (.slice i.aa i.args.length i.acap))) (store6_ne hgzc _ _ _ _ _ _ _ _ _ _ _ _)
    have hbkt := (store6_ne (w := We) hgc3 (m * 6) (m * 6 + 1) (m * 6 + 2) (m * 6 + 3) (m * 6 + 4) (m * 6 + 5) (.int .u8 i.op) (.int .i64 i.r) (.int .i64 i.a) (.int .i64 i.b) (.int .i64 i.n) (.slice i.aa i.args.length i.acap)).trans hbk
    have hbWt := store6_below hbj hgcV (m * 6) (m * 6 + 1) (m * 6 + 2) (m * 6 + 3) (m * 6 + 4) (m * 6 + 5) (.int .u8 i.op) (.int .i64 i.r) (.int .i64 i.a) (.int .i64 i.b) (.int .i64 i.n) (.slice i.aa i.args.length i.acap)
    generalize ((((((We.setCell ⟨gc, m * 6, none⟩ (.int .u8 i.op)).setCell ⟨gc, m * 6 + 1, none⟩ (.int .i64 i.r)).setCell ⟨gc, m * 6 + 2, none⟩ (.int .i64 i.a)).setCell ⟨gc, m * 6 + 3, none⟩ (.int .i64 i.b)).setCell ⟨gc, m * 6 + 4, none⟩ (.int .i64 i.n)).setCell ⟨gc, m * 6 + 5, none⟩ (.slice i.aa i.args.length i.acap)) = Wt at *
    clear hS0 e0 f0 e1 f1 e2 f2 e3 f3 e4 f4 e5 f5 hd0 hd1 hd2 hd3 hd4 hd5 hRz hRc hbk hbj
    obtain ⟨xn, hxn2⟩ : ∃ xn : Fn, ({ x with ca := some ⟨gc, 0, none⟩, ccap := ccz, code := x.code.set m i } : Fn) = xn := ⟨_, rfl⟩
    have hfz2 : fnCells (p.funs.set k xz) = fnCells (p.funs.set k xn) := fnCells_set _ _ _ _ (by
      rw [← hxz, ← hxn2]
      unfold Fn.vals
      simp)
    obtain ⟨pz, hpz⟩ : ∃ pz : Pg, ({ p with fa := some ⟨gz, 0, none⟩, fcap := capz, funs := p.funs.set k xn } : Pg) = pz := ⟨_, rfl⟩
    have hmz : mayP pz = mayI p k i := mayP_set (p := p) (q := pz) (n := k) (k := m) (f := x) (g := xn) (i := i) (by rw [← hpz]) (by rw [← hpz]) (by rw [← hpz]) hx (by rw [← hxn2]) (by rw [← hxn2]) (by rw [← hxn2]) (by rw [← hxn2]) (by rw [← hxn2]) hkm hmp
    have hPZ : Hid (∀ V, Below Wt.heap.size Wt V → Bp1 V3.heap.size pz V ∧ Pg.In V (fun _ => True) pz ∧ Bp1 w.heap.size p V ∧ Pg.In V (fun _ => True) p ∧ Below w.heap.size w V ∧ Bq w.heap.size p i V) := Lib.hid fun V hV => by
      have h0 := hC3'.out.trans ((hbWt.trans (hV.mono hbWt.size)).mono hC3'.out.size)
      obtain ⟨q7, q8⟩ := hcell.out V h0
      have q4 := hpV.out V q8
      have h1 := (hV.block _ (Array.getElem?_eq_some_iff.1 hbkt).1).trans hbkt
      have hR5 := (hRzt.keep (hV.block gz hRzt.lt)).row
      rw [hfz2] at hR5
      have hR6 := (hRt.keep (hV.block gc hRt.lt)).row
      have hX := q4.funs x (List.mem_of_getElem? hx)
      have hI := hiV.out V q8
      have hlen : (p.funs.set k xn).length = p.funs.length := by simp
      subst hpz
      refine ⟨⟨blk_cell h1 rfl, blk_cell h1 rfl, ?_⟩, ⟨q4.mrow, q4.mems, q4.lrow, q4.locks, ?_, fun f hf => ?_⟩, q7.1, q4, q8, q7⟩
      · show _ = some (Value.slice (some ⟨gz, 0, none⟩) (p.funs.set k xn).length capz)
        rw [hlen]
        exact blk_cell h1 rfl
      · show RowAt V _ (some ⟨gz, 0, none⟩) capz (p.funs.set k xn).length _
        rw [hlen]
        exact hR5
      · rcases List.mem_or_eq_of_mem_set hf with hf | rfl
        · exact q4.funs f hf
        · subst hxn2
          refine ⟨hX.name, hX.params, hX.regs, ?_, fun y hy => ?_⟩
          · show RowAt V _ (some ⟨gc, 0, none⟩) ccz (x.code.set m i).length _
            rw [List.length_set]
            exact hR6
          · rcases List.mem_or_eq_of_mem_set hy with hy | rfl
            · exact hX.code y hy
            · exact hI
    have hsz2 : pz.mems.length + pz.locks.length + pz.funs.length ≤ 1048576 := by
      rw [← hpz]
      show p.mems.length + p.locks.length + (p.funs.set k xn).length ≤ 1048576
      rw [List.length_set]
      exact hsum
    clear hpz hxn2 hfz2
    go_upto_region 12 with fail
    refine wp_region_rel (C := fun V => Below Wt.heap.size Wt V) (E := Ext) (R := fun j => (rs12 p pz k i (mayI p k i)).getD j VT) (by kernel_rfl) ((Below.refl _ _).drew) (by kernel_rfl) (fun j v w' w'' _ hE h => mono_get _ j rs12_mono v w' w'' hE h) (steps_all ?hs12) ?hend12
    case hs12 =>
      refine stepsL_cons (s_val fun a W hC hs => ?_) ?_
      · have hB := hPZ.out W hC
        have ho := old_of hs 10 (by kernel_rfl) (by rfl)
        exact ⟨wanted_none rfl, _, run_ld rfl (ev ho) (load_pg hB.1), rfl⟩
      refine stepsL_cons (s_call fun a W hC hs => ?_) ?_
      · obtain ⟨v0, hv0, hR0⟩ := got_of hs 0 98 (by kernel_rfl) (by rfl)
        have hR0' : v0 = _ := hR0
        subst hR0'
        have hB := hPZ.out W hC
        refine ⟨wanted_none rfl, 13, _, run_call1 rfl (ev hv0) (fun _ _ => rfl), (hmy0.out pz W hB.2.2.2.2.1 hB.2.1 hsz2).mono ?_⟩
        rintro e W' ⟨rfl, hb⟩
        exact ⟨_, rfl, hC.trans (hb.mono hC.size), hb, by show Value.bool _ = _; rw [hmz]⟩
      refine stepsL_cons (s_val fun a W hC hs => ?_) ?_
      · have hB := hPZ.out W hC
        have ho := old_of hs 4 (by kernel_rfl) (by rfl)
        exact ⟨wanted_none rfl, _, run_ld rfl (ev ho) (load_pg hB.2.2.1), rfl⟩
      refine stepsL_cons (s_val fun a W hC hs => ?_) ?_
      · have ho := old_of hs 9 (by kernel_rfl) (by rfl)
        exact ⟨wanted_none rfl, _, run_mv (Or.inl rfl) (ev ho), rfl⟩
      refine stepsL_cons (s_val fun a W hC hs => ?_) ?_
      · have hB := (hPZ.out W hC).2.2.2.2.2.2
        have ho := old_of hs 7 (by kernel_rfl) (by rfl)
        exact ⟨wanted_none rfl, _, run_ld rfl (ev ho) (load_in hB.1 hB.2.1 hB.2.2.1 hB.2.2.2.1 hB.2.2.2.2.1 hB.2.2.2.2.2), rfl⟩
      refine stepsL_cons (s_call fun a W hC hs => ?_) ?_
      · obtain ⟨v0, hv0, hR0⟩ := got_of hs 2 100 (by kernel_rfl) (by rfl)
        have hR0' : v0 = _ := hR0
        subst hR0'
        obtain ⟨v1, hv1, hR1⟩ := got_of hs 3 101 (by kernel_rfl) (by rfl)
        have hR1' : v1 = _ := hR1
        subst hR1'
        obtain ⟨v2, hv2, hR2⟩ := got_of hs 4 102 (by kernel_rfl) (by rfl)
        have hR2' : v2 = _ := hR2
        subst hR2'
        have hB := hPZ.out W hC
        refine ⟨wanted_none rfl, 9, _, run_call3 rfl (ev hv0) (ev hv1) (ev hv2) (fun _ _ => rfl), (mayIns_any p k i W (hiV.out W hB.2.2.2.2.1).op (hiV.out W hB.2.2.2.2.1).row (hTV.out W hB.2.2.2.2.1) hB.2.2.2.1.frow).mono ?_⟩
        rintro e W' ⟨rfl, hb⟩
        exact ⟨_, rfl, hC.trans (hb.mono hC.size), hb, rfl⟩
      refine stepsL_cons (s_val fun a W hC hs => ?_) ?_
      · obtain ⟨v0, hv0, hR0⟩ := got_of hs 1 99 (by kernel_rfl) (by rfl)
        have hR0' : v0 = _ := hR0
        subst hR0'
        obtain ⟨v1, hv1, hR1⟩ := got_of hs 5 103 (by kernel_rfl) (by rfl)
        have hR1' : v1 = _ := hR1
        subst hR1'
        exact ⟨wanted_none rfl, _, run_neb Tryd.underlying4 rfl (ev hv0) (ev hv1), rfl⟩
      exact stepsL_nil
    case hend12 =>
    intro σ8 V8 hC8 hR8
    generalize hF : fillL _ _ _ _ _ = F
    simp [fillL, dstOf, List.range, List.range.loop, Act.put] at hF
    subst hF
    have h6 : σ8 6 = .bool false := hR8 6 (by simp)
    rw [h6]
    have hRt8 := hRt.keep (hC8.block gc hRt.lt)
    have hRz8 := hRzt.keep (hC8.block gz hRzt.lt)
    have hbk8 := (hC8.block _ (Array.getElem?_eq_some_iff.1 hbkt).1).trans hbkt
    have hbw8 := hbWt.trans (hC8.mono hbWt.size)
    clear hR8 h6 hPZ hmz hsz2 hRt hRzt hbkt hbWt hC8
    go_upto_region 14 with fail
    refine wp_region_noPanic ?_
    refine wp_region_L (k := 16) (S := (fun X : World => X.cell? ⟨V3.heap.size, 2, none⟩ = some (.slice (some ⟨gz, 0, none⟩) p.funs.length capz) ∧ X.cell? ⟨gz, k * 5 + 4, none⟩ = some (.slice (some ⟨gc, 0, none⟩) x.code.length ccz) ∧ X.cell? ⟨w.heap.size, 2, none⟩ = some (.slice (some ⟨b, off, none⟩) p.funs.length p.fcap) ∧ X.cell? ⟨b, off + k * 5 + 4, none⟩ = some (.slice (some ⟨bc, offc, none⟩) x.code.length x.ccap) ∧ X.cell? ⟨bc, offc + m * 6, none⟩ = some (.int .u8 y0.op) ∧ X.cell? ⟨bc, offc + m * 6 + 1, none⟩ = some (.int .i64 y0.r) ∧ X.cell? ⟨bc, offc + m * 6 + 2, none⟩ = some (.int .i64 y0.a) ∧ X.cell? ⟨bc, offc + m * 6 + 3, none⟩ = some (.int .i64 y0.b) ∧ X.cell? ⟨bc, offc + m * 6 + 4, none⟩ = some (.int .i64 y0.n) ∧ X.cell? ⟨bc, offc + m * 6 + 5, none⟩ = some (.slice y0.aa y0.args.length y0.acap))) (by kernel_rfl) ?_
    have hRz := hRz8.keep (w' := V8.drew) rfl
    have hRc := hRt8.keep (w' := V8.drew) rfl
    have hbk : V8.drew.heap[V3.heap.size]? = some (.cells #[.slice p.ma p.mems.length p.mcap, .slice p.la p.locks.length p.lcap, .slice (some ⟨gz, 0, none⟩) p.funs.length capz] 27 (0, 0)) := hbk8
    have hbj := hbw8.drew
    clear hRz8 hRt8 hbk8 hbw8
    generalize V8.drew = Wg at *
    have hS0 : (fun X : World => X.cell? ⟨V3.heap.size, 2, none⟩ = some (.slice (some ⟨gz, 0, none⟩) p.funs.length capz) ∧ X.cell? ⟨gz, k * 5 + 4, none⟩ = some (.slice (some ⟨gc, 0, none⟩) x.code.length ccz) ∧ X.cell? ⟨w.heap.size, 2, none⟩ = some (.slice (some ⟨b, off, none⟩) p.funs.length p.fcap) ∧ X.cell? ⟨b, off + k * 5 + 4, none⟩ = some (.slice (some ⟨bc, offc, none⟩) x.code.length x.ccap) ∧ X.cell? ⟨bc, offc + m * 6, none⟩ = some (.int .u8 y0.op) ∧ X.cell? ⟨bc, offc + m * 6 + 1, none⟩ = some (.int .i64 y0.r) ∧ X.cell? ⟨bc, offc + m * 6 + 2, none⟩ = some (.int .i64 y0.a) ∧ X.cell? ⟨bc, offc + m * 6 + 3, none⟩ = some (.int .i64 y0.b) ∧ X.cell? ⟨bc, offc + m * 6 + 4, none⟩ = some (.int .i64 y0.n) ∧ X.cell? ⟨bc, offc + m * 6 + 5, none⟩ = some (.slice y0.aa y0.args.length y0.acap)) Wg := by
      have h0 := hC3'.out.trans (hbj.mono hC3'.out.size)
      obtain ⟨q7, q8⟩ := hcell.out _ h0
      obtain ⟨b', o', hca', _, hyc⟩ := in_row ((hpV.out _ q8).funs x (List.mem_of_getElem? hx)).row m y0 hy0
      rw [hxa] at hca'
      cases hca'
      exact ⟨blk_cell hbk rfl, (hRz.cell hc22).1, (hPC.out _ h0).1, (hPC.out _ h0).2, hyc⟩
    have hyi : (x.code.set m i)[m]? = some i := List.getElem?_set_self hml
    have hd0 : (inCells (x.code.set m i))[m * 6]? = some (.int .u8 i.op) := flat_at Ins.vals 6 Ins.vals_len _ m 0 i hyi (by omega)
    have hd1 : (inCells (x.code.set m i))[m * 6 + 1]? = some (.int .i64 i.r) := flat_at Ins.vals 6 Ins.vals_len _ m 1 i hyi (by omega)
    have hd2 : (inCells (x.code.set m i))[m * 6 + 2]? = some (.int .i64 i.a) := flat_at Ins.vals 6 Ins.vals_len _ m 2 i hyi (by omega)
    have hd3 : (inCells (x.code.set m i))[m * 6 + 3]? = some (.int .i64 i.b) := flat_at Ins.vals 6 Ins.vals_len _ m 3 i hyi (by omega)
    have hd4 : (inCells (x.code.set m i))[m * 6 + 4]? = some (.int .i64 i.n) := flat_at Ins.vals 6 Ins.vals_len _ m 4 i hyi (by omega)
    have hd5 : (inCells (x.code.set m i))[m * 6 + 5]? = some (.slice i.aa i.args.length i.acap) := flat_at Ins.vals 6 Ins.vals_len _ m 5 i hyi (by omega)
    obtain ⟨e0, f0⟩ := hRc.cell hd0
    obtain ⟨e1, f1⟩ := hRc.cell hd1
    obtain ⟨e2, f2⟩ := hRc.cell hd2
    obtain ⟨e3, f3⟩ := hRc.cell hd3
    obtain ⟨e4, f4⟩ := hRc.cell hd4
    obtain ⟨e5, f5⟩ := hRc.cell hd5
    refine' wpAnyL_take (by kernel_rfl) (i := 0) (oi := _) (v := _) (by decide) rfl (by kernel_rfl) (by kernel_rfl) (by kernel_rfl) (fun _ _ _ h => h) (Or.inl ⟨by rfl, ?hyv0⟩) (by assumption) ?rtv0
    case hyv0 => (intro w hSw; obtain ⟨s0, s1, s2, s3, s4, s5, s6, s7, s8, s9⟩ := hSw; go_simp; all_goals (with_reducible rfl))
    try simp only [Act.put, List.getElem_toArray, List.getElem_cons_zero, List.getElem_cons_succ, List.setIfInBounds_toArray, List.set_cons_zero, List.set_cons_succ]
    refine' wpAnyL_take (by kernel_rfl) (i := 1) (oi := _) (v := _) (by decide) rfl (by kernel_rfl) (by kernel_rfl) (by kernel_rfl) (fun _ _ _ h => h) (Or.inl ⟨by rfl, ?hyv1⟩) (by assumption) ?rtv1
    case hyv1 => (intro w hSw; obtain ⟨s0, s1, s2, s3, s4, s5, s6, s7, s8, s9⟩ := hSw; go_simp; all_goals (with_reducible rfl))
    try simp only [Act.put, List.getElem_toArray, List.getElem_cons_zero, List.getElem_cons_succ, List.setIfInBounds_toArray, List.set_cons_zero, List.set_cons_succ]
    refine' wpAnyL_take (by kernel_rfl) (i := 2) (oi := _) (v := _) (by decide) rfl (by kernel_rfl) (by kernel_rfl) (by kernel_rfl) (fun _ _ _ h => h) (Or.inl ⟨by rfl, ?hyv2⟩) (by assumption) ?rtv2
    case hyv2 => (intro w hSw; obtain ⟨s0, s1, s2, s3, s4, s5, s6, s7, s8, s9⟩ := hSw; go_simp; all_goals (with_reducible rfl))
    try simp only [Act.put, List.getElem_toArray, List.getElem_cons_zero, List.getElem_cons_succ, List.setIfInBounds_toArray, List.set_cons_zero, List.set_cons_succ]
    refine' wpAnyL_take (by kernel_rfl) (i := 3) (oi := _) (v := _) (by decide) rfl (by kernel_rfl) (by kernel_rfl) (by kernel_rfl) (fun _ _ _ h => h) (Or.inl ⟨by rfl, ?hyv3⟩) (by assumption) ?rtv3
    case hyv3 => (intro w hSw; obtain ⟨s0, s1, s2, s3, s4, s5, s6, s7, s8, s9⟩ := hSw; go_simp; all_goals (with_reducible rfl))
    try simp only [Act.put, List.getElem_toArray, List.getElem_cons_zero, List.getElem_cons_succ, List.setIfInBounds_toArray, List.set_cons_zero, List.set_cons_succ]
    refine' wpAnyL_take (by kernel_rfl) (i := 4) (oi := _) (v := _) (by decide) rfl (by kernel_rfl) (by kernel_rfl) (by kernel_rfl) (fun _ _ _ h => h) (Or.inl ⟨by rfl, ?hyv4⟩) (by assumption) ?rtv4
    case hyv4 => (intro w hSw; obtain ⟨s0, s1, s2, s3, s4, s5, s6, s7, s8, s9⟩ := hSw; go_simp; all_goals (with_reducible rfl))
    try simp only [Act.put, List.getElem_toArray, List.getElem_cons_zero, List.getElem_cons_succ, List.setIfInBounds_toArray, List.set_cons_zero, List.set_cons_succ]
    refine' wpAnyL_take (by kernel_rfl) (i := 5) (oi := _) (v := _) (by decide) rfl (by kernel_rfl) (by kernel_rfl) (by kernel_rfl) (fun _ _ _ h => h) (Or.inl ⟨by rfl, ?hyv5⟩) (by assumption) ?rtv5
    case hyv5 => (intro w hSw; obtain ⟨s0, s1, s2, s3, s4, s5, s6, s7, s8, s9⟩ := hSw; go_simp; all_goals (with_reducible rfl))
    try simp only [Act.put, List.getElem_toArray, List.getElem_cons_zero, List.getElem_cons_succ, List.setIfInBounds_toArray, List.set_cons_zero, List.set_cons_succ]
    refine' wpAnyL_take (by kernel_rfl) (i := 6) (oi := _) (v := _) (by decide) rfl (by kernel_rfl) (by kernel_rfl) (by kernel_rfl) (fun _ _ _ h => h) (Or.inl ⟨by rfl, ?hyv6⟩) (by assumption) ?rtv6
    case hyv6 => (intro w hSw; obtain ⟨s0, s1, s2, s3, s4, s5, s6, s7, s8, s9⟩ := hSw; go_simp; all_goals (with_reducible rfl))
    try simp only [Act.put, List.getElem_toArray, List.getElem_cons_zero, List.getElem_cons_succ, List.setIfInBounds_toArray, List.set_cons_zero, List.set_cons_succ]
    refine' wpAnyL_take (by kernel_rfl) (i := 7) (oi := _) (v := _) (by decide) rfl (by kernel_rfl) (by kernel_rfl) (by kernel_rfl) (fun _ _ _ h => h) (Or.inl ⟨by rfl, ?hyv7⟩) (by assumption) ?rtv7
    case hyv7 => (intro w hSw; obtain ⟨s0, s1, s2, s3, s4, s5, s6, s7, s8, s9⟩ := hSw; go_simp; all_goals (with_reducible rfl))
    try simp only [Act.put, List.getElem_toArray, List.getElem_cons_zero, List.getElem_cons_succ, List.setIfInBounds_toArray, List.set_cons_zero, List.set_cons_succ]
    refine' wpAnyL_take (by kernel_rfl) (i := 8) (oi := _) (v := _) (by decide) rfl (by kernel_rfl) (by kernel_rfl) (by kernel_rfl) (fun _ _ _ h => h) (Or.inl ⟨by rfl, ?hyv8⟩) (by assumption) ?rtv8
    case hyv8 => (intro w hSw; obtain ⟨s0, s1, s2, s3, s4, s5, s6, s7, s8, s9⟩ := hSw; go_simp; all_goals (with_reducible rfl))
    try simp only [Act.put, List.getElem_toArray, List.getElem_cons_zero, List.getElem_cons_succ, List.setIfInBounds_toArray, List.set_cons_zero, List.set_cons_succ]
    refine' wpAnyL_take (by kernel_rfl) (i := 9) (oi := _) (v := _) (by decide) rfl (by kernel_rfl) (by kernel_rfl) (by kernel_rfl) (fun _ _ _ h => h) (Or.inl ⟨by rfl, ?hyv9⟩) (by assumption) ?rtv9
    case hyv9 => (intro w hSw; obtain ⟨s0, s1, s2, s3, s4, s5, s6, s7, s8, s9⟩ := hSw; go_simp; all_goals (with_reducible rfl))
    try simp only [Act.put, List.getElem_toArray, List.getElem_cons_zero, List.getElem_cons_succ, List.setIfInBounds_toArray, List.set_cons_zero, List.set_cons_succ]
    refine' wpAnyL_take (by kernel_rfl) (i := 10) (oi := _) (v := _) (by decide) rfl (by kernel_rfl) (by kernel_rfl) (by kernel_rfl) (fun _ _ _ h => h) (Or.inl ⟨by rfl, ?hyv10⟩) (by assumption) ?rtv10
    case hyv10 => (intro w hSw; obtain ⟨s0, s1, s2, s3, s4, s5, s6, s7, s8, s9⟩ := hSw; go_simp; all_goals (with_reducible rfl))
    try simp only [Act.put, List.getElem_toArray, List.getElem_cons_zero, List.getElem_cons_succ, List.setIfInBounds_toArray, List.set_cons_zero, List.set_cons_succ]
    refine' wpAnyL_take (by kernel_rfl) (i := 11) (oi := _) (v := _) (by decide) rfl (by kernel_rfl) (by kernel_rfl) (by kernel_rfl) (fun _ _ _ h => h) (Or.inl ⟨by rfl, ?hyv11⟩) (by assumption) ?rtv11
    case hyv11 => (intro w hSw; obtain ⟨s0, s1, s2, s3, s4, s5, s6, s7, s8, s9⟩ := hSw; go_simp; all_goals (with_reducible rfl))
    try simp only [Act.put, List.getElem_toArray, List.getElem_cons_zero, List.getElem_cons_succ, List.setIfInBounds_toArray, List.set_cons_zero, List.set_cons_succ]
    refine' wpAnyL_take (by kernel_rfl) (i := 12) (oi := _) (v := _) (by decide) rfl (by kernel_rfl) (by kernel_rfl) (by kernel_rfl) (fun _ _ _ h => h) (Or.inl ⟨by rfl, ?hyv12⟩) (by assumption) ?rtv12
    case hyv12 => (intro w hSw; obtain ⟨s0, s1, s2, s3, s4, s5, s6, s7, s8, s9⟩ := hSw; go_simp; all_goals (with_reducible rfl))
    try simp only [Act.put, List.getElem_toArray, List.getElem_cons_zero, List.getElem_cons_succ, List.setIfInBounds_toArray, List.set_cons_zero, List.set_cons_succ]
    refine' wpAnyL_take (by kernel_rfl) (i := 13) (oi := _) (v := _) (by decide) rfl (by kernel_rfl) (by kernel_rfl) (by kernel_rfl) (fun _ _ _ h => h) (Or.inl ⟨by rfl, ?hyv13⟩) (by assumption) ?rtv13
    case hyv13 => (intro w hSw; obtain ⟨s0, s1, s2, s3, s4, s5, s6, s7, s8, s9⟩ := hSw; go_simp; all_goals (with_reducible rfl))
    try simp only [Act.put, List.getElem_toArray, List.getElem_cons_zero, List.getElem_cons_succ, List.setIfInBounds_toArray, List.set_cons_zero, List.set_cons_succ]
    refine' wpAnyL_take (by kernel_rfl) (i := 14) (oi := _) (v := _) (by decide) rfl (by kernel_rfl) (by kernel_rfl) (by kernel_rfl) (fun _ _ _ h => h) (Or.inl ⟨by rfl, ?hyv14⟩) (by assumption) ?rtv14
    case hyv14 => (intro w hSw; obtain ⟨s0, s1, s2, s3, s4, s5, s6, s7, s8, s9⟩ := hSw; go_simp; all_goals (with_reducible rfl))
    try simp only [Act.put, List.getElem_toArray, List.getElem_cons_zero, List.getElem_cons_succ, List.setIfInBounds_toArray, List.set_cons_zero, List.set_cons_succ]
    refine' wpAnyL_take (by kernel_rfl) (i := 15) (oi := _) (v := _) (by decide) rfl (by kernel_rfl) (by kernel_rfl) (by kernel_rfl) (fun _ _ _ h => h) (Or.inl ⟨by rfl, ?hyv15⟩) (by assumption) ?rtv15
    case hyv15 => (intro w hSw; obtain ⟨s0, s1, s2, s3, s4, s5, s6, s7, s8, s9⟩ := hSw; go_simp; all_goals (with_reducible rfl))
    try simp only [Act.put, List.getElem_toArray, List.getElem_cons_zero, List.getElem_cons_succ, List.setIfInBounds_toArray, List.set_cons_zero, List.set_cons_succ]
    refine wpAnyL_one (i := 16) (o := _) (by kernel_rfl) rfl (fun K hK => ?_)
    go_simp
    refine hK.out _ _ (fun h => absurd h (by decide)) ?_
    clear hK K
    try simp only [Act.put, List.getElem_toArray, List.getElem_cons_zero, List.getElem_cons_succ, List.setIfInBounds_toArray, List.set_cons_zero, List.set_cons_succ]
    refine wpAnyL_one (i := 17) (o := _) (by kernel_rfl) rfl (fun K hK => ?_)
    go_simp
    refine hK.out _ _ (fun h => absurd h (by decide)) ?_
    clear hK K
    try simp only [Act.put, List.getElem_toArray, List.getElem_cons_zero, List.getElem_cons_succ, List.setIfInBounds_toArray, List.set_cons_zero, List.set_cons_succ]
    refine wpAnyL_done (by kernel_rfl) ?_ _
    refine NoPanic.normal ?_
    have hRt := store6_own y0 hRc hyi
    rw [List.set_set, set_get_same hy0] at hRt
    have hRzt := hRz.keep (w' := ((((((Wg.setCell ⟨gc, m * 6, none⟩ (.int .u8 y0.op)).setCell ⟨gc, m * 6 + 1, none⟩ (.int .i64 y0.r)).setCell ⟨gc, m * 6 + 2, none⟩ (.int .i64 y0.a)).setCell ⟨gc, m * 6 + 3, none⟩ (.int .i64 y0.b)).setCell ⟨gc, m * 6 + 4, none⟩ (.int .i64 y0.n)).setCell ⟨gc, m * 6 + 5, none⟩ (.slice y0.aa y0.args.length y0.acap))) (store6_ne hgzc _ _ _ _ _ _ _ _ _ _ _ _)
    have hbkt := (store6_ne (w := Wg) hgc3 (m * 6) (m * 6 + 1) (m * 6 + 2) (m * 6 + 3) (m * 6 + 4) (m * 6 + 5) (.int .u8 y0.op) (.int .i64 y0.r) (.int .i64 y0.a) (.int .i64 y0.b) (.int .i64 y0.n) (.slice y0.aa y0.args.length y0.acap)).trans hbk
    have hbWt := store6_below hbj hgcV (m * 6) (m * 6 + 1) (m * 6 + 2) (m * 6 + 3) (m * 6 + 4) (m * 6 + 5) (.int .u8 y0.op) (.int .i64 y0.r) (.int .i64 y0.a) (.int .i64 y0.b) (.int .i64 y0.n) (.slice y0.aa y0.args.length y0.acap)
    generalize ((((((Wg.setCell ⟨gc, m * 6, none⟩ (.int .u8 y0.op)).setCell ⟨gc, m * 6 + 1, none⟩ (.int .i64 y0.r)).setCell ⟨gc, m * 6 + 2, none⟩ (.int .i64 y0.a)).setCell ⟨gc, m * 6 + 3, none⟩ (.int .i64 y0.b)).setCell ⟨gc, m * 6 + 4, none⟩ (.int .i64 y0.n)).setCell ⟨gc, m * 6 + 5, none⟩ (.slice y0.aa y0.args.length y0.acap)) = Wj at *
    clear hS0 e0 f0 e1 f1 e2 f2 e3 f3 e4 f4 e5 f5 hd0 hd1 hd2 hd3 hd4 hd5 hRz hRc hbk hbj
    have hRz := hRzt
    have hRc := hRt
    have hbk := hbkt
    have hbj := hbWt
    clear hRzt hRt hbkt hbWt
    obtain ⟨l1, hl1⟩ : ∃ l1 : Nat, p.funs.length - 1 = l1 := ⟨_, rfl⟩
    have hlw3 : IntKind.i64.wrap ((p.funs.length : Int) - 1) = (l1 : Int) := by rw [IntWalk.i64_in _ (by omega)]; omega
    have hl10 : (0 : Int) ≤ (l1 : Int) := by omega
    have hl11 : (l1 : Int) < (p.funs.length : Int) := by omega
    have hl0 : (0 : Int) < (p.funs.length : Int) := by omega
    have hl0n : 0 < p.funs.length := by omega
    have hcapz := hRz.le
    obtain ⟨f0, hf0⟩ : ∃ f0, p.funs[0]? = some f0 := ⟨_, List.getElem?_eq_getElem (by omega)⟩
    obtain ⟨fl, hfl⟩ : ∃ fl, p.funs[l1]? = some fl := ⟨_, List.getElem?_eq_getElem (by omega)⟩
    have hNM : Hid (∀ V, Below W0.heap.size W0 V → V.cell? ⟨b, off + l1 * 5, none⟩ = some (.string fl.name) ∧ V.cell? ⟨b, off, none⟩ = some (.string f0.name)) := Lib.hid fun V hV => by
      obtain ⟨_, q3⟩ := hcell.out V hV
      obtain ⟨b1, off1, ha1, _, q4, _⟩ := fn_row (hpV.out V q3).frow l1 fl hfl
      obtain ⟨b2, off2, ha2, _, q5, _⟩ := fn_row (hpV.out V q3).frow 0 f0 hf0
      rw [ha] at ha1 ha2
      cases ha1
      cases ha2
      rw [Nat.zero_mul, Nat.add_zero] at q5
      exact ⟨q4, q5⟩
    have hs0 : Wj.cell? ⟨V3.heap.size, 2, none⟩ = some (.slice (some ⟨gz, 0, none⟩) p.funs.length capz) := blk_cell hbk rfl
    go_upto_region 16 with fail
    clear hlw3 hs0
    have hRzd := hRz.keep (w' := Wj.drew) rfl
    have hRcd := hRc.keep (w' := Wj.drew) rfl
    have hbkd : Wj.drew.heap[V3.heap.size]? = _ := hbk
    have hbd := hbj.drew
    clear hRz hRc hbk hbj
    refine wp_region_noPanic ?_
    refine wp_region_L (k := 8) (S := (fun X : World => X.cell? ⟨V3.heap.size, 2, none⟩ = some (.slice (some ⟨gz, 0, none⟩) p.funs.length capz) ∧ X.cell? ⟨w.heap.size, 2, none⟩ = some (.slice (some ⟨b, off, none⟩) p.funs.length p.fcap) ∧ X.cell? ⟨b, off + l1 * 5, none⟩ = some (.string fl.name))) (by kernel_rfl) ?_
    generalize Wj.drew = Wk at *
    have hS0 : (fun X : World => X.cell? ⟨V3.heap.size, 2, none⟩ = some (.slice (some ⟨gz, 0, none⟩) p.funs.length capz) ∧ X.cell? ⟨w.heap.size, 2, none⟩ = some (.slice (some ⟨b, off, none⟩) p.funs.length p.fcap) ∧ X.cell? ⟨b, off + l1 * 5, none⟩ = some (.string fl.name)) Wk := ⟨blk_cell hbkd rfl, (hPC.out _ (hC3'.out.trans (hbd.mono hC3'.out.size))).1, (hNM.out _ (hC3'.out.trans (hbd.mono hC3'.out.size))).1⟩
    obtain ⟨a0, ha0⟩ : ∃ a0, (p.funs.set k xz)[0]? = some a0 := ⟨_, List.getElem?_eq_getElem (by rw [List.length_set]; omega)⟩
    have hc0 : (fnCells (p.funs.set k xz))[0]? = some (.string a0.name) := flat_at Fn.vals 5 Fn.vals_len _ 0 0 a0 ha0 (by omega)
    obtain ⟨e0, e1⟩ := hRzd.cell hc0
    refine' wpAnyL_take (by kernel_rfl) (i := 0) (oi := _) (v := _) (by decide) rfl (by kernel_rfl) (by kernel_rfl) (by kernel_rfl) (fun _ _ _ h => h) (Or.inl ⟨by rfl, ?hytq0⟩) (by assumption) ?rttq0
    case hytq0 => (intro w hSw; obtain ⟨s0, s1, s2⟩ := hSw; go_simp; all_goals (with_reducible rfl))
    try simp only [Act.put, List.getElem_toArray, List.getElem_cons_zero, List.getElem_cons_succ, List.setIfInBounds_toArray, List.set_cons_zero, List.set_cons_succ]
    refine' wpAnyL_take (by kernel_rfl) (i := 1) (oi := _) (v := _) (by decide) rfl (by kernel_rfl) (by kernel_rfl) (by kernel_rfl) (fun _ _ _ h => h) (Or.inl ⟨by rfl, ?hytq1⟩) (by assumption) ?rttq1
    case hytq1 => (intro w hSw; obtain ⟨s0, s1, s2⟩ := hSw; go_simp; all_goals (with_reducible rfl))
    try simp only [Act.put, List.getElem_toArray, List.getElem_cons_zero, List.getElem_cons_succ, List.setIfInBounds_toArray, List.set_cons_zero, List.set_cons_succ]
    refine' wpAnyL_take (by kernel_rfl) (i := 2) (oi := _) (v := _) (by decide) rfl (by kernel_rfl) (by kernel_rfl) (by kernel_rfl) (fun _ _ _ h => h) (Or.inl ⟨by rfl, ?hytq2⟩) (by assumption) ?rttq2
    case hytq2 => (intro w hSw; obtain ⟨s0, s1, s2⟩ := hSw; go_simp; all_goals (with_reducible rfl))
    try simp only [Act.put, List.getElem_toArray, List.getElem_cons_zero, List.getElem_cons_succ, List.setIfInBounds_toArray, List.set_cons_zero, List.set_cons_succ]
    refine' wpAnyL_take (by kernel_rfl) (i := 3) (oi := _) (v := _) (by decide) rfl (by kernel_rfl) (by kernel_rfl) (by kernel_rfl) (fun _ _ _ h => h) (Or.inl ⟨by rfl, ?hytq3⟩) (by assumption) ?rttq3
    case hytq3 => (intro w hSw; obtain ⟨s0, s1, s2⟩ := hSw; go_simp; all_goals (with_reducible rfl))
    try simp only [Act.put, List.getElem_toArray, List.getElem_cons_zero, List.getElem_cons_succ, List.setIfInBounds_toArray, List.set_cons_zero, List.set_cons_succ]
    refine' wpAnyL_take (by kernel_rfl) (i := 4) (oi := _) (v := _) (by decide) rfl (by kernel_rfl) (by kernel_rfl) (by kernel_rfl) (fun _ _ _ h => h) (Or.inl ⟨by rfl, ?hytq4⟩) (by assumption) ?rttq4
    case hytq4 => (intro w hSw; obtain ⟨s0, s1, s2⟩ := hSw; go_simp; all_goals (with_reducible rfl))
    try simp only [Act.put, List.getElem_toArray, List.getElem_cons_zero, List.getElem_cons_succ, List.setIfInBounds_toArray, List.set_cons_zero, List.set_cons_succ]
    refine' wpAnyL_take (by kernel_rfl) (i := 5) (oi := _) (v := _) (by decide) rfl (by kernel_rfl) (by kernel_rfl) (by kernel_rfl) (fun _ _ _ h => h) (Or.inl ⟨by rfl, ?hytq5⟩) (by assumption) ?rttq5
    case hytq5 => (intro w hSw; obtain ⟨s0, s1, s2⟩ := hSw; go_simp; all_goals (with_reducible rfl))
    try simp only [Act.put, List.getElem_toArray, List.getElem_cons_zero, List.getElem_cons_succ, List.setIfInBounds_toArray, List.set_cons_zero, List.set_cons_succ]
    refine' wpAnyL_take (by kernel_rfl) (i := 6) (oi := _) (v := _) (by decide) rfl (by kernel_rfl) (by kernel_rfl) (by kernel_rfl) (fun _ _ _ h => h) (Or.inl ⟨by rfl, ?hytq6⟩) (by assumption) ?rttq6
    case hytq6 => (intro w hSw; obtain ⟨s0, s1, s2⟩ := hSw; go_simp; all_goals (with_reducible rfl))
    try simp only [Act.put, List.getElem_toArray, List.getElem_cons_zero, List.getElem_cons_succ, List.setIfInBounds_toArray, List.set_cons_zero, List.set_cons_succ]
    refine' wpAnyL_take (by kernel_rfl) (i := 7) (oi := _) (v := _) (by decide) rfl (by kernel_rfl) (by kernel_rfl) (by kernel_rfl) (fun _ _ _ h => h) (Or.inl ⟨by rfl, ?hytq7⟩) (by assumption) ?rttq7
    case hytq7 => (intro w hSw; obtain ⟨s0, s1, s2⟩ := hSw; go_simp; all_goals (with_reducible rfl))
    try simp only [Act.put, List.getElem_toArray, List.getElem_cons_zero, List.getElem_cons_succ, List.setIfInBounds_toArray, List.set_cons_zero, List.set_cons_succ]
    refine wpAnyL_one (i := 8) (o := _) (by kernel_rfl) rfl (fun K hK => ?_)
    go_simp
    try rw [if_pos hl0n]
    refine hK.out _ _ (fun h => absurd h (by decide)) ?_
    clear hK K
    try simp only [Act.put, List.getElem_toArray, List.getElem_cons_zero, List.getElem_cons_succ, List.setIfInBounds_toArray, List.set_cons_zero, List.set_cons_succ]
    refine wpAnyL_one (i := 9) (o := _) (by kernel_rfl) rfl (fun K hK => ?_)
    go_simp
    refine hK.out _ _ (fun h => absurd h (by decide)) ?_
    clear hK K
    try simp only [Act.put, List.getElem_toArray, List.getElem_cons_zero, List.getElem_cons_succ, List.setIfInBounds_toArray, List.set_cons_zero, List.set_cons_succ]
    refine wpAnyL_one (i := 10) (o := _) (by kernel_rfl) rfl (fun K hK => ?_)
    go_simp
    refine hK.out _ _ (fun h => absurd h (by decide)) ?_
    clear hK K
    try simp only [Act.put, List.getElem_toArray, List.getElem_cons_zero, List.getElem_cons_succ, List.setIfInBounds_toArray, List.set_cons_zero, List.set_cons_succ]
    refine wpAnyL_done (by kernel_rfl) ?_ _
    refine NoPanic.normal ?_
    obtain ⟨b0, hb0e⟩ : ∃ b0 : Fn, ({ a0 with name := fl.name } : Fn) = b0 := ⟨_, rfl⟩
    have hR1 := hRzd.set hc0 (.string fl.name)
    rw [show (fnCells (p.funs.set k xz)).set 0 (.string fl.name) = fnCells ((p.funs.set k xz).set 0 b0) from flat_set Fn.vals 5 Fn.vals_len _ 0 0 a0 b0 _ ha0 (by omega) (by rw [← hb0e]; rfl)] at hR1
    have hRc1 := hRcd.keep (w' := Wk.setCell ⟨gz, 0, none⟩ (.string fl.name)) (heap_set_ne (fun e => hgzc e.symm) _ _)
    have hbk1 := (heap_set_ne (w := Wk) (fun e => hgne e.symm) 0 (.string fl.name)).trans hbkd
    have hbw1 : Below V3.heap.size V3 (Wk.setCell ⟨gz, 0, none⟩ (.string fl.name)) := hbd.setCell (p := ⟨gz, 0, none⟩) hgzV _
    clear e0 e1 hRzd hRcd hbkd hbd hc0 hS0
    generalize Wk.setCell ⟨gz, 0, none⟩ (.string fl.name) = Wl at *
    go_upto_region 17 with fail
    have hR1d := hR1.keep (w' := Wl.drew) rfl
    have hRc1d := hRc1.keep (w' := Wl.drew) rfl
    have hbk1d : Wl.drew.heap[V3.heap.size]? = _ := hbk1
    have hbw1d := hbw1.drew
    clear hR1 hRc1 hbk1 hbw1
    refine wp_region_noPanic ?_
    refine wp_region_L (k := 8) (S := (fun X : World => X.cell? ⟨V3.heap.size, 2, none⟩ = some (.slice (some ⟨gz, 0, none⟩) p.funs.length capz) ∧ X.cell? ⟨w.heap.size, 2, none⟩ = some (.slice (some ⟨b, off, none⟩) p.funs.length p.fcap) ∧ X.cell? ⟨b, off, none⟩ = some (.string f0.name))) (by kernel_rfl) ?_
    generalize Wl.drew = Wm at *
    have hS0 : (fun X : World => X.cell? ⟨V3.heap.size, 2, none⟩ = some (.slice (some ⟨gz, 0, none⟩) p.funs.length capz) ∧ X.cell? ⟨w.heap.size, 2, none⟩ = some (.slice (some ⟨b, off, none⟩) p.funs.length p.fcap) ∧ X.cell? ⟨b, off, none⟩ = some (.string f0.name)) Wm := ⟨blk_cell hbk1d rfl, (hPC.out _ (hC3'.out.trans (hbw1d.mono hC3'.out.size))).1, (hNM.out _ (hC3'.out.trans (hbw1d.mono hC3'.out.size))).2⟩
    obtain ⟨a1, ha1⟩ : ∃ a1, ((p.funs.set k xz).set 0 b0)[l1]? = some a1 := ⟨_, List.getElem?_eq_getElem (by rw [List.length_set, List.length_set]; omega)⟩
    have hc1 : (fnCells ((p.funs.set k xz).set 0 b0))[l1 * 5]? = some (.string a1.name) := flat_at Fn.vals 5 Fn.vals_len _ l1 0 a1 ha1 (by omega)
    obtain ⟨e0, e1⟩ := hR1d.cell hc1
    refine' wpAnyL_take (by kernel_rfl) (i := 0) (oi := _) (v := _) (by decide) rfl (by kernel_rfl) (by kernel_rfl) (by kernel_rfl) (fun _ _ _ h => h) (Or.inl ⟨by rfl, ?hytr0⟩) (by assumption) ?rttr0
    case hytr0 => (intro w hSw; obtain ⟨s0, s1, s2⟩ := hSw; go_simp; all_goals (with_reducible rfl))
    try simp only [Act.put, List.getElem_toArray, List.getElem_cons_zero, List.getElem_cons_succ, List.setIfInBounds_toArray, List.set_cons_zero, List.set_cons_succ]
    refine' wpAnyL_take (by kernel_rfl) (i := 1) (oi := _) (v := _) (by decide) rfl (by kernel_rfl) (by kernel_rfl) (by kernel_rfl) (fun _ _ _ h => h) (Or.inl ⟨by rfl, ?hytr1⟩) (by assumption) ?rttr1
    case hytr1 => (intro w hSw; obtain ⟨s0, s1, s2⟩ := hSw; go_simp; all_goals (with_reducible rfl))
    try simp only [Act.put, List.getElem_toArray, List.getElem_cons_zero, List.getElem_cons_succ, List.setIfInBounds_toArray, List.set_cons_zero, List.set_cons_succ]
    refine' wpAnyL_take (by kernel_rfl) (i := 2) (oi := _) (v := _) (by decide) rfl (by kernel_rfl) (by kernel_rfl) (by kernel_rfl) (fun _ _ _ h => h) (Or.inl ⟨by rfl, ?hytr2⟩) (by assumption) ?rttr2
    case hytr2 => (intro w hSw; obtain ⟨s0, s1, s2⟩ := hSw; go_simp; all_goals (with_reducible rfl))
    try simp only [Act.put, List.getElem_toArray, List.getElem_cons_zero, List.getElem_cons_succ, List.setIfInBounds_toArray, List.set_cons_zero, List.set_cons_succ]
    refine' wpAnyL_take (by kernel_rfl) (i := 3) (oi := _) (v := _) (by decide) rfl (by kernel_rfl) (by kernel_rfl) (by kernel_rfl) (fun _ _ _ h => h) (Or.inl ⟨by rfl, ?hytr3⟩) (by assumption) ?rttr3
    case hytr3 => (intro w hSw; obtain ⟨s0, s1, s2⟩ := hSw; go_simp; all_goals (with_reducible rfl))
    try simp only [Act.put, List.getElem_toArray, List.getElem_cons_zero, List.getElem_cons_succ, List.setIfInBounds_toArray, List.set_cons_zero, List.set_cons_succ]
    refine' wpAnyL_take (by kernel_rfl) (i := 4) (oi := _) (v := _) (by decide) rfl (by kernel_rfl) (by kernel_rfl) (by kernel_rfl) (fun _ _ _ h => h) (Or.inl ⟨by rfl, ?hytr4⟩) (by assumption) ?rttr4
    case hytr4 => (intro w hSw; obtain ⟨s0, s1, s2⟩ := hSw; go_simp; all_goals (with_reducible rfl))
    try simp only [Act.put, List.getElem_toArray, List.getElem_cons_zero, List.getElem_cons_succ, List.setIfInBounds_toArray, List.set_cons_zero, List.set_cons_succ]
    refine' wpAnyL_take (by kernel_rfl) (i := 5) (oi := _) (v := _) (by decide) rfl (by kernel_rfl) (by kernel_rfl) (by kernel_rfl) (fun _ _ _ h => h) (Or.inl ⟨by rfl, ?hytr5⟩) (by assumption) ?rttr5
    case hytr5 => (intro w hSw; obtain ⟨s0, s1, s2⟩ := hSw; go_simp; (try rw [if_pos hl0n]); all_goals (with_reducible rfl))
    try simp only [Act.put, List.getElem_toArray, List.getElem_cons_zero, List.getElem_cons_succ, List.setIfInBounds_toArray, List.set_cons_zero, List.set_cons_succ]
    refine' wpAnyL_take (by kernel_rfl) (i := 6) (oi := _) (v := _) (by decide) rfl (by kernel_rfl) (by kernel_rfl) (by kernel_rfl) (fun _ _ _ h => h) (Or.inl ⟨by rfl, ?hytr6⟩) (by assumption) ?rttr6
    case hytr6 => (intro w hSw; obtain ⟨s0, s1, s2⟩ := hSw; go_simp; all_goals (with_reducible rfl))
    try simp only [Act.put, List.getElem_toArray, List.getElem_cons_zero, List.getElem_cons_succ, List.setIfInBounds_toArray, List.set_cons_zero, List.set_cons_succ]
    refine' wpAnyL_take (by kernel_rfl) (i := 7) (oi := _) (v := _) (by decide) rfl (by kernel_rfl) (by kernel_rfl) (by kernel_rfl) (fun _ _ _ h => h) (Or.inl ⟨by rfl, ?hytr7⟩) (by assumption) ?rttr7
    case hytr7 => (intro w hSw; obtain ⟨s0, s1, s2⟩ := hSw; go_simp; all_goals (with_reducible rfl))
    try simp only [Act.put, List.getElem_toArray, List.getElem_cons_zero, List.getElem_cons_succ, List.setIfInBounds_toArray, List.set_cons_zero, List.set_cons_succ]
    refine wpAnyL_one (i := 8) (o := _) (by kernel_rfl) rfl (fun K hK => ?_)
    go_simp
    refine hK.out _ _ (fun h => absurd h (by decide)) ?_
    clear hK K
    try simp only [Act.put, List.getElem_toArray, List.getElem_cons_zero, List.getElem_cons_succ, List.setIfInBounds_toArray, List.set_cons_zero, List.set_cons_succ]
    refine wpAnyL_one (i := 9) (o := _) (by kernel_rfl) rfl (fun K hK => ?_)
    go_simp
    refine hK.out _ _ (fun h => absurd h (by decide)) ?_
    clear hK K
    try simp only [Act.put, List.getElem_toArray, List.getElem_cons_zero, List.getElem_cons_succ, List.setIfInBounds_toArray, List.set_cons_zero, List.set_cons_succ]
    refine wpAnyL_one (i := 10) (o := _) (by kernel_rfl) rfl (fun K hK => ?_)
    go_simp
    refine hK.out _ _ (fun h => absurd h (by decide)) ?_
    clear hK K
    try simp only [Act.put, List.getElem_toArray, List.getElem_cons_zero, List.getElem_cons_succ, List.setIfInBounds_toArray, List.set_cons_zero, List.set_cons_succ]
    refine wpAnyL_done (by kernel_rfl) ?_ _
    refine NoPanic.normal ?_
    obtain ⟨b1, hb1e⟩ : ∃ b1 : Fn, ({ a1 with name := f0.name } : Fn) = b1 := ⟨_, rfl⟩
    have hR2 := hR1d.set hc1 (.string f0.name)
    rw [show (fnCells ((p.funs.set k xz).set 0 b0)).set (l1 * 5) (.string f0.name) = fnCells (((p.funs.set k xz).set 0 b0).set l1 b1) from flat_set Fn.vals 5 Fn.vals_len _ l1 0 a1 b1 _ ha1 (by omega) (by rw [← hb1e]; rfl)] at hR2
    have hRc2 := hRc1d.keep (w' := Wm.setCell ⟨gz, l1 * 5, none⟩ (.string f0.name)) (heap_set_ne (fun e => hgzc e.symm) _ _)
    have hbk2 := (heap_set_ne (w := Wm) (fun e => hgne e.symm) (l1 * 5) (.string f0.name)).trans hbk1d
    have hbw2 : Below V3.heap.size V3 (Wm.setCell ⟨gz, l1 * 5, none⟩ (.string f0.name)) := hbw1d.setCell (p := ⟨gz, l1 * 5, none⟩) hgzV _
    clear e0 e1 hR1d hRc1d hbk1d hbw1d hc1 hS0
    generalize Wm.setCell ⟨gz, l1 * 5, none⟩ (.string f0.name) = Wn at *
    obtain ⟨F3, hF3⟩ : ∃ F3, ((p.funs.set k xz).set 0 b0).set l1 b1 = F3 := ⟨_, rfl⟩
    have hlen3 : F3.length = p.funs.length := by rw [← hF3]; simp
    have hG3 : F3.map Gf = p.funs.map Gf := by
      have h1 : (p.funs.set k xz).map Gf = p.funs.map Gf := map_set_same hx (by rw [← hxz]; rfl)
      have h2 : ((p.funs.set k xz).set 0 b0).map Gf = (p.funs.set k xz).map Gf := map_set_same ha0 (by rw [← hb0e]; rfl)
      have h3 : F3.map Gf = ((p.funs.set k xz).set 0 b0).map Gf := by rw [← hF3]; exact map_set_same ha1 (by rw [← hb1e]; rfl)
      rw [h3, h2, h1]
    have hN3 : F3.map Fn.name = ((p.funs.map Fn.name).set 0 fl.name).set (p.funs.length - 1) f0.name := by
      have h1 : (p.funs.set k xz).map Fn.name = p.funs.map Fn.name := map_set_same hx (by rw [← hxz])
      rw [← hF3, List.map_set, List.map_set, h1, hl1, ← hb0e, ← hb1e]
    rw [hF3] at hR2
    obtain ⟨pz, hpz⟩ : ∃ pz : Pg, ({ p with fa := some ⟨gz, 0, none⟩, fcap := capz, funs := F3 } : Pg) = pz := ⟨_, rfl⟩
    have hmz : mayP pz = true := mayP_turn (p := p) (q := pz) (f := f0) (g := fl) (by rw [← hpz]) (by rw [← hpz]) hf0 (by rw [hl1]; exact hfl) (by rw [← hpz]; exact hlen3) (fun j u v hu hv => same_of_G hG3 j u v (by rw [← hpz] at hu; exact hu) hv) (by rw [← hpz]; exact hN3) hmp
    have hsz : sameP p pz = decide (l1 = 0) := by
      rw [← hl1]
      exact sameP_turn (p := p) (q := pz) (f := f0) (g := fl) (by rw [← hpz]) (by rw [← hpz]) hf0 (by rw [hl1]; exact hfl) (by rw [← hpz]; exact hlen3) (fun j u v hu hv => same_of_G hG3 j u v (by rw [← hpz] at hu; exact hu) hv) (by rw [← hpz]; exact hN3) hmp
    have hdz : decide ((l1 : Int) = 0) = decide (l1 = 0) := by
      rw [Bool.eq_iff_iff, decide_eq_true_eq, decide_eq_true_eq]
      omega
    have hPZ : Hid (∀ V, Below Wn.heap.size Wn V → Bp1 V3.heap.size pz V ∧ Pg.In V (fun _ => True) pz ∧ Bp1 w.heap.size p V ∧ Pg.In V (fun _ => True) p ∧ Below w.heap.size w V) := Lib.hid fun V hV => by
      have h0 := hC3'.out.trans ((hbw2.trans (hV.mono hbw2.size)).mono hC3'.out.size)
      obtain ⟨q7, q8⟩ := hcell.out V h0
      have q4 := hpV.out V q8
      have h1 := (hV.block _ (Array.getElem?_eq_some_iff.1 hbk2).1).trans hbk2
      have hR5 := (hR2.keep (hV.block gz hR2.lt)).row
      have hR6 := (hRc2.keep (hV.block gc hRc2.lt)).row
      have hX := q4.funs x (List.mem_of_getElem? hx)
      have hin1 : ∀ f ∈ p.funs.set k xz, Fn.In V (fun _ => True) f := fun f hf => by
        rcases List.mem_or_eq_of_mem_set hf with hf | rfl
        · exact q4.funs f hf
        · subst hxz
          exact ⟨hX.name, hX.params, hX.regs, hR6, hX.code⟩
      have hin2 : ∀ f ∈ (p.funs.set k xz).set 0 b0, Fn.In V (fun _ => True) f := fun f hf => by
        rcases List.mem_or_eq_of_mem_set hf with hf | rfl
        · exact hin1 f hf
        · have hA := hin1 a0 (List.mem_of_getElem? ha0)
          subst hb0e
          exact ⟨(q4.funs fl (List.mem_of_getElem? hfl)).name, hA.params, hA.regs, hA.row, hA.code⟩
      have hin3 : ∀ f ∈ F3, Fn.In V (fun _ => True) f := fun f hf => by
        rw [← hF3] at hf
        rcases List.mem_or_eq_of_mem_set hf with hf | rfl
        · exact hin2 f hf
        · have hA := hin2 a1 (List.mem_of_getElem? ha1)
          subst hb1e
          exact ⟨(q4.funs f0 (List.mem_of_getElem? hf0)).name, hA.params, hA.regs, hA.row, hA.code⟩
      subst hpz
      refine ⟨⟨blk_cell h1 rfl, blk_cell h1 rfl, ?_⟩, ⟨q4.mrow, q4.mems, q4.lrow, q4.locks, ?_, hin3⟩, q7.1, q4, q8⟩
      · show _ = some (Value.slice (some ⟨gz, 0, none⟩) F3.length capz)
        rw [hlen3]
        exact blk_cell h1 rfl
      · show RowAt V _ (some ⟨gz, 0, none⟩) capz F3.length _
        rw [hlen3]
        exact hR5
    have hsz2 : pz.mems.length + pz.locks.length + pz.funs.length ≤ 1048576 := by
      rw [← hpz]
      show p.mems.length + p.locks.length + F3.length ≤ 1048576
      rw [hlen3]
      exact hsum
    clear hR2 hRc2 hbk2 hbw2 hF3 hG3 hN3 hNM hPC
    go_upto_region 18 with fail
    refine wp_region_rel_text (C := fun V => Below Wn.heap.size Wn V) (E := Ext) (R := fun j => (rs18 p pz (decide (l1 = 0)) l1).getD j VT) (Below.refl _ _) (by kernel_rfl) (fun j v w' w'' _ hE h => mono_get _ j rs18_mono v w' w'' hE h) (steps_all ?hs18t) ?hend18t
    case hs18t =>
      refine stepsL_cons (s_val fun a W hC hs => ?_) ?_
      · have hB := hPZ.out W hC
        have ho := old_of hs 10 (by kernel_rfl) (by rfl)
        exact ⟨wanted_none rfl, _, run_ld rfl (ev ho) (load_pg hB.1), rfl⟩
      refine stepsL_cons (s_call fun a W hC hs => ?_) ?_
      · obtain ⟨v0, hv0, hR0⟩ := got_of hs 0 146 (by kernel_rfl) (by rfl)
        have hR0' : v0 = _ := hR0
        subst hR0'
        have hB := hPZ.out W hC
        refine ⟨wanted_none rfl, 13, _, run_call1 rfl (ev hv0) (fun _ _ => rfl), (hmy0.out pz W hB.2.2.2.2 hB.2.1 hsz2).mono ?_⟩
        rintro e W' ⟨rfl, hb⟩
        exact ⟨_, rfl, hC.trans (hb.mono hC.size), hb, by show Value.bool _ = _; rw [hmz]⟩
      refine stepsL_cons (s_val fun a W hC hs => ?_) ?_
      · obtain ⟨v0, hv0, hR0⟩ := got_of hs 1 147 (by kernel_rfl) (by rfl)
        have hR0' : v0 = _ := hR0
        subst hR0'
        exact ⟨wanted_none rfl, _, run_mv (Or.inl rfl) (ev hv0), rfl⟩
      refine stepsL_cons (s_val fun a W hC hs => ?_) ?_
      · obtain ⟨v9, hv9, hR9⟩ := got_of hs 2 148 (by kernel_rfl) (by rfl)
        have hR9' : v9 = _ := hR9
        subst hR9'
        have hB := hPZ.out W hC
        have ho := old_of hs 4 (by kernel_rfl) (by rfl)
        exact ⟨wanted_true (j := 2) (d := 148) rfl (by rfl) hv9, _, run_ld rfl (ev ho) (load_pg hB.2.2.1), rfl⟩
      refine stepsL_cons (s_val fun a W hC hs => ?_) ?_
      · obtain ⟨v9, hv9, hR9⟩ := got_of hs 2 148 (by kernel_rfl) (by rfl)
        have hR9' : v9 = _ := hR9
        subst hR9'
        have hB := hPZ.out W hC
        have ho := old_of hs 10 (by kernel_rfl) (by rfl)
        exact ⟨wanted_true (j := 2) (d := 148) rfl (by rfl) hv9, _, run_ld rfl (ev ho) (load_pg hB.1), rfl⟩
      refine stepsL_cons (s_call fun a W hC hs => ?_) ?_
      · obtain ⟨v9, hv9, hR9⟩ := got_of hs 2 148 (by kernel_rfl) (by rfl)
        have hR9' : v9 = _ := hR9
        subst hR9'
        obtain ⟨v0, hv0, hR0⟩ := got_of hs 3 149 (by kernel_rfl) (by rfl)
        have hR0' : v0 = _ := hR0
        subst hR0'
        obtain ⟨v1, hv1, hR1⟩ := got_of hs 4 150 (by kernel_rfl) (by rfl)
        have hR1' : v1 = _ := hR1
        subst hR1'
        have hB := hPZ.out W hC
        refine ⟨wanted_true (j := 2) (d := 148) rfl (by rfl) hv9, 15, _, run_call2 rfl (ev hv0) (ev hv1) (fun _ _ => rfl), (same_any p pz W hB.2.2.2.1 hB.2.1).mono ?_⟩
        rintro e W' ⟨rfl, hb⟩
        exact ⟨_, rfl, hC.trans (hb.mono hC.size), hb, by show Value.bool _ = _; rw [hsz]⟩
      refine stepsL_cons (s_val fun a W hC hs => ?_) ?_
      · obtain ⟨v9, hv9, hR9⟩ := got_of hs 2 148 (by kernel_rfl) (by rfl)
        have hR9' : v9 = _ := hR9
        subst hR9'
        have ho := old_of hs 12 (by kernel_rfl) (by rfl)
        exact ⟨wanted_true (j := 2) (d := 148) rfl (by rfl) hv9, _, run_mv (Or.inl rfl) (ev ho), rfl⟩
      refine stepsL_cons (s_val fun a W hC hs => ?_) ?_
      · obtain ⟨v9, hv9, hR9⟩ := got_of hs 2 148 (by kernel_rfl) (by rfl)
        have hR9' : v9 = _ := hR9
        subst hR9'
        obtain ⟨v0, hv0, hR0⟩ := got_of hs 6 152 (by kernel_rfl) (by rfl)
        have hR0' : v0 = _ := hR0
        subst hR0'
        exact ⟨wanted_true (j := 2) (d := 148) rfl (by rfl) hv9, _, run_eqi Tryd.underlying3 rfl (ev hv0) (ev_const _), by show Value.bool _ = _; rw [hdz]⟩
      refine stepsL_cons (s_val fun a W hC hs => ?_) ?_
      · obtain ⟨v9, hv9, hR9⟩ := got_of hs 2 148 (by kernel_rfl) (by rfl)
        have hR9' : v9 = _ := hR9
        subst hR9'
        obtain ⟨v0, hv0, hR0⟩ := got_of hs 5 151 (by kernel_rfl) (by rfl)
        have hR0' : v0 = _ := hR0
        subst hR0'
        obtain ⟨v1, hv1, hR1⟩ := got_of hs 7 153 (by kernel_rfl) (by rfl)
        have hR1' : v1 = _ := hR1
        subst hR1'
        exact ⟨wanted_true (j := 2) (d := 148) rfl (by rfl) hv9, _, run_eqb Tryd.underlying4 rfl (ev hv0) (ev hv1), rfl⟩
      refine stepsL_cons (s_val fun a W hC hs => ?_) ?_
      · obtain ⟨v0, hv0, hR0⟩ := got_of hs 2 148 (by kernel_rfl) (by rfl)
        have hR0' : v0 = _ := hR0
        subst hR0'
        obtain ⟨v1, hv1, hR1⟩ := got_of hs 8 154 (by kernel_rfl) (by rfl)
        have hR1' : v1 = _ := hR1
        subst hR1'
        exact ⟨wanted_none rfl, _, run_pk rfl (ev hv0) (by rw [if_pos rfl]; exact ev hv1), rfl⟩
      refine stepsL_cons (s_val fun a W hC hs => ?_) ?_
      · obtain ⟨v0, hv0, hR0⟩ := got_of hs 9 155 (by kernel_rfl) (by rfl)
        have hR0' : v0 = _ := hR0
        subst hR0'
        exact ⟨wanted_none rfl, _, run_mv (Or.inr rfl) (ev hv0), rfl⟩
      exact stepsL_nil
    case hend18t =>
      intro σ9 V9 hC9 hR9
      generalize hF : fillL _ _ _ _ _ = F
      simp [fillL, dstOf, List.range, List.range.loop, Act.put] at hF
      subst hF
      have h10 : σ9 10 = .bool true := hR9 10 (by simp)
      rw [h10]
      have hfin := (hPZ.out V9 hC9).2.2.2.2
      clear hR9 h10 hPZ hmz hsz
      go_wp2_with fail
      go_ret
      exact ⟨rfl, hfin⟩
  · have hkm' : ¬ (m : Int) < (x.code.length : Int) - 1 := by omega
    have hRz := hRs
    have hRc := hRcs
    have hbk := hbks
    have hbj := hbWs
    clear hRs hRcs hbks hbWs
    generalize Ws = Wj at *
    obtain ⟨l1, hl1⟩ : ∃ l1 : Nat, p.funs.length - 1 = l1 := ⟨_, rfl⟩
    have hlw3 : IntKind.i64.wrap ((p.funs.length : Int) - 1) = (l1 : Int) := by rw [IntWalk.i64_in _ (by omega)]; omega
    have hl10 : (0 : Int) ≤ (l1 : Int) := by omega
    have hl11 : (l1 : Int) < (p.funs.length : Int) := by omega
    have hl0 : (0 : Int) < (p.funs.length : Int) := by omega
    have hl0n : 0 < p.funs.length := by omega
    have hcapz := hRz.le
    obtain ⟨f0, hf0⟩ : ∃ f0, p.funs[0]? = some f0 := ⟨_, List.getElem?_eq_getElem (by omega)⟩
    obtain ⟨fl, hfl⟩ : ∃ fl, p.funs[l1]? = some fl := ⟨_, List.getElem?_eq_getElem (by omega)⟩
    have hNM : Hid (∀ V, Below W0.heap.size W0 V → V.cell? ⟨b, off + l1 * 5, none⟩ = some (.string fl.name) ∧ V.cell? ⟨b, off, none⟩ = some (.string f0.name)) := Lib.hid fun V hV => by
      obtain ⟨_, q3⟩ := hcell.out V hV
      obtain ⟨b1, off1, ha1, _, q4, _⟩ := fn_row (hpV.out V q3).frow l1 fl hfl
      obtain ⟨b2, off2, ha2, _, q5, _⟩ := fn_row (hpV.out V q3).frow 0 f0 hf0
      rw [ha] at ha1 ha2
      cases ha1
      cases ha2
      rw [Nat.zero_mul, Nat.add_zero] at q5
      exact ⟨q4, q5⟩
    have hs0 : Wj.cell? ⟨V3.heap.size, 2, none⟩ = some (.slice (some ⟨gz, 0, none⟩) p.funs.length capz) := blk_cell hbk rfl
    go_upto_region 16 with fail
    clear hlw3 hs0
    have hRzd := hRz.keep (w' := Wj.drew) rfl
    have hRcd := hRc.keep (w' := Wj.drew) rfl
    have hbkd : Wj.drew.heap[V3.heap.size]? = _ := hbk
    have hbd := hbj.drew
    clear hRz hRc hbk hbj
    refine wp_region_noPanic ?_
    refine wp_region_L (k := 8) (S := (fun X : World => X.cell? ⟨V3.heap.size, 2, none⟩ = some (.slice (some ⟨gz, 0, none⟩) p.funs.length capz) ∧ X.cell? ⟨w.heap.size, 2, none⟩ = some (.slice (some ⟨b, off, none⟩) p.funs.length p.fcap) ∧ X.cell? ⟨b, off + l1 * 5, none⟩ = some (.string fl.name))) (by kernel_rfl) ?_
    generalize Wj.drew = Wk at *
    have hS0 : (fun X : World => X.cell? ⟨V3.heap.size, 2, none⟩ = some (.slice (some ⟨gz, 0, none⟩) p.funs.length capz) ∧ X.cell? ⟨w.heap.size, 2, none⟩ = some (.slice (some ⟨b, off, none⟩) p.funs.length p.fcap) ∧ X.cell? ⟨b, off + l1 * 5, none⟩ = some (.string fl.name)) Wk := ⟨blk_cell hbkd rfl, (hPC.out _ (hC3'.out.trans (hbd.mono hC3'.out.size))).1, (hNM.out _ (hC3'.out.trans (hbd.mono hC3'.out.size))).1⟩
    obtain ⟨a0, ha0⟩ : ∃ a0, (p.funs.set k xz)[0]? = some a0 := ⟨_, List.getElem?_eq_getElem (by rw [List.length_set]; omega)⟩
    have hc0 : (fnCells (p.funs.set k xz))[0]? = some (.string a0.name) := flat_at Fn.vals 5 Fn.vals_len _ 0 0 a0 ha0 (by omega)
    obtain ⟨e0, e1⟩ := hRzd.cell hc0
    refine' wpAnyL_take (by kernel_rfl) (i := 0) (oi := _) (v := _) (by decide) rfl (by kernel_rfl) (by kernel_rfl) (by kernel_rfl) (fun _ _ _ h => h) (Or.inl ⟨by rfl, ?hynq0⟩) (by assumption) ?rtnq0
    case hynq0 => (intro w hSw; obtain ⟨s0, s1, s2⟩ := hSw; go_simp; all_goals (with_reducible rfl))
    try simp only [Act.put, List.getElem_toArray, List.getElem_cons_zero, List.getElem_cons_succ, List.setIfInBounds_toArray, List.set_cons_zero, List.set_cons_succ]
    refine' wpAnyL_take (by kernel_rfl) (i := 1) (oi := _) (v := _) (by decide) rfl (by kernel_rfl) (by kernel_rfl) (by kernel_rfl) (fun _ _ _ h => h) (Or.inl ⟨by rfl, ?hynq1⟩) (by assumption) ?rtnq1
    case hynq1 => (intro w hSw; obtain ⟨s0, s1, s2⟩ := hSw; go_simp; all_goals (with_reducible rfl))
    try simp only [Act.put, List.getElem_toArray, List.getElem_cons_zero, List.getElem_cons_succ, List.setIfInBounds_toArray, List.set_cons_zero, List.set_cons_succ]
    refine' wpAnyL_take (by kernel_rfl) (i := 2) (oi := _) (v := _) (by decide) rfl (by kernel_rfl) (by kernel_rfl) (by kernel_rfl) (fun _ _ _ h => h) (Or.inl ⟨by rfl, ?hynq2⟩) (by assumption) ?rtnq2
    case hynq2 => (intro w hSw; obtain ⟨s0, s1, s2⟩ := hSw; go_simp; all_goals (with_reducible rfl))
    try simp only [Act.put, List.getElem_toArray, List.getElem_cons_zero, List.getElem_cons_succ, List.setIfInBounds_toArray, List.set_cons_zero, List.set_cons_succ]
    refine' wpAnyL_take (by kernel_rfl) (i := 3) (oi := _) (v := _) (by decide) rfl (by kernel_rfl) (by kernel_rfl) (by kernel_rfl) (fun _ _ _ h => h) (Or.inl ⟨by rfl, ?hynq3⟩) (by assumption) ?rtnq3
    case hynq3 => (intro w hSw; obtain ⟨s0, s1, s2⟩ := hSw; go_simp; all_goals (with_reducible rfl))
    try simp only [Act.put, List.getElem_toArray, List.getElem_cons_zero, List.getElem_cons_succ, List.setIfInBounds_toArray, List.set_cons_zero, List.set_cons_succ]
    refine' wpAnyL_take (by kernel_rfl) (i := 4) (oi := _) (v := _) (by decide) rfl (by kernel_rfl) (by kernel_rfl) (by kernel_rfl) (fun _ _ _ h => h) (Or.inl ⟨by rfl, ?hynq4⟩) (by assumption) ?rtnq4
    case hynq4 => (intro w hSw; obtain ⟨s0, s1, s2⟩ := hSw; go_simp; all_goals (with_reducible rfl))
    try simp only [Act.put, List.getElem_toArray, List.getElem_cons_zero, List.getElem_cons_succ, List.setIfInBounds_toArray, List.set_cons_zero, List.set_cons_succ]
    refine' wpAnyL_take (by kernel_rfl) (i := 5) (oi := _) (v := _) (by decide) rfl (by kernel_rfl) (by kernel_rfl) (by kernel_rfl) (fun _ _ _ h => h) (Or.inl ⟨by rfl, ?hynq5⟩) (by assumption) ?rtnq5
    case hynq5 => (intro w hSw; obtain ⟨s0, s1, s2⟩ := hSw; go_simp; all_goals (with_reducible rfl))
    try simp only [Act.put, List.getElem_toArray, List.getElem_cons_zero, List.getElem_cons_succ, List.setIfInBounds_toArray, List.set_cons_zero, List.set_cons_succ]
    refine' wpAnyL_take (by kernel_rfl) (i := 6) (oi := _) (v := _) (by decide) rfl (by kernel_rfl) (by kernel_rfl) (by kernel_rfl) (fun _ _ _ h => h) (Or.inl ⟨by rfl, ?hynq6⟩) (by assumption) ?rtnq6
    case hynq6 => (intro w hSw; obtain ⟨s0, s1, s2⟩ := hSw; go_simp; all_goals (with_reducible rfl))
    try simp only [Act.put, List.getElem_toArray, List.getElem_cons_zero, List.getElem_cons_succ, List.setIfInBounds_toArray, List.set_cons_zero, List.set_cons_succ]
    refine' wpAnyL_take (by kernel_rfl) (i := 7) (oi := _) (v := _) (by decide) rfl (by kernel_rfl) (by kernel_rfl) (by kernel_rfl) (fun _ _ _ h => h) (Or.inl ⟨by rfl, ?hynq7⟩) (by assumption) ?rtnq7
    case hynq7 => (intro w hSw; obtain ⟨s0, s1, s2⟩ := hSw; go_simp; all_goals (with_reducible rfl))
    try simp only [Act.put, List.getElem_toArray, List.getElem_cons_zero, List.getElem_cons_succ, List.setIfInBounds_toArray, List.set_cons_zero, List.set_cons_succ]
    refine wpAnyL_one (i := 8) (o := _) (by kernel_rfl) rfl (fun K hK => ?_)
    go_simp
    try rw [if_pos hl0n]
    refine hK.out _ _ (fun h => absurd h (by decide)) ?_
    clear hK K
    try simp only [Act.put, List.getElem_toArray, List.getElem_cons_zero, List.getElem_cons_succ, List.setIfInBounds_toArray, List.set_cons_zero, List.set_cons_succ]
    refine wpAnyL_one (i := 9) (o := _) (by kernel_rfl) rfl (fun K hK => ?_)
    go_simp
    refine hK.out _ _ (fun h => absurd h (by decide)) ?_
    clear hK K
    try simp only [Act.put, List.getElem_toArray, List.getElem_cons_zero, List.getElem_cons_succ, List.setIfInBounds_toArray, List.set_cons_zero, List.set_cons_succ]
    refine wpAnyL_one (i := 10) (o := _) (by kernel_rfl) rfl (fun K hK => ?_)
    go_simp
    refine hK.out _ _ (fun h => absurd h (by decide)) ?_
    clear hK K
    try simp only [Act.put, List.getElem_toArray, List.getElem_cons_zero, List.getElem_cons_succ, List.setIfInBounds_toArray, List.set_cons_zero, List.set_cons_succ]
    refine wpAnyL_done (by kernel_rfl) ?_ _
    refine NoPanic.normal ?_
    obtain ⟨b0, hb0e⟩ : ∃ b0 : Fn, ({ a0 with name := fl.name } : Fn) = b0 := ⟨_, rfl⟩
    have hR1 := hRzd.set hc0 (.string fl.name)
    rw [show (fnCells (p.funs.set k xz)).set 0 (.string fl.name) = fnCells ((p.funs.set k xz).set 0 b0) from flat_set Fn.vals 5 Fn.vals_len _ 0 0 a0 b0 _ ha0 (by omega) (by rw [← hb0e]; rfl)] at hR1
    have hRc1 := hRcd.keep (w' := Wk.setCell ⟨gz, 0, none⟩ (.string fl.name)) (heap_set_ne (fun e => hgzc e.symm) _ _)
    have hbk1 := (heap_set_ne (w := Wk) (fun e => hgne e.symm) 0 (.string fl.name)).trans hbkd
    have hbw1 : Below V3.heap.size V3 (Wk.setCell ⟨gz, 0, none⟩ (.string fl.name)) := hbd.setCell (p := ⟨gz, 0, none⟩) hgzV _
    clear e0 e1 hRzd hRcd hbkd hbd hc0 hS0
    generalize Wk.setCell ⟨gz, 0, none⟩ (.string fl.name) = Wl at *
    go_upto_region 17 with fail
    have hR1d := hR1.keep (w' := Wl.drew) rfl
    have hRc1d := hRc1.keep (w' := Wl.drew) rfl
    have hbk1d : Wl.drew.heap[V3.heap.size]? = _ := hbk1
    have hbw1d := hbw1.drew
    clear hR1 hRc1 hbk1 hbw1
    refine wp_region_noPanic ?_
    refine wp_region_L (k := 8) (S := (fun X : World => X.cell? ⟨V3.heap.size, 2, none⟩ = some (.slice (some ⟨gz, 0, none⟩) p.funs.length capz) ∧ X.cell? ⟨w.heap.size, 2, none⟩ = some (.slice (some ⟨b, off, none⟩) p.funs.length p.fcap) ∧ X.cell? ⟨b, off, none⟩ = some (.string f0.name))) (by kernel_rfl) ?_
    generalize Wl.drew = Wm at *
    have hS0 : (fun X : World => X.cell? ⟨V3.heap.size, 2, none⟩ = some (.slice (some ⟨gz, 0, none⟩) p.funs.length capz) ∧ X.cell? ⟨w.heap.size, 2, none⟩ = some (.slice (some ⟨b, off, none⟩) p.funs.length p.fcap) ∧ X.cell? ⟨b, off, none⟩ = some (.string f0.name)) Wm := ⟨blk_cell hbk1d rfl, (hPC.out _ (hC3'.out.trans (hbw1d.mono hC3'.out.size))).1, (hNM.out _ (hC3'.out.trans (hbw1d.mono hC3'.out.size))).2⟩
    obtain ⟨a1, ha1⟩ : ∃ a1, ((p.funs.set k xz).set 0 b0)[l1]? = some a1 := ⟨_, List.getElem?_eq_getElem (by rw [List.length_set, List.length_set]; omega)⟩
    have hc1 : (fnCells ((p.funs.set k xz).set 0 b0))[l1 * 5]? = some (.string a1.name) := flat_at Fn.vals 5 Fn.vals_len _ l1 0 a1 ha1 (by omega)
    obtain ⟨e0, e1⟩ := hR1d.cell hc1
    refine' wpAnyL_take (by kernel_rfl) (i := 0) (oi := _) (v := _) (by decide) rfl (by kernel_rfl) (by kernel_rfl) (by kernel_rfl) (fun _ _ _ h => h) (Or.inl ⟨by rfl, ?hynr0⟩) (by assumption) ?rtnr0
    case hynr0 => (intro w hSw; obtain ⟨s0, s1, s2⟩ := hSw; go_simp; all_goals (with_reducible rfl))
    try simp only [Act.put, List.getElem_toArray, List.getElem_cons_zero, List.getElem_cons_succ, List.setIfInBounds_toArray, List.set_cons_zero, List.set_cons_succ]
    refine' wpAnyL_take (by kernel_rfl) (i := 1) (oi := _) (v := _) (by decide) rfl (by kernel_rfl) (by kernel_rfl) (by kernel_rfl) (fun _ _ _ h => h) (Or.inl ⟨by rfl, ?hynr1⟩) (by assumption) ?rtnr1
    case hynr1 => (intro w hSw; obtain ⟨s0, s1, s2⟩ := hSw; go_simp; all_goals (with_reducible rfl))
    try simp only [Act.put, List.getElem_toArray, List.getElem_cons_zero, List.getElem_cons_succ, List.setIfInBounds_toArray, List.set_cons_zero, List.set_cons_succ]
    refine' wpAnyL_take (by kernel_rfl) (i := 2) (oi := _) (v := _) (by decide) rfl (by kernel_rfl) (by kernel_rfl) (by kernel_rfl) (fun _ _ _ h => h) (Or.inl ⟨by rfl, ?hynr2⟩) (by assumption) ?rtnr2
    case hynr2 => (intro w hSw; obtain ⟨s0, s1, s2⟩ := hSw; go_simp; all_goals (with_reducible rfl))
    try simp only [Act.put, List.getElem_toArray, List.getElem_cons_zero, List.getElem_cons_succ, List.setIfInBounds_toArray, List.set_cons_zero, List.set_cons_succ]
    refine' wpAnyL_take (by kernel_rfl) (i := 3) (oi := _) (v := _) (by decide) rfl (by kernel_rfl) (by kernel_rfl) (by kernel_rfl) (fun _ _ _ h => h) (Or.inl ⟨by rfl, ?hynr3⟩) (by assumption) ?rtnr3
    case hynr3 => (intro w hSw; obtain ⟨s0, s1, s2⟩ := hSw; go_simp; all_goals (with_reducible rfl))
    try simp only [Act.put, List.getElem_toArray, List.getElem_cons_zero, List.getElem_cons_succ, List.setIfInBounds_toArray, List.set_cons_zero, List.set_cons_succ]
    refine' wpAnyL_take (by kernel_rfl) (i := 4) (oi := _) (v := _) (by decide) rfl (by kernel_rfl) (by kernel_rfl) (by kernel_rfl) (fun _ _ _ h => h) (Or.inl ⟨by rfl, ?hynr4⟩) (by assumption) ?rtnr4
    case hynr4 => (intro w hSw; obtain ⟨s0, s1, s2⟩ := hSw; go_simp; all_goals (with_reducible rfl))
    try simp only [Act.put, List.getElem_toArray, List.getElem_cons_zero, List.getElem_cons_succ, List.setIfInBounds_toArray, List.set_cons_zero, List.set_cons_succ]
    refine' wpAnyL_take (by kernel_rfl) (i := 5) (oi := _) (v := _) (by decide) rfl (by kernel_rfl) (by kernel_rfl) (by kernel_rfl) (fun _ _ _ h => h) (Or.inl ⟨by rfl, ?hynr5⟩) (by assumption) ?rtnr5
    case hynr5 => (intro w hSw; obtain ⟨s0, s1, s2⟩ := hSw; go_simp; (try rw [if_pos hl0n]); all_goals (with_reducible rfl))
    try simp only [Act.put, List.getElem_toArray, List.getElem_cons_zero, List.getElem_cons_succ, List.setIfInBounds_toArray, List.set_cons_zero, List.set_cons_succ]
    refine' wpAnyL_take (by kernel_rfl) (i := 6) (oi := _) (v := _) (by decide) rfl (by kernel_rfl) (by kernel_rfl) (by kernel_rfl) (fun _ _ _ h => h) (Or.inl ⟨by rfl, ?hynr6⟩) (by assumption) ?rtnr6
    case hynr6 => (intro w hSw; obtain ⟨s0, s1, s2⟩ := hSw; go_simp; all_goals (with_reducible rfl))
    try simp only [Act.put, List.getElem_toArray, List.getElem_cons_zero, List.getElem_cons_succ, List.setIfInBounds_toArray, List.set_cons_zero, List.set_cons_succ]
    refine' wpAnyL_take (by kernel_rfl) (i := 7) (oi := _) (v := _) (by decide) rfl (by kernel_rfl) (by kernel_rfl) (by kernel_rfl) (fun _ _ _ h => h) (Or.inl ⟨by rfl, ?hynr7⟩) (by assumption) ?rtnr7
    case hynr7 => (intro w hSw; obtain ⟨s0, s1, s2⟩ := hSw; go_simp; all_goals (with_reducible rfl))
    try simp only [Act.put, List.getElem_toArray, List.getElem_cons_zero, List.getElem_cons_succ, List.setIfInBounds_toArray, List.set_cons_zero, List.set_cons_succ]
    refine wpAnyL_one (i := 8) (o := _) (by kernel_rfl) rfl (fun K hK => ?_)
    go_simp
    refine hK.out _ _ (fun h => absurd h (by decide)) ?_
    clear hK K
    try simp only [Act.put, List.getElem_toArray, List.getElem_cons_zero, List.getElem_cons_succ, List.setIfInBounds_toArray, List.set_cons_zero, List.set_cons_succ]
    refine wpAnyL_one (i := 9) (o := _) (by kernel_rfl) rfl (fun K hK => ?_)
    go_simp
    refine hK.out _ _ (fun h => absurd h (by decide)) ?_
    clear hK K
    try simp only [Act.put, List.getElem_toArray, List.getElem_cons_zero, List.getElem_cons_succ, List.setIfInBounds_toArray, List.set_cons_zero, List.set_cons_succ]
    refine wpAnyL_one (i := 10) (o := _) (by kernel_rfl) rfl (fun K hK => ?_)
    go_simp
    refine hK.out _ _ (fun h => absurd h (by decide)) ?_
    clear hK K
    try simp only [Act.put, List.getElem_toArray, List.getElem_cons_zero, List.getElem_cons_succ, List.setIfInBounds_toArray, List.set_cons_zero, List.set_cons_succ]
    refine wpAnyL_done (by kernel_rfl) ?_ _
    refine NoPanic.normal ?_
    obtain ⟨b1, hb1e⟩ : ∃ b1 : Fn, ({ a1 with name := f0.name } : Fn) = b1 := ⟨_, rfl⟩
    have hR2 := hR1d.set hc1 (.string f0.name)
    rw [show (fnCells ((p.funs.set k xz).set 0 b0)).set (l1 * 5) (.string f0.name) = fnCells (((p.funs.set k xz).set 0 b0).set l1 b1) from flat_set Fn.vals 5 Fn.vals_len _ l1 0 a1 b1 _ ha1 (by omega) (by rw [← hb1e]; rfl)] at hR2
    have hRc2 := hRc1d.keep (w' := Wm.setCell ⟨gz, l1 * 5, none⟩ (.string f0.name)) (heap_set_ne (fun e => hgzc e.symm) _ _)
    have hbk2 := (heap_set_ne (w := Wm) (fun e => hgne e.symm) (l1 * 5) (.string f0.name)).trans hbk1d
    have hbw2 : Below V3.heap.size V3 (Wm.setCell ⟨gz, l1 * 5, none⟩ (.string f0.name)) := hbw1d.setCell (p := ⟨gz, l1 * 5, none⟩) hgzV _
    clear e0 e1 hR1d hRc1d hbk1d hbw1d hc1 hS0
    generalize Wm.setCell ⟨gz, l1 * 5, none⟩ (.string f0.name) = Wn at *
    obtain ⟨F3, hF3⟩ : ∃ F3, ((p.funs.set k xz).set 0 b0).set l1 b1 = F3 := ⟨_, rfl⟩
    have hlen3 : F3.length = p.funs.length := by rw [← hF3]; simp
    have hG3 : F3.map Gf = p.funs.map Gf := by
      have h1 : (p.funs.set k xz).map Gf = p.funs.map Gf := map_set_same hx (by rw [← hxz]; rfl)
      have h2 : ((p.funs.set k xz).set 0 b0).map Gf = (p.funs.set k xz).map Gf := map_set_same ha0 (by rw [← hb0e]; rfl)
      have h3 : F3.map Gf = ((p.funs.set k xz).set 0 b0).map Gf := by rw [← hF3]; exact map_set_same ha1 (by rw [← hb1e]; rfl)
      rw [h3, h2, h1]
    have hN3 : F3.map Fn.name = ((p.funs.map Fn.name).set 0 fl.name).set (p.funs.length - 1) f0.name := by
      have h1 : (p.funs.set k xz).map Fn.name = p.funs.map Fn.name := map_set_same hx (by rw [← hxz])
      rw [← hF3, List.map_set, List.map_set, h1, hl1, ← hb0e, ← hb1e]
    rw [hF3] at hR2
    obtain ⟨pz, hpz⟩ : ∃ pz : Pg, ({ p with fa := some ⟨gz, 0, none⟩, fcap := capz, funs := F3 } : Pg) = pz := ⟨_, rfl⟩
    have hmz : mayP pz = true := mayP_turn (p := p) (q := pz) (f := f0) (g := fl) (by rw [← hpz]) (by rw [← hpz]) hf0 (by rw [hl1]; exact hfl) (by rw [← hpz]; exact hlen3) (fun j u v hu hv => same_of_G hG3 j u v (by rw [← hpz] at hu; exact hu) hv) (by rw [← hpz]; exact hN3) hmp
    have hsz : sameP p pz = decide (l1 = 0) := by
      rw [← hl1]
      exact sameP_turn (p := p) (q := pz) (f := f0) (g := fl) (by rw [← hpz]) (by rw [← hpz]) hf0 (by rw [hl1]; exact hfl) (by rw [← hpz]; exact hlen3) (fun j u v hu hv => same_of_G hG3 j u v (by rw [← hpz] at hu; exact hu) hv) (by rw [← hpz]; exact hN3) hmp
    have hdz : decide ((l1 : Int) = 0) = decide (l1 = 0) := by
      rw [Bool.eq_iff_iff, decide_eq_true_eq, decide_eq_true_eq]
      omega
    have hPZ : Hid (∀ V, Below Wn.heap.size Wn V → Bp1 V3.heap.size pz V ∧ Pg.In V (fun _ => True) pz ∧ Bp1 w.heap.size p V ∧ Pg.In V (fun _ => True) p ∧ Below w.heap.size w V) := Lib.hid fun V hV => by
      have h0 := hC3'.out.trans ((hbw2.trans (hV.mono hbw2.size)).mono hC3'.out.size)
      obtain ⟨q7, q8⟩ := hcell.out V h0
      have q4 := hpV.out V q8
      have h1 := (hV.block _ (Array.getElem?_eq_some_iff.1 hbk2).1).trans hbk2
      have hR5 := (hR2.keep (hV.block gz hR2.lt)).row
      have hR6 := (hRc2.keep (hV.block gc hRc2.lt)).row
      have hX := q4.funs x (List.mem_of_getElem? hx)
      have hin1 : ∀ f ∈ p.funs.set k xz, Fn.In V (fun _ => True) f := fun f hf => by
        rcases List.mem_or_eq_of_mem_set hf with hf | rfl
        · exact q4.funs f hf
        · subst hxz
          exact ⟨hX.name, hX.params, hX.regs, hR6, hX.code⟩
      have hin2 : ∀ f ∈ (p.funs.set k xz).set 0 b0, Fn.In V (fun _ => True) f := fun f hf => by
        rcases List.mem_or_eq_of_mem_set hf with hf | rfl
        · exact hin1 f hf
        · have hA := hin1 a0 (List.mem_of_getElem? ha0)
          subst hb0e
          exact ⟨(q4.funs fl (List.mem_of_getElem? hfl)).name, hA.params, hA.regs, hA.row, hA.code⟩
      have hin3 : ∀ f ∈ F3, Fn.In V (fun _ => True) f := fun f hf => by
        rw [← hF3] at hf
        rcases List.mem_or_eq_of_mem_set hf with hf | rfl
        · exact hin2 f hf
        · have hA := hin2 a1 (List.mem_of_getElem? ha1)
          subst hb1e
          exact ⟨(q4.funs f0 (List.mem_of_getElem? hf0)).name, hA.params, hA.regs, hA.row, hA.code⟩
      subst hpz
      refine ⟨⟨blk_cell h1 rfl, blk_cell h1 rfl, ?_⟩, ⟨q4.mrow, q4.mems, q4.lrow, q4.locks, ?_, hin3⟩, q7.1, q4, q8⟩
      · show _ = some (Value.slice (some ⟨gz, 0, none⟩) F3.length capz)
        rw [hlen3]
        exact blk_cell h1 rfl
      · show RowAt V _ (some ⟨gz, 0, none⟩) capz F3.length _
        rw [hlen3]
        exact hR5
    have hsz2 : pz.mems.length + pz.locks.length + pz.funs.length ≤ 1048576 := by
      rw [← hpz]
      show p.mems.length + p.locks.length + F3.length ≤ 1048576
      rw [hlen3]
      exact hsum
    clear hR2 hRc2 hbk2 hbw2 hF3 hG3 hN3 hNM hPC
    go_upto_region 18 with fail
    refine wp_region_rel_text (C := fun V => Below Wn.heap.size Wn V) (E := Ext) (R := fun j => (rs18 p pz (decide (l1 = 0)) l1).getD j VT) (Below.refl _ _) (by kernel_rfl) (fun j v w' w'' _ hE h => mono_get _ j rs18_mono v w' w'' hE h) (steps_all ?hs18n) ?hend18n
    case hs18n =>
      refine stepsL_cons (s_val fun a W hC hs => ?_) ?_
      · have hB := hPZ.out W hC
        have ho := old_of hs 10 (by kernel_rfl) (by rfl)
        exact ⟨wanted_none rfl, _, run_ld rfl (ev ho) (load_pg hB.1), rfl⟩
      refine stepsL_cons (s_call fun a W hC hs => ?_) ?_
      · obtain ⟨v0, hv0, hR0⟩ := got_of hs 0 146 (by kernel_rfl) (by rfl)
        have hR0' : v0 = _ := hR0
        subst hR0'
        have hB := hPZ.out W hC
        refine ⟨wanted_none rfl, 13, _, run_call1 rfl (ev hv0) (fun _ _ => rfl), (hmy0.out pz W hB.2.2.2.2 hB.2.1 hsz2).mono ?_⟩
        rintro e W' ⟨rfl, hb⟩
        exact ⟨_, rfl, hC.trans (hb.mono hC.size), hb, by show Value.bool _ = _; rw [hmz]⟩
      refine stepsL_cons (s_val fun a W hC hs => ?_) ?_
      · obtain ⟨v0, hv0, hR0⟩ := got_of hs 1 147 (by kernel_rfl) (by rfl)
        have hR0' : v0 = _ := hR0
        subst hR0'
        exact ⟨wanted_none rfl, _, run_mv (Or.inl rfl) (ev hv0), rfl⟩
      refine stepsL_cons (s_val fun a W hC hs => ?_) ?_
      · obtain ⟨v9, hv9, hR9⟩ := got_of hs 2 148 (by kernel_rfl) (by rfl)
        have hR9' : v9 = _ := hR9
        subst hR9'
        have hB := hPZ.out W hC
        have ho := old_of hs 4 (by kernel_rfl) (by rfl)
        exact ⟨wanted_true (j := 2) (d := 148) rfl (by rfl) hv9, _, run_ld rfl (ev ho) (load_pg hB.2.2.1), rfl⟩
      refine stepsL_cons (s_val fun a W hC hs => ?_) ?_
      · obtain ⟨v9, hv9, hR9⟩ := got_of hs 2 148 (by kernel_rfl) (by rfl)
        have hR9' : v9 = _ := hR9
        subst hR9'
        have hB := hPZ.out W hC
        have ho := old_of hs 10 (by kernel_rfl) (by rfl)
        exact ⟨wanted_true (j := 2) (d := 148) rfl (by rfl) hv9, _, run_ld rfl (ev ho) (load_pg hB.1), rfl⟩
      refine stepsL_cons (s_call fun a W hC hs => ?_) ?_
      · obtain ⟨v9, hv9, hR9⟩ := got_of hs 2 148 (by kernel_rfl) (by rfl)
        have hR9' : v9 = _ := hR9
        subst hR9'
        obtain ⟨v0, hv0, hR0⟩ := got_of hs 3 149 (by kernel_rfl) (by rfl)
        have hR0' : v0 = _ := hR0
        subst hR0'
        obtain ⟨v1, hv1, hR1⟩ := got_of hs 4 150 (by kernel_rfl) (by rfl)
        have hR1' : v1 = _ := hR1
        subst hR1'
        have hB := hPZ.out W hC
        refine ⟨wanted_true (j := 2) (d := 148) rfl (by rfl) hv9, 15, _, run_call2 rfl (ev hv0) (ev hv1) (fun _ _ => rfl), (same_any p pz W hB.2.2.2.1 hB.2.1).mono ?_⟩
        rintro e W' ⟨rfl, hb⟩
        exact ⟨_, rfl, hC.trans (hb.mono hC.size), hb, by show Value.bool _ = _; rw [hsz]⟩
      refine stepsL_cons (s_val fun a W hC hs => ?_) ?_
      · obtain ⟨v9, hv9, hR9⟩ := got_of hs 2 148 (by kernel_rfl) (by rfl)
        have hR9' : v9 = _ := hR9
        subst hR9'
        have ho := old_of hs 12 (by kernel_rfl) (by rfl)
        exact ⟨wanted_true (j := 2) (d := 148) rfl (by rfl) hv9, _, run_mv (Or.inl rfl) (ev ho), rfl⟩
      refine stepsL_cons (s_val fun a W hC hs => ?_) ?_
      · obtain ⟨v9, hv9, hR9⟩ := got_of hs 2 148 (by kernel_rfl) (by rfl)
        have hR9' : v9 = _ := hR9
        subst hR9'
        obtain ⟨v0, hv0, hR0⟩ := got_of hs 6 152 (by kernel_rfl) (by rfl)
        have hR0' : v0 = _ := hR0
        subst hR0'
        exact ⟨wanted_true (j := 2) (d := 148) rfl (by rfl) hv9, _, run_eqi Tryd.underlying3 rfl (ev hv0) (ev_const _), by show Value.bool _ = _; rw [hdz]⟩
      refine stepsL_cons (s_val fun a W hC hs => ?_) ?_
      · obtain ⟨v9, hv9, hR9⟩ := got_of hs 2 148 (by kernel_rfl) (by rfl)
        have hR9' : v9 = _ := hR9
        subst hR9'
        obtain ⟨v0, hv0, hR0⟩ := got_of hs 5 151 (by kernel_rfl) (by rfl)
        have hR0' : v0 = _ := hR0
        subst hR0'
        obtain ⟨v1, hv1, hR1⟩ := got_of hs 7 153 (by kernel_rfl) (by rfl)
        have hR1' : v1 = _ := hR1
        subst hR1'
        exact ⟨wanted_true (j := 2) (d := 148) rfl (by rfl) hv9, _, run_eqb Tryd.underlying4 rfl (ev hv0) (ev hv1), rfl⟩
      refine stepsL_cons (s_val fun a W hC hs => ?_) ?_
      · obtain ⟨v0, hv0, hR0⟩ := got_of hs 2 148 (by kernel_rfl) (by rfl)
        have hR0' : v0 = _ := hR0
        subst hR0'
        obtain ⟨v1, hv1, hR1⟩ := got_of hs 8 154 (by kernel_rfl) (by rfl)
        have hR1' : v1 = _ := hR1
        subst hR1'
        exact ⟨wanted_none rfl, _, run_pk rfl (ev hv0) (by rw [if_pos rfl]; exact ev hv1), rfl⟩
      refine stepsL_cons (s_val fun a W hC hs => ?_) ?_
      · obtain ⟨v0, hv0, hR0⟩ := got_of hs 9 155 (by kernel_rfl) (by rfl)
        have hR0' : v0 = _ := hR0
        subst hR0'
        exact ⟨wanted_none rfl, _, run_mv (Or.inr rfl) (ev hv0), rfl⟩
      exact stepsL_nil
    case hend18n =>
      intro σ9 V9 hC9 hR9
      generalize hF : fillL _ _ _ _ _ = F
      simp [fillL, dstOf, List.range, List.range.loop, Act.put] at hF
      subst hF
      have h10 : σ9 10 = .bool true := hR9 10 (by simp)
      rw [h10]
      have hfin := (hPZ.out V9 hC9).2.2.2.2
      clear hR9 h10 hPZ hmz hsz
      go_wp2_with fail
      go_ret
      exact ⟨rfl, hfin⟩
end Go.Proofs.YtiicjbnocpphdaaDoor.Cd
