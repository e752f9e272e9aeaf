/- large: it answers yes or no, and all stays. Conditions: the program lies in memory. -/
import Derived.Test.YtnoilcchegmpfaaDoorCfF
import Derived.Deep.CutBlock
import Derived.Deep.DeepCutAuto
namespace Go.Proofs.YtnoilcchegmpfaaDoor.Cd
open Go Go.RowKit
open Go.Proofs.YtnoilcchegmpfaaDoor.Lx Go.Proofs.YtnoilcchegmpfaaDoor.Tr Go.Proofs.YtnoilcchegmpfaaDoor.Pa

theorem no_lt {k n : Nat} {v : Int} (h : ¬ (k < n ∧ v < 40000)) (hk : k < n) : ¬ v < 40000 := fun h2 => h ⟨hk, h2⟩
/-- yes or no -/
def IsB (e : Ending) : Prop := ∃ b, e = .returned (.bool b)
set_option maxHeartbeats 8000000 in
set_option maxRecDepth 100000 in
theorem large_any (p : Pg) (w : World) (hp : Pg.In w (fun _ => True) p) :
    Calls Tryd.prog 7 #[p.val] w fun e w' => IsB e ∧ Below w.heap.size w w' := by
  obtain ⟨hm1, hm2⟩ := len_i hp.mrow
  obtain ⟨hl1, hl2⟩ := len_i hp.lrow
  obtain ⟨hf1, hf2⟩ := len_i hp.frow
  have hst : Hid (Below w.heap.size w (w.alloc (.cells #[.slice p.ma p.mems.length p.mcap, .slice p.la p.locks.length p.lcap, .slice p.fa p.funs.length p.fcap] 26))) := Lib.hid (b_alloc _ _)
  have hbx := pg_cells (p := p) (box_new w p.vals 26)
  have hq : Pg.In (w.alloc (.cells #[.slice p.ma p.mems.length p.mcap, .slice p.la p.locks.length p.lcap, .slice p.fa p.funs.length p.fcap] 26)) (fun _ => True) p := hp.below (Kps.of_below hst.out)
  replace hbx : Hid ((w.alloc (.cells #[.slice p.ma p.mems.length p.mcap, .slice p.la p.locks.length p.lcap, .slice p.fa p.funs.length p.fcap] 26)).cell? ⟨w.heap.size, 0, none⟩ = some (.slice p.ma p.mems.length p.mcap) ∧ (w.alloc (.cells #[.slice p.ma p.mems.length p.mcap, .slice p.la p.locks.length p.lcap, .slice p.fa p.funs.length p.fcap] 26)).cell? ⟨w.heap.size, 1, none⟩ = some (.slice p.la p.locks.length p.lcap) ∧ (w.alloc (.cells #[.slice p.ma p.mems.length p.mcap, .slice p.la p.locks.length p.lcap, .slice p.fa p.funs.length p.fcap] 26)).cell? ⟨w.heap.size, 2, none⟩ = some (.slice p.fa p.funs.length p.fcap)) := Lib.hid hbx
  replace hq := Lib.hid hq
  clear hp
  go_enter Tryd.func7, Tryd.ntmps7
  go_upto_block 0 with fail
  generalize hW0 : w.alloc (.cells #[.slice p.ma p.mems.length p.mcap, .slice p.la p.locks.length p.lcap, .slice p.fa p.funs.length p.fcap] 26) = W0 at *
  clear hW0
  obtain ⟨g0, g1, g2⟩ := hbx.out
  go_cut [3, 4] from 17 to 37 (fun n i wx => (∃ v, n = .int .i64 v) ∧ ∃ m, wx = W0.drewN m)
  case first =>
    go_wp2_with fail
    go_loopw [3, 4] (fun n i wr => (∃ v, n = .int .i64 v) ∧ (∃ k : Nat, k ≤ p.mems.length ∧ i = .int .i64 k) ∧ ∃ m, wr = W0.drewN m) (fun _ i _ => p.mems.length - (intOf i).toNat)
    case atStart => exact ⟨⟨_, rfl⟩, ⟨0, Nat.zero_le _, rfl⟩, 0, rfl⟩
    case round =>
      obtain ⟨⟨v, rfl⟩, ⟨k, hk, rfl⟩, m0, rfl⟩ := hrel
      by_cases hkl : k < p.mems.length
      · by_cases hv : v < 40000
        · obtain ⟨x, hx⟩ : ∃ x, p.mems[k]? = some x := ⟨_, List.getElem?_eq_getElem hkl⟩
          obtain ⟨b, off, ha, _, c0, c1, c2⟩ := mm_row hq.out.mrow k x hx
          rw [ha] at g0
          have hi0 : (0 : Int) ≤ (k : Int) := by omega
          have hi1 : (k : Int) < (p.mems.length : Int) := by omega
          clear ha hx
          go_wp2_with fail
          go_roundw
          case rel => exact ⟨⟨_, rfl⟩, ⟨k + 1, by omega, by go_num⟩, _, rfl⟩
          case measure => simp [intOf]; omega
        · have hi1 : (k : Int) < (p.mems.length : Int) := by omega
          go_wp2_with fail
          go_meet
          case rel => exact ⟨⟨_, rfl⟩, _, rfl⟩
      · have hi1 : ¬ (k : Int) < (p.mems.length : Int) := by omega
        go_wp2_with fail
        go_meet
        case rel => exact ⟨⟨_, rfl⟩, _, rfl⟩
  case rest =>
  obtain ⟨⟨v1, rfl⟩, m1, rfl⟩ := hcut
  go_upto_block 2 with fail
  go_cut [3, 5] from 38 to 57 (fun n i wx => (∃ v, n = .int .i64 v) ∧ ∃ m, wx = W0.drewN m)
  case first =>
    go_wp2_with fail
    go_loopw [3, 5] (fun n i wr => (∃ v, n = .int .i64 v) ∧ (∃ k : Nat, k ≤ p.locks.length ∧ i = .int .i64 k) ∧ ∃ m, wr = W0.drewN m) (fun _ i _ => p.locks.length - (intOf i).toNat)
    case atStart => exact ⟨⟨_, rfl⟩, ⟨0, Nat.zero_le _, rfl⟩, _, rfl⟩
    case round =>
      obtain ⟨⟨v, rfl⟩, ⟨k, hk, rfl⟩, m0, rfl⟩ := hrel
      by_cases hkl : k < p.locks.length
      · by_cases hv : v < 40000
        · obtain ⟨x, hx⟩ : ∃ x, p.locks[k]? = some x := ⟨_, List.getElem?_eq_getElem hkl⟩
          obtain ⟨b, off, ha, _, c0⟩ := str_row hq.out.lrow k x hx
          rw [ha] at g1
          have hi0 : (0 : Int) ≤ (k : Int) := by omega
          have hi1 : (k : Int) < (p.locks.length : Int) := by omega
          clear ha hx
          go_wp2_with fail
          go_roundw
          case rel => exact ⟨⟨_, rfl⟩, ⟨k + 1, by omega, by go_num⟩, _, rfl⟩
          case measure => simp [intOf]; omega
        · have hi1 : (k : Int) < (p.locks.length : Int) := by omega
          go_wp2_with fail
          go_meet
          case rel => exact ⟨⟨_, rfl⟩, _, rfl⟩
      · have hi1 : ¬ (k : Int) < (p.locks.length : Int) := by omega
        go_wp2_with fail
        go_meet
        case rel => exact ⟨⟨_, rfl⟩, _, rfl⟩
  case rest =>
  obtain ⟨⟨v2, rfl⟩, m2, rfl⟩ := hcut
  go_upto_block 4 with fail
  go_cut [3, 6, 7] from 58 to 115 (fun n i j wx => (∃ v, n = .int .i64 v) ∧ ∃ m, wx = W0.drewN m)
  case first =>
    go_wp2_with fail
    go_loopw [3, 6] (fun n i wr => (∃ v, n = .int .i64 v) ∧ (∃ k : Nat, k ≤ p.funs.length ∧ i = .int .i64 k) ∧ ∃ m, wr = W0.drewN m) (fun _ i _ => p.funs.length - (intOf i).toNat)
    case atStart => exact ⟨⟨_, rfl⟩, ⟨0, Nat.zero_le _, rfl⟩, _, rfl⟩
    case round =>
      obtain ⟨⟨v, rfl⟩, ⟨k, hk, rfl⟩, m0, rfl⟩ := hrel
      by_cases hkl : k < p.funs.length
      · by_cases hv : v < 40000
        · obtain ⟨x, hx⟩ : ∃ x, p.funs[k]? = some x := ⟨_, List.getElem?_eq_getElem hkl⟩
          obtain ⟨b, off, ha, _, c0, c1, c2, c3, c4⟩ := fn_row hq.out.frow k x hx
          have hfi := hq.out.funs x (List.mem_of_getElem? hx)
          obtain ⟨hx1, hx2⟩ := len_i hfi.row
          have hrow := Lib.hid hfi.row
          rw [ha] at g2
          have hi0 : (0 : Int) ≤ (k : Int) := by omega
          have hi1 : (k : Int) < (p.funs.length : Int) := by omega
          clear ha hx hfi
          go_wp2_with fail
          go_quiet (fail)
          go_wp2_with fail
          go_loopw [3, 7] (fun n i wr => (∃ v, n = .int .i64 v) ∧ (∃ k : Nat, k ≤ x.code.length ∧ i = .int .i64 k) ∧ ∃ m, wr = W0.drewN m) (fun _ i _ => x.code.length - (intOf i).toNat)
          case atStart => exact ⟨⟨_, rfl⟩, ⟨0, Nat.zero_le _, rfl⟩, m0 + nq, by rw [World.drewN_drewN]⟩
          case round =>
            obtain ⟨⟨v', rfl⟩, ⟨j, hj, rfl⟩, m3, rfl⟩ := hrel
            by_cases hjl : j < x.code.length
            · by_cases hv' : v' < 40000
              · obtain ⟨y, hy⟩ : ∃ y, x.code[j]? = some y := ⟨_, List.getElem?_eq_getElem hjl⟩
                obtain ⟨b2, off2, ha2, _, e0, e1, e2, e3, e4, e5⟩ := in_row hrow.out j y hy
                rw [ha2] at c4
                have hj0 : (0 : Int) ≤ (j : Int) := by omega
                have hj1 : (j : Int) < (x.code.length : Int) := by omega
                clear ha2 hy
                go_wp2_with fail
                go_roundw
                case rel => exact ⟨⟨_, rfl⟩, ⟨j + 1, by omega, by go_num⟩, _, rfl⟩
                case measure => simp [intOf]; omega
              · have hj1 : (j : Int) < (x.code.length : Int) := by omega
                go_wp2_with fail
                go_roundw
                case rel => exact ⟨⟨_, rfl⟩, ⟨k + 1, by omega, by go_num⟩, _, rfl⟩
                case measure => simp [intOf]; omega
            · have hj1 : ¬ (j : Int) < (x.code.length : Int) := by omega
              go_wp2_with fail
              go_roundw
              case rel => exact ⟨⟨_, rfl⟩, ⟨k + 1, by omega, by go_num⟩, _, rfl⟩
              case measure => simp [intOf]; omega
        · have hi1 : (k : Int) < (p.funs.length : Int) := by omega
          go_wp2_with fail
          go_meet
          case rel => exact ⟨⟨_, rfl⟩, _, rfl⟩
      · have hi1 : ¬ (k : Int) < (p.funs.length : Int) := by omega
        go_wp2_with fail
        go_meet
        case rel => exact ⟨⟨_, rfl⟩, _, rfl⟩
  case rest =>
  obtain ⟨⟨v3, rfl⟩, m3, rfl⟩ := hcut
  have hbn := Lib.hid (hst.out.trans (⟨rfl, rfl, rfl, Nat.le_refl _, fun _ _ => rfl⟩ : Below w.heap.size W0 (W0.drewN m3)))
  by_cases hv : 40000 ≤ v3
  · go_wp2_with fail
    go_ret
    exact ⟨⟨_, rfl⟩, hbn.out⟩
  · go_wp2_with fail
    go_ret
    exact ⟨⟨_, rfl⟩, hbn.out⟩
end Go.Proofs.YtnoilcchegmpfaaDoor.Cd
