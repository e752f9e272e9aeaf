/- The law's large answers something. Conditions: the graph lies in memory. -/
import Derived.Test.YtckmgefailclcaaDoorJFwJ
import Derived.BigQuiet
import Derived.Deep.Cut
import Derived.Deep.QuietTactic
set_option linter.unusedVariables false
namespace Go.Proofs.YtckmgefailclcaaDoor.Fw
open Go Go.RowKit
open Go.Proofs.YtckmgefailclcaaDoor.Lx Go.Proofs.YtckmgefailclcaaDoor.Tr Go.Proofs.YtckmgefailclcaaDoor.Cd

def IsB (e : Ending) : Prop := ∃ b, e = .returned (.bool b)
set_option maxHeartbeats 8000000 in
set_option maxRecDepth 100000 in
theorem large_c (g : Gr) (w : World) (hg : Gr.In w g) :
    Calls Tryd.prog 10 #[.agg #[.string g.name, .bool g.thread, .int .i64 g.params, .int .i64 g.regs, .slice g.ba g.blocks.length g.bcap]] w fun e w' => IsB e ∧ Below w.heap.size w w' := by
  obtain ⟨hc1, hc2⟩ := len_i hg.row
  have hR := Lib.hid (fun V (hv : Below w.heap.size w V) => (hg.keep hv).row)
  have hXg := Lib.hid (fun (x : Bk) V (hx : x ∈ g.blocks) (hv : Below w.heap.size w V) => (hg.keep hv).blocks x hx)
  have hst := Lib.hid (b_alloc w (.cells #[.string g.name, .bool g.thread, .int .i64 g.params, .int .i64 g.regs, .slice g.ba g.blocks.length g.bcap] 37))
  have hq := Lib.hid (box5 w g).2.2.2.2
  clear hg
  generalize hba : g.ba = ba at *
  replace hba := Lib.hid hba
  go_enter Tryd.func10, Tryd.ntmps10
  go_upto_region 1 with fail
  generalize hW0 : w.alloc (.cells #[.string g.name, .bool g.thread, .int .i64 g.params, .int .i64 g.regs, .slice ba g.blocks.length g.bcap] 37) = W0 at *
  have hgb : Hid (∀ V, Below W0.heap.size W0 V → V.cell? ⟨w.heap.size, 4, none⟩ = some (.slice ba g.blocks.length g.bcap)) := Lib.hid (fun V hv => below_in hv hq.out)
  clear hW0 hq
  go_wp2_with fail
  go_loopw [3, 4] (fun n i wr => (∃ v, n = .int .i64 v) ∧ (∃ k : Nat, k ≤ g.blocks.length ∧ i = .int .i64 k) ∧ Hid (Below W0.heap.size W0 wr)) (fun _ i _ => g.blocks.length - (intOf i).toNat)
  case atStart => exact ⟨⟨_, rfl⟩, ⟨0, Nat.zero_le _, rfl⟩, Lib.hid (Below.refl _ _)⟩
  case round =>
    obtain ⟨⟨v, rfl⟩, ⟨k, hk, rfl⟩, hb⟩ := hrel
    have gr := Lib.hid (hst.out.trans (hb.out.mono hst.out.size))
    have q4 := hgb.out wr hb.out
    by_cases hlt : k < g.blocks.length
    · have hk1 : (k : Int) < (g.blocks.length : Int) := by omega
      by_cases hv : v < 1500
      · obtain ⟨x, hx⟩ : ∃ x, g.blocks[k]? = some x := ⟨_, List.getElem?_eq_getElem hlt⟩
        obtain ⟨b, off, ha, _, c0, c1, c2, c3⟩ := bk_row (hR.out wr gr.out) k x hx
        subst ha
        have hbl : b < wr.heap.size := World.block_lt_of_cell? _ _ c0
        have hX := Lib.hid (fun V (hv : Below w.heap.size w V) => hXg.out x V (List.mem_of_getElem? hx) hv)
        obtain ⟨cp1, cp2⟩ := len_i (hX.out wr gr.out).prow
        obtain ⟨cp3, cp4⟩ := len_i (hX.out wr gr.out).crow
        obtain ⟨cp5, cp6⟩ := len_i (hX.out wr gr.out).frow
        obtain ⟨cp7, cp8⟩ := len_i (hX.out wr gr.out).trow
        have hbA := Lib.hid (b_alloc wr (.cells #[.slice x.pa x.phis.length x.pcap, .slice x.ca x.code.length x.ccap, .slice x.fa x.fm.length x.fcap, .slice x.ta x.tt.length x.tcap] 42))
        have hbox := box4 wr x
        clear hx
        go_upto_region 6 with fail
        generalize hW1 : wr.alloc (.cells #[.slice x.pa x.phis.length x.pcap, .slice x.ca x.code.length x.ccap, .slice x.fa x.fm.length x.fcap, .slice x.ta x.tt.length x.tcap] 42) = W1 at *
        have hbx : Hid (∀ V, Below W1.heap.size W1 V → V.cell? ⟨wr.heap.size, 0, none⟩ = some (.slice x.pa x.phis.length x.pcap) ∧ V.cell? ⟨wr.heap.size, 1, none⟩ = some (.slice x.ca x.code.length x.ccap) ∧ V.cell? ⟨wr.heap.size, 2, none⟩ = some (.slice x.fa x.fm.length x.fcap) ∧ V.cell? ⟨wr.heap.size, 3, none⟩ = some (.slice x.ta x.tt.length x.tcap)) := Lib.hid (fun V hv => by
          obtain ⟨a0, a1, a2, a3⟩ := hbox
          exact ⟨below_in hv a0, below_in hv a1, below_in hv a2, below_in hv a3⟩)
        have gw := Lib.hid (gr.out.trans (hbA.out.mono gr.out.size))
        clear hW1 hbox c0 c1 c2 c3 q4 hbl
        obtain ⟨hx0, hx1, hx2, hx3⟩ := hbx.out W1 (Below.refl _ _)
        go_wp2_with fail
        go_loopw [3, 6] (fun n i wq => (∃ v, n = .int .i64 v) ∧ (∃ j : Nat, j ≤ x.phis.length ∧ i = .int .i64 j) ∧ Hid (Below W1.heap.size W1 wq)) (fun _ i _ => x.phis.length - (intOf i).toNat)
        case atStart => exact ⟨⟨_, rfl⟩, ⟨0, Nat.zero_le _, rfl⟩, Lib.hid (Below.refl _ _)⟩
        case round =>
          clear hx0 hx1 hx2 hx3
          obtain ⟨⟨v, rfl⟩, ⟨j, hj, rfl⟩, hb2⟩ := hrel
          have g1 := Lib.hid (gw.out.trans (hb2.out.mono gw.out.size))
          obtain ⟨hx0, hx1, hx2, hx3⟩ := hbx.out wr hb2.out
          by_cases hjt : j < x.phis.length
          · have hj1 : (j : Int) < (x.phis.length : Int) := by omega
            by_cases hv : v < 1500
            · obtain ⟨u, hu⟩ : ∃ u, x.phis[j]? = some u := ⟨_, List.getElem?_eq_getElem hjt⟩
              obtain ⟨b2, off2, ha2, _, d0, d1⟩ := ph_row (hX.out wr g1.out).prow j u hu
              obtain ⟨cu1, cu2⟩ := len_i ((hX.out wr g1.out).phis u (List.mem_of_getElem? hu)).row
              rw [ha2] at hx0
              clear hu ha2
              go_wp2_with fail
              go_roundw
              case rel => exact ⟨⟨_, rfl⟩, ⟨j + 1, by omega, by go_num⟩, hb2⟩
              case measure => simp [intOf]; omega
            · have hv' := hv
              go_wp2_with fail
              go_loopw [3, 7] (fun n i wq => (∃ v, n = .int .i64 v) ∧ (∃ j : Nat, j ≤ x.code.length ∧ i = .int .i64 j) ∧ Hid (Below W1.heap.size W1 wq)) (fun _ i _ => x.code.length - (intOf i).toNat)
              case atStart => exact ⟨⟨_, rfl⟩, ⟨0, Nat.zero_le _, rfl⟩, hb2⟩
              case round =>
                clear hx0 hx1 hx2 hx3 hb2 g1 hj1
                obtain ⟨⟨v, rfl⟩, ⟨j, hj, rfl⟩, hb2⟩ := hrel
                have g1 := Lib.hid (gw.out.trans (hb2.out.mono gw.out.size))
                have gb := Lib.hid (hb.out.trans ((hbA.out.trans (hb2.out.mono hbA.out.size)).mono hb.out.size))
                obtain ⟨hx0, hx1, hx2, hx3⟩ := hbx.out wr hb2.out
                by_cases hjt : j < x.code.length
                · have hj1 : (j : Int) < (x.code.length : Int) := by omega
                  by_cases hv : v < 1500
                  · obtain ⟨u, hu⟩ : ∃ u, x.code[j]? = some u := ⟨_, List.getElem?_eq_getElem hjt⟩
                    obtain ⟨b2, off2, ha2, _, d0, d1, d2, d3, d4, d5⟩ := in_row (hX.out wr g1.out).crow j u hu
                    obtain ⟨cu1, cu2⟩ := len_i ((hX.out wr g1.out).code u (List.mem_of_getElem? hu)).row
                    rw [ha2] at hx1
                    clear hu ha2
                    go_wp2_with fail
                    go_roundw
                    case rel => exact ⟨⟨_, rfl⟩, ⟨j + 1, by omega, by go_num⟩, hb2⟩
                    case measure => simp [intOf]; omega
                  · go_wp2_with fail
                    go_roundw
                    case rel => exact ⟨⟨_, rfl⟩, ⟨k + 1, by omega, by go_num⟩, gb⟩
                    case measure => simp [intOf]; omega
                · have hj1 : ¬ (j : Int) < (x.code.length : Int) := by omega
                  go_wp2_with fail
                  go_roundw
                  case rel => exact ⟨⟨_, rfl⟩, ⟨k + 1, by omega, by go_num⟩, gb⟩
                  case measure => simp [intOf]; omega
          · have hj1 : ¬ (j : Int) < (x.phis.length : Int) := by omega
            go_wp2_with fail
            go_loopw [3, 7] (fun n i wq => (∃ v, n = .int .i64 v) ∧ (∃ j : Nat, j ≤ x.code.length ∧ i = .int .i64 j) ∧ Hid (Below W1.heap.size W1 wq)) (fun _ i _ => x.code.length - (intOf i).toNat)
            case atStart => exact ⟨⟨_, rfl⟩, ⟨0, Nat.zero_le _, rfl⟩, hb2⟩
            case round =>
              clear hx0 hx1 hx2 hx3 hb2 g1 hj1
              obtain ⟨⟨v, rfl⟩, ⟨j, hj, rfl⟩, hb2⟩ := hrel
              have g1 := Lib.hid (gw.out.trans (hb2.out.mono gw.out.size))
              have gb := Lib.hid (hb.out.trans ((hbA.out.trans (hb2.out.mono hbA.out.size)).mono hb.out.size))
              obtain ⟨hx0, hx1, hx2, hx3⟩ := hbx.out wr hb2.out
              by_cases hjt : j < x.code.length
              · have hj1 : (j : Int) < (x.code.length : Int) := by omega
                by_cases hv : v < 1500
                · obtain ⟨u, hu⟩ : ∃ u, x.code[j]? = some u := ⟨_, List.getElem?_eq_getElem hjt⟩
                  obtain ⟨b2, off2, ha2, _, d0, d1, d2, d3, d4, d5⟩ := in_row (hX.out wr g1.out).crow j u hu
                  obtain ⟨cu1, cu2⟩ := len_i ((hX.out wr g1.out).code u (List.mem_of_getElem? hu)).row
                  rw [ha2] at hx1
                  clear hu ha2
                  go_wp2_with fail
                  go_roundw
                  case rel => exact ⟨⟨_, rfl⟩, ⟨j + 1, by omega, by go_num⟩, hb2⟩
                  case measure => simp [intOf]; omega
                · go_wp2_with fail
                  go_roundw
                  case rel => exact ⟨⟨_, rfl⟩, ⟨k + 1, by omega, by go_num⟩, gb⟩
                  case measure => simp [intOf]; omega
              · have hj1 : ¬ (j : Int) < (x.code.length : Int) := by omega
                go_wp2_with fail
                go_roundw
                case rel => exact ⟨⟨_, rfl⟩, ⟨k + 1, by omega, by go_num⟩, gb⟩
                case measure => simp [intOf]; omega
      · go_wp2_with fail
        go_ret
        exact ⟨⟨_, rfl⟩, gr.out⟩
    · have hk1 : ¬ (k : Int) < (g.blocks.length : Int) := by omega
      go_wp2_with fail
      go_ret
      exact ⟨⟨_, rfl⟩, gr.out⟩
end Go.Proofs.YtckmgefailclcaaDoor.Fw
