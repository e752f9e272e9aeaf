/- Walks of all, at each of the two closures that are handed to it. Conditions: the graph lies in memory; what the closure answers. -/
import Derived.Test.YtkmlhijnkilfpaaDoorJFwJ
import Derived.BigQuiet
import Derived.Deep.Cut
import Derived.Deep.QuietTactic
namespace Go.Proofs.YtkmlhijnkilfpaaDoor.Fw
open Go Go.RowKit
open Go.Proofs.YtkmlhijnkilfpaaDoor.Lx Go.Proofs.YtkmlhijnkilfpaaDoor.Tr Go.Proofs.YtkmlhijnkilfpaaDoor.Cd

theorem box6 (w : World) (x : Ins) : let W := w.alloc (.cells #[.int .u8 x.op, .int .i64 x.r, .int .i64 x.a, .int .i64 x.b, .int .i64 x.n, .slice x.aa x.args.length x.acap] 44)
    W.cell? ⟨w.heap.size, 0, none⟩ = some (.int .u8 x.op) ∧ W.cell? ⟨w.heap.size, 1, none⟩ = some (.int .i64 x.r) ∧ W.cell? ⟨w.heap.size, 2, none⟩ = some (.int .i64 x.a) ∧ W.cell? ⟨w.heap.size, 3, none⟩ = some (.int .i64 x.b) ∧ W.cell? ⟨w.heap.size, 4, none⟩ = some (.int .i64 x.n) ∧ W.cell? ⟨w.heap.size, 5, none⟩ = some (.slice x.aa x.args.length x.acap) := by
  intro W
  have h1 : ∀ j u, x.vals[j]? = some u → W.cell? ⟨w.heap.size, j, none⟩ = some u := fun j u hu => box_new w x.vals 44 j u hu
  exact ⟨h1 0 _ rfl, h1 1 _ rfl, h1 2 _ rfl, h1 3 _ rfl, h1 4 _ rfl, h1 5 _ rfl⟩

set_option maxHeartbeats 4000000 in
set_option maxRecDepth 100000 in
theorem all1_c (g : Gr) (P : Ins → Bool) (x1 : Nat) (w : World) (hg : Gr.In w g)
    (hcall : ∀ (b : Bk) (x : Ins) (V : World), b ∈ g.blocks → x ∈ b.code → Below w.heap.size w V → Calls Tryd.prog 71 #[.agg #[.int .u8 x.op, .int .i64 x.r, .int .i64 x.a, .int .i64 x.b, .int .i64 x.n, .slice x.aa x.args.length x.acap], .pointer (some ⟨x1, 0, none⟩)] V fun e w' => e = .returned (.bool (P x)) ∧ Below V.heap.size V w') :
    Calls Tryd.prog 38 #[.agg ⟨g.vals⟩, .func (.func 71) #[] #[.pointer (some ⟨x1, 0, none⟩)]] w fun e w' => e = .returned (.bool (g.blocks.all fun b => b.code.all P)) ∧ Below w.heap.size w w' := by
  obtain ⟨hc1, hc2⟩ := len_i hg.row
  have hR := Lib.hid (fun V (hv : Below w.heap.size w V) => hg.row.below (Kps.of_below hv))
  have hX := Lib.hid (fun (x : Bk) V (hx : x ∈ g.blocks) (hv : Below w.heap.size w V) => (hg.blocks x hx).keep hv)
  replace hcall := Lib.hid hcall
  have hst := Lib.hid (b_alloc w (.cells #[.string g.name, .bool g.thread, .int .i64 g.params, .int .i64 g.regs, .slice g.ba g.blocks.length g.bcap] 37))
  have hq := Lib.hid (box5 w g)
  clear hg
  obtain ⟨name, thread, params, regs, ba, bcap, blocks⟩ := g
  simp only at *
  unfold Gr.vals
  simp only
  generalize hPb : (fun b : Bk => b.code.all P) = Pb at *
  have hPb' : Hid (∀ b : Bk, Pb b = b.code.all P) := Lib.hid (fun b => by rw [← hPb])
  clear hPb
  go_enter Tryd.func38, Tryd.ntmps38
  go_upto_region 1 with fail
  generalize hW0 : w.alloc (.cells #[.string name, .bool thread, .int .i64 params, .int .i64 regs, .slice ba blocks.length bcap] 37) = W0 at *
  obtain ⟨q0, q1, q2, q3, q4⟩ := hq.out
  have hlw : w.heap.size < W0.heap.size := World.block_lt_of_cell? _ _ q0
  clear hW0 hq q0 q1 q2 q3
  go_wp2_with fail
  go_loopw [12] (fun i wr => ∃ k : Nat, k ≤ blocks.length ∧ i = .int .i64 k ∧ Hid ((blocks.take k).all Pb = true) ∧ Hid (Below W0.heap.size W0 wr)) (fun i _ => blocks.length - (intOf i).toNat)
  case atStart => exact ⟨0, Nat.zero_le _, rfl, Lib.hid rfl, Lib.hid (Below.refl _ _)⟩
  case round =>
    obtain ⟨k, hk, rfl, hall, hb⟩ := hrel
    have hbw := Lib.hid (hst.out.trans (hb.out.mono hst.out.size))
    by_cases hlt : k < blocks.length
    · obtain ⟨x, hx⟩ : ∃ x, blocks[k]? = some x := ⟨_, List.getElem?_eq_getElem hlt⟩
      obtain ⟨b, off, ha, _, c0, c1, c2, c3⟩ := bk_row (hR.out _ hbw.out) k x hx
      have hbl : b < wr.heap.size := World.block_lt_of_cell? _ _ c0
      have hi0' : (0 : Int) ≤ (k : Int) := by omega
      have hi1 : (k : Int) < (blocks.length : Int) := by omega
      have hxm := List.mem_of_getElem? hx
      have hno := Lib.hid (fun h => all_no (f := Pb) hx h)
      have hyes := Lib.hid (all_take (f := Pb) hx)
      have hpx := Lib.hid (hPb'.out x)
      have hbe := Lib.hid (b_alloc wr (.cells #[.slice x.pa x.phis.length x.pcap, .slice x.ca x.code.length x.ccap, .slice x.fa x.fm.length x.fcap, .slice x.ta x.tt.length x.tcap] 42))
      have hbx := Lib.hid (hbw.out.trans (hbe.out.mono hbw.out.size))
      have hb0 := Lib.hid (hb.out.trans (hbe.out.mono hb.out.size))
      have hI := Lib.hid (fun V (hv : Below w.heap.size w V) => (hX.out x V hxm hv).crow)
      have hcx := Lib.hid (fun y V hy hv => hcall.out x y V hxm hy hv)
      obtain ⟨cp1, cp2⟩ := len_i (hX.out x _ hxm hbw.out).crow
      clear hX hx hxm hcall hPb'
      subst ha
      go_upto_region 4 with fail
      generalize hW1 : wr.alloc (.cells #[.slice x.pa x.phis.length x.pcap, .slice x.ca x.code.length x.ccap, .slice x.fa x.fm.length x.fcap, .slice x.ta x.tt.length x.tcap] 42) = W1 at hbx hb0 ⊢
      obtain ⟨p0, p1, p2, p3⟩ := box4 wr x
      have hlx : wr.heap.size < W1.heap.size := by rw [← hW1]; exact World.block_lt_of_cell? _ _ p0
      rw [hW1] at p1
      clear p0 p2 p3 hbe
      clear hW1
      go_wp2_with fail
      go_loopw [19] (fun i wq => ∃ j : Nat, j ≤ x.code.length ∧ i = .int .i64 j ∧ Hid ((x.code.take j).all P = true) ∧ Hid (Below W1.heap.size W1 wq)) (fun i _ => x.code.length - (intOf i).toNat)
      case atStart => exact ⟨0, Nat.zero_le _, rfl, Lib.hid rfl, Lib.hid (Below.refl _ _)⟩
      case round =>
        obtain ⟨j, hj, rfl, hallj, hbq⟩ := hrel
        have g1 := Lib.hid (hbx.out.trans (hbq.out.mono hbx.out.size))
        have g0 := Lib.hid (hb0.out.trans (hbq.out.mono hb0.out.size))
        by_cases hjt : j < x.code.length
        · obtain ⟨y, hy⟩ : ∃ y, x.code[j]? = some y := ⟨_, List.getElem?_eq_getElem hjt⟩
          obtain ⟨b', off', ha', _, d0, d1, d2, d3, d4, d5⟩ := in_row (hI.out _ g1.out) j y hy
          have hbl' : b' < wr.heap.size := World.block_lt_of_cell? _ _ d0
          have hj0' : (0 : Int) ≤ (j : Int) := by omega
          have hj1 : (j : Int) < (x.code.length : Int) := by omega
          have hym := List.mem_of_getElem? hy
          have hnoj := Lib.hid (fun h => hno.out (by rw [hpx.out]; exact all_no (f := P) hy h))
          have hyesj := Lib.hid (all_take (f := P) hy)
          have hbe2 := Lib.hid (b_alloc wr (.cells #[.int .u8 y.op, .int .i64 y.r, .int .i64 y.a, .int .i64 y.b, .int .i64 y.n, .slice y.aa y.args.length y.acap] 44))
          have g2 := Lib.hid (g1.out.trans (hbe2.out.mono g1.out.size))
          have g3 := Lib.hid (hbq.out.trans (hbe2.out.mono hbq.out.size))
          have hcy := Lib.hid (hcx.out y _ hym g2.out)
          rw [ha']
          clear hy ha' hym hbe2
          cases hv : P y
          · have hcz := hcy.out
            rw [hv] at hcz
            replace hcz := Lib.hid hcz
            have hfin := Lib.hid (hnoj.out hv)
            clear hv hcy hnoj hyesj hallj hno hyes hall
            go_wp2_with fail
            refine hcz.out.mono ?_
            rintro e w3 ⟨rfl, hb3⟩
            have g4 := Lib.hid (g2.out.trans (hb3.mono g2.out.size))
            clear hb3
            go_wp2_with fail
            go_ret
            exact ⟨ret_bool hfin.out.symm, g4.out⟩
          · have hcz := hcy.out
            rw [hv] at hcz
            replace hcz := Lib.hid hcz
            have hn : Hid ((x.code.take (j + 1)).all P = true) := Lib.hid (by rw [hyesj.out, hallj.out, hv]; rfl)
            clear hv hcy hnoj hyesj hallj
            go_wp2_with fail
            refine hcz.out.mono ?_
            rintro e w3 ⟨rfl, hb3⟩
            have g4 := Lib.hid (g3.out.trans (hb3.mono g3.out.size))
            clear hb3
            go_wp2_with fail
            go_roundw
            case rel => exact ⟨j + 1, by omega, by go_num, hn, g4⟩
            case measure => simp [intOf]; omega
        · have hjj : j = x.code.length := by omega
          have hn : Hid ((blocks.take (k + 1)).all Pb = true) := Lib.hid (by
            rw [hyes.out, hall.out, hpx.out, ← List.take_length (l := x.code), ← hjj, hallj.out]; rfl)
          clear hjj hallj
          go_wp2_with fail
          go_roundw
          case rel => exact ⟨k + 1, by omega, by go_num, hn, g0⟩
          case measure => simp [intOf]; omega
    · have hk2 : k = blocks.length := by omega
      subst hk2
      rw [List.take_length] at hall
      go_wp2_with fail
      go_ret
      exact ⟨ret_bool hall.out.symm, hbw.out⟩

end Go.Proofs.YtkmlhijnkilfpaaDoor.Fw
