/- Walk of mayPhis. Conditions: the graph lies in memory. -/
import Derived.Test.YtkmlhijnkilfpaaDoorJaK
import Derived.BigQuiet
import Derived.Deep.Cut
import Derived.Deep.QuietTactic
namespace Go.Proofs.YtkmlhijnkilfpaaDoor.Fw
open Go Go.RowKit
open Go.Proofs.YtkmlhijnkilfpaaDoor.Lx Go.Proofs.YtkmlhijnkilfpaaDoor.Tr Go.Proofs.YtkmlhijnkilfpaaDoor.Cd

theorem phisF_app (regs : Int) (l r : List Bk) (k : Nat) : phisF regs k (l ++ r) = (phisF regs k l && phisF regs (k + l.length) r) := by
  induction l generalizing k with
  | nil => simp [phisF]
  | cons f l ih => rw [List.cons_append, phisF, phisF, ih (k + 1), Bool.and_assoc, List.length_cons, show k + 1 + l.length = k + (l.length + 1) by omega]
theorem phisF_take {regs : Int} {l : List Bk} {k : Nat} {x : Bk} (h : l[k]? = some x) : phisF regs 0 (l.take (k + 1)) = (phisF regs 0 (l.take k) && phisB regs k x) := by
  have hk : k < l.length := (List.getElem?_eq_some_iff.1 h).1
  rw [List.take_add_one, h, phisF_app]
  have : (l.take k).length = k := by rw [List.length_take]; omega
  rw [this]
  simp [phisF]
theorem phisF_no {regs : Int} {l : List Bk} {k : Nat} {x : Bk} (h : l[k]? = some x) (hx : phisB regs k x = false) : phisF regs 0 l = false := by
  have e : l = l.take (k + 1) ++ l.drop (k + 1) := (List.take_append_drop _ _).symm
  rw [e, phisF_app, phisF_take h, hx]
  simp
theorem phisB_zero {regs : Int} {x : Bk} (h : 0 < x.phis.length) : phisB regs 0 x = false := by unfold phisB; simp [h]
theorem phisB_all {regs : Int} {k : Nat} {x : Bk} (h : ¬ (k = 0 ∧ 0 < x.phis.length)) : phisB regs k x = x.phis.all (phiP x.fm.length regs) := by
  unfold phisB
  by_cases h0 : k = 0
  · have : ¬ 0 < x.phis.length := fun h1 => h ⟨h0, h1⟩
    rw [decide_eq_false this]; simp
  · rw [decide_eq_false h0]; simp
theorem phiP_eq (n : Nat) (regs : Int) (x : Ph) : phiP n regs x = (decide (x.args.length = n) && (inP x.r regs && x.args.all (fun y => inP y regs))) := rfl
theorem box5 (w : World) (x : Gr) : let W := w.alloc (.cells #[.string x.name, .bool x.thread, .int .i64 x.params, .int .i64 x.regs, .slice x.ba x.blocks.length x.bcap] 37)
    W.cell? ⟨w.heap.size, 0, none⟩ = some (.string x.name) ∧ W.cell? ⟨w.heap.size, 1, none⟩ = some (.bool x.thread) ∧ W.cell? ⟨w.heap.size, 2, none⟩ = some (.int .i64 x.params) ∧ W.cell? ⟨w.heap.size, 3, none⟩ = some (.int .i64 x.regs) ∧ W.cell? ⟨w.heap.size, 4, none⟩ = some (.slice x.ba x.blocks.length x.bcap) := by
  intro W
  have h1 : ∀ j u, x.vals[j]? = some u → W.cell? ⟨w.heap.size, j, none⟩ = some u := fun j u hu => box_new w x.vals 37 j u hu
  exact ⟨h1 0 _ rfl, h1 1 _ rfl, h1 2 _ rfl, h1 3 _ rfl, h1 4 _ rfl⟩
theorem box2 (w : World) (x : Ph) : let W := w.alloc (.cells #[.int .i64 x.r, .slice x.aa x.args.length x.acap] 60)
    W.cell? ⟨w.heap.size, 0, none⟩ = some (.int .i64 x.r) ∧ W.cell? ⟨w.heap.size, 1, none⟩ = some (.slice x.aa x.args.length x.acap) := by
  intro W
  have h1 : ∀ j u, x.vals[j]? = some u → W.cell? ⟨w.heap.size, j, none⟩ = some u := fun j u hu => box_new w x.vals 60 j u hu
  exact ⟨h1 0 _ rfl, h1 1 _ rfl⟩
set_option maxHeartbeats 4000000 in
set_option maxRecDepth 100000 in
theorem mayPhis_c (g : Gr) (w : World) (hg : Gr.In w g) :
    Calls Tryd.prog 29 #[.agg ⟨g.vals⟩] w fun e w' => e = .returned (.bool (phisF g.regs 0 g.blocks)) ∧ Below w.heap.size w w' := by
  obtain ⟨hc1, hc2⟩ := len_i hg.row
  have hR := Lib.hid (fun V (hv : Below w.heap.size w V) => hg.row.below (Kps.of_below hv))
  have hX := Lib.hid (fun (x : Bk) V (hx : x ∈ g.blocks) (hv : Below w.heap.size w V) => (hg.blocks x hx).keep hv)
  have hW := Lib.hid (fun n m V => within_c n m V)
  have hE := Lib.hid (fun (l : List Int) n a cap V h => each_c l n a cap V h)
  have hst := Lib.hid (b_alloc w (.cells #[.string g.name, .bool g.thread, .int .i64 g.params, .int .i64 g.regs, .slice g.ba g.blocks.length g.bcap] 37))
  have hq := Lib.hid (box5 w g)
  clear hg
  obtain ⟨name, thread, params, regs, ba, bcap, blocks⟩ := g
  simp only at *
  unfold Gr.vals
  simp only
  go_enter Tryd.func29, Tryd.ntmps29
  go_upto_region 1 with fail
  generalize hW0 : w.alloc (.cells #[.string name, .bool thread, .int .i64 params, .int .i64 regs, .slice ba blocks.length bcap] 37) = W0 at *
  obtain ⟨q0, q1, q2, q3, q4⟩ := hq.out
  replace q3 := Lib.hid q3
  have hlw : w.heap.size < W0.heap.size := World.block_lt_of_cell? _ _ q0
  clear hW0 hq q0 q1 q2
  go_wp2_with fail
  go_loopw [10] (fun i wr => ∃ k : Nat, k ≤ blocks.length ∧ i = .int .i64 k ∧ Hid (phisF regs 0 (blocks.take k) = true) ∧ Hid (Below W0.heap.size W0 wr)) (fun i _ => blocks.length - (intOf i).toNat)
  case atStart => exact ⟨0, Nat.zero_le _, rfl, Lib.hid rfl, Lib.hid (Below.refl _ _)⟩
  case round =>
    obtain ⟨k, hk, rfl, hall, hb⟩ := hrel
    have hbw := Lib.hid (hst.out.trans (hb.out.mono hst.out.size))
    by_cases hlt : k < blocks.length
    · obtain ⟨x, hx⟩ : ∃ x, blocks[k]? = some x := ⟨_, List.getElem?_eq_getElem hlt⟩
      obtain ⟨b, off, ha, _, c0, c1, c2, c3⟩ := bk_row (hR.out _ hbw.out) k x hx
      have hbl : b < wr.heap.size := World.block_lt_of_cell? _ _ c0
      have hi0' : (0 : Int) ≤ (k : Int) := by omega
      have hi1 : (k : Int) < (blocks.length : Int) := by omega
      have hxm := List.mem_of_getElem? hx
      have hno := Lib.hid (fun h => phisF_no (regs := regs) hx h)
      have hyes := Lib.hid (phisF_take (regs := regs) hx)
      have hbe := Lib.hid (b_alloc wr (.cells #[.slice x.pa x.phis.length x.pcap, .slice x.ca x.code.length x.ccap, .slice x.fa x.fm.length x.fcap, .slice x.ta x.tt.length x.tcap] 42))
      have hbx := Lib.hid (hbw.out.trans (hbe.out.mono hbw.out.size))
      have hb0 := Lib.hid (hb.out.trans (hbe.out.mono hb.out.size))
      have hqx := Lib.hid (box4 wr x)
      have hI := Lib.hid (fun V (hv : Below w.heap.size w V) => hX.out x V hxm hv)
      obtain ⟨cp1, cp2⟩ := len_i (hX.out x _ hxm hbw.out).prow
      obtain ⟨cf1, cf2⟩ := len_i (hX.out x _ hxm hbw.out).frow
      clear hX hx hxm
      subst ha
      by_cases hz : k = 0 ∧ 0 < x.phis.length
      · obtain ⟨hz1, hz2⟩ := hz
        have hk1 : ((k : Int) == 0) = true := by simp [hz1]
        have hfin := Lib.hid (hno.out (by rw [hz1]; exact phisB_zero hz2))
        clear hz1
        have hz3 : (0 : Int) < (x.phis.length : Int) := by omega
        clear hno hyes hI hqx
        go_wp2_with fail
        go_ret
        exact ⟨ret_bool (by rw [hfin.out]), hbx.out⟩
      · have hpa := Lib.hid (phisB_all (regs := regs) hz)
        obtain ⟨p0, p1, p2, p3⟩ := hqx.out
        replace p2 := Lib.hid p2
        clear p1 p3
        obtain ⟨W1, hW1⟩ : ∃ W1, W1 = wr.alloc (.cells #[.slice x.pa x.phis.length x.pcap, .slice x.ca x.code.length x.ccap, .slice x.fa x.fm.length x.fcap, .slice x.ta x.tt.length x.tcap] 42) := ⟨_, rfl⟩
        rw [← hW1] at hbx hb0 p2 p0
        have hlx : wr.heap.size < W1.heap.size := World.block_lt_of_cell? _ _ p0
        by_cases hk0 : k = 0
        · have hpl : ¬ (0 : Int) < (x.phis.length : Int) := by omega
          have hk1 : ((k : Int) == 0) = true := by simp [hk0]
          clear hz hqx hbe hk0
          go_upto_region 6 with fail
          rw [← hW1]
          clear hW1
          go_wp2_with fail
          go_loopw [26] (fun i wq => ∃ j : Nat, j ≤ x.phis.length ∧ i = .int .i64 j ∧ Hid ((x.phis.take j).all (phiP x.fm.length regs) = true) ∧ Hid (Below W1.heap.size W1 wq)) (fun i _ => x.phis.length - (intOf i).toNat)
          case atStart => exact ⟨0, Nat.zero_le _, rfl, Lib.hid rfl, Lib.hid (Below.refl _ _)⟩
          case round =>
            obtain ⟨j, hj, rfl, hallj, hbq⟩ := hrel
            have g1 := Lib.hid (hbx.out.trans (hbq.out.mono hbx.out.size))
            have g0 := Lib.hid (hb0.out.trans (hbq.out.mono hb0.out.size))
            by_cases hjt : j < x.phis.length
            · exfalso; omega
            · have hjj : j = x.phis.length := by omega
              have hn : Hid (phisF regs 0 (blocks.take (k + 1)) = true) := Lib.hid (by
                rw [hyes.out, hall.out, hpa.out, ← List.take_length (l := x.phis), ← hjj, hallj.out]; rfl)
              clear hjj hallj
              go_wp2_with fail
              go_roundw
              case rel => exact ⟨k + 1, by omega, by go_num, hn, g0⟩
              case measure => simp [intOf]; omega
        · have hk1 : ((k : Int) == 0) = false := ne_b (by omega)
          clear hz hqx hbe hk0
          go_upto_region 6 with fail
          rw [← hW1]
          clear hW1
          go_wp2_with fail
          go_loopw [26] (fun i wq => ∃ j : Nat, j ≤ x.phis.length ∧ i = .int .i64 j ∧ Hid ((x.phis.take j).all (phiP x.fm.length regs) = true) ∧ Hid (Below W1.heap.size W1 wq)) (fun i _ => x.phis.length - (intOf i).toNat)
          case atStart => exact ⟨0, Nat.zero_le _, rfl, Lib.hid rfl, Lib.hid (Below.refl _ _)⟩
          case round =>
            obtain ⟨j, hj, rfl, hallj, hbq⟩ := hrel
            have g1 := Lib.hid (hbx.out.trans (hbq.out.mono hbx.out.size))
            have g0 := Lib.hid (hb0.out.trans (hbq.out.mono hb0.out.size))
            by_cases hjt : j < x.phis.length
            · obtain ⟨y, hy⟩ : ∃ y, x.phis[j]? = some y := ⟨_, List.getElem?_eq_getElem hjt⟩
              obtain ⟨b', off', ha', _, d0, d1⟩ := ph_row (hI.out _ g1.out).prow j y hy
              have hbl' : b' < wr.heap.size := World.block_lt_of_cell? _ _ d0
              have hyI := (hI.out _ g1.out).phis y (List.mem_of_getElem? hy)
              have hj0' : (0 : Int) ≤ (j : Int) := by omega
              have hj1 : (j : Int) < (x.phis.length : Int) := by omega
              have hnoj := Lib.hid (fun h => hno.out (by rw [hpa.out]; exact all_no hy h))
              have hyesj := Lib.hid (all_take (f := phiP x.fm.length regs) hy)
              have hpe := Lib.hid (phiP_eq x.fm.length regs y)
              have hbe2 := Lib.hid (b_alloc wr (.cells #[.int .i64 y.r, .slice y.aa y.args.length y.acap] 60))
              have g2 := Lib.hid (g1.out.trans (hbe2.out.mono g1.out.size))
              have g3 := Lib.hid (hbq.out.trans (hbe2.out.mono hbq.out.size))
              obtain ⟨r0, r1⟩ := box2 wr y
              have s2 := below_in hbe2.out (below_in hbq.out p2.out)
              have s3 := below_in hbe2.out (below_in g0.out q3.out)
              obtain ⟨cy1, cy2⟩ := len_i hyI.row
              have hE1 := Lib.hid (fun V (hv : Below wr.heap.size wr V) => hE.out y.args regs y.aa y.acap V (hyI.row.below (Kps.of_below hv)))
              rw [ha']
              clear hy ha' hyI hbe2
              by_cases h1 : y.args.length = x.fm.length
              · have e1 : ((y.args.length : Int) != (x.fm.length : Int)) = false := by rw [h1]; simp
                have hpe1 : Hid (phiP x.fm.length regs y = (inP y.r regs && y.args.all (fun z => inP z regs))) := Lib.hid (by rw [hpe.out, decide_eq_true h1]; rfl)
                clear h1 hpe
                cases h2 : inP y.r regs
                · have hW1 := fun V => hW.out y.r regs V
                  rw [h2] at hW1
                  replace hW1 := Lib.hid hW1
                  have hfin := Lib.hid (hnoj.out (by rw [hpe1.out, h2]; rfl))
                  clear hpe1 h2 hnoj hyesj hallj hE1
                  go_wp2_with fail
                  refine (hW1.out _).mono ?_
                  rintro e w3 ⟨rfl, hb3⟩
                  have g4 := Lib.hid (g2.out.trans (hb3.mono g2.out.size))
                  clear hb3
                  go_wp2_with fail
                  go_ret
                  exact ⟨ret_bool hfin.out.symm, g4.out⟩
                · have hW1 := fun V => hW.out y.r regs V
                  rw [h2] at hW1
                  replace hW1 := Lib.hid hW1
                  cases h3 : y.args.all (fun z => inP z regs)
                  · rw [h3] at hE1
                    have hfin := Lib.hid (hnoj.out (by rw [hpe1.out, h2, h3]; rfl))
                    clear hpe1 h2 h3 hnoj hyesj hallj
                    go_wp2_with fail
                    refine (hW1.out _).mono ?_
                    rintro e w3 ⟨rfl, hb3⟩
                    have t1 := below_in hb3 r1
                    have t3 := below_in hb3 s3
                    have hb4 := Lib.hid ((b_alloc wr (.cells #[.int .i64 y.r, .slice y.aa y.args.length y.acap] 60)).trans (hb3.mono (by simp)))
                    have g4 := Lib.hid (g2.out.trans (hb3.mono g2.out.size))
                    clear hb3 r0 r1 s2 s3
                    go_wp2_with fail
                    refine (hE1.out _ hb4.out).mono ?_
                    rintro e w4 ⟨rfl, hb5⟩
                    have g5 := Lib.hid (g4.out.trans (hb5.mono g4.out.size))
                    clear hb5
                    go_wp2_with fail
                    go_ret
                    exact ⟨ret_bool hfin.out.symm, g5.out⟩
                  · rw [h3] at hE1
                    have hn : Hid ((x.phis.take (j + 1)).all (phiP x.fm.length regs) = true) := Lib.hid (by rw [hyesj.out, hallj.out, hpe1.out, h2, h3]; rfl)
                    clear hpe1 h2 h3 hnoj hyesj hallj
                    go_wp2_with fail
                    refine (hW1.out _).mono ?_
                    rintro e w3 ⟨rfl, hb3⟩
                    have t1 := below_in hb3 r1
                    have t3 := below_in hb3 s3
                    have hb4 := Lib.hid ((b_alloc wr (.cells #[.int .i64 y.r, .slice y.aa y.args.length y.acap] 60)).trans (hb3.mono (by simp)))
                    have g4 := Lib.hid (g3.out.trans (hb3.mono g3.out.size))
                    clear hb3 r0 r1 s2 s3
                    go_wp2_with fail
                    refine (hE1.out _ hb4.out).mono ?_
                    rintro e w4 ⟨rfl, hb5⟩
                    have g5 := Lib.hid (g4.out.trans (hb5.mono g4.out.size))
                    clear hb5
                    go_wp2_with fail
                    go_roundw
                    case rel => exact ⟨j + 1, by omega, by go_num, hn, g5⟩
                    case measure => simp [intOf]; omega
              · have e1 := ne_n (a := (y.args.length : Int)) (b := (x.fm.length : Int)) (by omega)
                have hfin := Lib.hid (hnoj.out (by rw [hpe.out, decide_eq_false h1]; rfl))
                clear h1 hpe hnoj hyesj hallj hE1
                go_wp2_with fail
                go_ret
                exact ⟨ret_bool hfin.out.symm, g2.out⟩
            · have hjj : j = x.phis.length := by omega
              have hn : Hid (phisF regs 0 (blocks.take (k + 1)) = true) := Lib.hid (by
                rw [hyes.out, hall.out, hpa.out, ← List.take_length (l := x.phis), ← hjj, hallj.out]; rfl)
              clear hjj hallj
              go_wp2_with fail
              go_roundw
              case rel => exact ⟨k + 1, by omega, by go_num, hn, g0⟩
              case measure => simp [intOf]; omega
    · have hk2 : k = blocks.length := by omega
      subst hk2
      rw [List.take_length] at hall
      go_wp2_with fail
      go_ret
      exact ⟨ret_bool hall.out.symm, hbw.out⟩
end Go.Proofs.YtkmlhijnkilfpaaDoor.Fw
