/- Walks of mayCodes, May. Conditions: the graph lies in memory; the package's table holds its list. -/
import Derived.Test.YtkmlhijnkilfpaaDoorJaO
import Derived.Test.YtkmlhijnkilfpaaDoorJFwD
import Derived.Test.YtkmlhijnkilfpaaDoorJaP
namespace Go.Proofs.YtkmlhijnkilfpaaDoor.Fw
open Go Go.RowKit
open Go.Proofs.YtkmlhijnkilfpaaDoor.Lx Go.Proofs.YtkmlhijnkilfpaaDoor.Tr Go.Proofs.YtkmlhijnkilfpaaDoor.Cd Go.Proofs.YtkmlhijnkilfpaaDoor.Pa

/-- the Args of all instructions are of bounded length -/
def Shrt (l : List Bk) : Prop := ∀ b ∈ l, ∀ x ∈ b.code, x.args.length ≤ 1048576
set_option maxHeartbeats 4000000 in
set_option maxRecDepth 100000 in
theorem mayCodes_c (g : Gr) (w : World) (hg : Gr.In w g) (hT : OpTab w) (hs : Shrt g.blocks) :
    Calls Tryd.prog 30 #[.agg ⟨g.vals⟩] w fun e w' => e = .returned (.bool (codesP g.regs g.blocks)) ∧ Below w.heap.size w w' := by
  have hst := Lib.hid (b_alloc w (.cells #[.string g.name, .bool g.thread, .int .i64 g.params, .int .i64 g.regs, .slice g.ba g.blocks.length g.bcap] 37))
  have hq := Lib.hid (box5 w g)
  have hA := Lib.hid (fun V => around_c g V)
  have hall := Lib.hid (fun (bx : Nat) (V : World) (hb : Below w.heap.size w V) hcall => all1_c g (mayA g.regs) bx V (hg.keep hb) hcall)
  have hone := Lib.hid (fun (b : Bk) (x : Ins) (a1 a2 a v : Option Addr) (cap bx : Nat) (V : World) (hb : b ∈ g.blocks) (hx : x ∈ b.code) (hv : Below w.heap.size w V) c0 c1 c2 hrow => codes1_c x g.regs a1 a2 a v cap bx V c0 c1 c2 hrow (hT.keep hv) (((hg.blocks b hb).code x hx).op) ((((hg.blocks b hb).keep hv).code x hx).row) (by have := hs b hb x hx; omega))
  have hcp : Hid (codesP g.regs g.blocks = g.blocks.all fun b => b.code.all (mayA g.regs)) := Lib.hid rfl
  clear hg hT hs
  rw [hcp.out]
  clear hcp
  generalize hres : (g.blocks.all fun b => b.code.all (mayA g.regs)) = res at *
  clear hres
  have hgv : Value.agg ⟨g.vals⟩ = .agg #[.string g.name, .bool g.thread, .int .i64 g.params, .int .i64 g.regs, .slice g.ba g.blocks.length g.bcap] := rfl
  rw [hgv] at hall hA ⊢
  clear hgv
  go_enter Tryd.func30, Tryd.ntmps30
  go_upto_region 1 with fail
  generalize hW0 : w.alloc (.cells #[.string g.name, .bool g.thread, .int .i64 g.params, .int .i64 g.regs, .slice g.ba g.blocks.length g.bcap] 37) = W0 at *
  obtain ⟨q0, q1, q2, q3, q4⟩ := hq.out
  clear hW0 hq
  go_wp2_with fail
  refine (hA.out _).mono ?_
  rintro e w1 ⟨⟨a1, a2, a, v, cap, rfl, hrow⟩, hb1⟩
  have r0 := below_in hb1 q0
  have r1 := below_in hb1 q1
  have r2 := below_in hb1 q2
  have r3 := below_in hb1 q3
  have r4 := below_in hb1 q4
  have hwl : w.heap.size < w1.heap.size := World.block_lt_of_cell? _ _ r0
  have hbe := Lib.hid (b_alloc w1 (.cells #[.slice a1 1 1, .slice a2 1 1, .slice v 10 cap] 26))
  have p0 := box_new w1 [.slice a1 1 1, .slice a2 1 1, .slice v 10 cap] 26 0 _ rfl
  have p1 := box_new w1 [.slice a1 1 1, .slice a2 1 1, .slice v 10 cap] 26 1 _ rfl
  have p2 := box_new w1 [.slice a1 1 1, .slice a2 1 1, .slice v 10 cap] 26 2 _ rfl
  have g1 := Lib.hid (hst.out.trans (hb1.mono hst.out.size))
  have g2 := Lib.hid (g1.out.trans (hbe.out.mono g1.out.size))
  have hc := hall.out w1.heap.size _ g2.out (fun b x V hb hx hv => hone.out b x a1 a2 a v cap w1.heap.size V hb hx (g2.out.trans (hv.mono g2.out.size)) (below_in hv p0) (below_in hv p1) (below_in hv p2) (hrow.below (Kps.of_below (hbe.out.trans (hv.mono hbe.out.size)))))
  replace hc := Lib.hid hc
  clear hall hone hA hrow q0 q1 q2 q3 q4 hb1
  replace p0 := Lib.hid p0
  replace p1 := Lib.hid p1
  replace p2 := Lib.hid p2
  go_wp2_with fail
  refine hc.out.mono ?_
  rintro e w2 ⟨rfl, hb2⟩
  have g3 := Lib.hid (g2.out.trans (hb2.mono g2.out.size))
  clear hb2 hc
  go_wp2_with fail
  go_ret
  exact ⟨rfl, g3.out⟩
theorem head_parts {g : Gr} (h : headG g = true) : 1 ≤ g.blocks.length ∧ g.blocks.length ≤ 32768 := by
  unfold headG at h
  simp only [Bool.and_eq_true, decide_eq_true_eq] at h
  exact ⟨h.2.2.2.2.1, h.2.2.2.2.2⟩
theorem ends_to {l : List Bk} {n : Nat} (h : l.all (endsB n) = true) : ∀ b ∈ l, ∀ t ∈ b.tt, 0 ≤ t ∧ t < n := by
  intro b hb t ht
  have := List.all_eq_true.1 h b hb
  unfold endsB at this
  simp only [Bool.and_eq_true] at this
  have h2 := List.all_eq_true.1 this.2.1 t ht
  simpa [inP] using h2
theorem ends_ne {l : List Bk} {n : Nat} (h : l.all (endsB n) = true) : ∀ b ∈ l, b.code.length = 0 → 0 < b.tt.length := by
  intro b hb h0
  have := List.all_eq_true.1 h b hb
  unfold endsB at this
  simp only [Bool.and_eq_true, decide_eq_true_eq] at this
  have h1 := this.1
  rw [List.eq_nil_of_length_eq_zero h0] at h1
  have : opCount (lastOp []) = 1 := rfl
  omega
set_option maxHeartbeats 4000000 in
set_option maxRecDepth 100000 in
theorem may_c (g : Gr) (w : World) (hg : Gr.In w g) (hT : OpTab w) (hs : Shrt g.blocks) :
    Calls Tryd.prog 11 #[.agg ⟨g.vals⟩] w fun e w' => e = .returned (.bool (mayG g)) ∧ Below w.heap.size w w' := by
  have hst := Lib.hid (b_alloc w (.cells #[.string g.name, .bool g.thread, .int .i64 g.params, .int .i64 g.regs, .slice g.ba g.blocks.length g.bcap] 37))
  have hq := Lib.hid (box5 w g)
  have h1 := Lib.hid (fun V => mayHead_c g V)
  have h2 := Lib.hid (fun V (hb : Below w.heap.size w V) => mayEnds_c g.blocks g.ba g.bcap V ((hg.keep hb).row) ((hg.keep hb).blocks))
  have h3 := Lib.hid (fun (a : headG g = true) (b : g.blocks.all (endsB g.blocks.length) = true) V (hb : Below w.heap.size w V) => mayWays_c g.blocks g.ba g.bcap V ((hg.keep hb).row) ((hg.keep hb).blocks) (ends_to b) (ends_ne b) (head_parts a).2 (head_parts a).1)
  have h4 := Lib.hid (fun V (hb : Below w.heap.size w V) => mayPhis_c g V (hg.keep hb))
  have h5 := Lib.hid (fun V (hb : Below w.heap.size w V) => mayCodes_c g V (hg.keep hb) (hT.keep hb) hs)
  have hm : Hid (mayG g = (headG g && (g.blocks.all (endsB g.blocks.length) && (waysP g.blocks && (phisF g.regs 0 g.blocks && codesP g.regs g.blocks))))) := Lib.hid rfl
  rw [hm.out]
  clear hg hT hs hm
  generalize headG g = v1 at *
  generalize g.blocks.all (endsB g.blocks.length) = v2 at *
  generalize waysP g.blocks = v3 at *
  generalize phisF g.regs 0 g.blocks = v4 at *
  generalize codesP g.regs g.blocks = v5 at *
  have hgv : Value.agg ⟨g.vals⟩ = .agg #[.string g.name, .bool g.thread, .int .i64 g.params, .int .i64 g.regs, .slice g.ba g.blocks.length g.bcap] := rfl
  rw [hgv] at h1 h4 h5 ⊢
  clear hgv
  go_enter Tryd.func11, Tryd.ntmps11
  go_upto_region 1 with fail
  generalize hW0 : w.alloc (.cells #[.string g.name, .bool g.thread, .int .i64 g.params, .int .i64 g.regs, .slice g.ba g.blocks.length g.bcap] 37) = W0 at *
  have hcell : Hid (∀ V, Below W0.heap.size W0 V → Below w.heap.size w V ∧ V.cell? ⟨w.heap.size, 0, none⟩ = some (.string g.name) ∧ V.cell? ⟨w.heap.size, 1, none⟩ = some (.bool g.thread) ∧ V.cell? ⟨w.heap.size, 2, none⟩ = some (.int .i64 g.params) ∧ V.cell? ⟨w.heap.size, 3, none⟩ = some (.int .i64 g.regs) ∧ V.cell? ⟨w.heap.size, 4, none⟩ = some (.slice g.ba g.blocks.length g.bcap)) := Lib.hid (fun V hv => by
    obtain ⟨q0, q1, q2, q3, q4⟩ := hq.out
    exact ⟨hst.out.trans (hv.mono hst.out.size), below_in hv q0, below_in hv q1, below_in hv q2, below_in hv q3, below_in hv q4⟩)
  clear hW0 hq hst
  obtain ⟨k0, q0, q1, q2, q3, q4⟩ := hcell.out W0 (Below.refl _ _)
  replace k0 := Lib.hid k0
  cases v1
  · go_wp2_with fail
    refine (h1.out _).mono ?_
    rintro e w1 ⟨rfl, hb1⟩
    have k1 := Lib.hid (hcell.out w1 hb1).1
    clear hb1 hcell h2 h3 h4 h5
    go_wp2_with fail
    go_ret
    exact ⟨rfl, k1.out⟩
  · go_wp2_with fail
    refine (h1.out _).mono ?_
    rintro e w1 ⟨rfl, hb1⟩
    clear q0 q1 q2 q3 q4
    obtain ⟨k1, q0, q1, q2, q3, q4⟩ := hcell.out w1 hb1
    replace k1 := Lib.hid k1
    replace hb1 := Lib.hid hb1
    cases v2
    · go_wp2_with fail
      refine (h2.out _ k1.out).mono ?_
      rintro e w2 ⟨rfl, hb2⟩
      have k2 := Lib.hid (hcell.out w2 (hb1.out.trans (hb2.mono hb1.out.size))).1
      clear hb2 hcell h3 h4 h5
      go_wp2_with fail
      go_ret
      exact ⟨rfl, k2.out⟩
    · go_wp2_with fail
      refine (h2.out _ k1.out).mono ?_
      rintro e w2 ⟨rfl, hb2⟩
      replace hb2 := hb1.out.trans (hb2.mono hb1.out.size)
      clear q0 q1 q2 q3 q4
      obtain ⟨k2, q0, q1, q2, q3, q4⟩ := hcell.out w2 hb2
      replace k2 := Lib.hid k2
      replace hb2 := Lib.hid hb2
      cases v3
      · go_wp2_with fail
        refine (h3.out (by simp) (by simp) _ k2.out).mono ?_
        rintro e w3 ⟨rfl, hb3⟩
        have k3 := Lib.hid (hcell.out w3 (hb2.out.trans (hb3.mono hb2.out.size))).1
        clear hb3 hcell h4 h5
        go_wp2_with fail
        go_ret
        exact ⟨rfl, k3.out⟩
      · go_wp2_with fail
        refine (h3.out (by simp) (by simp) _ k2.out).mono ?_
        rintro e w3 ⟨rfl, hb3⟩
        replace hb3 := hb2.out.trans (hb3.mono hb2.out.size)
        clear q0 q1 q2 q3 q4
        obtain ⟨k3, q0, q1, q2, q3, q4⟩ := hcell.out w3 hb3
        replace k3 := Lib.hid k3
        replace hb3 := Lib.hid hb3
        cases v4
        · go_wp2_with fail
          refine (h4.out _ k3.out).mono ?_
          rintro e w4 ⟨rfl, hb4⟩
          have k4 := Lib.hid (hcell.out w4 (hb3.out.trans (hb4.mono hb3.out.size))).1
          clear hb4 hcell h5
          go_wp2_with fail
          go_ret
          exact ⟨rfl, k4.out⟩
        · go_wp2_with fail
          refine (h4.out _ k3.out).mono ?_
          rintro e w4 ⟨rfl, hb4⟩
          replace hb4 := hb3.out.trans (hb4.mono hb3.out.size)
          clear q0 q1 q2 q3 q4
          obtain ⟨k4, q0, q1, q2, q3, q4⟩ := hcell.out w4 hb4
          replace k4 := Lib.hid k4
          replace hb4 := Lib.hid hb4
          go_wp2_with fail
          refine (h5.out _ k4.out).mono ?_
          rintro e w5 ⟨rfl, hb5⟩
          have k5 := Lib.hid (hcell.out w5 (hb4.out.trans (hb5.mono hb4.out.size))).1
          clear hb5 hcell
          go_wp2_with fail
          go_ret
          exact ⟨rfl, k5.out⟩
end Go.Proofs.YtkmlhijnkilfpaaDoor.Fw
