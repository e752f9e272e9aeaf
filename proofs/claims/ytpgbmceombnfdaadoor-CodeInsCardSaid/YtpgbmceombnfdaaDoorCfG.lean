/- Walk of the document's MayIns. Conditions: the program's Funs and the instruction's Args lie in memory. -/
import Derived.Test.YtpgbmceombnfdaaDoorCfF
namespace Go.Proofs.YtpgbmceombnfdaaDoor.Cd
open Go Go.RowKit
open Go.Proofs.YtpgbmceombnfdaaDoor.Lx Go.Proofs.YtpgbmceombnfdaaDoor.Tr Go.Proofs.YtpgbmceombnfdaaDoor.Pa

set_option maxHeartbeats 4000000 in
set_option maxRecDepth 100000 in
theorem rmayIns_any (p : Pg) (fn : Int) (i : Ins) (w : World) (hi : U8 i.op) (hn : I64 i.n) (hf63 : I64 fn) (hri : RowAt w (fun _ => True) i.aa i.acap i.args.length (numCells i.args)) (hl : i.args.length ≤ 17592186044400) (hrow : RowAt w (fun _ => True) p.fa p.fcap p.funs.length (fnCells p.funs)) :
    Calls Tryd.prog 26 #[p.val, .int .i64 fn, i.val] w fun e w' => e = .returned (.bool (mayI p fn i)) ∧ Below w.heap.size w w' := by
  have hst := Lib.hid ((Below.refl w.heap.size w).alloc (Nat.le_refl _) (.cells ⟨p.vals⟩ 27) |>.alloc (by simp) (.cells ⟨i.vals⟩ 31))
  have hbx := Lib.hid (Bx2.new w p i)
  have hmay := Lib.hid (fun (f : Fn) (V : World) (hb : Below w.heap.size w V) => rmay_any p f i V hi hn (hri.below (Kps.of_below hb)) hl (hrow.below (Kps.of_below hb)))
  by_cases hin : inP fn p.funs.length = true
  · have h2 : 0 ≤ fn ∧ fn < p.funs.length := by simpa [inP] using hin
    obtain ⟨h20, h21⟩ := h2
    obtain ⟨m, rfl⟩ : ∃ m : Nat, fn = m := ⟨fn.toNat, by omega⟩
    have hml : m < p.funs.length := by omega
    obtain ⟨g, hg⟩ : ∃ g, p.funs[m]? = some g := ⟨p.funs[m], by simp [hml]⟩
    have hm63 : (m : Int) ≤ 9223372036854775807 := by have := hf63; unfold I64 at this; omega
    have hv : mayI p m i = rmayF p g i := by rw [mayI_at hg i, rmay_eq]
    rw [hv]
    clear hv
    obtain ⟨fb, fo, hfa, _, z0, z1, z2, z3, z4⟩ := fn_row hrow m g hg
    replace hfa := Lib.hid hfa
    clear hri hrow hg
    go_enter Tryd.func26, Tryd.ntmps26
    go_upto_region 1 with fail
    generalize hW0 : (w.alloc (.cells ⟨p.vals⟩ 27)).alloc (.cells ⟨i.vals⟩ 31) = W0 at hbx hst
    obtain ⟨r0, r1, r2, r3, r4, r5⟩ := ins_cells hbx.out.ic
    obtain ⟨g0, g1, g2⟩ := pg_cells hbx.out.pc
    have u0 := up_cell r0
    have u1 := up_cell r1
    have u2 := up_cell r2
    have u3 := up_cell r3
    have u4 := up_cell r4
    have u5 := up_cell r5
    have q0 := up_cell g0
    have q1 := up_cell g1
    have q2 := up_cell g2
    rw [hfa.out] at q2
    have t0 := up_cell (below_in hst.out z0)
    have t1 := up_cell (below_in hst.out z1)
    have t2 := up_cell (below_in hst.out z2)
    have t3 := up_cell (below_in hst.out z3)
    have t4 := up_cell (below_in hst.out z4)
    have s3 := Lib.hid (up_call (w := W0) (f := 50) (args := #[.int .i64 m, .int .i64 p.funs.length]) (fun V hb => by have := rwithin_any m p.funs.length V; rw [hin] at this; exact this))
    have s4 := Lib.hid (up_call (w := W0) (f := 43) (args := #[p.val, g.val, i.val]) (fun V hb => hmay.out g V (hst.out.trans (hb.mono hst.out.size))))
    have hpv : p.val = .agg #[.slice p.ma p.mems.length p.mcap, .slice p.la p.locks.length p.lcap, .slice (some ⟨fb, fo, none⟩) p.funs.length p.fcap] := by show Value.agg #[_, _, _] = _; rw [hfa.out]
    rw [hpv] at s4
    clear r0 r1 r2 r3 r4 r5 g0 g1 g2 z0 z1 z2 z3 z4 hmay hin hpv
    refine quiet_lit (C := fun V => ∃ U : UpW W0, V = U.val) (by kernel_rfl) (by kernel_rfl) ⟨⟨W0.drew, (Below.refl _ _).drew⟩, by show _ = W0.drew; rw [← hW0]; rfl⟩ ?_
    iterate 4 (quiet_step (fail))
    quiet_step (exact s3.out _)
    iterate 8 (quiet_step (fail))
    quiet_step (exact s4.out _)
    iterate 2 (quiet_step (fail))
    refine wpQuiet_nil ?_
    rintro U ⟨⟨_, hU⟩, rfl⟩
    have hbU := Lib.hid (hst.out.trans (hU.mono hst.out.size))
    go_wp2_with fail
    go_ret
    exact ⟨rfl, hbU.out⟩
  · have hin' : inP fn p.funs.length = false := by simpa using hin
    have hv : mayI p fn i = false := by unfold mayI; rw [if_neg (by rw [hin']; simp)]
    have s3 := Lib.hid (fun V : World => (by have := rwithin_q fn p.funs.length V; rw [hin'] at this; exact this : Calls Tryd.prog 50 #[.int .i64 fn, .int .i64 p.funs.length] V fun e w' => e = .returned (.bool false) ∧ w' = V))
    rw [hv]
    clear hv hmay hri hrow hin hin'
    go_enter Tryd.func26, Tryd.ntmps26
    go_upto_region 1 with fail
    obtain ⟨g0, g1, g2⟩ := pg_cells hbx.out.pc
    go_quiet (exact Calls.quiet_of_same (s3.out _))
    go_wp2_with fail
    go_ret
    exact ⟨rfl, hst.out.trans ⟨rfl, rfl, rfl, Nat.le_refl _, fun _ _ => rfl⟩⟩
end Go.Proofs.YtpgbmceombnfdaaDoor.Cd
