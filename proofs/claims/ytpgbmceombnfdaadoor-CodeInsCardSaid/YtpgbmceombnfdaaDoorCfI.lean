/- CodeIns answers true. Conditions: the program and the two instructions lie in memory; the package's table holds its list. -/
import Derived.Test.YtpgbmceombnfdaaDoorCfH
import Derived.Test.YtpgbmceombnfdaaDoorCdK
import Derived.Test.YtpgbmceombnfdaaDoorCdI
import Derived.Deep.RegionHeld3
namespace Go.Proofs.YtpgbmceombnfdaaDoor.Cd
open Go Go.RowKit
open Go.Proofs.YtpgbmceombnfdaaDoor.Lx Go.Proofs.YtpgbmceombnfdaaDoor.Tr Go.Proofs.YtpgbmceombnfdaaDoor.Pa

/-- three boxes: a program and two instructions -/
structure Bx4 (w W : World) (p : Pg) (i k : Ins) : Prop where
  pc : ∀ j u, p.vals[j]? = some u → W.cell? ⟨w.heap.size, j, none⟩ = some u
  ic : ∀ j u, i.vals[j]? = some u → W.cell? ⟨w.heap.size + 1, j, none⟩ = some u
  kc : ∀ j u, k.vals[j]? = some u → W.cell? ⟨w.heap.size + 1 + 1, j, none⟩ = some u
theorem Bx4.new (w : World) (p : Pg) (i k : Ins) : Bx4 w (((w.alloc (.cells ⟨p.vals⟩ 27)).alloc (.cells ⟨i.vals⟩ 31)).alloc (.cells ⟨k.vals⟩ 31)) p i k := by
  obtain ⟨h0, h1, h2⟩ := ins3 w (.cells ⟨p.vals⟩ 27) (.cells ⟨i.vals⟩ 31) (.cells ⟨k.vals⟩ 31)
  exact ⟨cells_of h0, cells_of h1, cells_of h2⟩
theorem Bx4.below {w W V : World} {p : Pg} {i k : Ins} (h : Bx4 w W p i k) (hb : Below W.heap.size W V) : Bx4 w V p i k := ⟨fun j u hj => below_in hb (h.pc j u hj), fun j u hj => below_in hb (h.ic j u hj), fun j u hj => below_in hb (h.kc j u hj)⟩

set_option maxHeartbeats 8000000 in
set_option maxRecDepth 100000 in
theorem codeIns_law (p : Pg) (fn : Int) (i k : Ins) (w : World) (hfn : I64 fn) (hp : Pg.In w (fun _ => True) p) (hi : Ins.In w (fun _ => True) i) (hk : Ins.In w (fun _ => True) k) (hT : OpTab w) :
    Calls Tryd.prog 5 #[p.val, .int .i64 fn, i.val, k.val] w fun e w' => e = .returned (.bool true) ∧ Below w.heap.size w w' := by
  obtain ⟨hci1, hci2⟩ := len_i hi.row
  obtain ⟨hck1, hck2⟩ := len_i hk.row
  have hst := Lib.hid (b_alloc3 w (.cells ⟨p.vals⟩ 27) (.cells ⟨i.vals⟩ 31) (.cells ⟨k.vals⟩ 31))
  have hbx := Lib.hid (Bx4.new w p i k)
  have c1 := Lib.hid (fun V (hb : Below w.heap.size w V) => writes_any i V hi.op (hT.keep hb))
  have c2 := Lib.hid (fun V => rwrites_any i V)
  have c3 := Lib.hid (fun V (hb : Below w.heap.size w V) => goal_any i V hi.op (hT.keep hb))
  have c4 := Lib.hid (fun V => rgoal_any i V hi.n)
  have c5 := Lib.hid (fun V (hb : Below w.heap.size w V) => mayIns_any p fn i V hi.op (hi.row.below (Kps.of_below hb)) (hT.keep hb) (hp.frow.below (Kps.of_below hb)))
  have c6 := Lib.hid (fun V (hb : Below w.heap.size w V) (hl : i.args.length ≤ 17592186044400) => rmayIns_any p fn i V hi.op hi.n hfn (hi.row.below (Kps.of_below hb)) hl (hp.frow.below (Kps.of_below hb)))
  have c7 := Lib.hid (fun V (hb : Below w.heap.size w V) => sameIns_any i k V (hi.row.below (Kps.of_below hb)) (hk.row.below (Kps.of_below hb)))
  have c8 := Lib.hid (fun V (hb : Below w.heap.size w V) => rsameIns_any i k V (hi.row.below (Kps.of_below hb)) (hk.row.below (Kps.of_below hb)))
  have c9 := Lib.hid (fun V (hb : Below w.heap.size w V) (hl : (rdP i).length ≤ 17592186044416) => reads_any i V (hi.below (Kps.of_below hb)) (hT.keep hb) hl)
  have c10 := Lib.hid (fun V (hb : Below w.heap.size w V) (hl : i.args.length ≤ 17592186044416) => rreads_any i V (hi.row.below (Kps.of_below hb)) hl)
  have c0 := Lib.hid (fun V (hb : Below w.heap.size w V) => large_any p V (hp.below (Kps.of_below hb)))
  clear hp hi hk hT
  go_enter Tryd.func5, Tryd.ntmps5
  go_upto_region 1 with fail
  obtain ⟨g0, g1, g2⟩ := pg_cells hbx.out.pc
  obtain ⟨r0, r1, r2, r3, r4, r5⟩ := ins_cells hbx.out.ic
  obtain ⟨q0, q1, q2, q3, q4, q5⟩ := ins_cells hbx.out.kc
  go_wp2_with fail
  refine (c0.out _ (by exact hst.out)).mono ?_
  rintro e w1 ⟨⟨b, rfl⟩, hb1⟩
  replace hb1 : Below (((w.alloc (.cells ⟨p.vals⟩ 27)).alloc (.cells ⟨i.vals⟩ 31)).alloc (.cells ⟨k.vals⟩ 31)).heap.size (((w.alloc (.cells ⟨p.vals⟩ 27)).alloc (.cells ⟨i.vals⟩ 31)).alloc (.cells ⟨k.vals⟩ 31)) w1 := hb1
  have hN1 := Lib.hid (hst.out.trans (hb1.mono hst.out.size))
  have hbx1 := Lib.hid (hbx.out.below hb1)
  clear g0 g1 g2 r0 r1 r2 r3 r4 r5 q0 q1 q2 q3 q4 q5 hb1
  obtain ⟨g0, g1, g2⟩ := pg_cells hbx1.out.pc
  obtain ⟨r0, r1, r2, r3, r4, r5⟩ := ins_cells hbx1.out.ic
  obtain ⟨q0, q1, q2, q3, q4, q5⟩ := ins_cells hbx1.out.kc
  cases b with
  | true =>
    go_wp2_with fail
    go_ret
    exact ⟨rfl, hN1.out⟩
  | false =>
  by_cases hl1 : 5000 < i.args.length
  · have hl1' : (5000 : Int) < (i.args.length : Int) := by omega
    go_wp2_with fail
    go_ret
    exact ⟨rfl, hN1.out⟩
  have hl1' : ¬ (5000 : Int) < (i.args.length : Int) := by omega
  by_cases hl2 : 5000 < k.args.length
  · have hl2' : (5000 : Int) < (k.args.length : Int) := by omega
    go_wp2_with fail
    go_ret
    exact ⟨rfl, hN1.out⟩
  have hl2' : ¬ (5000 : Int) < (k.args.length : Int) := by omega
  have hil : i.args.length ≤ 5000 := by omega
  have hil2 : i.args.length ≤ 17592186044416 := by omega
  have hil3 : i.args.length ≤ 17592186044400 := by omega
  have hrl : (rdP i).length ≤ 17592186044416 := by
    simp only [rdP, rdA, rdB, rdC, List.length_append]; repeat' split
    all_goals simp <;> omega
  go_wp2_with fail
  refine (c1.out _ hN1.out).mono ?_
  rintro e w2 ⟨rfl, hb2⟩
  have hN2 := Lib.hid (hN1.out.trans (hb2.mono hN1.out.size))
  have hbx2 := Lib.hid (hbx1.out.below hb2)
  clear g0 g1 g2 r0 r1 r2 r3 r4 r5 q0 q1 q2 q3 q4 q5 hb2 hbx1
  obtain ⟨g0, g1, g2⟩ := pg_cells hbx2.out.pc
  obtain ⟨r0, r1, r2, r3, r4, r5⟩ := ins_cells hbx2.out.ic
  obtain ⟨q0, q1, q2, q3, q4, q5⟩ := ins_cells hbx2.out.kc
  go_wp2_with fail
  refine (c2.out _).mono ?_
  rintro e w3 ⟨rfl, hb3⟩
  have hN3 := Lib.hid (hN2.out.trans (hb3.mono hN2.out.size))
  have hbx3 := Lib.hid (hbx2.out.below hb3)
  clear g0 g1 g2 r0 r1 r2 r3 r4 r5 q0 q1 q2 q3 q4 q5 hb3 hbx2
  obtain ⟨g0, g1, g2⟩ := pg_cells hbx3.out.pc
  obtain ⟨r0, r1, r2, r3, r4, r5⟩ := ins_cells hbx3.out.ic
  obtain ⟨q0, q1, q2, q3, q4, q5⟩ := ins_cells hbx3.out.kc
  go_wp2_with fail
  refine (c3.out _ hN3.out).mono ?_
  rintro e w4 ⟨rfl, hb4⟩
  have hN4 := Lib.hid (hN3.out.trans (hb4.mono hN3.out.size))
  have hbx4 := Lib.hid (hbx3.out.below hb4)
  clear g0 g1 g2 r0 r1 r2 r3 r4 r5 q0 q1 q2 q3 q4 q5 hb4 hbx3
  obtain ⟨g0, g1, g2⟩ := pg_cells hbx4.out.pc
  obtain ⟨r0, r1, r2, r3, r4, r5⟩ := ins_cells hbx4.out.ic
  obtain ⟨q0, q1, q2, q3, q4, q5⟩ := ins_cells hbx4.out.kc
  go_wp2_with fail
  refine (c4.out _).mono ?_
  rintro e w5 ⟨rfl, hb5⟩
  have hN5 := Lib.hid (hN4.out.trans (hb5.mono hN4.out.size))
  have hbx5 := Lib.hid (hbx4.out.below hb5)
  clear g0 g1 g2 r0 r1 r2 r3 r4 r5 q0 q1 q2 q3 q4 q5 hb5 hbx4
  obtain ⟨g0, g1, g2⟩ := pg_cells hbx5.out.pc
  obtain ⟨r0, r1, r2, r3, r4, r5⟩ := ins_cells hbx5.out.ic
  obtain ⟨q0, q1, q2, q3, q4, q5⟩ := ins_cells hbx5.out.kc
  go_upto_region 7 with fail
  have ug0 := up_cell g0
  have ug1 := up_cell g1
  have ug2 := up_cell g2
  have ur0 := up_cell r0
  have ur1 := up_cell r1
  have ur2 := up_cell r2
  have ur3 := up_cell r3
  have ur4 := up_cell r4
  have ur5 := up_cell r5
  have uq0 := up_cell q0
  have uq1 := up_cell q1
  have uq2 := up_cell q2
  have uq3 := up_cell q3
  have uq4 := up_cell q4
  have uq5 := up_cell q5
  have s5 := Lib.hid (up_call (w := w5) (f := 11) (args := #[p.val, .int .i64 fn, i.val]) (fun V hb => c5.out V (hN5.out.trans (hb.mono hN5.out.size))))
  have s6 := Lib.hid (up_call (w := w5) (f := 26) (args := #[p.val, .int .i64 fn, i.val]) (fun V hb => c6.out V (hN5.out.trans (hb.mono hN5.out.size)) hil3))
  have s7 := Lib.hid (up_call (w := w5) (f := 27) (args := #[i.val, k.val]) (fun V hb => c7.out V (hN5.out.trans (hb.mono hN5.out.size))))
  have s8 := Lib.hid (up_call (w := w5) (f := 28) (args := #[i.val, k.val]) (fun V hb => c8.out V (hN5.out.trans (hb.mono hN5.out.size))))
  generalize mayI p fn i = M1 at *
  generalize sameI i k = M2 at *
  clear g0 g1 g2 r0 r1 r2 r3 r4 r5 q0 q1 q2 q3 q4 q5
  refine quiet_lit (C := fun V => ∃ U : UpW w5, V = U.val) (by kernel_rfl) (by kernel_rfl) ⟨⟨w5.drew, (Below.refl _ _).drew⟩, rfl⟩ ?_
  iterate 22 (quiet_step (fail))
  quiet_step (exact s5.out _)
  iterate 3 (quiet_step (fail))
  quiet_step (exact s6.out _)
  iterate 5 (quiet_step (fail))
  quiet_step (exact s7.out _)
  iterate 2 (quiet_step (fail))
  quiet_step (exact s8.out _)
  iterate 2 (quiet_step (fail))
  refine wpQuiet_nil ?_
  rintro w6 ⟨⟨_, hb6⟩, rfl⟩
  have hN6 := Lib.hid (hN5.out.trans (hb6.mono hN5.out.size))
  have hbx6 := Lib.hid (hbx5.out.below hb6)
  clear hb6 s5 s6 s7 s8 c0 c1 c2 c3 c4 c5 c6 c7 c8 ug0 ug1 ug2 ur0 ur1 ur2 ur3 ur4 ur5 uq0 uq1 uq2 uq3 uq4 uq5
  obtain ⟨r0, r1, r2, r3, r4, r5⟩ := ins_cells hbx6.out.ic
  go_wp2_with fail
  refine (c9.out _ hN6.out hrl).mono ?_
  rintro e w7 ⟨lv, rfl, hown7, hb7⟩
  have hb67 := Lib.hid hb7
  have hN7 := Lib.hid (hN6.out.trans (hb7.mono hN6.out.size))
  have hbx7 := Lib.hid (hbx6.out.below hb7)
  clear r0 r1 r2 r3 r4 r5 hb7 hbx5
  obtain ⟨r0, r1, r2, r3, r4, r5⟩ := ins_cells hbx7.out.ic
  replace hown7 := Lib.hid hown7
  go_wp2_with fail
  refine (c10.out _ hN7.out hil2).mono ?_
  rintro e w8 ⟨lv', rfl, hown8, hb8⟩
  have hb68 := Lib.hid (hb67.out.trans (hb8.mono hb67.out.size))
  have hown78 := Lib.hid (own_below hown7.out hb8)
  generalize rdP i = R at *
  obtain ⟨ra, rc, rfl, hr7⟩ := row_own hown78.out
  obtain ⟨sa, sc, rfl, hr8⟩ := row_own hown8
  have hrc := (⟨hr7.le, hr7.lim⟩ : R.length ≤ rc ∧ rc ≤ maxLen)
  unfold maxLen at hrc
  obtain ⟨hrc1, hrc2⟩ := hrc
  have ci := Lib.hid (ints_any R R ra sa rc sc w8 (hr7.mono (fun _ _ => trivial)) (hr8.mono (fun _ _ => trivial)))
  rw [decide_eq_true rfl] at ci
  clear hr7 hr8 hown8 hown7 hb67 hb8 r0 r1 r2 r3 r4 r5
  go_wp2_with fail
  refine ci.out.mono ?_
  rintro e w9 ⟨rfl, hb9⟩
  have hb69 := Lib.hid (hb68.out.trans (hb9.mono hb68.out.size))
  have hown9 := own_below hown78.out hb9
  have hrlt := Lib.hid (fun k (hk : (Value.slice ra R.length rc).ownBlock = some k) => hown9.lt k hk)
  replace hown9 := Lib.hid (⟨_, hown9⟩ : ∃ xs, w9.ownsRow w6.heap.size 3 1 (.slice ra R.length rc) R.length xs)
  clear hb9 hb68 hown78 ci
  go_wp2_with fail
  go_loopw [18] (fun kv wr => ∃ k : Nat, k ≤ R.length ∧ kv = .int .i64 k ∧ Hid (∃ xs, wr.ownsRow w6.heap.size 3 1 (.slice ra R.length rc) R.length xs) ∧ Hid (w9.grownBy wr (Value.slice ra R.length rc).ownBlock)) (fun kv _ => R.length - (intOf kv).toNat)
  case atStart => exact ⟨0, Nat.zero_le _, rfl, hown9, Lib.hid ⟨rfl, rfl, rfl, Nat.le_refl _, fun _ _ _ => rfl⟩⟩
  case round =>
    obtain ⟨k', hk', rfl, hox, hgx⟩ := hrel
    by_cases hlt : k' < R.length
    · obtain ⟨xs, hx⟩ := hox.out
      obtain ⟨g, hg⟩ : ∃ g, ra = some ⟨g, 0, none⟩ := by
        rcases hx.2 with ⟨_, h0⟩ | ⟨g, cap, cur, h', _⟩
        · omega
        · exact ⟨g, by cases h'; rfl⟩
      subst hg
      have hxl : xs.length = R.length := by simpa using hx.1
      have hce := hx.cellAt k' (by omega)
      rw [List.getElem?_eq_getElem (by omega : k' < xs.length)] at hce
      have hfz := hx.frozenAt k'
      have hset := hx.stored k' (.int .i64 (-9))
      have hgn := Lib.hid (grown_trans hgx.out hset.2)
      have hon := Lib.hid (⟨_, hset.1⟩ : ∃ ys, (wr.setCell ⟨g, k', none⟩ (.int .i64 (-9))).ownsRow w6.heap.size 3 1 (.slice (some ⟨g, 0, none⟩) R.length rc) R.length ys)
      have hi0 : (0 : Int) ≤ (k' : Int) := by omega
      have hi1 : (k' : Int) < (R.length : Int) := by omega
      generalize xs[k']'(by omega) = xk at hce
      clear hx hset hox hgx hxl
      go_wp2_with fail
      go_roundw
      case rel => exact ⟨k' + 1, by omega, by go_num, hon, hgn⟩
      case measure => simp [intOf]; omega
    · clear hox
      have hb6r := Lib.hid (hb69.out.grown hgx.out (by have := hb69.out.size; omega) (fun k e => by have := (hrlt.out k e).1; omega))
      have hNr := Lib.hid (hN6.out.trans (hb6r.out.mono hN6.out.size))
      obtain ⟨r0, r1, r2, r3, r4, r5⟩ := ins_cells (hbx6.out.below hb6r.out).ic
      generalize wr = w10 at *
      have hi1 : ¬ (k' : Int) < (R.length : Int) := by omega
      go_upto_region 16 with fail
      have hA := Lib.hid (fun V (hb : Below w.heap.size w V) => c9.out V hb hrl)
      have hB := Lib.hid (fun V (hb : Below w.heap.size w V) => c10.out V hb hil2)
      have hI := Lib.hid (fun (va vb : Value) (W3 W4 W5 : World) (B1 B2 : Nat) (h1 : W3.ownsRow B1 3 1 va R.length (numCells R)) (h2 : W4.ownsRow B2 3 1 vb R.length (numCells R)) (hb : Below W3.heap.size W3 W4) => (by
        obtain ⟨xa, xc, rfl, hx⟩ := row_own (own_below h1 hb)
        obtain ⟨ya, yc, rfl, hy⟩ := row_own h2
        have := ints_any R R xa ya xc yc W4 (hx.mono (fun _ _ => trivial)) (hy.mono (fun _ _ => trivial))
        rw [decide_eq_true rfl] at this
        exact this : Calls Tryd.prog 19 #[va, vb] W4 fun x w' => x = .returned (.bool true) ∧ Below W4.heap.size W4 w'))
      have hS0 : w10.drew.cell? ⟨w.heap.size + 1, 0, none⟩ = some (.int .u8 i.op) ∧ w10.drew.cell? ⟨w.heap.size + 1, 1, none⟩ = some (.int .i64 i.r) ∧ w10.drew.cell? ⟨w.heap.size + 1, 2, none⟩ = some (.int .i64 i.a) ∧ w10.drew.cell? ⟨w.heap.size + 1, 3, none⟩ = some (.int .i64 i.b) ∧ w10.drew.cell? ⟨w.heap.size + 1, 4, none⟩ = some (.int .i64 i.n) ∧ w10.drew.cell? ⟨w.heap.size + 1, 5, none⟩ = some (.slice i.aa i.args.length i.acap) ∧ Below w.heap.size w w10.drew := ⟨r0, r1, r2, r3, r4, r5, hNr.out.drew⟩
      have hkeep := Lib.hid (fun (V V' : World) (hb : Below V.heap.size V V') (hS : V.cell? ⟨w.heap.size + 1, 0, none⟩ = some (.int .u8 i.op) ∧ V.cell? ⟨w.heap.size + 1, 1, none⟩ = some (.int .i64 i.r) ∧ V.cell? ⟨w.heap.size + 1, 2, none⟩ = some (.int .i64 i.a) ∧ V.cell? ⟨w.heap.size + 1, 3, none⟩ = some (.int .i64 i.b) ∧ V.cell? ⟨w.heap.size + 1, 4, none⟩ = some (.int .i64 i.n) ∧ V.cell? ⟨w.heap.size + 1, 5, none⟩ = some (.slice i.aa i.args.length i.acap) ∧ Below w.heap.size w V) => (⟨below_in hb hS.1, below_in hb hS.2.1, below_in hb hS.2.2.1, below_in hb hS.2.2.2.1, below_in hb hS.2.2.2.2.1, below_in hb hS.2.2.2.2.2.1, hS.2.2.2.2.2.2.trans (hb.mono hS.2.2.2.2.2.2.size)⟩ : V'.cell? ⟨w.heap.size + 1, 0, none⟩ = some (.int .u8 i.op) ∧ V'.cell? ⟨w.heap.size + 1, 1, none⟩ = some (.int .i64 i.r) ∧ V'.cell? ⟨w.heap.size + 1, 2, none⟩ = some (.int .i64 i.a) ∧ V'.cell? ⟨w.heap.size + 1, 3, none⟩ = some (.int .i64 i.b) ∧ V'.cell? ⟨w.heap.size + 1, 4, none⟩ = some (.int .i64 i.n) ∧ V'.cell? ⟨w.heap.size + 1, 5, none⟩ = some (.slice i.aa i.args.length i.acap) ∧ Below w.heap.size w V'))
      clear c9 c10 hb6r hNr hgx hrlt hb69 r0 r1 r2 r3 r4 r5
      go_region_held3 (fun V => V.cell? ⟨w.heap.size + 1, 0, none⟩ = some (.int .u8 i.op) ∧ V.cell? ⟨w.heap.size + 1, 1, none⟩ = some (.int .i64 i.r) ∧ V.cell? ⟨w.heap.size + 1, 2, none⟩ = some (.int .i64 i.a) ∧ V.cell? ⟨w.heap.size + 1, 3, none⟩ = some (.int .i64 i.b) ∧ V.cell? ⟨w.heap.size + 1, 4, none⟩ = some (.int .i64 i.n) ∧ V.cell? ⟨w.heap.size + 1, 5, none⟩ = some (.slice i.aa i.args.length i.acap) ∧ Below w.heap.size w V) (first | exact hS | exact hS0 | assumption) (first | (go_at_call 29; refine (hA.out _ (by first | exact hS0.2.2.2.2.2.2 | (have := hS.2.2.2.2.2.2; exact this))).mono ?_; rintro e W3 ⟨va, rfl, hownA, hbA⟩; have hS3 := hkeep.out _ _ hbA (by first | exact hS0 | exact hS)) | (go_at_call 30; refine (hB.out _ hS3.2.2.2.2.2.2).mono ?_; rintro e W4 ⟨vb, rfl, hownB, hbB⟩; have hS4 := hkeep.out _ _ hbB hS3) | (go_at_call 19; refine (hI.out _ _ _ _ W4 _ _ hownA hownB hbB).mono ?_; rintro e W5 ⟨rfl, hbI⟩; have hS5 := hkeep.out _ _ hbI hS4))
      have hfin := Lib.hid hS5.2.2.2.2.2.2
      clear hS5 hS4 hS3 hS0 hkeep hA hB hI hownA hownB hbA hbB hbI
      go_wp2_with fail
      go_ret
      exact ⟨rfl, hfin.out⟩
end Go.Proofs.YtpgbmceombnfdaaDoor.Cd
