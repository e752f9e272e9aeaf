/- Walk of CodeThreads. Conditions: the arguments lie in memory; the packages' tables hold their lists. -/
import Derived.Test.YtpgbmceombnfdaaDoorCeC
import Derived.Deep.QuietTactic
namespace Go.Proofs.YtpgbmceombnfdaaDoor.Cd
open Go Go.RowKit
open Go.Proofs.YtpgbmceombnfdaaDoor.Lx Go.Proofs.YtpgbmceombnfdaaDoor.Tr

theorem pg_cells {W : World} {bx : Nat} {p : Pg} (h : ∀ j u, p.vals[j]? = some u → W.cell? ⟨bx, j, none⟩ = some u) : W.cell? ⟨bx, 0, none⟩ = some (.slice p.ma p.mems.length p.mcap) ∧ W.cell? ⟨bx, 1, none⟩ = some (.slice p.la p.locks.length p.lcap) ∧ W.cell? ⟨bx, 2, none⟩ = some (.slice p.fa p.funs.length p.fcap) := ⟨h _ _ rfl, h _ _ rfl, h _ _ rfl⟩
/-- two boxes: a program and an instruction -/
structure Bx2 (w W : World) (p : Pg) (i : Ins) : Prop where
  pc : ∀ j u, p.vals[j]? = some u → W.cell? ⟨w.heap.size, j, none⟩ = some u
  ic : ∀ j u, i.vals[j]? = some u → W.cell? ⟨w.heap.size + 1, j, none⟩ = some u
theorem Bx2.new (w : World) (p : Pg) (i : Ins) : Bx2 w ((w.alloc (.cells ⟨p.vals⟩ 27)).alloc (.cells ⟨i.vals⟩ 31)) p i :=
  ⟨fun j u hj => below_in (b_alloc _ _) (box_new w p.vals 27 j u hj), cells_of (t := 31) (blk_new _ _ (by simp))⟩
theorem Bx2.below {w W V : World} {p : Pg} {i : Ins} (h : Bx2 w W p i) (hb : Below W.heap.size W V) : Bx2 w V p i := ⟨fun j u hj => below_in hb (h.pc j u hj), fun j u hj => below_in hb (h.ic j u hj)⟩
theorem grown_trans {A B C : World} {r : Option Nat} (h : A.grownBy B r) (k : B.grownBy C r) : A.grownBy C r :=
  ⟨k.os.trans h.os, k.tape.trans h.tape, k.output.trans h.output, Nat.le_trans h.size k.size, fun b hb hn => (k.block b (Nat.lt_of_lt_of_le hb h.size) hn).trans (h.block b hb hn)⟩
theorem thrs_at {l : List Fn} {k : Nat} {f : Fn} (h : l[k]? = some f) (ht : f.thread = true) : (thrsFrom 0 l)[(thrsFrom 0 (l.take k)).length]? = some (k : Int) := by
  have h1 := thrs_take h
  rw [ht, if_pos rfl] at h1
  have h2 := thrs_from (l.take (k + 1)) (l.drop (k + 1)) 0
  rw [List.take_append_drop] at h2
  rw [h2, h1, List.append_assoc, List.getElem?_append_right (Nat.le_refl _), Nat.sub_self]
  rfl

set_option maxHeartbeats 4000000 in
set_option maxRecDepth 100000 in
theorem codeThreads_big (p : Pg) (i : Ins) (w : World) (hT : OpTab w) (hsg : SignsIn w) (h : 200 < p.funs.length ∨ 200 < i.args.length) (hp2 : p.funs.length ≤ 9223372036854775807) (hi2 : i.args.length ≤ 9223372036854775807) :
    Calls Tryd.prog 8 #[p.val, i.val] w fun e w' => e = .returned (.bool true) ∧ Below w.heap.size w w' := by
  have hwk := Lib.hid (fun (V : World) (hb : Below w.heap.size w V) => works_c V (hT.keep hb) (hsg.below hsg.lt hb))
  have hbx := Lib.hid (Bx2.new w p i)
  have hst := Lib.hid (b_alloc2 w (.cells ⟨p.vals⟩ 27) (.cells ⟨i.vals⟩ 31))
  clear hT hsg
  by_cases h1 : 200 < p.funs.length
  · have h1' : (200 : Int) < p.funs.length := by omega
    go_enter Tryd.func8, Tryd.ntmps8
    go_wp2_with fail
    refine (hwk.out _ hst.out).mono ?_
    rintro e w1 ⟨rfl, hb⟩
    obtain ⟨q0, q1, q2⟩ := pg_cells (hbx.out.below hb).pc
    have hq := Lib.hid (hst.out.trans (hb.mono hst.out.size))
    clear hb
    go_wp2_with fail
    refine (hwk.out _ hq.out).mono ?_
    rintro e w2 ⟨rfl, hb⟩
    have hq2 := Lib.hid (hq.out.trans (hb.mono hq.out.size))
    clear hb
    go_wp2_with fail
    go_ret
    exact ⟨rfl, hq2.out⟩
  · have h1' : ¬ (200 : Int) < p.funs.length := by omega
    have h2' : (200 : Int) < i.args.length := by omega
    go_enter Tryd.func8, Tryd.ntmps8
    go_wp2_with fail
    refine (hwk.out _ hst.out).mono ?_
    rintro e w1 ⟨rfl, hb⟩
    obtain ⟨q0, q1, q2⟩ := pg_cells (hbx.out.below hb).pc
    obtain ⟨r0, r1, r2, r3, r4, r5⟩ := ins_cells (hbx.out.below hb).ic
    have hq := Lib.hid (hst.out.trans (hb.mono hst.out.size))
    clear hb
    go_wp2_with fail
    refine (hwk.out _ hq.out).mono ?_
    rintro e w2 ⟨rfl, hb⟩
    have hq2 := Lib.hid (hq.out.trans (hb.mono hq.out.size))
    clear hb
    go_wp2_with fail
    go_ret
    exact ⟨rfl, hq2.out⟩
set_option maxHeartbeats 8000000 in
set_option maxRecDepth 100000 in
theorem codeThreads_small (p : Pg) (i : Ins) (w : World) (hp : Pg.In w (fun _ => True) p) (hi : Ins.In w (fun _ => True) i) (hT : OpTab w) (hsg : SignsIn w) (h1 : p.funs.length ≤ 200) (h2 : i.args.length ≤ 200) :
    Calls Tryd.prog 8 #[p.val, i.val] w fun e w' => e = .returned (.bool true) ∧ Below w.heap.size w w' := by
  obtain ⟨hc1, hc2⟩ := len_i hp.frow
  have hwk := Lib.hid (fun (V : World) (hb : Below w.heap.size w V) => works_c V (hT.keep hb) (hsg.below hsg.lt hb))
  have hth := Lib.hid (fun (V : World) (hb : Below w.heap.size w V) => threads_any p V (hp.frow.below (Kps.of_below hb)) (by omega))
  have hRl : (rdP i).length ≤ 202 := by
    unfold rdP rdA rdB rdC
    simp only [List.length_append]
    split <;> split <;> split <;> simp <;> omega
  have hrd := Lib.hid (fun (V : World) (hb : Below w.heap.size w V) => reads_any i V (hi.below (Kps.of_below hb)) (hT.keep hb) (by omega))
  have hfr := Lib.hid (fun (V : World) (hb : Below w.heap.size w V) => hp.frow.below (Kps.of_below hb))
  have hbx := Lib.hid (Bx2.new w p i)
  have hst := Lib.hid (b_alloc2 w (.cells ⟨p.vals⟩ 27) (.cells ⟨i.vals⟩ 31))
  have h1' : ¬ (200 : Int) < p.funs.length := by omega
  have h2' : ¬ (200 : Int) < i.args.length := by omega
  obtain ⟨T, hTT⟩ : ∃ T, thrsP p = T := ⟨_, rfl⟩
  obtain ⟨R, hRR⟩ : ∃ R, rdP i = R := ⟨_, rfl⟩
  have hTl : T.length ≤ 200 := by rw [← hTT]; exact Nat.le_trans (thrs_len _ _) h1
  rw [hTT] at hth
  rw [hRR] at hrd hRl
  have htt : Hid (thrsFrom 0 p.funs = T) := Lib.hid hTT
  clear hT hsg hp hi hTT hRR
  go_enter Tryd.func8, Tryd.ntmps8
  go_wp2_with fail
  generalize hW0 : (w.alloc (.cells ⟨p.vals⟩ 27)).alloc (.cells ⟨i.vals⟩ 31) = W0 at hbx hst
  have hs0 : W0.heap.size = w.heap.size + 2 := by rw [← hW0]; simp
  refine (hwk.out _ (by rw [← hW0] at hst; exact hst.out)).mono ?_
  rintro e w1 ⟨rfl, hb'⟩
  have hb : Below W0.heap.size W0 w1 := by rw [← hW0]; exact hb'
  clear hb' hW0 hwk
  obtain ⟨q0, q1, q2⟩ := pg_cells (hbx.out.below hb).pc
  obtain ⟨r0, r1, r2, r3, r4, r5⟩ := ins_cells (hbx.out.below hb).ic
  have hk := Lib.hid hb
  have hq := Lib.hid (hst.out.trans (hb.mono hst.out.size))
  clear hb
  go_wp2_with fail
  refine (hth.out _ hq.out).mono ?_
  rintro e w2 ⟨v, rfl, hown, hb⟩
  obtain ⟨va, vc, rfl, hrow⟩ := row_own hown
  have hk2 := Lib.hid (hk.out.trans (hb.mono hk.out.size))
  have hq2 := Lib.hid (hq.out.trans (hb.mono hq.out.size))
  clear q0 q1 q2 r0 r1 r2 r3 r4 r5 hb hk hq hown hth
  obtain ⟨q0, q1, q2⟩ := pg_cells (hbx.out.below hk2.out).pc
  replace hrow := Lib.hid hrow
  have hvc := (⟨hrow.out.le, hrow.out.lim⟩ : T.length ≤ vc ∧ vc ≤ maxLen)
  go_wp2_with fail
  go_loopw [6, 7] (fun at_ kv wr => ∃ k : Nat, k ≤ p.funs.length ∧ kv = .int .i64 k ∧ Hid (∃ c : Nat, (thrsFrom 0 (p.funs.take k)).length = c ∧ at_ = .int .i64 c) ∧ wr = w2) (fun _ kv _ => p.funs.length - (intOf kv).toNat)
  case atStart => exact ⟨0, Nat.zero_le _, rfl, Lib.hid ⟨0, rfl, rfl⟩, rfl⟩
  case round =>
    obtain ⟨k, hk, rfl, hat, rfl⟩ := hrel
    obtain ⟨c, hcl, rfl⟩ := hat.out
    clear hat
    by_cases hlt : k < p.funs.length
    · obtain ⟨f, hf⟩ : ∃ f, p.funs[k]? = some f := ⟨_, List.getElem?_eq_getElem hlt⟩
      obtain ⟨b, off, ha, _, c0, c1, c2, c3, c4⟩ := fn_row (hfr.out _ hq2.out) k f hf
      have htk := thrs_take hf
      have hta := fun ht => thrs_at hf ht
      rw [htt.out, hcl] at hta
      have hi0 : (0 : Int) ≤ (k : Int) := by omega
      have hi1 : (k : Int) < (p.funs.length : Int) := by omega
      rw [ha] at q2 ⊢
      cases ht : f.thread
      · rw [ht] at htk c1
        rw [if_neg (by simp), List.append_nil] at htk
        have hn := Lib.hid (⟨c, by rw [htk]; exact hcl, rfl⟩ : ∃ c' : Nat, (thrsFrom 0 (p.funs.take (k + 1))).length = c' ∧ Value.int .i64 c = .int .i64 c')
        clear htk hta hcl hf
        go_wp2_with fail
        go_roundw
        case rel => exact ⟨k + 1, by omega, by go_num, hn, trivial⟩
        case measure => simp [intOf]; omega
      · rw [ht] at htk c1
        rw [if_pos rfl] at htk
        have hta2 := hta ht
        have hcT : c < T.length := (List.getElem?_eq_some_iff.1 hta2).1
        obtain ⟨b2, o2, hva, _, hcx⟩ := num_row hrow.out c k hta2
        have hn := Lib.hid (⟨c + 1, by rw [htk, List.length_append]; simp [hcl], by simp⟩ : ∃ c' : Nat, (thrsFrom 0 (p.funs.take (k + 1))).length = c' ∧ Value.int .i64 ((c : Int) + 1) = .int .i64 c')
        have hcT2 : (c : Int) < (T.length : Int) := by omega
        have hc0 : (0 : Int) ≤ (c : Int) := by omega
        subst hva
        clear htk hta hta2 hcl hf
        go_wp2_with fail
        go_roundw
        case rel => exact ⟨k + 1, by omega, by go_num, hn, trivial⟩
        case measure => simp [intOf]; omega
    · have hke : k = p.funs.length := by omega
      subst hke
      rw [List.take_length, htt.out] at hcl
      have hcT : (c : Int) = (T.length : Int) := by rw [hcl]
      rw [hcT]
      clear hfr hcl hcT hk hlt
      generalize wr = w2 at *
      obtain ⟨r0, r1, r2, r3, r4, r5⟩ := ins_cells (hbx.out.below hk2.out).ic
      go_wp2_with fail
      refine (hrd.out _ hq2.out).mono ?_
      rintro e w3 ⟨rv, rfl, hown3, hb⟩
      have hk3 := Lib.hid (hk2.out.trans (hb.mono hk2.out.size))
      have hq3 := Lib.hid (hq2.out.trans (hb.mono hq2.out.size))
      have hs2 : W0.heap.size ≤ w2.heap.size := hk2.out.size
      have hlt3 : w2.heap.size ≤ w3.heap.size := hb.size
      clear r0 r1 r2 r3 r4 r5 hb q0 q1 q2
      obtain ⟨i0, hi0, hz0, hz1, hz2⟩ := info_i
      have hlit : Hid ((w3.alloc (.cells #[] 3)).ownsRow w3.heap.size 3 1 (.slice (some ⟨w3.heap.size, 0, none⟩) 0 0) 0 []) := Lib.hid (World.ownsRow_lit (base := w3.heap.size) (e := 3) (size := 1) w3 #[] 0 (Nat.le_refl _) (Nat.zero_le _) rfl)
      have hown4 := Lib.hid (own_below hown3 (b_alloc w3 (.cells #[] 3)))
      obtain ⟨ra, rc, hrv, hrc1, hrc2⟩ := len_run rv hown3
      subst hrv
      have hrlt := Lib.hid (fun k (hk : (Value.slice ra R.length rc).ownBlock = some k) => hown3.lt k hk)
      replace hown3 := Lib.hid hown3
      go_wp2_with (at_builtin; refine wpList_append_row _ rfl _ _ 29 rfl w3.heap.size 3 i0 _ 8 Tryd.underlying29 hi0 hz0 hz1 hz2 rfl _ _ _ rfl hlit.out w2.heap.size (.slice ra R.length rc) R.length (numCells R) rfl hown4.out (num_one R) ?c1 ?c2 ?c3 ?_)
      case c1 => unfold maxLen; omega
      case c2 => omega
      case c3 => simp
      intro vw w4 hownw hg4 _
      have hw : w4.ownsRow w3.heap.size 3 1 vw R.length (numCells R) := by simpa using hownw
      have hg4' : (w3.alloc (.cells #[] 3)).grownBy w4 (some w3.heap.size) := hg4
      have hb34 : Below w3.heap.size w3 w4 := (b_alloc w3 _).grown hg4' (by simp) (fun k e => by cases e; exact Nat.le_refl _)
      have hown5 := own_below hown3.out hb34
      obtain ⟨wa, wc, hvw, hwc1, hwc2⟩ := len_run vw hw
      subst hvw
      clear hownw hg4 hg4' hown3 hown4 hlit
      have hk4 := Lib.hid (hk3.out.trans (hb34.mono hk3.out.size))
      have hs4 := hb34.size
      have hwlt := Lib.hid (fun k (hk : (Value.slice wa R.length wc).ownBlock = some k) => hw.lt k hk)
      replace hw := Lib.hid hw
      replace hown5 := Lib.hid (⟨_, hown5⟩ : ∃ xs, w4.ownsRow w2.heap.size 3 1 (.slice ra R.length rc) R.length xs)
      clear hb34
      go_wp2_with fail
      go_loopw [10] (fun kv wr => ∃ k : Nat, k ≤ R.length ∧ kv = .int .i64 k ∧ Hid (∃ xs, wr.ownsRow w2.heap.size 3 1 (.slice ra R.length rc) R.length xs) ∧ Hid (w4.grownBy wr (Value.slice ra R.length rc).ownBlock)) (fun kv _ => R.length - (intOf kv).toNat)
      case atStart => exact ⟨0, Nat.zero_le _, rfl, hown5, Lib.hid ⟨rfl, rfl, rfl, Nat.le_refl _, fun _ _ _ => rfl⟩⟩
      case round =>
        obtain ⟨k, hk, rfl, hox, hgx⟩ := hrel
        by_cases hlt : k < R.length
        · obtain ⟨xs, hx⟩ := hox.out
          obtain ⟨g, hg⟩ : ∃ g, ra = some ⟨g, 0, none⟩ := by
            rcases hx.2 with ⟨_, h0⟩ | ⟨g, cap, cur, h', _⟩
            · omega
            · exact ⟨g, by cases h'; rfl⟩
          subst hg
          have hxl : xs.length = R.length := by simpa using hx.1
          have hce := hx.cellAt k (by omega)
          rw [List.getElem?_eq_getElem (by omega : k < xs.length)] at hce
          have hfz := hx.frozenAt k
          have hset := hx.stored k (.int .i64 (-7))
          have hgn := Lib.hid (grown_trans hgx.out hset.2)
          have hon := Lib.hid (⟨_, hset.1⟩ : ∃ ys, (wr.setCell ⟨g, k, none⟩ (.int .i64 (-7))).ownsRow w2.heap.size 3 1 (.slice (some ⟨g, 0, none⟩) R.length rc) R.length ys)
          have hi0 : (0 : Int) ≤ (k : Int) := by omega
          have hi1 : (k : Int) < (R.length : Int) := by omega
          generalize xs[k]'(by omega) = xk at hce
          clear hx hset hox hgx hxl
          go_wp2_with fail
          go_roundw
          case rel => exact ⟨k + 1, by omega, by go_num, hon, hgn⟩
          case measure => simp [intOf]; omega
        · clear hox
          have hk5 := Lib.hid (hk4.out.grown hgx.out (by have := hk4.out.size; omega) (fun k e => by have := (hrlt.out k e).1; omega))
          have hq5 := Lib.hid (hst.out.trans (hk5.out.mono hst.out.size))
          have hw5 := Lib.hid (hw.out.kept hgx.out (by
            cases h : (Value.slice wa R.length wc).ownBlock with
            | none => exact .inl rfl
            | some b => exact .inr (fun e => by have := (hrlt.out b e.symm).2; have := (hwlt.out b h).1; omega)))
          obtain ⟨r0, r1, r2, r3, r4, r5⟩ := ins_cells (hbx.out.below hk5.out).ic
          generalize wr = w5 at *
          go_wp2_with fail
          refine (hrd.out _ hq5.out).mono ?_
          rintro e w6 ⟨rv6, rfl, hown6, hb⟩
          have hw6 := own_below hw5.out hb
          obtain ⟨ra6, rc6, rfl, hr6⟩ := row_own hown6
          obtain ⟨wa6, wc6, hwe, hrw6⟩ := row_own hw6
          have e1 : wa6 = wa := by cases hwe; rfl
          have e2 : wc6 = wc := by cases hwe; rfl
          subst e1 e2
          have hq6 := Lib.hid (hq5.out.trans (hb.mono hq5.out.size))
          clear hb hown6 hw6 hwe r0 r1 r2 r3 r4 r5
          have hR1 := (⟨hr6.le, hr6.lim⟩ : R.length ≤ rc6 ∧ rc6 ≤ maxLen)
          unfold maxLen at hR1 hwc2
          have m1 : rc6 ≤ 9223372036854775807 := by omega
          have m2 : wc6 ≤ 9223372036854775807 := by omega
          have hne : ((R.length : Int) != (R.length : Int)) = false := by simp
          go_wp2_with fail
          go_loopw [12] (fun kv wr => ∃ k : Nat, k ≤ R.length ∧ kv = .int .i64 k ∧ ∃ m, wr = w6.drewN m) (fun kv _ => R.length - (intOf kv).toNat)
          case atStart => exact ⟨0, Nat.zero_le _, rfl, 0, rfl⟩
          case round =>
            obtain ⟨k, hk, rfl, m, rfl⟩ := hrel
            by_cases hlt : k < R.length
            · obtain ⟨x, hx⟩ : ∃ x, R[k]? = some x := ⟨_, List.getElem?_eq_getElem hlt⟩
              obtain ⟨b, off, rfl, _, hcell⟩ := num_row hr6 k x hx
              obtain ⟨b', off', rfl, _, hcell'⟩ := num_row hrw6 k x hx
              clear hx hr6 hrw6
              go_wp2
              go_quiet (fail)
              go_wp2
              go_roundw
              case rel => exact ⟨k + 1, by omega, by go_num, _, rfl⟩
              case measure => simp [intOf]; omega
            · clear hr6 hrw6
              go_wp2
              go_ret
              exact ⟨rfl, hq6.out.trans (⟨rfl, rfl, rfl, Nat.le_refl _, fun _ _ => rfl⟩)⟩
/-- CodeThreads answers true -/
theorem codeThreads_law (p : Pg) (i : Ins) (w : World) (hp : Pg.In w (fun _ => True) p) (hi : Ins.In w (fun _ => True) i) (hT : OpTab w) (hsg : SignsIn w) :
    Calls Tryd.prog 8 #[p.val, i.val] w fun e w' => e = .returned (.bool true) ∧ Below w.heap.size w w' := by
  by_cases h1 : 200 < p.funs.length
  · exact codeThreads_big p i w hT hsg (.inl h1) (by have := len_i hp.frow; omega) (by have := len_i hi.row; omega)
  · by_cases h2 : 200 < i.args.length
    · exact codeThreads_big p i w hT hsg (.inr h2) (by have := len_i hp.frow; omega) (by have := len_i hi.row; omega)
    · exact codeThreads_small p i w hp hi hT hsg (by omega) (by omega)
end Go.Proofs.YtpgbmceombnfdaaDoor.Cd
