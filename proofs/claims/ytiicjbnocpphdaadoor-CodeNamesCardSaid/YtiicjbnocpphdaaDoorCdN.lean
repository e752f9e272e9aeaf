/- Walks of code.mayCode, mayCodes. Conditions: the program lies in memory; the package's table holds its list. -/
import Derived.Test.YtiicjbnocpphdaaDoorCdM
namespace Go.Proofs.YtiicjbnocpphdaaDoor.Cd
open Go Go.RowKit
open Go.Proofs.YtiicjbnocpphdaaDoor.Lx Go.Proofs.YtiicjbnocpphdaaDoor.Tr

theorem lastOp_at {l : List Ins} {x : Ins} (h : l[l.length - 1]? = some x) : lastOp l = x.op := by
  unfold lastOp
  rw [List.getLast?_eq_getElem?, h]
theorem codeP_eq (p : Pg) (f : Fn) : codeP p f = (decide (1 ≤ f.code.length) && decide (f.code.length ≤ 16384) && f.code.all (mayF p f) && (decide (lastOp f.code = 11) || decide (lastOp f.code = 13))) := rfl
set_option maxHeartbeats 4000000 in
set_option maxRecDepth 100000 in
theorem mayCode_any (p : Pg) (m : Nat) (f : Fn) (w : World) (hf : p.funs[m]? = some f) (hp : Pg.In w (fun _ => True) p) (hT : OpTab w) :
    Calls Tryd.prog 51 #[p.val, .int .i64 m] w fun e w' => e = .returned (.bool (codeP p f)) ∧ Below w.heap.size w w' := by
  have hml : m < p.funs.length := (List.getElem?_eq_some_iff.1 hf).1
  obtain ⟨b, off, hfa, _, g0, g1, g2, g3, g4⟩ := fn_row hp.frow m f hf
  have hbl : b < w.heap.size := World.block_lt_of_cell? _ _ g0
  have hml2 : (m : Int) < p.funs.length := by omega
  have hm0 : (0 : Int) ≤ m := by omega
  have hcf := hp.funs f (List.mem_of_getElem? hf)
  obtain ⟨hc1, hc2⟩ := len_i hcf.row
  obtain ⟨hd1, hd2⟩ := len_i hp.frow
  have hcall := Lib.hid (fun (i : Ins) (V : World) (hi : i ∈ f.code) (hb : Below w.heap.size w V) => mayIns_any p m i V (hcf.code i hi).op ((hcf.code i hi).row.below (Kps.of_below hb)) (hT.keep hb) (hp.frow.below (Kps.of_below hb)))
  have hmi := Lib.hid (fun (i : Ins) => mayI_at hf i)
  have hcr := Lib.hid (fun (V : World) (hb : Below w.heap.size w V) => hcf.row.below (Kps.of_below hb))
  rw [codeP_eq]
  unfold Pg.val at hcall ⊢
  rw [hfa] at hcall ⊢
  generalize hcd : f.code = code at *
  clear hp hT hcf hf
  by_cases h1 : 1 ≤ code.length
  · by_cases h2 : code.length ≤ 16384
    · obtain ⟨y, hy⟩ : ∃ y, code[code.length - 1]? = some y := ⟨_, List.getElem?_eq_getElem (by omega)⟩
      have hlast := lastOp_at hy
      rw [hlast, decide_eq_true h1, decide_eq_true h2]
      clear hlast
      replace hcd := Lib.hid hcd
      go_enter Tryd.func51, Tryd.ntmps51
      go_wp2_with fail
      have hst : Hid (Below w.heap.size w (w.alloc (.cells #[.slice p.ma p.mems.length p.mcap, .slice p.la p.locks.length p.lcap, .slice (some ⟨b, off, none⟩) p.funs.length p.fcap] 27))) := Lib.hid (b_alloc _ _)
      have hbox := Lib.hid (fun (V : World) (hb : Below (w.alloc (.cells #[.slice p.ma p.mems.length p.mcap, .slice p.la p.locks.length p.lcap, .slice (some ⟨b, off, none⟩) p.funs.length p.fcap] 27)).heap.size (w.alloc (.cells #[.slice p.ma p.mems.length p.mcap, .slice p.la p.locks.length p.lcap, .slice (some ⟨b, off, none⟩) p.funs.length p.fcap] 27)) V) =>
        (fun j u hu => below_in hb (box_new w [.slice p.ma p.mems.length p.mcap, .slice p.la p.locks.length p.lcap, .slice (some ⟨b, off, none⟩) p.funs.length p.fcap] 27 j u hu) : ∀ j u, [Value.slice p.ma p.mems.length p.mcap, .slice p.la p.locks.length p.lcap, .slice (some ⟨b, off, none⟩) p.funs.length p.fcap][j]? = some u → V.cell? ⟨w.heap.size, j, none⟩ = some u))
      generalize hW0 : w.alloc (.cells #[.slice p.ma p.mems.length p.mcap, .slice p.la p.locks.length p.lcap, .slice (some ⟨b, off, none⟩) p.funs.length p.fcap] 27) = W0 at *
      clear hW0
      go_loopw [25] (fun i wr => ∃ k : Nat, k ≤ code.length ∧ i = .int .i64 k ∧ Hid ((code.take k).all (mayF p f) = true) ∧ Hid (Below W0.heap.size W0 wr)) (fun i _ => code.length - (intOf i).toNat)
      case atStart => exact ⟨0, Nat.zero_le _, rfl, Lib.hid rfl, Lib.hid (Below.refl _ _)⟩
      case round =>
        obtain ⟨k, hk, rfl, hall, hb⟩ := hrel
        have hbw := Lib.hid (hst.out.trans (hb.out.mono hst.out.size))
        by_cases hlt : k < code.length
        · obtain ⟨x, hx⟩ : ∃ x, code[k]? = some x := ⟨_, List.getElem?_eq_getElem hlt⟩
          obtain ⟨b', off', ha, _, c0, c1, c2, c3, c4, c5⟩ := in_row (hcr.out wr hbw.out) k x hx
          have hi0' : (0 : Int) ≤ (k : Int) := by omega
          have hi1 : (k : Int) < (code.length : Int) := by omega
          have q0 := hbox.out wr hb.out 0 _ rfl
          have q1 := hbox.out wr hb.out 1 _ rfl
          have q2 := hbox.out wr hb.out 2 _ rfl
          have hlw : w.heap.size < wr.heap.size := World.block_lt_of_cell? _ _ q0
          have hbe := Lib.hid (b_alloc wr (.cells #[.int .u8 x.op, .int .i64 x.r, .int .i64 x.a, .int .i64 x.b, .int .i64 x.n, .slice x.aa x.args.length x.acap] 31))
          have hbx := Lib.hid (hbw.out.trans (hbe.out.mono hbw.out.size))
          have hbx0 := Lib.hid (hb.out.trans (hbe.out.mono hb.out.size))
          have hno := Lib.hid (fun h => all_no (f := mayF p f) hx h)
          have hyes := Lib.hid (all_take (f := mayF p f) hx)
          have hc := Lib.hid (hcall.out x _ (List.mem_of_getElem? hx) hbx.out)
          have hme := Lib.hid (hmi.out x)
          rw [ha]
          clear hx hcr hcall hy hmi
          cases hv : mayF p f x
          · have hn := Lib.hid (hno.out hv)
            have hc2 := hc.out
            rw [hme.out, hv] at hc2
            replace hc2 := Lib.hid hc2
            clear hyes hno hall hc hv hme
            go_wp2_with fail
            refine hc2.out.mono ?_
            rintro e w3 ⟨rfl, hb3⟩
            have hbz := Lib.hid (hbx.out.trans (hb3.mono hbx.out.size))
            clear hb3
            go_wp2_with fail
            go_ret
            exact ⟨ret_bool (by rw [hn.out]; rfl), hbz.out⟩
          · have hn : Hid ((code.take (k + 1)).all (mayF p f) = true) := Lib.hid (by rw [hyes.out, hall.out, hv]; rfl)
            have hc2 := hc.out
            rw [hme.out, hv] at hc2
            replace hc2 := Lib.hid hc2
            clear hyes hno hall hc hv hme
            go_wp2_with fail
            refine hc2.out.mono ?_
            rintro e w3 ⟨rfl, hb3⟩
            have hbz := Lib.hid (hbx0.out.trans (hb3.mono hbx0.out.size))
            clear hb3
            go_wp2_with fail
            go_roundw
            case rel => exact ⟨k + 1, by omega, by go_num, hn, hbz⟩
            case measure => simp [intOf]; omega
        · have hk2 : k = code.length := by omega
          subst hk2
          rw [List.take_length] at hall
          obtain ⟨b', off', ha, _, c0, c1, c2, c3, c4, c5⟩ := in_row (hcr.out wr hbw.out) _ y hy
          have hl1 : (0 : Int) ≤ (code.length : Int) - 1 := by omega
          have hl2 : (code.length : Int) - 1 < (code.length : Int) := by omega
          have hl3 : ((code.length : Int) - 1).toNat = code.length - 1 := by omega
          rw [ha]
          clear hy hcr hcall hmi
          have hfin : Hid (∀ v, v = (decide (y.op = 11) || decide (y.op = 13)) → Ending.returned (.bool v) = .returned (.bool (true && true && code.all (mayF p f) && (decide (y.op = 11) || decide (y.op = 13))))) := Lib.hid (fun v hv => ret_bool (by rw [hall.out, hv]; rfl))
          by_cases h11 : y.op = 11
          · rw [h11] at c0
            clear hfin
            go_wp2_with fail
            go_ret
            exact ⟨ret_bool (by rw [hall.out, h11]; rfl), hbw.out⟩
          · have e11 := u8_11 h11
            by_cases h13 : y.op = 13
            · rw [h13] at c0
              clear hfin
              go_wp2_with fail
              go_ret
              exact ⟨ret_bool (by rw [hall.out, h13]; rfl), hbw.out⟩
            · have e13 : (y.op == 13) = false := by simpa using h13
              go_wp2_with fail
              go_ret
              exact ⟨hfin.out _ (by simp [h11, h13]), hbw.out⟩
    · rw [decide_eq_false h2]
      clear hcall hmi hcr
      go_enter Tryd.func51, Tryd.ntmps51
      go_wp2_with fail
      go_ret
      exact ⟨ret_bool (by simp), b_alloc _ _⟩
  · rw [decide_eq_false h1]
    clear hcall hmi hcr
    go_enter Tryd.func51, Tryd.ntmps51
    go_wp2_with fail
    go_ret
    exact ⟨ret_bool (by simp), b_alloc _ _⟩
set_option maxHeartbeats 4000000 in
set_option maxRecDepth 100000 in
theorem mayCodes_any (p : Pg) (w : World) (hp : Pg.In w (fun _ => True) p) (hT : OpTab w) :
    Calls Tryd.prog 35 #[p.val] w fun e w' => e = .returned (.bool (p.funs.all (codeP p))) ∧ Below w.heap.size w w' := by
  obtain ⟨hd1, hd2⟩ := len_i hp.frow
  have hcall := Lib.hid (fun (m : Nat) (f : Fn) (V : World) (hf : p.funs[m]? = some f) (hb : Below w.heap.size w V) => mayCode_any p m f V hf (hp.below (Kps.of_below hb)) (hT.keep hb))
  unfold Pg.val at hcall ⊢
  clear hp hT
  go_enter Tryd.func35, Tryd.ntmps35
  go_wp2_with fail
  have hst : Hid (Below w.heap.size w (w.alloc (.cells #[.slice p.ma p.mems.length p.mcap, .slice p.la p.locks.length p.lcap, .slice p.fa p.funs.length p.fcap] 27))) := Lib.hid (b_alloc _ _)
  have hbox := Lib.hid (fun (V : World) (hb : Below (w.alloc (.cells #[.slice p.ma p.mems.length p.mcap, .slice p.la p.locks.length p.lcap, .slice p.fa p.funs.length p.fcap] 27)).heap.size (w.alloc (.cells #[.slice p.ma p.mems.length p.mcap, .slice p.la p.locks.length p.lcap, .slice p.fa p.funs.length p.fcap] 27)) V) =>
    (fun j u hu => below_in hb (box_new w [.slice p.ma p.mems.length p.mcap, .slice p.la p.locks.length p.lcap, .slice p.fa p.funs.length p.fcap] 27 j u hu) : ∀ j u, [Value.slice p.ma p.mems.length p.mcap, .slice p.la p.locks.length p.lcap, .slice p.fa p.funs.length p.fcap][j]? = some u → V.cell? ⟨w.heap.size, j, none⟩ = some u))
  generalize hW0 : w.alloc (.cells #[.slice p.ma p.mems.length p.mcap, .slice p.la p.locks.length p.lcap, .slice p.fa p.funs.length p.fcap] 27) = W0 at *
  clear hW0
  go_loopw [7] (fun i wr => ∃ k : Nat, k ≤ p.funs.length ∧ i = .int .i64 k ∧ Hid ((p.funs.take k).all (codeP p) = true) ∧ Hid (Below W0.heap.size W0 wr)) (fun i _ => p.funs.length - (intOf i).toNat)
  case atStart => exact ⟨0, Nat.zero_le _, rfl, Lib.hid rfl, Lib.hid (Below.refl _ _)⟩
  case round =>
    obtain ⟨k, hk, rfl, hall, hb⟩ := hrel
    have hbw := Lib.hid (hst.out.trans (hb.out.mono hst.out.size))
    by_cases hlt : k < p.funs.length
    · obtain ⟨x, hx⟩ : ∃ x, p.funs[k]? = some x := ⟨_, List.getElem?_eq_getElem hlt⟩
      have q0 := hbox.out wr hb.out 0 _ rfl
      have q1 := hbox.out wr hb.out 1 _ rfl
      have q2 := hbox.out wr hb.out 2 _ rfl
      have hlw : w.heap.size < wr.heap.size := World.block_lt_of_cell? _ _ q0
      have hno := Lib.hid (fun h => all_no (f := codeP p) hx h)
      have hyes := Lib.hid (all_take (f := codeP p) hx)
      have hc := Lib.hid (hcall.out k x _ hx hbw.out)
      clear hx hcall
      cases hv : codeP p x
      · have hn := Lib.hid (hno.out hv)
        have hc2 := hc.out
        rw [hv] at hc2
        replace hc2 := Lib.hid hc2
        clear hyes hno hall hc hv
        go_wp2_with fail
        refine hc2.out.mono ?_
        rintro e w3 ⟨rfl, hb3⟩
        have hbz := Lib.hid (hbw.out.trans (hb3.mono hbw.out.size))
        clear hb3
        go_wp2_with fail
        go_ret
        exact ⟨ret_bool hn.out.symm, hbz.out⟩
      · have hn : Hid ((p.funs.take (k + 1)).all (codeP p) = true) := Lib.hid (by rw [hyes.out, hall.out, hv]; rfl)
        have hc2 := hc.out
        rw [hv] at hc2
        replace hc2 := Lib.hid hc2
        clear hyes hno hall hc hv
        go_wp2_with fail
        refine hc2.out.mono ?_
        rintro e w3 ⟨rfl, hb3⟩
        have hbz := Lib.hid (hb.out.trans (hb3.mono hb.out.size))
        clear hb3
        go_wp2_with fail
        go_roundw
        case rel => exact ⟨k + 1, by omega, by go_num, hn, hbz⟩
        case measure => simp [intOf]; omega
    · have hk2 : k = p.funs.length := by omega
      subst hk2
      rw [List.take_length] at hall
      go_wp2_with fail
      go_ret
      exact ⟨ret_bool hall.out.symm, hbw.out⟩
end Go.Proofs.YtiicjbnocpphdaaDoor.Cd
