/- The walk of fartherOff: true of expressions that are the same but for their places, each so much farther on. Conditions: none. -/
import Derived.Test.YtfhmhplbkheojaaGreatDoorSfE
import Derived.IntWalk
namespace Go.Proofs.YtfhmhplbkheojaaGreatDoor.Pa
open Go Go.RowKit
open Go.Proofs.YtfhmhplbkheojaaGreatDoor.Lx Go.Proofs.YtfhmhplbkheojaaGreatDoor.Tr

/-- the same expression, each place so much farther on -/
def FE (D : Int) (e e' : Ex) : Prop := eg (fun x => x) (ea e') = eg (fun x => x + D) (ea e)
def FEL (D : Int) (l l' : List Ex) : Prop := egL (fun x => x) (eaL l') = egL (fun x => x + D) (eaL l)
theorem FEL.len {D : Int} {l l' : List Ex} (h : FEL D l l') : l'.length = l.length := by
  unfold FEL at h
  rw [egL_map, egL_map, eaL_map, eaL_map] at h
  simpa using congrArg List.length h
theorem FEL.get {D : Int} {l l' : List Ex} (h : FEL D l l') {i : Nat} {e e' : Ex} (he : l[i]? = some e) (he' : l'[i]? = some e') : FE D e e' := by
  unfold FEL at h
  rw [egL_map, egL_map, eaL_map, eaL_map] at h
  have := congrArg (fun x => x[i]?) h
  simp only [List.getElem?_map, he, he', Option.map_some] at this
  exact Option.some.inj this
set_option linter.unusedSimpArgs false in
set_option maxHeartbeats 4000000 in
set_option maxRecDepth 100000 in
theorem off_any : ∀ (s : Nat) (e e' : Ex) (D : Int) (w : World), e.sz ≤ s → Ex.In w (fun _ => True) e → Ex.In w (fun _ => True) e' → FE D e e' →
    Calls Tryz.prog 52 #[.agg ⟨e.vals⟩, .agg ⟨e'.vals⟩, .int .i64 D] w fun x w' => x = .returned (.bool true) ∧ Below w.heap.size w w' := by
  intro s
  induction s using Nat.strongRecOn with
  | _ s ih =>
    intro e e' D w hs hin hin' hf
    obtain ⟨k, nm, n, a, cap, args, p⟩ := e
    obtain ⟨k', nm', n', a', cap', args', p'⟩ := e'
    unfold FE at hf
    rw [ea_eq, ea_eq, eg_eq, eg_eq] at hf
    simp only [Ex.mk.injEq, true_and] at hf
    obtain ⟨rfl, rfl, rfl, hA, rfl⟩ := hf
    have hA' : FEL D args args' := hA
    have hlen := hA'.len
    rw [szE_mk] at hs
    unfold Ex.In at hin hin'
    obtain ⟨_, _, _, _, hrow, hinL⟩ := hin
    obtain ⟨_, _, _, hI', hrow', hinL'⟩ := hin'
    have hwr : IntKind.i64.wrap (p + D) = p + D := IntWalk.i64_in _ hI'
    have hll : args.length ≤ 9223372036854775807 := by have := hrow.le; have := hrow.lim; unfold maxLen at this; omega
    have hro := Lib.hid fun (i : Nat) (x : Ex) (hx : args[i]? = some x) => ex_row hrow i x hx
    have hro' := Lib.hid fun (i : Nat) (x : Ex) (hx : args'[i]? = some x) => ex_row hrow' i x hx
    have hcx := Lib.hid fun (i : Nat) (x x' : Ex) (hx : args[i]? = some x) (hx' : args'[i]? = some x') V (hV : Below w.heap.size w V) => ih (Ex.szL args) (by omega) x x' D V (Ex.sz_get hx) (Ex.In.below (Kps.of_below hV) _ (Ex.InL.get hinL hx)) (Ex.In.below (Kps.of_below hV) _ (Ex.InL.get hinL' hx')) (hA'.get hx hx')
    have v1 : (⟨(Ex.mk k' nm' n' a cap args p).vals⟩ : Array Value) = #[.int .u8 k', .string nm', .int .i64 n', .slice a args.length cap, .int .i64 p] := rfl
    have v2 : (⟨(Ex.mk k' nm' n' a' cap' args' (p + D)).vals⟩ : Array Value) = #[.int .u8 k', .string nm', .int .i64 n', .slice a' args'.length cap', .int .i64 (p + D)] := rfl
    rw [v1, v2, hlen]
    clear v1 v2 ih hrow hrow' hinL hinL' hs hA hA' hI'
    obtain ⟨W1, hW1⟩ : ∃ W, w.alloc (.cells #[.int .u8 k', .string nm', .int .i64 n', .slice a args.length cap, .int .i64 p] 67) = W := ⟨_, rfl⟩
    have hb1 : Below w.heap.size w W1 := by rw [← hW1]; exact (Below.refl _ _).alloc (Nat.le_refl _) _
    have hx1 : W1.heap[w.heap.size]? = some (.cells #[.int .u8 k', .string nm', .int .i64 n', .slice a args.length cap, .int .i64 p] 67 (0, 0)) := by rw [← hW1]; exact World.alloc_heap_new w _
    have hs1 : W1.heap.size = w.heap.size + 1 := by rw [← hW1]; exact sz_alloc _ _
    obtain ⟨W2, hW2⟩ : ∃ W, W1.alloc (.cells #[.int .u8 k', .string nm', .int .i64 n', .slice a' args.length cap', .int .i64 (p + D)] 67) = W := ⟨_, rfl⟩
    have hb2 : Below w.heap.size w W2 := by rw [← hW2]; exact hb1.alloc hb1.size _
    have hx2 : W2.heap[w.heap.size]? = some (.cells #[.int .u8 k', .string nm', .int .i64 n', .slice a args.length cap, .int .i64 p] 67 (0, 0)) := by rw [← hW2]; exact (heap_alloc_old W1 _ (cells_lt hx1)).trans hx1
    have hy2 : W2.heap[w.heap.size + 1]? = some (.cells #[.int .u8 k', .string nm', .int .i64 n', .slice a' args.length cap', .int .i64 (p + D)] 67 (0, 0)) := by rw [← hW2, ← hs1]; exact World.alloc_heap_new W1 _
    have b3 := blk_cell hx2 (j := 3) rfl
    have b4 := blk_cell hx2 (j := 4) rfl
    have d3 := blk_cell hy2 (j := 3) rfl
    have d4 := blk_cell hy2 (j := 4) rfl
    replace hb2 := Lib.hid hb2
    replace hx2 := Lib.hid hx2
    replace hy2 := Lib.hid hy2
    clear hb1 hx1
    go_enter Tryz.func52, Tryz.ntmps52
    go_wp2_with fail
    go_loopw [7] (fun i wr => ∃ j : Nat, j ≤ args.length ∧ i = .int .i64 j ∧ Below W2.heap.size W2 wr) (fun i _ => args.length - (intOf i).toNat)
    case atStart => exact ⟨0, Nat.zero_le _, rfl, Below.refl _ _⟩
    case round =>
      obtain ⟨j, hj, rfl, hbr⟩ := hrel
      have x9 := Lib.hid ((hbr.block _ (cells_lt hx2.out)).trans hx2.out)
      have y9 := Lib.hid ((hbr.block _ (cells_lt hy2.out)).trans hy2.out)
      clear b3 b4 d3 d4
      have p3 := blk_cell x9.out (j := 3) rfl
      have r3 := blk_cell y9.out (j := 3) rfl
      by_cases hjl : j < args.length
      · obtain ⟨z, hzz⟩ : ∃ z, args[j]? = some z := ⟨args[j], by simp [hjl]⟩
        obtain ⟨z', hzz'⟩ : ∃ z, args'[j]? = some z := ⟨args'[j]'(by rw [hlen]; exact hjl), by simp [hlen, hjl]⟩
        obtain ⟨b2, off2, rfl, _, ecell⟩ := hro.out j z hzz
        obtain ⟨b2', off2', rfl, _, ecell'⟩ := hro'.out j z' hzz'
        have hbw := hb2.out.trans (hbr.mono hb2.out.size)
        have hS := Lib.hid (fun U : UpW wr => ((hcx.out j z z' hzz hzz' U.val (hbw.trans (U.ok.mono hbw.size))).mono fun e w' h => (⟨h.1, ⟨w', U.ok.trans (h.2.mono U.ok.size)⟩, rfl⟩ : e = .returned (.bool true) ∧ ∃ U' : UpW wr, w' = U'.val)))
        obtain ⟨zk, zn, zv, za, zc, zg, zp⟩ := z
        obtain ⟨tk, tn, tv, ta, tc, tg, tp⟩ := z'
        have v1 : (⟨(Ex.mk zk zn zv za zc zg zp).vals⟩ : Array Value) = #[.int .u8 zk, .string zn, .int .i64 zv, .slice za zg.length zc, .int .i64 zp] := rfl
        have v2 : (⟨(Ex.mk tk tn tv ta tc tg tp).vals⟩ : Array Value) = #[.int .u8 tk, .string tn, .int .i64 tv, .slice ta tg.length tc, .int .i64 tp] := rfl
        rw [v1, v2] at hS
        simp only [← Nat.add_assoc] at ecell ecell'
        have m0 := up_cell (below_in hbw (ecell 0 _ rfl))
        have m1 := up_cell (below_in hbw (ecell 1 _ rfl))
        have m2 := up_cell (below_in hbw (ecell 2 _ rfl))
        have m3 := up_cell (below_in hbw (ecell 3 _ rfl))
        have m4 := up_cell (below_in hbw (ecell 4 _ rfl))
        have n0 := up_cell (below_in hbw (ecell' 0 _ rfl))
        have n1 := up_cell (below_in hbw (ecell' 1 _ rfl))
        have n2 := up_cell (below_in hbw (ecell' 2 _ rfl))
        have n3 := up_cell (below_in hbw (ecell' 3 _ rfl))
        have n4 := up_cell (below_in hbw (ecell' 4 _ rfl))
        rw [Nat.add_zero] at m0 n0
        have p3u := up_cell p3
        have r3u := up_cell r3
        have hj1 : (j : Int) < (args.length : Int) := by omega
        have hj0 : (0 : Int) ≤ (j : Int) := by omega
        clear ecell ecell' hzz hzz' hro hro' hcx hbw v1 v2
        go_upto_region 6 with fail
        refine quiet_lit (C := fun V => ∃ U : UpW wr, V = U.val) (by kernel_rfl) (by kernel_rfl) ⟨⟨_, (Below.refl _ _).drew⟩, rfl⟩ ?_
        iterate 11 (quiet_step (fail))
        quiet_step (exact hS.out _)
        quiet_step (fail)
        refine wpQuiet_nil ?_
        rintro _ ⟨U, rfl⟩
        have hbU := Lib.hid (hbr.trans (U.ok.mono hbr.size))
        clear hbr
        go_wp2_with fail
        go_roundw
        case rel => exact ⟨j + 1, by omega, by go_num, hbU.out⟩
        case measure => simp [intOf]; omega
      · have hje : j = args.length := by omega
        subst hje
        have hj1 : ¬ (args.length : Int) < (args.length : Int) := by omega
        have hbw := Lib.hid (hb2.out.trans (hbr.mono hb2.out.size))
        clear hcx hro hro' hx2 hy2 x9 y9 hbr
        go_wp2_with fail
        go_ret
        exact ⟨rfl, hbw.out⟩
end Go.Proofs.YtfhmhplbkheojaaGreatDoor.Pa
