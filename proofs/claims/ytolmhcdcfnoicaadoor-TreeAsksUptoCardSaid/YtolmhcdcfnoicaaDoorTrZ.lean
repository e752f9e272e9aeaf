/- Walks of the statements' own placed and place: trees made anew, but for their places. Conditions: none. -/
import Derived.Test.YtolmhcdcfnoicaaDoorAcc
import Derived.Test.YtolmhcdcfnoicaaDoorTrW
import Derived.Deep.RegionLawGrows
import Derived.Deep.DeepCutAuto
import Derived.Maps.AppendAt
import Derived.Outline
namespace Go.Proofs.YtolmhcdcfnoicaaDoor.Tr
open Go Go.RowKit
open Go.Proofs.YtolmhcdcfnoicaaDoor.Lx

theorem Ex.sz_pos (e : Ex) : 1 ≤ e.sz := by obtain ⟨k, nm, n, a, cap, args, pos⟩ := e; unfold Ex.sz; omega
theorem Ex.szL_len (l : List Ex) : l.length ≤ Ex.szL l := by
  induction l with
  | nil => simp
  | cons x r ih =>
    have := Ex.sz_pos x
    unfold Ex.szL
    simp only [List.length_cons]
    omega
theorem Ex.erL_snoc (l : List Ex) (x : Ex) : Ex.erL (l ++ [x]) = Ex.erL l ++ [x.er] := by rw [Ex.erL_map, Ex.erL_map, List.map_append, List.map_singleton]
theorem St.erL_snoc (l : List St) (x : St) : St.erL (l ++ [x]) = St.erL l ++ [x.er] := by rw [St.erL_map, St.erL_map, List.map_append, List.map_singleton]
theorem size_set (W : World) (a : Addr) (u : Value) : (W.setCell a u).heap.size = W.heap.size := by simp [World.setCell]
theorem Kps_set (W : World) (r j : Nat) (u : Value) : Kps (fun b => r < b) W (W.setCell ⟨r, j, none⟩ u) := fun b o v hs hc => (World.cell?_of_block (Below.heap_setCell _ _ _ _ (by simp only; omega))).trans hc
theorem Ex.InL_of {w : World} {S : Nat → Prop} : ∀ (l : List Ex), (∀ x ∈ l, Ex.In w S x) → Ex.InL w S l
  | [], _ => by unfold Ex.InL; trivial
  | x :: r, h => by
    unfold Ex.InL
    exact ⟨h x (List.mem_cons_self ..), Ex.InL_of r fun y hy => h y (List.mem_cons_of_mem _ hy)⟩
theorem St.InL_of {w : World} {S : Nat → Prop} : ∀ (l : List St), (∀ x ∈ l, St.In w S x) → St.InL w S l
  | [], _ => by unfold St.InL; trivial
  | x :: r, h => by
    unfold St.InL
    exact ⟨h x (List.mem_cons_self ..), St.InL_of r fun y hy => h y (List.mem_cons_of_mem _ hy)⟩
theorem infoE : (Tryd.prog.info? 25).map (fun i => (i.zero, i.size, i.bytes)) = some (some (.agg #[.int .u8 0, .string ⟨#[]⟩, .int .i64 0, .slice none 0 0, .int .i64 0]), 5, 64) := by kernel_rfl
set_option maxHeartbeats 8000000 in
set_option maxRecDepth 100000 in
theorem placed_any : ∀ (s : Nat) (e : Ex) (p : Int) (w : World), e.sz ≤ s → s ≤ 4194304 → I64 p → Ex.In w (fun _ => True) e →
    Calls Tryd.prog 48 #[.agg ⟨e.vals⟩, .int .i64 p] w fun x w' => ∃ e' : Ex, x = .returned (.agg ⟨e'.vals⟩) ∧ Ex.In w' (fun b => w.heap.size ≤ b) e' ∧ e'.er = e.er ∧ Below w.heap.size w w' := by
  intro s
  induction s using Nat.strongRecOn with
  | _ s ih =>
    intro e p w hs hs4 hp hin
    obtain ⟨ek, enm, en, ea, ecap, eargs, epos⟩ := e
    have hsz : Ex.sz (.mk ek enm en ea ecap eargs epos) = 1 + Ex.szL eargs := by unfold Ex.sz; rfl
    unfold Ex.In at hin
    obtain ⟨hk8, hnm, hn64, _, hrow, hia⟩ := hin
    have hll : eargs.length ≤ 9223372036854775807 := by have := hrow.le; have := hrow.lim; unfold maxLen at this; omega
    rw [hsz] at hs
    have hlen : eargs.length ≤ 4194304 := by have := Ex.szL_len eargs; omega
    show Calls Tryd.prog 48 #[.agg #[.int .u8 ek, .string enm, .int .i64 en, .slice ea eargs.length ecap, .int .i64 epos], .int .i64 p] w _
    have hcx := fun (k : Nat) (x : Ex) (W : World) (hx : eargs[k]? = some x) (hb : Below w.heap.size w W) => ih x.sz (by have := Ex.sz_get hx; omega) x p W (Nat.le_refl _) (by have := Ex.sz_get hx; omega) hp (Ex.In.below (Kps.of_below hb) _ (hia.get hx))
    replace hcx := Lib.hid hcx
    replace hsz := Lib.hid hsz
    replace hnm := Lib.hid hnm
    clear ih hia
    go_enter Tryd.func48, Tryd.ntmps48
    go_wp2_with fail
    obtain ⟨i0, hi0, hz0, hz1, hz2⟩ := info_parts infoE
    go_loopw [6] (fun i wr => ∃ (k : Nat) (v : Value) (l' : List Ex), k ≤ eargs.length ∧ i = .int .i64 k ∧ Hid (l'.length = k ∧ Ex.erL l' = Ex.erL (eargs.take k)) ∧ Acc KE 25 (w.heap.size + 3) wr v l' ∧
        Hid (wr.heap[w.heap.size + 2]? = some (.cells #[.int .u8 ek, .string enm, .int .i64 en, v, .int .i64 p] 25 (0, 0))) ∧ Hid (wr.heap[w.heap.size + 1]? = some (.cells #[.int .u8 0, .string ⟨#[]⟩, .int .i64 0, .slice none 0 0, .int .i64 0] 25 (0, 0))) ∧
        Hid (wr.heap[w.heap.size]? = some (.cells #[.int .u8 ek, .string enm, .int .i64 en, .slice ea eargs.length ecap, .int .i64 epos] 25 (0, 0))) ∧ w.heap.size + 3 ≤ wr.heap.size ∧ Below w.heap.size w wr) (fun i _ => eargs.length - (intOf i).toNat)
    case atStart =>
      refine ⟨0, _, [], Nat.zero_le _, rfl, Lib.hid ⟨rfl, rfl⟩, Acc.nil _ _ _ _, Lib.hid (blk_new _ _ (by simp)), Lib.hid ((Below.heap_alloc _ _ _ (by simp)).trans (blk_new _ _ (by simp))), Lib.hid ((Below.heap_alloc _ _ _ (by simp; omega)).trans ((Below.heap_alloc _ _ _ (by simp)).trans (blk_new _ _ rfl))), by simp, ?_⟩
      exact (((Below.refl _ _).alloc (Nat.le_refl _) _).alloc (by simp) _).alloc (by simp; omega) _
    case round =>
      obtain ⟨k, v, l', hk, rfl, hlk, hacc, hb1, hb2, hb0, hsz3, hbr⟩ := hrel
      have hbox : wr.cell? ⟨w.heap.size, 3, none⟩ = some (.slice ea eargs.length ecap) := blk_cell hb0.out rfl
      by_cases hlt : k < eargs.length
      · obtain ⟨x, hx⟩ : ∃ e, eargs[k]? = some e := ⟨eargs[k], by simp [hlt]⟩
        obtain ⟨b, off, rfl, _, hcell⟩ := ex_row hrow k x hx
        have hc := hcx.out k x wr.drew hx hbr.drew
        have hgt : eargs.take (k + 1) = eargs.take k ++ [x] := by rw [List.take_add_one, hx]; rfl
        obtain ⟨fk, fnm, fn', fa, fcap, fargs, fpos⟩ := x
        simp only [← Nat.add_assoc] at hcell
        have d0 := below_in hbr (hcell 0 _ rfl)
        have d1 := below_in hbr (hcell 1 _ rfl)
        have d2 := below_in hbr (hcell 2 _ rfl)
        have d3 := below_in hbr (hcell 3 _ rfl)
        have d4 := below_in hbr (hcell 4 _ rfl)
        simp only [Nat.add_zero] at d0 d1 d2 d3 d4
        have x3 : wr.cell? ⟨w.heap.size + 1 + 1, 3, none⟩ = some v := blk_cell hb1.out rfl
        have hc : Calls Tryd.prog 48 #[.agg #[.int .u8 fk, .string fnm, .int .i64 fn', .slice fa fargs.length fcap, .int .i64 fpos], .int .i64 p] wr.drew _ := hc
        replace hgt := Lib.hid hgt
        replace hc := Lib.hid hc
        replace hx := Lib.hid hx
        replace hbr := Lib.hid hbr
        clear hcell
        go_wp2_with fail
        have haccd : Hid (Acc KE 25 (w.heap.size + 3) wr.drew v l') := Lib.hid (hacc.upper fun _ _ _ => rfl)
        have hszd : w.heap.size + 3 ≤ wr.drew.heap.size := hsz3
        have hcall := hc.out.mono (R' := fun x1 w1 => ∃ xk xnm xn xa xcap xargs xpos, x1 = .returned (.agg #[.int .u8 xk, .string xnm, .int .i64 xn, .slice xa (List.length xargs) xcap, .int .i64 xpos]) ∧ Hid (Acc KE 25 (w.heap.size + 3) w1 v l') ∧ Hid (KE.In w1 (fun b => w.heap.size + 3 ≤ b ∧ v.ownBlock ≠ some b) (Ex.mk xk xnm xn xa xcap xargs xpos)) ∧ Hid ((Ex.mk xk xnm xn xa xcap xargs xpos).er = (Ex.mk fk fnm fn' fa fcap fargs fpos).er) ∧ w.heap.size + 3 ≤ w1.heap.size ∧
          Hid (w1.heap[w.heap.size + 2]? = some (.cells #[.int .u8 ek, .string enm, .int .i64 en, v, .int .i64 p] 25 (0, 0))) ∧ Hid (w1.heap[w.heap.size + 1]? = some (.cells #[.int .u8 0, .string ⟨#[]⟩, .int .i64 0, .slice none 0 0, .int .i64 0] 25 (0, 0))) ∧ Hid (w1.heap[w.heap.size]? = some (.cells #[.int .u8 ek, .string enm, .int .i64 en, .slice (some ⟨b, off, none⟩) eargs.length ecap, .int .i64 epos] 25 (0, 0))) ∧ Hid (Below w.heap.size w w1) ∧ w1.cell? ⟨w.heap.size + 1 + 1, 3, none⟩ = some v ∧ ∀ o, (w1.alloc o).cell? ⟨w.heap.size + 1 + 1, 3, none⟩ = some v) (by
            rintro x1 w1 ⟨⟨xk, xnm, xn, xa, xcap, xargs, xpos⟩, rfl, hx', her, hbw⟩
            exact ⟨xk, xnm, xn, xa, xcap, xargs, xpos, rfl, Lib.hid (haccd.out.below hbw), Lib.hid (Acc.fresh (K := KE) (x := Ex.mk xk xnm xn xa xcap xargs xpos) haccd.out hszd hx'), Lib.hid her, Nat.le_trans hszd hbw.size, Lib.hid ((hbw.block (w.heap.size + 2) (by omega)).trans hb1.out), Lib.hid ((hbw.block (w.heap.size + 1) (by omega)).trans hb2.out), Lib.hid ((hbw.block w.heap.size (by omega)).trans hb0.out), Lib.hid (hbr.out.drew.trans (hbw.mono hbr.out.size)), below_in hbw x3, fun o => below_in ((Below.refl _ _).alloc (Nat.le_refl _) o) (below_in hbw x3)⟩)
        replace hcall := Lib.hid hcall
        clear hacc hc
        go_region_law (first
          | (go_simp; go_at_call 48; (with_reducible refine hcall.out.mono ?_); rintro x1 w1 ⟨xk, xnm, xn, xa, xcap, xargs, xpos, rfl, hacc1, hx2, her, hszw, hb1w, hb2w, hb0w, hbr1, x3w, x3a⟩)
          | (refine step_append_K KE rfl (.tmp 19) (.tmp 27) (.tmp 26) 23 rfl 25 i0 _ 5 64 Tryd.underlying23 hi0 hz0 hz1 hz2 rfl (by decide) rfl Ex.vals_one (w.heap.size + 3) v l' (.mk xk xnm xn xa xcap xargs xpos) rfl (hacc1.out.alloc _) (KE.below (Kps.alloc _ _) hx2.out) _ rfl rfl (0, 0) (blk_new _ _ rfl) (by have := hlk.out.1; unfold maxLen; omega) (by have := hlk.out.1; omega) (by simp; omega) ?_
             intro v1 w2 hacc2 hg2
             have hb12 := hacc1.out.keep hb1w.out (by omega) hg2
             have hb22 := hacc1.out.keep hb2w.out (by omega) hg2
             have hb02 := hacc1.out.keep hb0w.out (by omega) hg2
             have hbr2 := hacc1.out.belowA hbr1.out (by omega) (by omega) hg2
             have hsz2 := size_app hg2
             have y3 : w2.cell? ⟨w.heap.size + 1 + 1, 3, none⟩ = some v := blk_cell hb12 rfl
             have yf : w2.frozen? ⟨w.heap.size + 1 + 1, 3, none⟩ = false := blk_free hb12 3
             replace hb12 := Lib.hid hb12
             replace hb22 := Lib.hid hb22
             replace hb02 := Lib.hid hb02
             obtain ⟨g1, c1, rfl⟩ := hacc2.form
             replace hacc2 := Lib.hid hacc2
             replace hbr2 := Lib.hid hbr2
             clear hg2))
        all_goals
          go_wp2_with fail
          go_roundw
          case rel => exact ⟨k + 1, _, l' ++ [Ex.mk xk xnm xn xa xcap xargs xpos], by omega, by go_num, Lib.hid ⟨by rw [List.length_append, hlk.out.1]; rfl, by rw [hgt.out, Ex.erL_snoc, Ex.erL_snoc, hlk.out.2, her.out]⟩, hacc2.out.set _ _ _ (by omega), Lib.hid (blk_set hb12.out 3 _), Lib.hid ((Below.heap_setCell _ _ _ _ (by simp)).trans hb22.out), Lib.hid ((Below.heap_setCell _ _ _ _ (by simp; omega)).trans hb02.out), by rw [size_set]; omega, hbr2.out.setCell (by simp; omega) _⟩
          case measure => simp [intOf]; omega
      · obtain ⟨a1, c1, rfl, hr1, hi1⟩ := hacc.out
        have x0 : wr.cell? ⟨w.heap.size + 1 + 1, 0, none⟩ = some (.int .u8 ek) := blk_cell hb1.out rfl
        have x1 : wr.cell? ⟨w.heap.size + 1 + 1, 1, none⟩ = some (.string enm) := blk_cell hb1.out rfl
        have x2 : wr.cell? ⟨w.heap.size + 1 + 1, 2, none⟩ = some (.int .i64 en) := blk_cell hb1.out rfl
        have x3 : wr.cell? ⟨w.heap.size + 1 + 1, 3, none⟩ = some (.slice a1 l'.length c1) := blk_cell hb1.out rfl
        have x4 : wr.cell? ⟨w.heap.size + 1 + 1, 4, none⟩ = some (.int .i64 p) := blk_cell hb1.out rfl
        have y0 : wr.cell? ⟨w.heap.size + 1, 0, none⟩ = some (.int .u8 0) := blk_cell hb2.out rfl
        have y1 : wr.cell? ⟨w.heap.size + 1, 1, none⟩ = some (.string ⟨#[]⟩) := blk_cell hb2.out rfl
        have y2 : wr.cell? ⟨w.heap.size + 1, 2, none⟩ = some (.int .i64 0) := blk_cell hb2.out rfl
        have y3 : wr.cell? ⟨w.heap.size + 1, 3, none⟩ = some (.slice none 0 0) := blk_cell hb2.out rfl
        have y4 : wr.cell? ⟨w.heap.size + 1, 4, none⟩ = some (.int .i64 0) := blk_cell hb2.out rfl
        have z0 : wr.frozen? ⟨w.heap.size + 1, 0, none⟩ = false := blk_free hb2.out 0
        have z1 : wr.frozen? ⟨w.heap.size + 1, 1, none⟩ = false := blk_free hb2.out 1
        have z2 : wr.frozen? ⟨w.heap.size + 1, 2, none⟩ = false := blk_free hb2.out 2
        have z3 : wr.frozen? ⟨w.heap.size + 1, 3, none⟩ = false := blk_free hb2.out 3
        have z4 : wr.frozen? ⟨w.heap.size + 1, 4, none⟩ = false := blk_free hb2.out 4
        replace hacc := Lib.hid hacc
        replace hr1 := Lib.hid hr1
        replace hi1 := Lib.hid hi1
        replace hbr := Lib.hid hbr
        go_wp2_with fail
        refine bodyPost_ret (v := .agg #[.int .u8 ek, .string enm, .int .i64 en, .slice a1 l'.length c1, .int .i64 p]) (by simp [results, Tryd.results48, go_sem, *]) rfl ⟨.mk ek enm en a1 c1 l' p, rfl, ?_, ?_, ?_⟩
        · have hkp : Kps (fun b => w.heap.size + 3 ≤ b) wr (((((wr.setCell ⟨w.heap.size + 1, 0, none⟩ (.int .u8 ek)).setCell ⟨w.heap.size + 1, 1, none⟩ (.string enm)).setCell ⟨w.heap.size + 1, 2, none⟩ (.int .i64 en)).setCell ⟨w.heap.size + 1, 3, none⟩ (.slice a1 l'.length c1)).setCell ⟨w.heap.size + 1, 4, none⟩ (.int .i64 p)) :=
            ((((Kps_set _ _ _ _).trans (Kps_set _ _ _ _)).trans (Kps_set _ _ _ _)).trans ((Kps_set _ _ _ _).trans (Kps_set _ _ _ _))).mono fun b hb => by omega
          unfold Ex.In
          exact ⟨hk8, hnm.out, hn64, hp, (hr1.out.below hkp).mono fun b hb => by omega, Ex.InL_of _ fun x hx => Ex.In.mono (fun b hb => by omega) _ (Ex.In.below hkp _ (hi1.out x hx))⟩
        · rw [Ex.er_eq, Ex.er_eq, hlk.out.2, List.take_of_length_le (by omega)]
        · exact ((((hbr.out.setCell (by simp) _).setCell (by simp) _).setCell (by simp) _).setCell (by simp) _).setCell (by simp) _
end Go.Proofs.YtolmhcdcfnoicaaDoor.Tr
