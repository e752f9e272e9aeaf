/- Walk of the statements' own place: statements made anew, but for their places. Conditions: none. -/
import Derived.Test.YtepbkgljkhogaaaDoorTrZ
import Derived.Deep.RegionHeld3
import Derived.Deep.DrawnRows
namespace Go.Proofs.YtepbkgljkhogaaaDoor.Tr
open Go Go.RowKit
open Go.Proofs.YtepbkgljkhogaaaDoor.Lx

theorem infoS : (Tryd.prog.info? 38).map (fun i => (i.zero, i.size, i.bytes)) = some (some (.agg #[.int .u8 0, .string ⟨#[]⟩, .string ⟨#[]⟩, .bool false, .slice none 0 0, .slice none 0 0, .slice none 0 0, .int .i64 0]), 8, 128) := by kernel_rfl
/-- statements made anew, in new memory -/
structure Anew (n : Nat) (l l' : List St) (a' : Option Addr) (cap' : Nat) (w' : World) : Prop where
  len : l'.length = l.length
  row : RowAt w' (fun b => n ≤ b) a' cap' l'.length (stCells l')
  inn : St.InL w' (fun b => n ≤ b) l'
  er : St.erL l' = St.erL l
theorem Anew.keep {n : Nat} {l l' : List St} {a' : Option Addr} {cap' : Nat} {W W' : World} (h : Anew n l l' a' cap' W) (hk : Kps (fun b => n ≤ b) W W') : Anew n l l' a' cap' W' := ⟨h.len, h.row.below hk, St.InL.below hk _ h.inn, h.er⟩
theorem Anew.mono {n m : Nat} {l l' : List St} {a' : Option Addr} {cap' : Nat} {W : World} (h : Anew n l l' a' cap' W) (hk : m ≤ n) : Anew m l l' a' cap' W := ⟨h.len, h.row.mono fun b hb => by omega, St.InL.mono (fun b hb => by omega) _ h.inn, h.er⟩
def PlOut (w : World) (l : List St) (x : Ending) (w' : World) : Prop := ∃ a' cap' l', x = .returned (.slice a' (List.length l') cap') ∧ Anew w.heap.size l l' a' cap' w' ∧ Below w.heap.size w w'

theorem pl_set {wo V : World} {b o5 o6 j : Nat} {u v5 v6 : Value} (h : Below wo.heap.size wo V ∧ wo.heap.size + 1 ≤ V.heap.size ∧ V.cell? ⟨b, o5, none⟩ = some v5 ∧ V.cell? ⟨b, o6, none⟩ = some v6) (hb : b < wo.heap.size := by assumption) :
    Below wo.heap.size wo (V.setCell ⟨wo.heap.size, j, none⟩ u) ∧ wo.heap.size + 1 ≤ (V.setCell ⟨wo.heap.size, j, none⟩ u).heap.size ∧ (V.setCell ⟨wo.heap.size, j, none⟩ u).cell? ⟨b, o5, none⟩ = some v5 ∧ (V.setCell ⟨wo.heap.size, j, none⟩ u).cell? ⟨b, o6, none⟩ = some v6 :=
  ⟨h.1.setCell (Nat.le_refl _) _, by rw [size_set]; exact h.2.1, (World.cell?_of_block (Below.heap_setCell _ _ _ _ (by simp only; omega))).trans h.2.2.1, (World.cell?_of_block (Below.heap_setCell _ _ _ _ (by simp only; omega))).trans h.2.2.2⟩
set_option maxHeartbeats 16000000 in
set_option maxRecDepth 100000 in
theorem place_any : ∀ (s : Nat) (l : List St) (a : Option Addr) (cap : Nat) (p : Int) (w : World), St.szL l ≤ s → s ≤ 4194304 → I64 p → RowAt w (fun _ => True) a cap l.length (stCells l) → St.InL w (fun _ => True) l →
    Calls Tryd.prog 27 #[.slice a l.length cap, .int .i64 p] w (PlOut w l) := by
  intro s
  induction s using Nat.strongRecOn with
  | _ s ih =>
    intro l a cap p w hs hs4 hp hrow hin
    have hlen : l.length ≤ 4194304 := by have := St.szL_len l; omega
    have hcx := fun (k : Nat) (x : St) (W : World) (hx : l[k]? = some x) (hb : Below w.heap.size w W) => St.In.below (Kps.of_below (S := fun _ => True) hb) _ (hin.get hx)
    replace hcx := Lib.hid hcx
    have hih := fun (k : Nat) (x : St) (hx : l[k]? = some x) => ih (x.sz - 1) (by have := St.sz_get hx; have := St.sz_pos x; omega)
    replace hih := Lib.hid hih
    clear ih hin
    obtain ⟨iE, hiE, hzE0, hzE1, hzE2⟩ := info_parts infoE
    obtain ⟨iS, hiS, hzS0, hzS1, hzS2⟩ := info_parts infoS
    replace hzE0 := Lib.hid hzE0
    replace hzS0 := Lib.hid hzS0
    go_enter Tryd.func27, Tryd.ntmps27
    go_wp2_with fail
    go_loopw [5, 6] (fun v i wr => ∃ (k : Nat) (l' : List St), k ≤ l.length ∧ i = .int .i64 k ∧ Hid (l'.length = k ∧ St.erL l' = St.erL (l.take k)) ∧ Hid (Acc KS 38 w.heap.size wr v l') ∧ Below w.heap.size w wr) (fun _ i _ => l.length - (intOf i).toNat)
    case atStart => exact ⟨0, [], Nat.zero_le _, rfl, Lib.hid ⟨rfl, rfl⟩, Lib.hid (Acc.nil _ _ _ _), Below.refl _ _⟩
    case round =>
      obtain ⟨k, l', hk, rfl, hlk, hacc, hbr⟩ := hrel
      by_cases hlt : k < l.length
      · obtain ⟨x, hx⟩ : ∃ e, l[k]? = some e := ⟨l[k], by simp [hlt]⟩
        obtain ⟨b, off, rfl, _, hcell⟩ := st_row hrow k x hx
        have hxin := hcx.out k x wr hx hbr
        have hxs := St.sz_get hx
        have hi2 := hih.out k x hx
        have hgt : l.take (k + 1) = l.take k ++ [x] := by rw [List.take_add_one, hx]; rfl
        obtain ⟨xk, xnm, xto, xnw, ea, ecap, xe, ba, bcap, xbody, la, lcap, xels, xpos⟩ := x
        have hsz : St.sz (.mk xk xnm xto xnw ea ecap xe ba bcap xbody la lcap xels xpos) = 1 + Ex.szL xe + St.szL xbody + St.szL xels := by unfold St.sz; rfl
        rw [hsz] at hxs hi2
        unfold St.In at hxin
        obtain ⟨hk8, hnm, hto, hq, hre, hie, hrb, hib, hrl, hil⟩ := hxin
        have hel : xe.length ≤ 4194304 := by have := Ex.szL_len xe; omega
        simp only [← Nat.add_assoc] at hcell
        have d0 := below_in hbr (hcell 0 _ rfl)
        have d1 := below_in hbr (hcell 1 _ rfl)
        have d2 := below_in hbr (hcell 2 _ rfl)
        have d3 := below_in hbr (hcell 3 _ rfl)
        have d4 := below_in hbr (hcell 4 _ rfl)
        have d5 := below_in hbr (hcell 5 _ rfl)
        have d6 := below_in hbr (hcell 6 _ rfl)
        have d7 := below_in hbr (hcell 7 _ rfl)
        simp only [Nat.add_zero] at d0
        replace hsz := Lib.hid hsz
        replace hgt := Lib.hid hgt
        replace hnm := Lib.hid hnm
        replace hto := Lib.hid hto
        replace hx := Lib.hid hx
        replace hbr := Lib.hid hbr
        clear hcell
        obtain ⟨wo, hwo⟩ : ∃ wo : World, wo = wr := ⟨_, rfl⟩
        subst hwo
        go_wp2_with fail
        go_loopw [8] (fun i wi => ∃ (j : Nat) (v : Value) (e' : List Ex), j ≤ xe.length ∧ i = .int .i64 j ∧ Hid (e'.length = j ∧ Ex.erL e' = Ex.erL (xe.take j)) ∧ Acc KE 25 (wo.heap.size + 1) wi v e' ∧
          Hid (wi.heap[wo.heap.size]? = some (.cells #[.int .u8 xk, .string xnm, .string xto, .bool xnw, v, .slice ba xbody.length bcap, .slice la xels.length lcap, .int .i64 p] 38 (0, 0))) ∧ wo.heap.size + 1 ≤ wi.heap.size ∧ Below wo.heap.size wo wi) (fun i _ => xe.length - (intOf i).toNat)
        case atStart => exact ⟨0, _, [], Nat.zero_le _, rfl, Lib.hid ⟨rfl, rfl⟩, Acc.nil _ _ _ _, Lib.hid (blk_new _ _ rfl), by simp, (Below.refl _ _).alloc (Nat.le_refl _) _⟩
        case round =>
          obtain ⟨j, v, e', hj, rfl, hej, hacce, hb7, hsz7, hbi⟩ := hrel
          have d4i := below_in hbi d4
          by_cases hjt : j < xe.length
          · obtain ⟨y, hy⟩ : ∃ e, xe[j]? = some e := ⟨xe[j], by simp [hjt]⟩
            obtain ⟨b2, off2, rfl, _, hcell2⟩ := ex_row hre j y hy
            have hys := Ex.sz_get hy
            have hc := placed_any y.sz y p wr.drew (Nat.le_refl _) (by omega) hp (Ex.In.below (Kps.of_below hbi.drew) _ (hie.get hy))
            have hgt2 : xe.take (j + 1) = xe.take j ++ [y] := by rw [List.take_add_one, hy]; rfl
            obtain ⟨fk, fnm, fn', fa, fcap, fargs, fpos⟩ := y
            have hc : Calls Tryd.prog 48 #[.agg #[.int .u8 fk, .string fnm, .int .i64 fn', .slice fa fargs.length fcap, .int .i64 fpos], .int .i64 p] wr.drew _ := hc
            simp only [← Nat.add_assoc] at hcell2
            have c0 := below_in hbi (hcell2 0 _ rfl)
            have c1 := below_in hbi (hcell2 1 _ rfl)
            have c2 := below_in hbi (hcell2 2 _ rfl)
            have c3 := below_in hbi (hcell2 3 _ rfl)
            have c4 := below_in hbi (hcell2 4 _ rfl)
            simp only [Nat.add_zero] at c0 c1 c2 c3 c4
            have x4 : wr.cell? ⟨wo.heap.size, 4, none⟩ = some v := blk_cell hb7.out rfl
            have haccd : Hid (Acc KE 25 (wo.heap.size + 1) wr.drew v e') := Lib.hid (hacce.upper fun _ _ _ => rfl)
            have hszd : wo.heap.size + 1 ≤ wr.drew.heap.size := hsz7
            have hcall := hc.mono (R' := fun x1 w1 => ∃ zk znm zn za zcap zargs zpos, x1 = .returned (.agg #[.int .u8 zk, .string znm, .int .i64 zn, .slice za (List.length zargs) zcap, .int .i64 zpos]) ∧ Hid (Acc KE 25 (wo.heap.size + 1) w1 v e') ∧ Hid (KE.In w1 (fun b => wo.heap.size + 1 ≤ b ∧ v.ownBlock ≠ some b) (Ex.mk zk znm zn za zcap zargs zpos)) ∧ Hid ((Ex.mk zk znm zn za zcap zargs zpos).er = (Ex.mk fk fnm fn' fa fcap fargs fpos).er) ∧ wo.heap.size + 1 ≤ w1.heap.size ∧
              Hid (w1.heap[wo.heap.size]? = some (.cells #[.int .u8 xk, .string xnm, .string xto, .bool xnw, v, .slice ba xbody.length bcap, .slice la xels.length lcap, .int .i64 p] 38 (0, 0))) ∧ Hid (Below wo.heap.size wo w1) ∧ w1.cell? ⟨wo.heap.size, 4, none⟩ = some v ∧ ∀ o, (w1.alloc o).cell? ⟨wo.heap.size, 4, none⟩ = some v) (by
                rintro x1 w1 ⟨⟨zk, znm, zn, za, zcap, zargs, zpos⟩, rfl, hx', her, hbw⟩
                exact ⟨zk, znm, zn, za, zcap, zargs, zpos, rfl, Lib.hid (haccd.out.below hbw), Lib.hid (Acc.fresh (K := KE) (x := Ex.mk zk znm zn za zcap zargs zpos) haccd.out hszd hx'), Lib.hid her, Nat.le_trans hszd hbw.size, Lib.hid ((hbw.block wo.heap.size (by omega)).trans hb7.out), Lib.hid (hbi.drew.trans (hbw.mono hbi.size)), below_in hbw x4, fun o => below_in ((Below.refl _ _).alloc (Nat.le_refl _) o) (below_in hbw x4)⟩)
            replace hcall := Lib.hid hcall
            replace hgt2 := Lib.hid hgt2
            replace hy := Lib.hid hy
            replace hbi := Lib.hid hbi
            clear hcell2 hacce hc
            go_wp2_with fail
            go_region_law (first
              | (go_simp; go_at_call 48; (with_reducible refine hcall.out.mono ?_); rintro x1 w1 ⟨zk, znm, zn, za, zcap, zargs, zpos, rfl, hacc1, hx2, her, hszw, hb7w, hbi1, x4w, x4a⟩)
              | (refine step_append_K KE rfl (.tmp 33) (.tmp 44) (.tmp 43) 23 rfl 25 iE _ 5 64 Tryd.underlying23 hiE hzE0.out hzE1 hzE2 rfl (by decide) rfl Ex.vals_one (wo.heap.size + 1) v e' (.mk zk znm zn za zcap zargs zpos) rfl (hacc1.out.alloc _) (KE.below (Kps.alloc _ _) hx2.out) _ rfl rfl (0, 0) (blk_new _ _ rfl) (by have := hej.out.1; unfold maxLen; omega) (by have := hej.out.1; omega) (by simp; omega) ?_
                 intro v1 w2 hacc2 hg2
                 have hb72 := hacc1.out.keep hb7w.out (by omega) hg2
                 have hbi2 := hacc1.out.belowA hbi1.out (by omega) (by omega) hg2
                 have hsz2 := size_app hg2
                 have y4 : w2.cell? ⟨wo.heap.size, 4, none⟩ = some v := blk_cell hb72 rfl
                 have yf : w2.frozen? ⟨wo.heap.size, 4, none⟩ = false := blk_free hb72 4
                 obtain ⟨g1, c1, rfl⟩ := hacc2.form
                 replace hb72 := Lib.hid hb72
                 replace hacc2 := Lib.hid hacc2
                 replace hbi2 := Lib.hid hbi2
                 clear hg2))
            all_goals
              go_wp2_with fail
              go_roundw
              case rel => exact ⟨j + 1, _, e' ++ [Ex.mk zk znm zn za zcap zargs zpos], by omega, by go_num, Lib.hid ⟨by rw [List.length_append, hej.out.1]; rfl, by rw [hgt2.out, Ex.erL_snoc, Ex.erL_snoc, hej.out.2, her.out]⟩, hacc2.out.set _ _ _ (by omega), Lib.hid (blk_set hb72.out 4 _), by rw [size_set]; omega, hbi2.out.setCell (by simp) _⟩
              case measure => simp [intOf]; omega
          · obtain ⟨a1, c1, rfl, hr1, hi1⟩ := hacce.out
            have d5i := below_in hbi d5
            have d6i := below_in hbi d6
            have hcb := fun V (h : (Below wo.heap.size wo V ∧ wo.heap.size + 1 ≤ V.heap.size ∧ V.cell? ⟨b, off + k * 8 + 5, none⟩ = some (.slice ba xbody.length bcap) ∧ V.cell? ⟨b, off + k * 8 + 6, none⟩ = some (.slice la xels.length lcap)) ∧ V.heap[wo.heap.size]? = some (.cells #[.int .u8 xk, .string xnm, .string xto, .bool xnw, .slice a1 e'.length c1, .slice ba xbody.length bcap, .slice la xels.length lcap, .int .i64 p] 38 (0, 0))) => (hi2 xbody ba bcap p V (by omega) (by omega) hp (hrb.below (Kps.of_below h.1.1)) (St.InL.below (Kps.of_below h.1.1) _ hib)).mono (R' := fun x w' => ∃ a' c' l'', x = .returned (.slice a' (List.length l'') c') ∧ Hid (Anew (wo.heap.size + 1) xbody l'' a' c' w') ∧ (Below wo.heap.size wo w' ∧ wo.heap.size + 1 ≤ w'.heap.size ∧ w'.cell? ⟨b, off + k * 8 + 5, none⟩ = some (.slice ba xbody.length bcap) ∧ w'.cell? ⟨b, off + k * 8 + 6, none⟩ = some (.slice la xels.length lcap)) ∧ Hid (w'.heap[wo.heap.size]? = some (.cells #[.int .u8 xk, .string xnm, .string xto, .bool xnw, .slice a1 e'.length c1, .slice ba xbody.length bcap, .slice la xels.length lcap, .int .i64 p] 38 (0, 0))) ∧ (w'.cell? ⟨wo.heap.size, 5, none⟩ = some (.slice ba xbody.length bcap) ∧ w'.frozen? ⟨wo.heap.size, 5, none⟩ = false ∧ w'.cell? ⟨wo.heap.size, 6, none⟩ = some (.slice la xels.length lcap) ∧ w'.frozen? ⟨wo.heap.size, 6, none⟩ = false) ∧ Hid (Below V.heap.size V w')) (by
                rintro x w' ⟨a', c', l'', rfl, han, hbw⟩
                have hv7 : wo.heap.size + 1 ≤ V.heap.size := h.1.2.1
                have hb7w := (hbw.block wo.heap.size (by omega)).trans h.2
                exact ⟨a', c', l'', rfl, Lib.hid (han.mono hv7), ⟨h.1.1.trans (hbw.mono h.1.1.size), Nat.le_trans hv7 hbw.size, below_in hbw h.1.2.2.1, below_in hbw h.1.2.2.2⟩, Lib.hid hb7w, ⟨blk_cell hb7w rfl, blk_free hb7w 5, blk_cell hb7w rfl, blk_free hb7w 6⟩, Lib.hid hbw⟩)
            have hcl := fun V (h : (Below wo.heap.size wo V ∧ wo.heap.size + 1 ≤ V.heap.size ∧ V.cell? ⟨b, off + k * 8 + 5, none⟩ = some (.slice ba xbody.length bcap) ∧ V.cell? ⟨b, off + k * 8 + 6, none⟩ = some (.slice la xels.length lcap)) ∧ V.heap[wo.heap.size]? = some (.cells #[.int .u8 xk, .string xnm, .string xto, .bool xnw, .slice a1 e'.length c1, .slice ba xbody.length bcap, .slice la xels.length lcap, .int .i64 p] 38 (0, 0))) => (hi2 xels la lcap p V (by omega) (by omega) hp (hrl.below (Kps.of_below h.1.1)) (St.InL.below (Kps.of_below h.1.1) _ hil)).mono (R' := fun x w' => ∃ a' c' l'', x = .returned (.slice a' (List.length l'') c') ∧ Hid (Anew (wo.heap.size + 1) xels l'' a' c' w') ∧ (Below wo.heap.size wo w' ∧ wo.heap.size + 1 ≤ w'.heap.size ∧ w'.cell? ⟨b, off + k * 8 + 5, none⟩ = some (.slice ba xbody.length bcap) ∧ w'.cell? ⟨b, off + k * 8 + 6, none⟩ = some (.slice la xels.length lcap)) ∧ Hid (w'.heap[wo.heap.size]? = some (.cells #[.int .u8 xk, .string xnm, .string xto, .bool xnw, .slice a1 e'.length c1, .slice ba xbody.length bcap, .slice la xels.length lcap, .int .i64 p] 38 (0, 0))) ∧ (w'.cell? ⟨wo.heap.size, 5, none⟩ = some (.slice ba xbody.length bcap) ∧ w'.frozen? ⟨wo.heap.size, 5, none⟩ = false ∧ w'.cell? ⟨wo.heap.size, 6, none⟩ = some (.slice la xels.length lcap) ∧ w'.frozen? ⟨wo.heap.size, 6, none⟩ = false) ∧ Hid (Below V.heap.size V w')) (by
                rintro x w' ⟨a', c', l'', rfl, han, hbw⟩
                have hv7 : wo.heap.size + 1 ≤ V.heap.size := h.1.2.1
                have hb7w := (hbw.block wo.heap.size (by omega)).trans h.2
                exact ⟨a', c', l'', rfl, Lib.hid (han.mono hv7), ⟨h.1.1.trans (hbw.mono h.1.1.size), Nat.le_trans hv7 hbw.size, below_in hbw h.1.2.2.1, below_in hbw h.1.2.2.2⟩, Lib.hid hb7w, ⟨blk_cell hb7w rfl, blk_free hb7w 5, blk_cell hb7w rfl, blk_free hb7w 6⟩, Lib.hid hbw⟩)
            replace hcb := Lib.hid hcb
            replace hcl := Lib.hid hcl
            have hS0 : (Below wo.heap.size wo wr.drew ∧ wo.heap.size + 1 ≤ wr.drew.heap.size ∧ wr.drew.cell? ⟨b, off + k * 8 + 5, none⟩ = some (.slice ba xbody.length bcap) ∧ wr.drew.cell? ⟨b, off + k * 8 + 6, none⟩ = some (.slice la xels.length lcap)) ∧ wr.drew.heap[wo.heap.size]? = some (.cells #[.int .u8 xk, .string xnm, .string xto, .bool xnw, .slice a1 e'.length c1, .slice ba xbody.length bcap, .slice la xels.length lcap, .int .i64 p] 38 (0, 0)) := ⟨⟨hbi.drew, hsz7, d5i, d6i⟩, hb7.out⟩
            have hS := hS0.1
            have hbl5 : b < wo.heap.size := World.block_lt_of_cell? _ _ d5
            replace hS0 := Lib.hid hS0
            replace hr1 := Lib.hid hr1
            replace hi1 := Lib.hid hi1
            replace hbi := Lib.hid hbi
            replace hacce := Lib.hid hacce
            clear hi2 hie hre hib hrb hil hrl
            go_wp2_with fail
            go_region_held3 (fun V => Below wo.heap.size wo V ∧ wo.heap.size + 1 ≤ V.heap.size ∧ V.cell? ⟨b, off + k * 8 + 5, none⟩ = some (.slice ba xbody.length bcap) ∧ V.cell? ⟨b, off + k * 8 + 6, none⟩ = some (.slice la xels.length lcap)) (first | exact hS | assumption | exact pl_set hS | exact pl_set (pl_set hS)) (first | (go_at_call 27; (with_reducible refine (hcb.out _ hS0.out).mono ?_); (rintro x w1 ⟨ab, cb, body', rfl, hab, hS, hb7b, ⟨y5, f5, y6, f6⟩, hbb⟩)) | (go_at_call 27; (with_reducible refine (hcl.out _ ⟨hS, hb7b.out⟩).mono ?_); (rintro x w2 ⟨al, cl, els', rfl, hal, hS, hb7l, ⟨y5, f5, y6, f6⟩, hbl⟩)))
            obtain ⟨w4, hw4⟩ : ∃ W, (w2.setCell ⟨wo.heap.size, 5, none⟩ (.slice ab body'.length cb)).setCell ⟨wo.heap.size, 6, none⟩ (.slice al els'.length cl) = W := ⟨_, rfl⟩
            rw [hw4]
            have hb74 : w4.heap[wo.heap.size]? = some (.cells #[.int .u8 xk, .string xnm, .string xto, .bool xnw, .slice a1 e'.length c1, .slice ab body'.length cb, .slice al els'.length cl, .int .i64 p] 38 (0, 0)) := by
              rw [← hw4]; exact blk_set (blk_set hb7l.out 5 _) 6 _
            have hbo4 : Below wo.heap.size wo w4 := by rw [← hw4]; exact (hS.1.setCell (Nat.le_refl _) _).setCell (Nat.le_refl _) _
            have hs4' : wo.heap.size + 1 ≤ w4.heap.size := by rw [← hw4, size_set, size_set]; exact hS.2.1
            have hk4 : Kps (fun b => wo.heap.size + 1 ≤ b) w2 w4 := by rw [← hw4]; exact ((Kps_set _ _ _ _).trans (Kps_set _ _ _ _)).mono fun b hb => hb
            have hel4 := (hal.out.keep hk4)
            have hbo4' := hab.out.keep ((Kps.of_below hbl.out).trans hk4)
            have hke : Kps (fun b => wo.heap.size + 1 ≤ b) wr w4 := ((Kps.of_below (S := fun b => wo.heap.size + 1 ≤ b) hbb.out).trans (Kps.of_below hbl.out)).trans hk4
            have hstm : KS.In w4 (fun b => wo.heap.size + 1 ≤ b) (.mk xk xnm xto xnw a1 c1 e' ab cb body' al cl els' p) := by
              show St.In _ _ _
              unfold St.In
              exact ⟨hk8, hnm.out, hto.out, hp, hr1.out.below hke, Ex.InL.below hke _ (Ex.InL_of _ hi1.out), hbo4'.row, hbo4'.inn, hel4.row, hel4.inn⟩
            have z0 : w4.cell? ⟨wo.heap.size, 0, none⟩ = some (.int .u8 xk) := blk_cell hb74 rfl
            have z1 : w4.cell? ⟨wo.heap.size, 1, none⟩ = some (.string xnm) := blk_cell hb74 rfl
            have z2 : w4.cell? ⟨wo.heap.size, 2, none⟩ = some (.string xto) := blk_cell hb74 rfl
            have z3 : w4.cell? ⟨wo.heap.size, 3, none⟩ = some (.bool xnw) := blk_cell hb74 rfl
            have z4 : w4.cell? ⟨wo.heap.size, 4, none⟩ = some (.slice a1 e'.length c1) := blk_cell hb74 rfl
            have z5 : w4.cell? ⟨wo.heap.size, 5, none⟩ = some (.slice ab body'.length cb) := blk_cell hb74 rfl
            have z6 : w4.cell? ⟨wo.heap.size, 6, none⟩ = some (.slice al els'.length cl) := blk_cell hb74 rfl
            have z7 : w4.cell? ⟨wo.heap.size, 7, none⟩ = some (.int .i64 p) := blk_cell hb74 rfl
            have hacc4 := Lib.hid (hacc.out.below hbo4)
            have hst4 := Lib.hid (Acc.fresh (K := KS) hacc.out hbr.out.size (KS.mono (fun b hb => by omega) hstm))
            have her4 : Hid ((St.mk xk xnm xto xnw a1 c1 e' ab cb body' al cl els' p).er = (St.mk xk xnm xto xnw ea ecap xe ba bcap xbody la lcap xels xpos).er) := Lib.hid (by
              rw [St.er_eq, St.er_eq, hbo4'.er, hel4.er, hej.out.2, List.take_of_length_le (by omega)])
            have hbr4 := Lib.hid (hbr.out.trans (hbo4.mono hbr.out.size))
            have hws : w.heap.size ≤ w4.heap.size := hbr4.out.size
            clear hw4 hb74 hbo4 hk4 hel4 hbo4' hke hstm hS hb7l hb7b hab hal hbb hbl hr1 hi1 y5 y6 f5 f6 hS0 d5i d6i
            go_wp2_with (at_builtin; refine wpList_append_K KS rfl (.tmp 63) (.tmp 65) (.tmp 64) 36 rfl 38 iS _ 8 128 Tryd.underlying36 hiS hzS0.out hzS1 hzS2 rfl (by decide) rfl St.vals_one w.heap.size _ l' (.mk xk xnm xto xnw a1 c1 e' ab cb body' al cl els' p) rfl (hacc4.out.alloc _) (KS.below (Kps.alloc _ _) hst4.out) _ rfl rfl (0, 0) (blk_new _ _ rfl) ?c1 ?c2 ?c3 ?_)
            case c1 => have := hlk.out.1; unfold maxLen; omega
            case c2 => have := hlk.out.1; omega
            case c3 => simp; omega
            intro v1 w5 hacc5 hg5
            have hbr5 := hacc4.out.belowA hbr4.out (Nat.le_refl _) (by omega) hg5
            replace hacc5 := Lib.hid hacc5
            replace hbr5 := Lib.hid hbr5
            clear hg5
            go_wp2_with fail
            go_roundw
            case rel => exact ⟨k + 1, l' ++ [.mk xk xnm xto xnw a1 c1 e' ab cb body' al cl els' p], by omega, by go_num, Lib.hid ⟨by rw [List.length_append, hlk.out.1]; rfl, by rw [hgt.out, St.erL_snoc, St.erL_snoc, hlk.out.2, her4.out]⟩, hacc5, hbr5.out⟩
            case measure => simp [intOf]; omega
      · obtain ⟨a1, c1, rfl, hr1, hi1⟩ := hacc.out.out
        replace hr1 := Lib.hid hr1
        replace hi1 := Lib.hid hi1
        go_wp2_with fail
        go_ret
        exact ⟨a1, c1, l', rfl, ⟨by rw [hlk.out.1]; omega, hr1.out, St.InL_of _ hi1.out, by rw [hlk.out.2, List.take_of_length_le (by omega)]⟩, hbr⟩
end Go.Proofs.YtepbkgljkhogaaaDoor.Tr
