/- Walk of the statements' own within: what is in statements, taken by itself, may be. Conditions: the package's tables hold their lists. -/
import Derived.Test.YtepbkgljkhogaaaDoorTrPa
import Derived.Test.YtepbkgljkhogaaaDoorTrZ
import Derived.Deep.RegionHeld3
import Derived.Deep.DrawnRows
namespace Go.Proofs.YtepbkgljkhogaaaDoor.Tr
open Go Go.RowKit
open Go.Proofs.YtepbkgljkhogaaaDoor.Lx

/-- a thread of statements that may be, laid anew, may be -/
theorem mayth_any (ba : Option Addr) (bcap : Nat) (body : List St) (V : World) (hok : OkL body) (hrow : RowAt V (fun _ => True) ba bcap body.length (stCells body)) (hin : St.InL V (fun _ => True) body) (hsz : St.szL body ≤ 4194304) (ht : TabsD V) :
    Calls Tryd.prog 11 #[.slice (some ⟨V.heap.size, 0, none⟩) 1 1] (V.alloc (.cells #[.int .u8 5, .string ⟨#[116]⟩, .int .i64 0, .slice none 0 0, .slice ba body.length bcap, .int .i64 0] 40)) fun x w' => x = .returned (.bool true) ∧ Below V.heap.size V w' := by
  have hd : De.In V (fun _ => True) (dTh ba bcap body) := ⟨⟨by show (0:Int) ≤ 5; omega, by show (5:Int) ≤ 255; omega⟩, by show 1 ≤ maxLen; unfold maxLen; omega, ⟨by show _ ≤ (0:Int); omega, by show (0:Int) ≤ _; omega⟩, ⟨by show _ ≤ (0:Int); omega, by show (0:Int) ≤ _; omega⟩, rowAt_nil _, by simp [dTh], hrow, hin⟩
  obtain ⟨h1, h2⟩ := one_de (dTh ba bcap body) V hd
  refine (mayP_any [dTh ba bcap body] (some ⟨V.heap.size, 0, none⟩) 1 _ h1 h2 (by show St.szL body + 0 ≤ _; omega) (ht.below ((Below.refl _ _).alloc (Nat.le_refl _) _))).mono fun x w' h => ⟨by rw [h.1, may_th _ _ _ hok], ((Below.refl _ _).alloc (Nat.le_refl _) _).trans (h.2.mono (by simp))⟩

set_option maxHeartbeats 16000000 in
set_option maxRecDepth 100000 in
theorem within_any : ∀ (s : Nat) (l : List St) (a : Option Addr) (cap : Nat) (w : World), St.szL l ≤ s → s ≤ 2097152 → OkL l → RowAt w (fun _ => True) a cap l.length (stCells l) → St.InL w (fun _ => True) l → TabsD w →
    Calls Tryd.prog 26 #[.slice a l.length cap] w fun x w' => x = .returned (.bool true) ∧ Below w.heap.size w w' := by
  intro s
  induction s using Nat.strongRecOn with
  | _ s ih =>
    intro l a cap w hs hs4 hok hrow hin ht
    have hlen : l.length ≤ 4194304 := by have := St.szL_len l; omega
    have hcx := fun (k : Nat) (x : St) (W : World) (hx : l[k]? = some x) (hb : Below w.heap.size w W) => And.intro (St.In.below (Kps.of_below (S := fun _ => True) hb) _ (hin.get hx)) (ht.below hb)
    replace hcx := Lib.hid hcx
    have hih := fun (k : Nat) (x : St) (hx : l[k]? = some x) => ih (x.sz - 1) (by have := St.sz_get hx; have := St.sz_pos x; omega)
    replace hih := Lib.hid hih
    clear ih hin ht
    go_enter Tryd.func26, Tryd.ntmps26
    go_wp2_with fail
    go_loopw [3] (fun i wr => ∃ (k : Nat), k ≤ l.length ∧ i = .int .i64 k ∧ Below w.heap.size w wr) (fun i _ => l.length - (intOf i).toNat)
    case atStart => exact ⟨0, Nat.zero_le _, rfl, Below.refl _ _⟩
    case round =>
      obtain ⟨k, hk, rfl, hbr⟩ := hrel
      by_cases hlt : k < l.length
      · obtain ⟨x, hx⟩ : ∃ e, l[k]? = some e := ⟨l[k], by simp [hlt]⟩
        obtain ⟨b, off, rfl, _, hcell⟩ := st_row hrow k x hx
        obtain ⟨hxin, htr⟩ := hcx.out k x wr hx hbr
        have hxs := St.sz_get hx
        have hi2 := hih.out k x hx
        have hok1 := hok.one (List.mem_of_getElem? hx)
        have hxin0 := hxin
        obtain ⟨xk, xnm, xto, xnw, ea, ecap, xe, ba, bcap, xbody, la, lcap, xels, xpos⟩ := x
        have hsz : St.sz (.mk xk xnm xto xnw ea ecap xe ba bcap xbody la lcap xels xpos) = 1 + Ex.szL xe + St.szL xbody + St.szL xels := by unfold St.sz; rfl
        rw [hsz] at hi2
        have hxs' : 1 + Ex.szL xe + St.szL xbody + St.szL xels ≤ 2097152 := by rw [hsz] at hxs; omega
        unfold St.In at hxin
        obtain ⟨hk8, hnm, hto, hq, hre, hie, hrb, hib, hrl, hil⟩ := hxin
        obtain ⟨oke, okb, okl⟩ := hok1.parts
        have hel : xe.length ≤ 4194304 := by have := Ex.szL_len xe; omega
        simp only [← Nat.add_assoc] at hcell
        have d0 := below_in hbr (hcell 0 _ rfl)
        have d1 := below_in hbr (hcell 1 _ rfl)
        have d2 := below_in hbr (hcell 2 _ rfl)
        have d3 := below_in hbr (hcell 3 _ rfl)
        have d4 := below_in hbr (hcell 4 _ rfl)
        have d5 := below_in hbr (hcell 5 _ rfl)
        have d6 := below_in hbr (hcell 6 _ rfl)
        have d7 := below_in hbr (hcell 7 _ rfl)
        simp only [Nat.add_zero] at d0
        have cM1 := fun (n : Nat) V (h : Below wr.heap.size wr V) (r1 : RowAt V (fun _ => True) (some ⟨n, 0, none⟩) 1 1 (stCells [.mk xk xnm xto xnw ea ecap xe ba bcap xbody la lcap xels xpos])) => mayth_any (some ⟨n, 0, none⟩) 1 [.mk xk xnm xto xnw ea ecap xe ba bcap xbody la lcap xels xpos] V hok1 r1 (St.InL_of _ fun y hy => by rw [List.mem_singleton.1 hy]; exact St.In.below (Kps.of_below h) _ hxin0) (by show St.sz _ + 0 ≤ _; rw [hsz]; omega) (htr.below h)
        have cM2 := fun V (h : Below wr.heap.size wr V) => mayth_any ba bcap xbody V okb (hrb.below (Kps.of_below h)) (St.InL.below (Kps.of_below h) _ hib) (by omega) (htr.below h)
        have cM3 := fun V (h : Below wr.heap.size wr V) => mayth_any la lcap xels V okl (hrl.below (Kps.of_below h)) (St.InL.below (Kps.of_below h) _ hil) (by omega) (htr.below h)
        have cW1 := fun V (h : Below wr.heap.size wr V) => hi2 xbody ba bcap V (by omega) (by omega) okb (hrb.below (Kps.of_below h)) (St.InL.below (Kps.of_below h) _ hib) (htr.below h)
        have cW2 := fun V (h : Below wr.heap.size wr V) => hi2 xels la lcap V (by omega) (by omega) okl (hrl.below (Kps.of_below h)) (St.InL.below (Kps.of_below h) _ hil) (htr.below h)
        have cE := fun V (h : Below wr.heap.size wr V) (j : Nat) (y : Ex) (hy : xe[j]? = some y) => (mayE_any y V (Ex.In.below (Kps.of_below h) _ (hie.get hy)) (by have := Ex.sz_get hy; omega) (htr.below h).toTabs).mono (R' := fun x w' => x = .returned (.bool true) ∧ Below V.heap.size V w') fun x w' h2 => ⟨by rw [h2.1, oke y (List.mem_of_getElem? hy)], h2.2⟩
        replace cM1 := Lib.hid cM1
        replace cM2 := Lib.hid cM2
        replace cM3 := Lib.hid cM3
        replace cW1 := Lib.hid cW1
        replace cW2 := Lib.hid cW2
        replace cE := Lib.hid cE
        replace hsz := Lib.hid hsz
        replace hx := Lib.hid hx
        replace hbr := Lib.hid hbr
        clear hcell hi2 hok1 hxin0 oke okb okl hrb hib hrl hil hie hnm hto htr
        obtain ⟨wo, hwo⟩ : ∃ wo : World, wo = wr := ⟨_, rfl⟩
        subst hwo
        go_wp2_with fail
        go_loopw [4] (fun i wi => ∃ (j : Nat), j ≤ xe.length ∧ i = .int .i64 j ∧ Below wo.heap.size wo wi) (fun i _ => xe.length - (intOf i).toNat)
        case atStart => exact ⟨0, Nat.zero_le _, rfl, Below.refl _ _⟩
        case round =>
          obtain ⟨j, hj, rfl, hbi⟩ := hrel
          have d4i := below_in hbi d4
          by_cases hjt : j < xe.length
          · obtain ⟨y, hy⟩ : ∃ e, xe[j]? = some e := ⟨xe[j], by simp [hjt]⟩
            obtain ⟨b2, off2, rfl, _, hcell2⟩ := ex_row hre j y hy
            have hc := cE.out wr hbi j y hy
            obtain ⟨fk, fnm, fn', fa, fcap, fargs, fpos⟩ := y
            have hc : Calls Tryd.prog 19 #[.agg #[.int .u8 fk, .string fnm, .int .i64 fn', .slice fa fargs.length fcap, .int .i64 fpos]] wr _ := hc
            simp only [← Nat.add_assoc] at hcell2
            have c0 := below_in hbi (hcell2 0 _ rfl)
            have c1 := below_in hbi (hcell2 1 _ rfl)
            have c2 := below_in hbi (hcell2 2 _ rfl)
            have c3 := below_in hbi (hcell2 3 _ rfl)
            have c4 := below_in hbi (hcell2 4 _ rfl)
            simp only [Nat.add_zero] at c0 c1 c2 c3 c4
            replace hc := Lib.hid hc
            replace hy := Lib.hid hy
            clear hcell2
            go_wp2_with fail
            refine hc.out.mono ?_
            rintro x W3 ⟨rfl, hb3⟩
            replace hb3 := Lib.hid hb3
            go_wp2_with fail
            go_roundw
            case rel => exact ⟨j + 1, by omega, by go_num, hbi.trans (hb3.out.mono hbi.size)⟩
            case measure => simp [intOf]; omega
          · have d0i := below_in hbi d0
            have d1i := below_in hbi d1
            have d2i := below_in hbi d2
            have d3i := below_in hbi d3
            have d5i := below_in hbi d5
            have d6i := below_in hbi d6
            have d7i := below_in hbi d7
            replace hbi := Lib.hid hbi
            have d5o := Lib.hid d5
            have d6o := Lib.hid d6
            clear d0 d1 d2 d3 d4 d5 d6 d7 hre
            go_wp2_with fail
            go_region_held3 (fun V => V.cell? ⟨b, off + k * 8, none⟩ = some (.int .u8 xk) ∧ V.cell? ⟨b, off + k * 8 + 1, none⟩ = some (.string xnm) ∧ V.cell? ⟨b, off + k * 8 + 2, none⟩ = some (.string xto) ∧ V.cell? ⟨b, off + k * 8 + 3, none⟩ = some (.bool xnw) ∧ V.cell? ⟨b, off + k * 8 + 4, none⟩ = some (.slice ea xe.length ecap) ∧ V.cell? ⟨b, off + k * 8 + 5, none⟩ = some (.slice ba xbody.length bcap) ∧ V.cell? ⟨b, off + k * 8 + 6, none⟩ = some (.slice la xels.length lcap) ∧ V.cell? ⟨b, off + k * 8 + 7, none⟩ = some (.int .i64 xpos)) (first | assumption | go_keep) (fail)
            go_wp2_with fail
            obtain ⟨wq, hwq⟩ : ∃ wq : World, wq = wr := ⟨_, rfl⟩
            subst hwq
            go_loopw [50] (fun i wi => ∃ (m : Nat), m ≤ 3 ∧ i = .int .i64 m ∧ Below wo.heap.size wo wi ∧ Hid (wi.heap[wq.heap.size]? = some (.cells #[.int .u8 xk, .string xnm, .string xto, .bool xnw, .slice ea xe.length ecap, .slice ba xbody.length bcap, .slice la xels.length lcap, .int .i64 xpos] 38 (0, 0))) ∧ Hid (wi.heap[wq.heap.size + 1]? = some (.cells #[.slice (some ⟨wq.heap.size, 0, none⟩) 1 1, .slice ba xbody.length bcap, .slice la xels.length lcap] 36 (0, 0))) ∧ wq.heap.size + 2 ≤ wi.heap.size) (fun i _ => 3 - (intOf i).toNat)
            case atStart =>
              have hwo := hbi.out.size
              exact ⟨0, by omega, rfl, ((hbi.out.drew).alloc hwo _).alloc (by simp; omega) _, Lib.hid ((Below.heap_alloc _ _ _ (by simp)).trans (blk_new _ _ rfl)), Lib.hid (blk_new _ _ (by simp)), by simp⟩
            case round =>
              obtain ⟨m, hm, rfl, hbi2, hbX, hbA, hsz2⟩ := hrel
              have z0 : wr.cell? ⟨wq.heap.size + 1, 0, none⟩ = some (.slice (some ⟨wq.heap.size, 0, none⟩) 1 1) := blk_cell hbA.out rfl
              have z1 : wr.cell? ⟨wq.heap.size + 1, 1, none⟩ = some (.slice ba xbody.length bcap) := blk_cell hbA.out rfl
              have z2 : wr.cell? ⟨wq.heap.size + 1, 2, none⟩ = some (.slice la xels.length lcap) := blk_cell hbA.out rfl
              by_cases hm3 : m < 3
              · have hmm : m = 0 ∨ m = 1 ∨ m = 2 := by omega
                rcases hmm with rfl | rfl | rfl
                · go_wp2_with fail
                  refine (cM1.out wq.heap.size _ hbi2 (rowAt_block hbX.out 1 (by omega) _ (by simp [stCells, St.vals]))).mono ?_
                  rintro x W4 ⟨rfl, hb4⟩
                  have hb4x := Lib.hid ((hb4.block wq.heap.size (by omega)).trans hbX.out)
                  have hb4a := Lib.hid ((hb4.block (wq.heap.size + 1) (by omega)).trans hbA.out)
                  have hb4z := hb4.size
                  have hbi4 := Lib.hid (hbi2.trans (hb4.mono hbi2.size))
                  clear hb4
                  go_wp2_with fail
                  go_roundw
                  case rel => exact ⟨1, by omega, by go_num, hbi4.out, hb4x, hb4a, by omega⟩
                  case measure => simp [intOf]
                · go_wp2_with fail
                  refine (cM2.out _ hbi2).mono ?_
                  rintro x W4 ⟨rfl, hb4⟩
                  have hb4x := Lib.hid ((hb4.block wq.heap.size (by omega)).trans hbX.out)
                  have hb4a := Lib.hid ((hb4.block (wq.heap.size + 1) (by omega)).trans hbA.out)
                  have hb4z := hb4.size
                  have hbi4 := Lib.hid (hbi2.trans (hb4.mono hbi2.size))
                  clear hb4
                  go_wp2_with fail
                  go_roundw
                  case rel => exact ⟨2, by omega, by go_num, hbi4.out, hb4x, hb4a, by omega⟩
                  case measure => simp [intOf]
                · go_wp2_with fail
                  refine (cM3.out _ hbi2).mono ?_
                  rintro x W4 ⟨rfl, hb4⟩
                  have hb4x := Lib.hid ((hb4.block wq.heap.size (by omega)).trans hbX.out)
                  have hb4a := Lib.hid ((hb4.block (wq.heap.size + 1) (by omega)).trans hbA.out)
                  have hb4z := hb4.size
                  have hbi4 := Lib.hid (hbi2.trans (hb4.mono hbi2.size))
                  clear hb4
                  go_wp2_with fail
                  go_roundw
                  case rel => exact ⟨3, by omega, by go_num, hbi4.out, hb4x, hb4a, by omega⟩
                  case measure => simp [intOf]
              · obtain rfl : m = 3 := by omega
                have e5 := below_in hbi2 d5o.out
                have e6 := below_in hbi2 d6o.out
                go_wp2_with fail
                refine (cW1.out _ hbi2).mono ?_
                rintro x W4 ⟨rfl, hb4⟩
                have hbi4 := hbi2.trans (hb4.mono hbi2.size)
                have f6 := below_in hb4 e6
                clear hb4
                go_wp2_with fail
                refine (cW2.out _ hbi4).mono ?_
                rintro x W5 ⟨rfl, hb5⟩
                have hbi5 := Lib.hid (hbi4.trans (hb5.mono hbi4.size))
                clear hb5
                go_wp2_with fail
                go_roundw
                case rel => exact ⟨k + 1, by omega, by go_num, hbr.out.trans (hbi5.out.mono hbr.out.size)⟩
                case measure => simp [intOf]; omega
      · go_wp2_with fail
        go_ret
        exact ⟨rfl, hbr⟩
end Go.Proofs.YtepbkgljkhogaaaDoor.Tr
