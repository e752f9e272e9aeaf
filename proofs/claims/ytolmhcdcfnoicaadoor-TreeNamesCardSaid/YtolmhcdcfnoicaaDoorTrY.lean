/- Walks of the statements' own stmts and long: how many parts statements have, at most. Conditions: none. -/
import Derived.Test.YtolmhcdcfnoicaaDoorTrQ
import Derived.Deep.RegionHeld3
import Derived.IntWalk
import Derived.Deep.DrawnRows
namespace Go.Proofs.YtolmhcdcfnoicaaDoor.Tr
open Go Go.RowKit
open Go.Proofs.YtolmhcdcfnoicaaDoor.Lx

theorem St.sz_pos (e : St) : 1 ≤ e.sz := by obtain ⟨k, nm, to, nw, ea, ecap, e, ba, bcap, body, la, lcap, els, pos⟩ := e; unfold St.sz; omega
theorem St.szL_take (l : List St) (k : Nat) (e : St) (h : l[k]? = some e) : St.szL (l.take (k + 1)) = St.szL (l.take k) + e.sz := by
  induction l generalizing k with
  | nil => simp at h
  | cons x r ih =>
    cases k with
    | zero =>
      simp at h; subst h
      simp [St.szL]
    | succ k =>
      have := ih k (by simpa using h)
      simp only [List.take_succ_cons, St.szL]
      omega
theorem St.szL_len (l : List St) : l.length ≤ St.szL l := by
  induction l with
  | nil => simp
  | cons x r ih =>
    have := St.sz_pos x
    unfold St.szL
    simp only [List.length_cons]
    omega
theorem St.szL_take_le (l : List St) (k : Nat) (hk : k ≤ l.length) : St.szL (l.take k) + (l.length - k) ≤ St.szL l := by
  induction l generalizing k with
  | nil => simp
  | cons x r ih =>
    cases k with
    | zero => have := St.szL_len (x :: r); simp [St.szL] at this ⊢; omega
    | succ k =>
      have := ih k (by simpa using hk)
      simp only [List.take_succ_cons, St.szL, List.length_cons]
      omega

set_option maxHeartbeats 8000000 in
set_option maxRecDepth 100000 in
theorem stmts_any : ∀ (s : Nat) (l : List St) (a : Option Addr) (cap : Nat) (w : World), St.szL l ≤ s → s ≤ 4194304 → RowAt w (fun _ => True) a cap l.length (stCells l) → St.InL w (fun _ => True) l →
    Calls Tryd.prog 28 #[.slice a l.length cap] w fun x w' => SomeV (1000 * St.szL l) x ∧ Below w.heap.size w w' := by
  intro s
  induction s using Nat.strongRecOn with
  | _ s ih =>
    intro l a cap w hs hs4 hrow hin
    have hll : l.length ≤ 9223372036854775807 := by have := hrow.le; have := hrow.lim; unfold maxLen at this; omega
    have hln := St.szL_len l
    have hcx := fun (k : Nat) (x : St) (W : World) (hx : l[k]? = some x) (hb : Below w.heap.size w W) => St.In.below (Kps.of_below (S := fun _ => True) hb) _ (hin.get hx)
    replace hcx := Lib.hid hcx
    have hih := fun (k : Nat) (x : St) (hx : l[k]? = some x) => ih (x.sz - 1) (by have := St.sz_get hx; have := St.sz_pos x; omega)
    replace hih := Lib.hid hih
    clear ih hin
    by_cases h4 : 400 < l.length
    · go_enter Tryd.func28, Tryd.ntmps28
      go_wp2_with fail
      go_ret
      exact ⟨⟨1000, rfl, by omega, by omega⟩, Below.refl _ _⟩
    · go_enter Tryd.func28, Tryd.ntmps28
      go_wp2_with fail
      go_loopw [3, 4, 5] (fun n i _ wr => ∃ (k : Nat) (v : Int), k ≤ l.length ∧ n = .int .i64 v ∧ i = .int .i64 k ∧ 0 ≤ v ∧ v + 1000 * (k : Int) ≤ l.length + 1000 * (St.szL (l.take k) : Int) ∧ Below w.heap.size w wr) (fun _ i _ _ => l.length - (intOf i).toNat)
      case atStart => exact ⟨0, l.length, Nat.zero_le _, rfl, rfl, by omega, by omega, Below.refl _ _⟩
      case round =>
        obtain ⟨k, v, hk, rfl, rfl, hv0, hv1, hbr⟩ := hrel
        have htl := St.szL_take_le l k hk
        by_cases hlt : k < l.length
        · by_cases hv5 : v ≤ 500
          · obtain ⟨x, hx⟩ : ∃ e, l[k]? = some e := ⟨l[k], by simp [hlt]⟩
            obtain ⟨b, off, rfl, _, hcell⟩ := st_row hrow k x hx
            have hxin := hcx.out k x wr hx hbr
            have hst := St.szL_take l k x hx
            have hst2 := St.szL_take_le l (k + 1) (by omega)
            have hi2 := hih.out k x hx
            have hxp := St.sz_pos x
            obtain ⟨xk, xnm, xto, xnw, ea, ecap, xe, ba, bcap, xbody, la, lcap, xels, xpos⟩ := x
            have hsz : St.sz (.mk xk xnm xto xnw ea ecap xe ba bcap xbody la lcap xels xpos) = 1 + Ex.szL xe + St.szL xbody + St.szL xels := by unfold St.sz; rfl
            rw [hsz] at hst hxp hi2
            have hall : 1 + Ex.szL xe + St.szL xbody + St.szL xels ≤ 4194304 := by omega
            unfold St.In at hxin
            obtain ⟨_, hnm, hto, _, hre, hie, hrb, hib, hrl, hil⟩ := hxin
            have hel : xe.length ≤ 9223372036854775807 := by have := hre.le; have := hre.lim; unfold maxLen at this; omega
            unfold maxLen at hnm hto
            simp only [← Nat.add_assoc] at hcell
            have d1 := below_in hbr (hcell 1 _ rfl)
            have d2 := below_in hbr (hcell 2 _ rfl)
            have d4 := below_in hbr (hcell 4 _ rfl)
            have d5 := below_in hbr (hcell 5 _ rfl)
            have d6 := below_in hbr (hcell 6 _ rfl)
            replace hst := Lib.hid hst
            replace hsz := Lib.hid hsz
            clear hcell hx
            by_cases he4 : 400 < xe.length
            · go_wp2_with fail
              go_ret
              exact ⟨⟨1000, rfl, by omega, by have := hst.out; omega⟩, hbr⟩
            by_cases hn3 : 300 < xnm.size
            · go_wp2_with fail
              go_ret
              exact ⟨⟨1000, rfl, by omega, by have := hst.out; omega⟩, hbr⟩
            by_cases ht3 : 300 < xto.size
            · go_wp2_with fail
              go_ret
              exact ⟨⟨1000, rfl, by omega, by have := hst.out; omega⟩, hbr⟩
            obtain ⟨wo, hwo⟩ : ∃ wo : World, wo = wr := ⟨_, rfl⟩
            subst hwo
            go_wp2_with fail
            go_loopw [3, 5] (fun n i wi => ∃ (j : Nat) (u : Int), j ≤ xe.length ∧ n = .int .i64 u ∧ i = .int .i64 j ∧ 0 ≤ u ∧ u ≤ v + 1000 * (Ex.szL (xe.take j) : Int) ∧ Below wo.heap.size wo wi) (fun _ i _ => xe.length - (intOf i).toNat)
            case atStart => exact ⟨0, v, Nat.zero_le _, rfl, rfl, by omega, by omega, Below.refl _ _⟩
            case round =>
              obtain ⟨j, u, hj, rfl, rfl, hu0, hu1, hbi⟩ := hrel
              have hjl := Ex.szL_take_le xe j
              have d4i := below_in hbi d4
              by_cases hjt : j < xe.length ∧ u ≤ 500
              · obtain ⟨hjt, hu5⟩ := hjt
                obtain ⟨y, hy⟩ : ∃ e, xe[j]? = some e := ⟨xe[j], by simp [hjt]⟩
                obtain ⟨b2, off2, rfl, _, hcell2⟩ := ex_row hre j y hy
                have hys := Ex.sz_get hy
                have hc := expr_any y.sz y wr (Nat.le_refl _) (by omega) (Ex.In.below (Kps.of_below hbi) _ (hie.get hy))
                have hys2 := Ex.szL_take xe j y hy
                have hys3 := Ex.szL_take_le xe (j + 1)
                obtain ⟨fk, fnm, fn', fa, fcap, fargs, fpos⟩ := y
                simp only [← Nat.add_assoc] at hcell2
                have c0 := below_in hbi (hcell2 0 _ rfl)
                have c1 := below_in hbi (hcell2 1 _ rfl)
                have c2 := below_in hbi (hcell2 2 _ rfl)
                have c3 := below_in hbi (hcell2 3 _ rfl)
                have c4 := below_in hbi (hcell2 4 _ rfl)
                simp only [Nat.add_zero] at c0 c1 c2 c3 c4
                generalize Ex.sz (.mk fk fnm fn' fa fcap fargs fpos) = xs at *
                replace hc := Lib.hid hc
                clear hcell2 hy
                go_wp2_with fail
                refine hc.out.mono ?_
                rintro x W3 ⟨⟨z, rfl, hz0, hz1⟩, hb3⟩
                replace hb3 := Lib.hid hb3
                have hsum : 0 ≤ u + z ∧ u + z ≤ 4611686018427387904 := by omega
                have hsum2 : u + z ≤ v + 1000 * (Ex.szL (xe.take (j + 1)) : Int) := by omega
                replace hsum2 := Lib.hid hsum2
                obtain ⟨hsa, hsb⟩ := hsum
                replace hys2 := Lib.hid hys2
                clear hys3
                go_wp2_with fail
                go_roundw
                case rel => exact ⟨j + 1, u + z, by omega, rfl, by go_num, hsa, hsum2.out, hbi.trans (hb3.out.mono hbi.size)⟩
                case measure => simp [intOf]; omega
              · have hbw : Below w.heap.size w wr := hbr.trans (hbi.mono hbr.size)
                have d5i := below_in hbi d5
                have d6i := below_in hbi d6
                have hleft : ∀ V z, Below w.heap.size w V → 0 ≤ z → z ≤ v + 1000 * (Ex.szL xe : Int) + 1000 * (St.szL xbody : Int) + 1000 * (St.szL xels : Int) → ∃ (k' : Nat) (v' : Int), k' ≤ l.length ∧ Value.int .i64 z = .int .i64 v' ∧ Value.int .i64 ((k : Int) + 1) = .int .i64 k' ∧ 0 ≤ v' ∧ v' + 1000 * (k' : Int) ≤ l.length + 1000 * (St.szL (l.take k') : Int) ∧ Below w.heap.size w V := fun V z hV h0 h1 =>
                  ⟨k + 1, z, by omega, rfl, by go_num, h0, by have := hst.out; omega, hV⟩
                replace hleft := Lib.hid hleft
                by_cases hu5 : u ≤ 500
                · have hje : ¬ j < xe.length := fun h => hjt ⟨h, hu5⟩
                  have hcb := fun V (h : Below wo.heap.size wo V ∧ V.cell? ⟨b, off + k * 8 + 5, none⟩ = some (.slice ba xbody.length bcap) ∧ V.cell? ⟨b, off + k * 8 + 6, none⟩ = some (.slice la xels.length lcap)) => (hi2 xbody ba bcap V (by omega) (by omega) (hrb.below (Kps.of_below h.1)) (St.InL.below (Kps.of_below h.1) _ hib)).mono (R' := fun x w' => SomeV (1000 * St.szL xbody) x ∧ (Below wo.heap.size wo w' ∧ w'.cell? ⟨b, off + k * 8 + 5, none⟩ = some (.slice ba xbody.length bcap) ∧ w'.cell? ⟨b, off + k * 8 + 6, none⟩ = some (.slice la xels.length lcap))) fun x w' h2 => ⟨h2.1, h.1.trans (h2.2.mono h.1.size), below_in h2.2 h.2.1, below_in h2.2 h.2.2⟩
                  have hcl := fun V (h : Below wo.heap.size wo V ∧ V.cell? ⟨b, off + k * 8 + 5, none⟩ = some (.slice ba xbody.length bcap) ∧ V.cell? ⟨b, off + k * 8 + 6, none⟩ = some (.slice la xels.length lcap)) => (hi2 xels la lcap V (by omega) (by omega) (hrl.below (Kps.of_below h.1)) (St.InL.below (Kps.of_below h.1) _ hil)).mono (R' := fun x w' => SomeV (1000 * St.szL xels) x ∧ (Below wo.heap.size wo w' ∧ w'.cell? ⟨b, off + k * 8 + 5, none⟩ = some (.slice ba xbody.length bcap) ∧ w'.cell? ⟨b, off + k * 8 + 6, none⟩ = some (.slice la xels.length lcap))) fun x w' h2 => ⟨h2.1, h.1.trans (h2.2.mono h.1.size), below_in h2.2 h.2.1, below_in h2.2 h.2.2⟩
                  replace hcb := Lib.hid hcb
                  replace hcl := Lib.hid hcl
                  have hS : Below wo.heap.size wo wr.drew ∧ wr.drew.cell? ⟨b, off + k * 8 + 5, none⟩ = some (.slice ba xbody.length bcap) ∧ wr.drew.cell? ⟨b, off + k * 8 + 6, none⟩ = some (.slice la xels.length lcap) := ⟨hbi.drew, d5i, d6i⟩
                  have hfin : Hid (∀ V, (Below wo.heap.size wo V ∧ V.cell? ⟨b, off + k * 8 + 5, none⟩ = some (.slice ba xbody.length bcap) ∧ V.cell? ⟨b, off + k * 8 + 6, none⟩ = some (.slice la xels.length lcap)) → Below w.heap.size w V) := Lib.hid fun V h => hbr.trans (h.1.mono hbr.size)
                  clear hi2 hrb hib hrl hil hre hie
                  go_wp2_with fail
                  go_region_held3 (fun V => Below wo.heap.size wo V ∧ V.cell? ⟨b, off + k * 8 + 5, none⟩ = some (.slice ba xbody.length bcap) ∧ V.cell? ⟨b, off + k * 8 + 6, none⟩ = some (.slice la xels.length lcap)) (first | exact hS | assumption | (refine ⟨?_, ?_, ?_⟩ <;> assumption)) (first | (go_at_call 28; (with_reducible refine (hcb.out _ ?_).mono ?_); (first | exact hS | assumption | (refine ⟨?_, ?_, ?_⟩ <;> assumption)); (rintro x w' ⟨⟨z1, rfl, hz10, hz11⟩, hS⟩; have hw1 : IntKind.i64.wrap (u + z1) = u + z1 := IntWalk.i64_in _ (by omega))) | (go_at_call 28; (with_reducible refine (hcl.out _ ?_).mono ?_); (first | exact hS | assumption | (refine ⟨?_, ?_, ?_⟩ <;> assumption)); (rintro x w' ⟨⟨z2, rfl, hz20, hz21⟩, hS⟩; have hw2 : IntKind.i64.wrap (u + z1 + z2) = u + z1 + z2 := IntWalk.i64_in _ (by omega))))
                  all_goals
                    go_wp2_with fail
                    go_roundw
                    case rel => exact hleft.out _ _ (hfin.out _ (by assumption)) (by omega) (by omega)
                    case measure => simp [intOf]; omega
                · go_wp2_with fail
                  all_goals
                    go_roundw
                    case rel => exact hleft.out _ _ hbw hu0 (by omega)
                    case measure => simp [intOf]; omega
          · go_wp2_with fail
            go_ret
            exact ⟨⟨v, rfl, hv0, by omega⟩, hbr⟩
        · go_wp2_with fail
          go_ret
          exact ⟨⟨v, rfl, hv0, by omega⟩, hbr⟩

/-- some truth -/
def SomeB (x : Ending) : Prop := ∃ v : Bool, x = .returned (.bool v)
theorem De.szL_take (l : List De) (k : Nat) (e : De) (h : l[k]? = some e) : De.szL (l.take (k + 1)) = De.szL (l.take k) + St.szL e.body := by
  induction l generalizing k with
  | nil => simp at h
  | cons x r ih =>
    cases k with
    | zero =>
      simp at h; subst h
      simp [De.szL]
    | succ k =>
      have := ih k (by simpa using h)
      simp only [List.take_succ_cons, De.szL]
      omega
theorem De.szL_take_le (l : List De) (k : Nat) : De.szL (l.take k) ≤ De.szL l := by
  induction l generalizing k with
  | nil => simp
  | cons x r ih =>
    cases k with
    | zero => simp [De.szL]
    | succ k =>
      have := ih k
      simp only [List.take_succ_cons, De.szL]
      omega
theorem str_row {w : World} {S : Nat → Prop} {a : Option Addr} {cap : Nat} {l : List ByteArray} (h : RowAt w S a cap l.length (strCells l)) (i : Nat) (e : ByteArray) (he : l[i]? = some e) :
    ∃ b off, a = some ⟨b, off, none⟩ ∧ S b ∧ w.cell? ⟨b, off + i, none⟩ = some (.string e) := h.at_ i (.string e) (by rw [strCells, List.getElem?_map, he]; rfl)

set_option maxHeartbeats 8000000 in
set_option maxRecDepth 100000 in
theorem long_any (l : List De) (a : Option Addr) (cap : Nat) (w : World) (hs4 : De.szL l ≤ 4194304) (hrow : RowAt w (fun _ => True) a cap l.length (deCells l)) (hin : De.InL w (fun _ => True) l) :
    Calls Tryd.prog 8 #[.slice a l.length cap] w fun x w' => SomeB x ∧ Below w.heap.size w w' := by
  have hll : l.length ≤ 9223372036854775807 := by have := hrow.le; have := hrow.lim; unfold maxLen at this; omega
  have hcx := fun (k : Nat) (x : De) (W : World) (hx : l[k]? = some x) (hb : Below w.heap.size w W) => De.In.below (Kps.of_below (S := fun _ => True) hb) (hin x (List.mem_of_getElem? hx))
  replace hcx := Lib.hid hcx
  clear hin
  by_cases h4 : 300 < l.length
  · go_enter Tryd.func8, Tryd.ntmps8
    go_wp2_with fail
    go_ret
    exact ⟨⟨_, rfl⟩, Below.refl _ _⟩
  · go_enter Tryd.func8, Tryd.ntmps8
    go_wp2_with fail
    go_loopw [3, 4, 5] (fun n i _ wr => ∃ (k : Nat) (v : Int), k ≤ l.length ∧ n = .int .i64 v ∧ i = .int .i64 k ∧ 0 ≤ v ∧ v ≤ 300 + 1000 * (De.szL (l.take k) : Int) ∧ Below w.heap.size w wr) (fun _ i _ _ => l.length - (intOf i).toNat)
    case atStart => exact ⟨0, l.length, Nat.zero_le _, rfl, rfl, by omega, by omega, Below.refl _ _⟩
    case round =>
      obtain ⟨k, v, hk, rfl, rfl, hv0, hv1, hbr⟩ := hrel
      have htl := De.szL_take_le l k
      by_cases hlt : k < l.length
      · by_cases hv5 : v ≤ 800
        · obtain ⟨x, hx⟩ : ∃ e, l[k]? = some e := ⟨l[k], by simp [hlt]⟩
          obtain ⟨b, off, rfl, _, hcell⟩ := de_row hrow k x hx
          have hxin := hcx.out k x wr hx hbr
          have hst := De.szL_take l k x hx
          have hst2 := De.szL_take_le l (k + 1)
          obtain ⟨xk, xnm, xn, pa, pcap, xp, ba, bcap, xbody, xpos⟩ := x
          obtain ⟨_, hnm, _, _, hrp, hip, hrb, hib⟩ := hxin
          simp only at hnm hrp hip hrb hib hst
          have hpl : xp.length ≤ 9223372036854775807 := by have := hrp.le; have := hrp.lim; unfold maxLen at this; omega
          unfold maxLen at hnm hip
          simp only [← Nat.add_assoc] at hcell
          have d1 := below_in hbr (hcell 1 _ rfl)
          have d3 := below_in hbr (hcell 3 _ rfl)
          have d4 := below_in hbr (hcell 4 _ rfl)
          have hstm := fun V (h : Below wr.heap.size wr V) => stmts_any (St.szL xbody) xbody ba bcap V (Nat.le_refl _) (by omega) (hrb.below (Kps.of_below h)) (St.InL.below (Kps.of_below h) _ hib)
          replace hst := Lib.hid hst
          replace hstm := Lib.hid hstm
          replace hip := Lib.hid hip
          clear hcell hx hrb hib
          by_cases he4 : 100 < xp.length
          · go_wp2_with fail
            go_ret
            exact ⟨⟨_, rfl⟩, hbr⟩
          by_cases hn3 : 300 < xnm.size
          · go_wp2_with fail
            go_ret
            exact ⟨⟨_, rfl⟩, hbr⟩
          obtain ⟨wo, hwo⟩ : ∃ wo : World, wo = wr := ⟨_, rfl⟩
          subst hwo
          go_wp2_with fail
          go_loopw [5] (fun i wi => ∃ (j : Nat), j ≤ xp.length ∧ i = .int .i64 j ∧ wi = wo) (fun i _ => xp.length - (intOf i).toNat)
          case atStart => exact ⟨0, Nat.zero_le _, rfl, rfl⟩
          case round =>
            obtain ⟨j, hj, rfl, rfl⟩ := hrel
            by_cases hjt : j < xp.length
            · obtain ⟨y, hy⟩ : ∃ e, xp[j]? = some e := ⟨xp[j], by simp [hjt]⟩
              obtain ⟨b2, off2, rfl, _, c0⟩ := str_row hrp j y hy
              have hyl := hip.out y (List.mem_of_getElem? hy)
              replace hy := Lib.hid hy
              by_cases hy3 : 300 < y.size
              · go_wp2_with fail
                go_ret
                exact ⟨⟨_, rfl⟩, hbr⟩
              · go_wp2_with fail
                go_roundw
                case rel => exact ⟨j + 1, by omega, by go_num, trivial⟩
                case measure => simp [intOf]; omega
            · go_wp2_with fail
              refine (hstm.out _ (Below.refl _ _)).mono ?_
              rintro x W3 ⟨⟨z, rfl, hz0, hz1⟩, hb3⟩
              have hsum : 0 ≤ v + z ∧ v + z ≤ 4611686018427387904 := by have := hst.out; omega
              have hsum2 : v + z ≤ 300 + 1000 * (De.szL (l.take (k + 1)) : Int) := by have := hst.out; omega
              replace hsum2 := Lib.hid hsum2
              replace hb3 := Lib.hid hb3
              obtain ⟨hsa, hsb⟩ := hsum
              go_wp2_with fail
              go_roundw
              case rel => exact ⟨k + 1, v + z, by omega, rfl, by go_num, hsa, hsum2.out, hbr.trans (hb3.out.mono hbr.size)⟩
              case measure => simp [intOf]; omega
        · go_wp2_with fail
          go_ret
          exact ⟨⟨_, rfl⟩, hbr⟩
      · go_wp2_with fail
        go_ret
        exact ⟨⟨_, rfl⟩, hbr⟩
end Go.Proofs.YtolmhcdcfnoicaaDoor.Tr
