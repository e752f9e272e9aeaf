/- Walks of the document's own answers: sameExprs, SameExpr. Conditions: none. -/
import Derived.Test.YtolmhcdcfnoicaaDoorTrN
import Derived.Test.YtolmhcdcfnoicaaDoorTrZ
import Derived.Deep.RegionHeld3
import Derived.Deep.DrawnRows
namespace Go.Proofs.YtolmhcdcfnoicaaDoor.Tr
open Go Go.RowKit
open Go.Proofs.YtolmhcdcfnoicaaDoor.Lx

set_option maxHeartbeats 8000000 in
set_option maxRecDepth 100000 in
theorem refsameEs_step (l l' : List Ex) (a a' : Option Addr) (cap cap' : Nat) (w : World) (hrow : RowAt w (fun _ => True) a cap l.length (exCells l)) (hrow' : RowAt w (fun _ => True) a' cap' l'.length (exCells l'))
    (hcall : ∀ e e' W, e ∈ l → e' ∈ l' → Below w.heap.size w W → Calls Tryd.prog 22 #[.agg ⟨e.vals⟩, .agg ⟨e'.vals⟩] W fun x W' => x = .returned (.bool (sameE e e')) ∧ Below W.heap.size W W') :
    Calls Tryd.prog 45 #[.slice a l.length cap, .slice a' l'.length cap'] w fun x w' => x = .returned (.bool (sameEL l l')) ∧ Below w.heap.size w w' := by
  have hll : l.length ≤ 9223372036854775807 := by have := hrow.le; have := hrow.lim; unfold maxLen at this; omega
  have hll' : l'.length ≤ 9223372036854775807 := by have := hrow'.le; have := hrow'.lim; unfold maxLen at this; omega
  by_cases hle : l.length = l'.length
  · have hne : ((l.length : Int) != (l'.length : Int)) = false := by rw [hle]; simp
    have hle' := Lib.hid hle
    go_enter Tryd.func45, Tryd.ntmps45
    clear hle
    go_wp2_with fail
    go_loopw [5] (fun i wr => ∃ k : Nat, k ≤ l.length ∧ i = .int .i64 k ∧ Hid (sameEL l l' = sameEL (l.drop k) (l'.drop k)) ∧ Below w.heap.size w wr) (fun i _ => l.length - (intOf i).toNat)
    case atStart => exact ⟨0, Nat.zero_le _, rfl, Lib.hid rfl, Below.refl _ _⟩
    case round =>
      obtain ⟨k, hk, rfl, hsame, hbr⟩ := hrel
      by_cases hlt : k < l.length
      · have hlt' : k < l'.length := by rw [← hle'.out]; exact hlt
        obtain ⟨e, he⟩ : ∃ e, l[k]? = some e := ⟨l[k], by simp [hlt]⟩
        obtain ⟨e', he'⟩ : ∃ e, l'[k]? = some e := ⟨l'[k], by simp [hlt']⟩
        obtain ⟨b, off, rfl, _, hcell⟩ := ex_row hrow k e he
        obtain ⟨b', off', rfl, _, hcell'⟩ := ex_row hrow' k e' he'
        have hc := hcall e e' wr.drew (List.mem_of_getElem? he) (List.mem_of_getElem? he') hbr.drew
        have hdr := sameEL_drop l l' k e e' he he'
        have hsame1 := hsame.out
        rw [hdr] at hsame1
        obtain ⟨ek, enm, en, ea, ecap, eargs, epos⟩ := e
        obtain ⟨fk, fnm, fn', fa, fcap, fargs, fpos⟩ := e'
        have hc : Calls Tryd.prog 22 #[.agg #[.int .u8 ek, .string enm, .int .i64 en, .slice ea eargs.length ecap, .int .i64 epos], .agg #[.int .u8 fk, .string fnm, .int .i64 fn', .slice fa fargs.length fcap, .int .i64 fpos]] wr.drew _ := hc
        simp only [← Nat.add_assoc] at hcell hcell'
        have d0 := below_in hbr (hcell 0 _ rfl)
        have d1 := below_in hbr (hcell 1 _ rfl)
        have d2 := below_in hbr (hcell 2 _ rfl)
        have d3 := below_in hbr (hcell 3 _ rfl)
        have d4 := below_in hbr (hcell 4 _ rfl)
        have f0 := below_in hbr (hcell' 0 _ rfl)
        have f1 := below_in hbr (hcell' 1 _ rfl)
        have f2 := below_in hbr (hcell' 2 _ rfl)
        have f3 := below_in hbr (hcell' 3 _ rfl)
        have f4 := below_in hbr (hcell' 4 _ rfl)
        simp only [Nat.add_zero] at d0 d1 d2 d3 d4 f0 f1 f2 f3 f4
        clear hcell hcell' he he' hrow hrow' hcall hdr
        generalize sameE (.mk ek enm en ea ecap eargs epos) (.mk fk fnm fn' fa fcap fargs fpos) = sv at *
        replace hsame1 := Lib.hid hsame1
        have hcc := hc.mono (R' := fun x W' => x = .returned (.bool sv) ∧ (W'.cell? ⟨b, off + k * 5, none⟩ = some (.int .u8 ek) ∧ W'.cell? ⟨b, off + k * 5 + 1, none⟩ = some (.string enm) ∧ W'.cell? ⟨b, off + k * 5 + 2, none⟩ = some (.int .i64 en) ∧ W'.cell? ⟨b, off + k * 5 + 3, none⟩ = some (.slice ea eargs.length ecap) ∧ W'.cell? ⟨b, off + k * 5 + 4, none⟩ = some (.int .i64 epos) ∧ W'.cell? ⟨b', off' + k * 5, none⟩ = some (.int .u8 fk) ∧ W'.cell? ⟨b', off' + k * 5 + 1, none⟩ = some (.string fnm) ∧ W'.cell? ⟨b', off' + k * 5 + 2, none⟩ = some (.int .i64 fn') ∧ W'.cell? ⟨b', off' + k * 5 + 3, none⟩ = some (.slice fa fargs.length fcap) ∧ W'.cell? ⟨b', off' + k * 5 + 4, none⟩ = some (.int .i64 fpos)) ∧ Hid (Below w.heap.size w W')) fun x W' h => ⟨h.1, ⟨below_in h.2 d0, below_in h.2 d1, below_in h.2 d2, below_in h.2 d3, below_in h.2 d4, below_in h.2 f0, below_in h.2 f1, below_in h.2 f2, below_in h.2 f3, below_in h.2 f4⟩, Lib.hid (hbr.drew.trans (h.2.mono hbr.size))⟩
        replace hcc := Lib.hid hcc
        have hS : wr.drew.cell? ⟨b, off + k * 5, none⟩ = some (.int .u8 ek) ∧ wr.drew.cell? ⟨b, off + k * 5 + 1, none⟩ = some (.string enm) ∧ wr.drew.cell? ⟨b, off + k * 5 + 2, none⟩ = some (.int .i64 en) ∧ wr.drew.cell? ⟨b, off + k * 5 + 3, none⟩ = some (.slice ea eargs.length ecap) ∧ wr.drew.cell? ⟨b, off + k * 5 + 4, none⟩ = some (.int .i64 epos) ∧ wr.drew.cell? ⟨b', off' + k * 5, none⟩ = some (.int .u8 fk) ∧ wr.drew.cell? ⟨b', off' + k * 5 + 1, none⟩ = some (.string fnm) ∧ wr.drew.cell? ⟨b', off' + k * 5 + 2, none⟩ = some (.int .i64 fn') ∧ wr.drew.cell? ⟨b', off' + k * 5 + 3, none⟩ = some (.slice fa fargs.length fcap) ∧ wr.drew.cell? ⟨b', off' + k * 5 + 4, none⟩ = some (.int .i64 fpos) := ⟨d0, d1, d2, d3, d4, f0, f1, f2, f3, f4⟩
        clear hc
        go_wp2_with fail
        go_region_held3 (fun V => V.cell? ⟨b, off + k * 5, none⟩ = some (.int .u8 ek) ∧ V.cell? ⟨b, off + k * 5 + 1, none⟩ = some (.string enm) ∧ V.cell? ⟨b, off + k * 5 + 2, none⟩ = some (.int .i64 en) ∧ V.cell? ⟨b, off + k * 5 + 3, none⟩ = some (.slice ea eargs.length ecap) ∧ V.cell? ⟨b, off + k * 5 + 4, none⟩ = some (.int .i64 epos) ∧ V.cell? ⟨b', off' + k * 5, none⟩ = some (.int .u8 fk) ∧ V.cell? ⟨b', off' + k * 5 + 1, none⟩ = some (.string fnm) ∧ V.cell? ⟨b', off' + k * 5 + 2, none⟩ = some (.int .i64 fn') ∧ V.cell? ⟨b', off' + k * 5 + 3, none⟩ = some (.slice fa fargs.length fcap) ∧ V.cell? ⟨b', off' + k * 5 + 4, none⟩ = some (.int .i64 fpos)) (first | exact hS | assumption) (first | (go_at_call 22; (with_reducible refine hcc.out.mono ?_); (rintro x W3 ⟨rfl, hS, hb3⟩)))
        all_goals
          cases sv
          · have hF : Hid (sameEL l l' = false) := Lib.hid (by rw [hsame1.out]; rfl)
            go_wp2_with fail
            go_ret
            exact ⟨ret_bool hF.out.symm, hb3.out⟩
          · have hF : Hid (sameEL l l' = sameEL (l.drop (k + 1)) (l'.drop (k + 1))) := Lib.hid (by rw [hsame1.out]; rfl)
            go_wp2_with fail
            go_roundw
            case rel => exact ⟨k + 1, by omega, by go_num, hF, hb3.out⟩
            case measure => simp [intOf]; omega
      · have hF : Hid (sameEL l l' = true) := Lib.hid (by
          rw [hsame.out, List.drop_of_length_le (by omega), List.drop_of_length_le (by have := hle'.out; omega)]; rfl)
        clear hsame
        go_wp2_with fail
        go_ret
        exact ⟨ret_bool hF.out.symm, hbr⟩
  · have hne : ((l.length : Int) != (l'.length : Int)) = true := by simp; omega
    have hF : Hid (sameEL l l' = false) := Lib.hid (by rw [Bool.eq_false_iff]; intro h; exact hle (sameEL_len _ _ h))
    go_enter Tryd.func45, Tryd.ntmps45
    go_wp2_with fail
    go_ret
    exact ⟨ret_bool hF.out.symm, Below.refl _ _⟩
set_option maxHeartbeats 1600000 in
set_option maxRecDepth 100000 in
theorem refsameE_any : ∀ (s : Nat) (e e' : Ex) (w : World), e.sz ≤ s → Ex.In w (fun _ => True) e → Ex.In w (fun _ => True) e' →
    Calls Tryd.prog 22 #[.agg ⟨e.vals⟩, .agg ⟨e'.vals⟩] w fun x w' => x = .returned (.bool (sameE e e')) ∧ Below w.heap.size w w' := by
  intro s
  induction s using Nat.strongRecOn with
  | _ s ih =>
    intro e e' w hs hin hin'
    obtain ⟨ek, enm, en, ea, ecap, eargs, epos⟩ := e
    obtain ⟨fk, fnm, fn', fa, fcap, fargs, fpos⟩ := e'
    unfold Ex.In at hin hin'
    have hsz : Ex.szL eargs < s := by unfold Ex.sz at hs; omega
    have hE := sameE_eq ek enm en ea ecap eargs epos fk fnm fn' fa fcap fargs fpos
    have hc := fun W (hb : Below w.heap.size w W) => refsameEs_step eargs fargs ea fa ecap fcap W (hin.2.2.2.2.1.below (Kps.of_below hb)) (hin'.2.2.2.2.1.below (Kps.of_below hb))
      (fun e e' W2 he he' hb2 => ih (Ex.szL eargs) hsz e e' W2 (Ex.mem_sz he) (Ex.In.below (Kps.of_below (hb.trans (hb2.mono hb.size))) _ (Ex.mem_in hin.2.2.2.2.2 he)) (Ex.In.below (Kps.of_below (hb.trans (hb2.mono hb.size))) _ (Ex.mem_in hin'.2.2.2.2.2 he')))
    generalize sameE (.mk ek enm en ea ecap eargs epos) (.mk fk fnm fn' fa fcap fargs fpos) = sv at *
    generalize sameEL eargs fargs = sl at *
    show Calls Tryd.prog 22 #[.agg #[.int .u8 ek, .string enm, .int .i64 en, .slice ea eargs.length ecap, .int .i64 epos], .agg #[.int .u8 fk, .string fnm, .int .i64 fn', .slice fa fargs.length fcap, .int .i64 fpos]] w _
    replace hc := Lib.hid hc
    clear ih hin hin' hs
    have hb2 : Below w.heap.size w ((w.alloc (.cells #[.int .u8 ek, .string enm, .int .i64 en, .slice ea eargs.length ecap, .int .i64 epos] 25)).alloc (.cells #[.int .u8 fk, .string fnm, .int .i64 fn', .slice fa fargs.length fcap, .int .i64 fpos] 25)) := ((Below.refl _ _).alloc (Nat.le_refl _) _).alloc (by simp) _
    by_cases h1 : ek = fk
    · subst h1
      by_cases h2 : enm = fnm
      · subst h2
        by_cases h3 : en = fn'
        · subst h3
          have hF : Hid (sv = sl) := Lib.hid (by rw [hE]; simp)
          clear hE
          go_enter Tryd.func22, Tryd.ntmps22
          go_wp2_with fail
          refine (hc.out _ hb2).mono ?_
          rintro x w3 ⟨rfl, hb3⟩
          go_wp2_with fail
          go_ret
          exact ⟨ret_bool hF.out.symm, hb2.trans (hb3.mono (by simp; omega))⟩
        · have hF : Hid (sv = false) := Lib.hid (by rw [hE, decide_eq_false h3]; simp)
          have hx : (en == fn') = false := by simpa using h3
          clear hE h3
          go_enter Tryd.func22, Tryd.ntmps22
          go_wp2_with fail
          go_ret
          exact ⟨ret_bool hF.out.symm, hb2⟩
      · have hF : Hid (sv = false) := Lib.hid (by rw [hE, decide_eq_false h2]; simp)
        have hx := str_ne h2
        clear hE h2
        go_enter Tryd.func22, Tryd.ntmps22
        go_wp2_with fail
        go_ret
        exact ⟨ret_bool hF.out.symm, hb2⟩
    · have hF : Hid (sv = false) := Lib.hid (by rw [hE, decide_eq_false h1]; simp)
      have hx : (ek == fk) = false := by simpa using h1
      clear hE h1
      go_enter Tryd.func22, Tryd.ntmps22
      go_wp2_with fail
      go_ret
      exact ⟨ret_bool hF.out.symm, hb2⟩
theorem refsameEs_any (l l' : List Ex) (a a' : Option Addr) (cap cap' : Nat) (w : World) (hrow : RowAt w (fun _ => True) a cap l.length (exCells l)) (hrow' : RowAt w (fun _ => True) a' cap' l'.length (exCells l')) (hin : Ex.InL w (fun _ => True) l) (hin' : Ex.InL w (fun _ => True) l') :
    Calls Tryd.prog 45 #[.slice a l.length cap, .slice a' l'.length cap'] w fun x w' => x = .returned (.bool (sameEL l l')) ∧ Below w.heap.size w w' :=
  refsameEs_step l l' a a' cap cap' w hrow hrow' fun e e' W he he' hb => refsameE_any e.sz e e' W (Nat.le_refl _) (Ex.In.below (Kps.of_below hb) _ (Ex.mem_in hin he)) (Ex.In.below (Kps.of_below hb) _ (Ex.mem_in hin' he'))
end Go.Proofs.YtolmhcdcfnoicaaDoor.Tr
