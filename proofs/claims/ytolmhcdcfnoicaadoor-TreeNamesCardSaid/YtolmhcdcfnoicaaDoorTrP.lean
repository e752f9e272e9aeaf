/- Walks of slices.Equal at texts, tree.sameDecl, tree.Same. Conditions: none. -/
import Derived.Test.YtolmhcdcfnoicaaDoorTrO
import Derived.Deep.QuietTactic
namespace Go.Proofs.YtolmhcdcfnoicaaDoor.Tr
open Go Go.RowKit
open Go.Proofs.YtolmhcdcfnoicaaDoor.Lx

set_option maxHeartbeats 800000 in
set_option maxRecDepth 100000 in
theorem equalT_any (l l' : List ByteArray) (a a' : Option Addr) (cap cap' : Nat) (w : World) (hrow : RowAt w (fun _ => True) a cap l.length (strCells l)) (hrow' : RowAt w (fun _ => True) a' cap' l'.length (strCells l')) :
    Calls Tryd.prog 59 #[.slice a l.length cap, .slice a' l'.length cap'] w fun x w' => x = .returned (.bool (decide (l = l'))) ∧ Below w.heap.size w w' := by
  have hll : l.length ≤ 9223372036854775807 := by have := hrow.le; have := hrow.lim; unfold maxLen at this; omega
  have hll' : l'.length ≤ 9223372036854775807 := by have := hrow'.le; have := hrow'.lim; unfold maxLen at this; omega
  have hlc : l.length ≤ cap ∧ cap ≤ 9223372036854775807 := ⟨hrow.le, by have := hrow.lim; unfold maxLen at this; omega⟩
  have hlc' : l'.length ≤ cap' ∧ cap' ≤ 9223372036854775807 := ⟨hrow'.le, by have := hrow'.lim; unfold maxLen at this; omega⟩
  obtain ⟨hc11, hc12⟩ := hlc
  obtain ⟨hc21, hc22⟩ := hlc'
  by_cases hle : l.length = l'.length
  · have hne : ((l.length : Int) != (l'.length : Int)) = false := by rw [hle]; simp
    have hle' := Lib.hid hle
    go_enter Tryd.func59, Tryd.ntmps59
    clear hle
    go_wp2
    go_loopw [13] (fun i wr => ∃ k : Nat, k ≤ l.length ∧ i = .int .i64 k ∧ l.take k = l'.take k ∧ ∃ m, wr = w.drewN m) (fun i _ => l.length - (intOf i).toNat)
    case atStart => exact ⟨0, Nat.zero_le _, rfl, rfl, 0, rfl⟩
    case round =>
      obtain ⟨k, hk, rfl, htk, m, rfl⟩ := hrel
      replace htk := Lib.hid htk
      by_cases hlt : k < l.length
      · have hlt' : k < l'.length := by rw [← hle'.out]; exact hlt
        obtain ⟨x, hx⟩ : ∃ e, l[k]? = some e := ⟨l[k], by simp [hlt]⟩
        obtain ⟨y, hy⟩ : ∃ e, l'[k]? = some e := ⟨l'[k], by simp [hlt']⟩
        obtain ⟨b, off, rfl, _, hcell⟩ := hrow.at_ k (.string x) (by unfold strCells; rw [List.getElem?_map, hx]; rfl)
        obtain ⟨b', off', rfl, _, hcell'⟩ := hrow'.at_ k (.string y) (by unfold strCells; rw [List.getElem?_map, hy]; rfl)
        replace hx := Lib.hid hx
        replace hy := Lib.hid hy
        have hkl' : k < l'.length := hlt'
        by_cases hxy : x = y
        · have HT : Hid (l.take (k + 1) = l'.take (k + 1)) := Lib.hid (by rw [List.take_add_one, List.take_add_one, htk.out, hx.out, hy.out, hxy])
          subst hxy
          go_wp2
          go_quiet (fail)
          go_wp2
          go_roundw
          case rel => exact ⟨k + 1, by omega, by go_num, HT.out, _, rfl⟩
          case measure => simp [intOf]; omega
        · have HN : Hid (decide (l = l') = false) := Lib.hid (by
            rw [decide_eq_false_iff_not]; intro e; apply hxy
            have h3 := hx.out; rw [e, hy.out] at h3
            exact (Option.some.inj h3).symm)
          have hs1 := str_ne hxy
          have hs2 : (x.toList != y.toList) = true := by unfold bne; rw [hs1]; rfl
          clear hxy
          go_wp2
          go_quiet (fail)
          go_wp2
          go_ret
          exact ⟨ret_bool HN.out.symm, ⟨rfl, rfl, rfl, Nat.le_refl _, fun _ _ => rfl⟩⟩
      · have HE : Hid (decide (l = l') = true) := Lib.hid (by
          have h3 := htk.out
          have h4 := hle'.out
          rw [List.take_of_length_le (by omega), List.take_of_length_le (by omega)] at h3
          simpa using h3)
        clear htk
        go_wp2
        go_ret
        exact ⟨ret_bool HE.out.symm, ⟨rfl, rfl, rfl, Nat.le_refl _, fun _ _ => rfl⟩⟩
  · have hne : ((l.length : Int) != (l'.length : Int)) = true := by simp; omega
    have hF : Hid (decide (l = l') = false) := Lib.hid (by rw [decide_eq_false_iff_not]; intro h; exact hle (by rw [h]))
    go_enter Tryd.func59, Tryd.ntmps59
    go_wp2
    go_ret
    exact ⟨ret_bool hF.out.symm, Below.refl _ _⟩

def sameD (d e : De) : Bool := decide (d.kind = e.kind) && decide (d.name = e.name) && decide (d.n = e.n) && decide (d.params = e.params) && sameSL d.body e.body
def sameDL : List De → List De → Bool
  | [], l => l.isEmpty
  | e :: r, l => match l with
    | [] => false
    | e' :: r' => sameD e e' && sameDL r r'
theorem sameDL_len : ∀ l l', sameDL l l' = true → l.length = l'.length
  | [], l', h => by unfold sameDL at h; simp at h; rw [h]
  | e :: r, [], h => by unfold sameDL at h; cases h
  | e :: r, e' :: r', h => by
    unfold sameDL at h
    rw [Bool.and_eq_true] at h
    rw [List.length_cons, List.length_cons, sameDL_len r r' h.2]
theorem sameDL_drop : ∀ (l l' : List De) (k : Nat) (e e' : De), l[k]? = some e → l'[k]? = some e' → sameDL (l.drop k) (l'.drop k) = (sameD e e' && sameDL (l.drop (k + 1)) (l'.drop (k + 1)))
  | l, l', k, e, e', h, h' => by
    have h1 := (List.getElem?_eq_some_iff.1 h)
    have h2 := (List.getElem?_eq_some_iff.1 h')
    rw [List.drop_eq_getElem_cons h1.1, List.drop_eq_getElem_cons h2.1, h1.2, h2.2]
    rw [sameDL]

set_option maxHeartbeats 1600000 in
set_option maxRecDepth 100000 in
theorem equalD_step (l l' : List De) (a a' : Option Addr) (cap cap' : Nat) (w : World) (hrow : RowAt w (fun _ => True) a cap l.length (deCells l)) (hrow' : RowAt w (fun _ => True) a' cap' l'.length (deCells l'))
    (hcall : ∀ e e' W, e ∈ l → e' ∈ l' → Below w.heap.size w W → Calls Tryd.prog 40 #[.agg ⟨e.vals⟩, .agg ⟨e'.vals⟩] W fun x W' => x = .returned (.bool (sameD e e')) ∧ Below W.heap.size W W') :
    Calls Tryd.prog 39 #[.slice a l.length cap, .slice a' l'.length cap', .func (.func 40) #[] #[]] w fun x w' => x = .returned (.bool (sameDL l l')) ∧ Below w.heap.size w w' := by
  have hll : l.length ≤ 9223372036854775807 := by have := hrow.le; have := hrow.lim; unfold maxLen at this; omega
  have hll' : l'.length ≤ 9223372036854775807 := by have := hrow'.le; have := hrow'.lim; unfold maxLen at this; omega
  by_cases hle : l.length = l'.length
  · have hne : ((l.length : Int) != (l'.length : Int)) = false := by rw [hle]; simp
    have hle' := Lib.hid hle
    go_enter Tryd.func39, Tryd.ntmps39
    clear hle
    go_wp2
    go_loopw [17] (fun i wr => ∃ k : Nat, k ≤ l.length ∧ i = .int .i64 k ∧ sameDL l l' = sameDL (l.drop k) (l'.drop k) ∧ Below w.heap.size w wr) (fun i _ => l.length - (intOf i).toNat)
    case atStart => exact ⟨0, Nat.zero_le _, rfl, rfl, Below.refl _ _⟩
    case round =>
      obtain ⟨k, hk, rfl, hsame, hbr⟩ := hrel
      by_cases hlt : k < l.length
      · have hlt' : k < l'.length := by rw [← hle'.out]; exact hlt
        obtain ⟨e, he⟩ : ∃ e, l[k]? = some e := ⟨l[k], by simp [hlt]⟩
        obtain ⟨e', he'⟩ : ∃ e, l'[k]? = some e := ⟨l'[k], by simp [hlt']⟩
        obtain ⟨b, off, rfl, _, hcell⟩ := de_row hrow k e he
        obtain ⟨b', off', rfl, _, hcell'⟩ := de_row hrow' k e' he'
        have hc := fun W hb => hcall e e' W (List.mem_of_getElem? he) (List.mem_of_getElem? he') hb
        have hdr := sameDL_drop l l' k e e' he he'
        rw [hdr] at hsame
        obtain ⟨ek, enm, en, epa, epc, eps, eba, ebc, ebody, epos⟩ := e
        obtain ⟨fk, fnm, fn', fpa, fpc, fps, fba, fbc, fbody, fpos⟩ := e'
        simp only [← Nat.add_assoc] at hcell hcell'
        have d0 := below_in hbr (hcell 0 _ rfl)
        have d1 := below_in hbr (hcell 1 _ rfl)
        have d2 := below_in hbr (hcell 2 _ rfl)
        have d3 := below_in hbr (hcell 3 _ rfl)
        have d4 := below_in hbr (hcell 4 _ rfl)
        have d5 := below_in hbr (hcell 5 _ rfl)
        have f0 := fun o => below_in ((Below.refl _ _).alloc (Nat.le_refl _) o) (below_in hbr (hcell' 0 _ rfl))
        have f1 := fun o => below_in ((Below.refl _ _).alloc (Nat.le_refl _) o) (below_in hbr (hcell' 1 _ rfl))
        have f2 := fun o => below_in ((Below.refl _ _).alloc (Nat.le_refl _) o) (below_in hbr (hcell' 2 _ rfl))
        have f3 := fun o => below_in ((Below.refl _ _).alloc (Nat.le_refl _) o) (below_in hbr (hcell' 3 _ rfl))
        have f4 := fun o => below_in ((Below.refl _ _).alloc (Nat.le_refl _) o) (below_in hbr (hcell' 4 _ rfl))
        have f5 := fun o => below_in ((Below.refl _ _).alloc (Nat.le_refl _) o) (below_in hbr (hcell' 5 _ rfl))
        simp only [Nat.add_zero] at d0 d1 d2 d3 d4 d5 f0 f1 f2 f3 f4 f5
        clear hcell hcell' he he' hrow hrow' hcall hdr
        generalize sameD ⟨ek, enm, en, epa, epc, eps, eba, ebc, ebody, epos⟩ ⟨fk, fnm, fn', fpa, fpc, fps, fba, fbc, fbody, fpos⟩ = sv at *
        replace hsame := Lib.hid hsame
        replace hc := Lib.hid hc
        cases sv
        · have hF : Hid (sameDL l l' = false) := Lib.hid (by rw [hsame.out]; rfl)
          go_wp2_with fail
          refine (hc.out _ ((hbr.alloc hbr.size _).alloc (by have := hbr.size; simp; omega) _)).mono ?_
          rintro x W3 ⟨rfl, hb3⟩
          go_wp2_with fail
          go_ret
          exact ⟨ret_bool hF.out.symm, ((hbr.alloc hbr.size _).alloc (by have := hbr.size; simp; omega) _).trans (hb3.mono (by have := hbr.size; simp; omega))⟩
        · have hF : Hid (sameDL l l' = sameDL (l.drop (k + 1)) (l'.drop (k + 1))) := Lib.hid (by rw [hsame.out]; rfl)
          go_wp2_with fail
          refine (hc.out _ ((hbr.alloc hbr.size _).alloc (by have := hbr.size; simp; omega) _)).mono ?_
          rintro x W3 ⟨rfl, hb3⟩
          go_wp2_with fail
          go_roundw
          case rel => exact ⟨k + 1, by omega, by go_num, hF.out, ((hbr.alloc hbr.size _).alloc (by have := hbr.size; simp; omega) _).trans (hb3.mono (by have := hbr.size; simp; omega))⟩
          case measure => simp [intOf]; omega
      · have hF : Hid (sameDL l l' = true) := Lib.hid (by
          rw [hsame, List.drop_of_length_le (by omega), List.drop_of_length_le (by have := hle'.out; omega)]; rfl)
        clear hsame
        go_wp2
        go_ret
        exact ⟨ret_bool hF.out.symm, hbr⟩
  · have hne : ((l.length : Int) != (l'.length : Int)) = true := by simp; omega
    have hF : Hid (sameDL l l' = false) := Lib.hid (by rw [Bool.eq_false_iff]; intro h; exact hle (sameDL_len _ _ h))
    go_enter Tryd.func39, Tryd.ntmps39
    go_wp2
    go_ret
    exact ⟨ret_bool hF.out.symm, Below.refl _ _⟩

theorem equalS_any (l l' : List St) (a a' : Option Addr) (cap cap' : Nat) (w : World) (hrow : RowAt w (fun _ => True) a cap l.length (stCells l)) (hrow' : RowAt w (fun _ => True) a' cap' l'.length (stCells l')) (hin : St.InL w (fun _ => True) l) (hin' : St.InL w (fun _ => True) l') :
    Calls Tryd.prog 60 #[.slice a l.length cap, .slice a' l'.length cap', .func (.func 61) #[] #[]] w fun x w' => x = .returned (.bool (sameSL l l')) ∧ Below w.heap.size w w' :=
  equalS_step l l' a a' cap cap' w hrow hrow' fun e e' W he he' hb => sameS_any e.sz e e' W (Nat.le_refl _) (St.In.below (Kps.of_below hb) _ (St.mem_in hin he)) (St.In.below (Kps.of_below hb) _ (St.mem_in hin' he'))

set_option maxHeartbeats 3200000 in
set_option maxRecDepth 100000 in
theorem sameD_any (e e' : De) (w : World) (hin : De.In w (fun _ => True) e) (hin' : De.In w (fun _ => True) e') :
    Calls Tryd.prog 40 #[.agg ⟨e.vals⟩, .agg ⟨e'.vals⟩] w fun x w' => x = .returned (.bool (sameD e e')) ∧ Below w.heap.size w w' := by
  obtain ⟨ek, enm, en, epa, epc, eps, eba, ebc, ebody, epos⟩ := e
  obtain ⟨fk, fnm, fn', fpa, fpc, fps, fba, fbc, fbody, fpos⟩ := e'
  obtain ⟨_, _, _, _, g5, _, g7, g8⟩ := hin
  obtain ⟨_, _, _, _, k5, _, k7, k8⟩ := hin'
  have hE : sameD ⟨ek, enm, en, epa, epc, eps, eba, ebc, ebody, epos⟩ ⟨fk, fnm, fn', fpa, fpc, fps, fba, fbc, fbody, fpos⟩ = (decide (ek = fk) && decide (enm = fnm) && decide (en = fn') && decide (eps = fps) && sameSL ebody fbody) := rfl
  have hc1 := fun W (hb : Below w.heap.size w W) => equalT_any eps fps epa fpa epc fpc W (g5.below (Kps.of_below hb)) (k5.below (Kps.of_below hb))
  have hc2 := fun W (hb : Below w.heap.size w W) => equalS_any ebody fbody eba fba ebc fbc W (g7.below (Kps.of_below hb)) (k7.below (Kps.of_below hb)) (St.InL.below (Kps.of_below hb) _ g8) (St.InL.below (Kps.of_below hb) _ k8)
  generalize sameD ⟨ek, enm, en, epa, epc, eps, eba, ebc, ebody, epos⟩ ⟨fk, fnm, fn', fpa, fpc, fps, fba, fbc, fbody, fpos⟩ = sv at *
  generalize decide (eps = fps) = s1 at *
  generalize sameSL ebody fbody = s2 at *
  show Calls Tryd.prog 40 #[.agg #[.int .u8 ek, .string enm, .int .i64 en, .slice epa eps.length epc, .slice eba ebody.length ebc, .int .i64 epos], .agg #[.int .u8 fk, .string fnm, .int .i64 fn', .slice fpa fps.length fpc, .slice fba fbody.length fbc, .int .i64 fpos]] w _
  replace hc1 := Lib.hid hc1
  replace hc2 := Lib.hid hc2
  clear g5 g7 g8 k5 k7 k8
  have hb2 : Below w.heap.size w ((w.alloc (.cells #[.int .u8 ek, .string enm, .int .i64 en, .slice epa eps.length epc, .slice eba ebody.length ebc, .int .i64 epos] 40)).alloc (.cells #[.int .u8 fk, .string fnm, .int .i64 fn', .slice fpa fps.length fpc, .slice fba fbody.length fbc, .int .i64 fpos] 40)) := ((Below.refl _ _).alloc (Nat.le_refl _) _).alloc (by simp) _
  have hz2 : ((w.alloc (.cells #[.int .u8 ek, .string enm, .int .i64 en, .slice epa eps.length epc, .slice eba ebody.length ebc, .int .i64 epos] 40)).alloc (.cells #[.int .u8 fk, .string fnm, .int .i64 fn', .slice fpa fps.length fpc, .slice fba fbody.length fbc, .int .i64 fpos] 40)).heap.size = w.heap.size + 2 := by simp
  by_cases h1 : ek = fk
  · subst h1
    by_cases h2 : enm = fnm
    · subst h2
      by_cases h3 : en = fn'
      · subst h3
        have hF : Hid (sv = (s1 && s2)) := Lib.hid (by rw [hE]; simp)
        clear hE
        go_enter Tryd.func40, Tryd.ntmps40
        go_wp2_with fail
        refine (hc1.out _ hb2).mono ?_
        rintro x w3 ⟨rfl, hb3⟩
        have hw3 := hb2.trans (hb3.mono (by omega))
        have hl3 : ∀ b o, b < w.heap.size + 2 → w3.cell? ⟨b, o, none⟩ = ((w.alloc (.cells #[.int .u8 ek, .string enm, .int .i64 en, .slice epa eps.length epc, .slice eba ebody.length ebc, .int .i64 epos] 40)).alloc (.cells #[.int .u8 ek, .string enm, .int .i64 en, .slice fpa fps.length fpc, .slice fba fbody.length fbc, .int .i64 fpos] 40)).cell? ⟨b, o, none⟩ := fun b o h => hb3.cell (p := ⟨b, o, none⟩) (by simp only; omega)
        have hz3 := hb3.size
        rw [hz2] at hz3
        replace hb3 := Lib.hid hb3
        cases s1
        · go_wp2_with fail
          go_ret
          exact ⟨ret_bool (by rw [hF.out]; rfl), hw3⟩
        · go_wp2_with fail
          refine (hc2.out _ hw3).mono ?_
          rintro x w4 ⟨rfl, hb4⟩
          have hw4 := hw3.trans (hb4.mono (by omega))
          go_wp2_with fail
          go_ret
          exact ⟨ret_bool (by rw [hF.out]; rfl), hw4⟩
      · have hF : Hid (sv = false) := Lib.hid (by rw [hE, decide_eq_false h3]; simp)
        have hx : (en == fn') = false := by simpa using h3
        clear hE h3
        go_enter Tryd.func40, Tryd.ntmps40
        go_wp2_with fail
        go_ret
        exact ⟨ret_bool hF.out.symm, hb2⟩
    · have hF : Hid (sv = false) := Lib.hid (by rw [hE, decide_eq_false h2]; simp)
      have hx := str_ne h2
      clear hE h2
      go_enter Tryd.func40, Tryd.ntmps40
      go_wp2_with fail
      go_ret
      exact ⟨ret_bool hF.out.symm, hb2⟩
  · have hF : Hid (sv = false) := Lib.hid (by rw [hE, decide_eq_false h1]; simp)
    have hx : (ek == fk) = false := by simpa using h1
    clear hE h1
    go_enter Tryd.func40, Tryd.ntmps40
    go_wp2_with fail
    go_ret
    exact ⟨ret_bool hF.out.symm, hb2⟩

theorem sameP_any (l l' : List De) (a a' : Option Addr) (cap cap' : Nat) (w : World) (hrow : RowAt w (fun _ => True) a cap l.length (deCells l)) (hrow' : RowAt w (fun _ => True) a' cap' l'.length (deCells l')) (hin : De.InL w (fun _ => True) l) (hin' : De.InL w (fun _ => True) l') :
    Calls Tryd.prog 17 #[.slice a l.length cap, .slice a' l'.length cap'] w fun x w' => x = .returned (.bool (sameDL l l')) ∧ Below w.heap.size w w' := by
  have hc := equalD_step l l' a a' cap cap' w hrow hrow' fun e e' W he he' hb => sameD_any e e' W (De.In.below (Kps.of_below hb) (hin e he)) (De.In.below (Kps.of_below hb) (hin' e' he'))
  generalize sameDL l l' = sv at *
  replace hc := Lib.hid hc
  clear hrow hrow' hin hin'
  go_enter Tryd.func17, Tryd.ntmps17
  go_wp2_with fail
  refine hc.out.mono ?_
  rintro x w3 ⟨rfl, hb3⟩
  go_wp2_with fail
  go_ret
  exact ⟨rfl, hb3⟩
end Go.Proofs.YtolmhcdcfnoicaaDoor.Tr
