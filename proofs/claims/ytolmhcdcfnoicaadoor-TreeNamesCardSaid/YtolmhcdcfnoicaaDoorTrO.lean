/- Walks of tree.sameStmt. Conditions: none. -/
import Derived.Test.YtolmhcdcfnoicaaDoorTrN
namespace Go.Proofs.YtolmhcdcfnoicaaDoor.Tr
open Go Go.RowKit
open Go.Proofs.YtolmhcdcfnoicaaDoor.Lx

mutual
/-- the same statement, but for where it stands? -/
def sameS : St → St → Bool
  | .mk k nm to nw _ _ e _ _ body _ _ els _, f => match f with
    | .mk k' nm' to' nw' _ _ e' _ _ body' _ _ els' _ => decide (k = k') && decide (nm = nm') && decide (to = to') && decide (nw = nw') && sameEL e e' && sameSL body body' && sameSL els els'
def sameSL : List St → List St → Bool
  | [], l => l.isEmpty
  | e :: r, l => match l with
    | [] => false
    | e' :: r' => sameS e e' && sameSL r r'
end
theorem sameS_eq (k : Int) (nm to : ByteArray) (nw : Bool) (ea : Option Addr) (ecap : Nat) (e : List Ex) (ba : Option Addr) (bcap : Nat) (body : List St) (la : Option Addr) (lcap : Nat) (els : List St) (pos : Int)
    (k' : Int) (nm' to' : ByteArray) (nw' : Bool) (ea' : Option Addr) (ecap' : Nat) (e' : List Ex) (ba' : Option Addr) (bcap' : Nat) (body' : List St) (la' : Option Addr) (lcap' : Nat) (els' : List St) (pos' : Int) :
    sameS (.mk k nm to nw ea ecap e ba bcap body la lcap els pos) (.mk k' nm' to' nw' ea' ecap' e' ba' bcap' body' la' lcap' els' pos') =
      (decide (k = k') && decide (nm = nm') && decide (to = to') && decide (nw = nw') && sameEL e e' && sameSL body body' && sameSL els els') := by unfold sameS; rfl
theorem sameSL_len : ∀ l l', sameSL l l' = true → l.length = l'.length
  | [], l', h => by unfold sameSL at h; simp at h; rw [h]
  | e :: r, [], h => by unfold sameSL at h; cases h
  | e :: r, e' :: r', h => by
    unfold sameSL at h
    rw [Bool.and_eq_true] at h
    rw [List.length_cons, List.length_cons, sameSL_len r r' h.2]
theorem sameSL_drop : ∀ (l l' : List St) (k : Nat) (e e' : St), l[k]? = some e → l'[k]? = some e' → sameSL (l.drop k) (l'.drop k) = (sameS e e' && sameSL (l.drop (k + 1)) (l'.drop (k + 1)))
  | l, l', k, e, e', h, h' => by
    have h1 := (List.getElem?_eq_some_iff.1 h)
    have h2 := (List.getElem?_eq_some_iff.1 h')
    rw [List.drop_eq_getElem_cons h1.1, List.drop_eq_getElem_cons h2.1, h1.2, h2.2]
    rw [sameSL]
theorem St.mem_sz {l : List St} {e : St} (h : e ∈ l) : e.sz ≤ St.szL l := by
  obtain ⟨i, hi⟩ := List.getElem?_of_mem h
  exact St.sz_get hi
theorem St.mem_in {w : World} {S : Nat → Prop} {l : List St} {e : St} (hl : St.InL w S l) (h : e ∈ l) : St.In w S e := by
  obtain ⟨i, hi⟩ := List.getElem?_of_mem h
  exact hl.get hi

set_option maxHeartbeats 1600000 in
set_option maxRecDepth 100000 in
theorem equalS_step (l l' : List St) (a a' : Option Addr) (cap cap' : Nat) (w : World) (hrow : RowAt w (fun _ => True) a cap l.length (stCells l)) (hrow' : RowAt w (fun _ => True) a' cap' l'.length (stCells l'))
    (hcall : ∀ e e' W, e ∈ l → e' ∈ l' → Below w.heap.size w W → Calls Tryd.prog 61 #[.agg ⟨e.vals⟩, .agg ⟨e'.vals⟩] W fun x W' => x = .returned (.bool (sameS e e')) ∧ Below W.heap.size W W') :
    Calls Tryd.prog 60 #[.slice a l.length cap, .slice a' l'.length cap', .func (.func 61) #[] #[]] w fun x w' => x = .returned (.bool (sameSL l l')) ∧ Below w.heap.size w w' := by
  have hll : l.length ≤ 9223372036854775807 := by have := hrow.le; have := hrow.lim; unfold maxLen at this; omega
  have hll' : l'.length ≤ 9223372036854775807 := by have := hrow'.le; have := hrow'.lim; unfold maxLen at this; omega
  by_cases hle : l.length = l'.length
  · have hne : ((l.length : Int) != (l'.length : Int)) = false := by rw [hle]; simp
    have hle' := Lib.hid hle
    go_enter Tryd.func60, Tryd.ntmps60
    clear hle
    go_wp2
    go_loopw [17] (fun i wr => ∃ k : Nat, k ≤ l.length ∧ i = .int .i64 k ∧ sameSL l l' = sameSL (l.drop k) (l'.drop k) ∧ Below w.heap.size w wr) (fun i _ => l.length - (intOf i).toNat)
    case atStart => exact ⟨0, Nat.zero_le _, rfl, rfl, Below.refl _ _⟩
    case round =>
      obtain ⟨k, hk, rfl, hsame, hbr⟩ := hrel
      by_cases hlt : k < l.length
      · have hlt' : k < l'.length := by rw [← hle'.out]; exact hlt
        obtain ⟨e, he⟩ : ∃ e, l[k]? = some e := ⟨l[k], by simp [hlt]⟩
        obtain ⟨e', he'⟩ : ∃ e, l'[k]? = some e := ⟨l'[k], by simp [hlt']⟩
        obtain ⟨b, off, rfl, _, hcell⟩ := st_row hrow k e he
        obtain ⟨b', off', rfl, _, hcell'⟩ := st_row hrow' k e' he'
        have hc := fun W hb => hcall e e' W (List.mem_of_getElem? he) (List.mem_of_getElem? he') hb
        have hdr := sameSL_drop l l' k e e' he he'
        rw [hdr] at hsame
        obtain ⟨ek, enm, eto, enw, ea, ecap, ee, eba, ebcap, ebody, ela, elcap, eels, epos⟩ := e
        obtain ⟨fk, fnm, fto, fnw, fa, fcap, fe, fba, fbcap, fbody, fla, flcap, fels, fpos⟩ := e'
        simp only [← Nat.add_assoc] at hcell hcell'
        have d0 := below_in hbr (hcell 0 _ rfl)
        have d1 := below_in hbr (hcell 1 _ rfl)
        have d2 := below_in hbr (hcell 2 _ rfl)
        have d3 := below_in hbr (hcell 3 _ rfl)
        have d4 := below_in hbr (hcell 4 _ rfl)
        have d5 := below_in hbr (hcell 5 _ rfl)
        have d6 := below_in hbr (hcell 6 _ rfl)
        have d7 := below_in hbr (hcell 7 _ rfl)
        have f0 := fun o => below_in ((Below.refl _ _).alloc (Nat.le_refl _) o) (below_in hbr (hcell' 0 _ rfl))
        have f1 := fun o => below_in ((Below.refl _ _).alloc (Nat.le_refl _) o) (below_in hbr (hcell' 1 _ rfl))
        have f2 := fun o => below_in ((Below.refl _ _).alloc (Nat.le_refl _) o) (below_in hbr (hcell' 2 _ rfl))
        have f3 := fun o => below_in ((Below.refl _ _).alloc (Nat.le_refl _) o) (below_in hbr (hcell' 3 _ rfl))
        have f4 := fun o => below_in ((Below.refl _ _).alloc (Nat.le_refl _) o) (below_in hbr (hcell' 4 _ rfl))
        have f5 := fun o => below_in ((Below.refl _ _).alloc (Nat.le_refl _) o) (below_in hbr (hcell' 5 _ rfl))
        have f6 := fun o => below_in ((Below.refl _ _).alloc (Nat.le_refl _) o) (below_in hbr (hcell' 6 _ rfl))
        have f7 := fun o => below_in ((Below.refl _ _).alloc (Nat.le_refl _) o) (below_in hbr (hcell' 7 _ rfl))
        simp only [Nat.add_zero] at d0 d1 d2 d3 d4 d5 d6 d7 f0 f1 f2 f3 f4 f5 f6 f7
        clear hcell hcell' he he' hrow hrow' hcall hdr
        generalize sameS (.mk ek enm eto enw ea ecap ee eba ebcap ebody ela elcap eels epos) (.mk fk fnm fto fnw fa fcap fe fba fbcap fbody fla flcap fels fpos) = sv at *
        replace hsame := Lib.hid hsame
        replace hc := Lib.hid hc
        cases sv
        · have hF : Hid (sameSL l l' = false) := Lib.hid (by rw [hsame.out]; rfl)
          go_wp2_with fail
          refine (hc.out _ ((hbr.alloc hbr.size _).alloc (by have := hbr.size; simp; omega) _)).mono ?_
          rintro x W3 ⟨rfl, hb3⟩
          go_wp2_with fail
          go_ret
          exact ⟨ret_bool hF.out.symm, ((hbr.alloc hbr.size _).alloc (by have := hbr.size; simp; omega) _).trans (hb3.mono (by have := hbr.size; simp; omega))⟩
        · have hF : Hid (sameSL l l' = sameSL (l.drop (k + 1)) (l'.drop (k + 1))) := Lib.hid (by rw [hsame.out]; rfl)
          go_wp2_with fail
          refine (hc.out _ ((hbr.alloc hbr.size _).alloc (by have := hbr.size; simp; omega) _)).mono ?_
          rintro x W3 ⟨rfl, hb3⟩
          go_wp2_with fail
          go_roundw
          case rel => exact ⟨k + 1, by omega, by go_num, hF.out, ((hbr.alloc hbr.size _).alloc (by have := hbr.size; simp; omega) _).trans (hb3.mono (by have := hbr.size; simp; omega))⟩
          case measure => simp [intOf]; omega
      · have hF : Hid (sameSL l l' = true) := Lib.hid (by
          rw [hsame, List.drop_of_length_le (by omega), List.drop_of_length_le (by have := hle'.out; omega)]; rfl)
        clear hsame
        go_wp2
        go_ret
        exact ⟨ret_bool hF.out.symm, hbr⟩
  · have hne : ((l.length : Int) != (l'.length : Int)) = true := by simp; omega
    have hF : Hid (sameSL l l' = false) := Lib.hid (by rw [Bool.eq_false_iff]; intro h; exact hle (sameSL_len _ _ h))
    go_enter Tryd.func60, Tryd.ntmps60
    go_wp2
    go_ret
    exact ⟨ret_bool hF.out.symm, Below.refl _ _⟩

theorem equalE_any (l l' : List Ex) (a a' : Option Addr) (cap cap' : Nat) (w : World) (hrow : RowAt w (fun _ => True) a cap l.length (exCells l)) (hrow' : RowAt w (fun _ => True) a' cap' l'.length (exCells l')) (hin : Ex.InL w (fun _ => True) l) (hin' : Ex.InL w (fun _ => True) l') :
    Calls Tryd.prog 44 #[.slice a l.length cap, .slice a' l'.length cap', .func (.func 21) #[] #[]] w fun x w' => x = .returned (.bool (sameEL l l')) ∧ Below w.heap.size w w' :=
  equalE_step l l' a a' cap cap' w hrow hrow' fun e e' W he he' hb => sameE_any e.sz e e' W (Nat.le_refl _) (Ex.In.below (Kps.of_below hb) _ (Ex.mem_in hin he)) (Ex.In.below (Kps.of_below hb) _ (Ex.mem_in hin' he'))

set_option maxHeartbeats 3200000 in
set_option maxRecDepth 100000 in
theorem sameS_any : ∀ (s : Nat) (e e' : St) (w : World), e.sz ≤ s → St.In w (fun _ => True) e → St.In w (fun _ => True) e' →
    Calls Tryd.prog 61 #[.agg ⟨e.vals⟩, .agg ⟨e'.vals⟩] w fun x w' => x = .returned (.bool (sameS e e')) ∧ Below w.heap.size w w' := by
  intro s
  induction s using Nat.strongRecOn with
  | _ s ih =>
    intro e e' w hs hin hin'
    obtain ⟨ek, enm, eto, enw, ea, ecap, ee, eba, ebcap, ebody, ela, elcap, eels, epos⟩ := e
    obtain ⟨fk, fnm, fto, fnw, fa, fcap, fe, fba, fbcap, fbody, fla, flcap, fels, fpos⟩ := e'
    unfold St.In at hin hin'
    obtain ⟨_, _, _, _, g5, g6, g7, g8, g9, g10⟩ := hin
    obtain ⟨_, _, _, _, k5, k6, k7, k8, k9, k10⟩ := hin'
    have hszb : St.szL ebody < s := by unfold St.sz at hs; omega
    have hszl : St.szL eels < s := by unfold St.sz at hs; omega
    have hE := sameS_eq ek enm eto enw ea ecap ee eba ebcap ebody ela elcap eels epos fk fnm fto fnw fa fcap fe fba fbcap fbody fla flcap fels fpos
    have hc1 := fun W (hb : Below w.heap.size w W) => equalE_any ee fe ea fa ecap fcap W (g5.below (Kps.of_below hb)) (k5.below (Kps.of_below hb)) (Ex.InL.below (Kps.of_below hb) _ g6) (Ex.InL.below (Kps.of_below hb) _ k6)
    have hc2 := fun W (hb : Below w.heap.size w W) => equalS_step ebody fbody eba fba ebcap fbcap W (g7.below (Kps.of_below hb)) (k7.below (Kps.of_below hb))
      (fun e e' W2 he he' hb2 => ih (St.szL ebody) hszb e e' W2 (St.mem_sz he) (St.In.below (Kps.of_below (hb.trans (hb2.mono hb.size))) _ (St.mem_in g8 he)) (St.In.below (Kps.of_below (hb.trans (hb2.mono hb.size))) _ (St.mem_in k8 he')))
    have hc3 := fun W (hb : Below w.heap.size w W) => equalS_step eels fels ela fla elcap flcap W (g9.below (Kps.of_below hb)) (k9.below (Kps.of_below hb))
      (fun e e' W2 he he' hb2 => ih (St.szL eels) hszl e e' W2 (St.mem_sz he) (St.In.below (Kps.of_below (hb.trans (hb2.mono hb.size))) _ (St.mem_in g10 he)) (St.In.below (Kps.of_below (hb.trans (hb2.mono hb.size))) _ (St.mem_in k10 he')))
    generalize sameS (.mk ek enm eto enw ea ecap ee eba ebcap ebody ela elcap eels epos) (.mk fk fnm fto fnw fa fcap fe fba fbcap fbody fla flcap fels fpos) = sv at *
    generalize sameEL ee fe = s1 at *
    generalize sameSL ebody fbody = s2 at *
    generalize sameSL eels fels = s3 at *
    show Calls Tryd.prog 61 #[.agg #[.int .u8 ek, .string enm, .string eto, .bool enw, .slice ea ee.length ecap, .slice eba ebody.length ebcap, .slice ela eels.length elcap, .int .i64 epos], .agg #[.int .u8 fk, .string fnm, .string fto, .bool fnw, .slice fa fe.length fcap, .slice fba fbody.length fbcap, .slice fla fels.length flcap, .int .i64 fpos]] w _
    replace hc1 := Lib.hid hc1
    replace hc2 := Lib.hid hc2
    replace hc3 := Lib.hid hc3
    clear ih g5 g6 g7 g8 g9 g10 k5 k6 k7 k8 k9 k10 hs
    have hb2 : Below w.heap.size w ((w.alloc (.cells #[.int .u8 ek, .string enm, .string eto, .bool enw, .slice ea ee.length ecap, .slice eba ebody.length ebcap, .slice ela eels.length elcap, .int .i64 epos] 38)).alloc (.cells #[.int .u8 fk, .string fnm, .string fto, .bool fnw, .slice fa fe.length fcap, .slice fba fbody.length fbcap, .slice fla fels.length flcap, .int .i64 fpos] 38)) := ((Below.refl _ _).alloc (Nat.le_refl _) _).alloc (by simp) _
    have hz2 : ((w.alloc (.cells #[.int .u8 ek, .string enm, .string eto, .bool enw, .slice ea ee.length ecap, .slice eba ebody.length ebcap, .slice ela eels.length elcap, .int .i64 epos] 38)).alloc (.cells #[.int .u8 fk, .string fnm, .string fto, .bool fnw, .slice fa fe.length fcap, .slice fba fbody.length fbcap, .slice fla fels.length flcap, .int .i64 fpos] 38)).heap.size = w.heap.size + 2 := by simp
    by_cases h1 : ek = fk
    · subst h1
      by_cases h2 : enm = fnm
      · subst h2
        by_cases h3 : eto = fto
        · subst h3
          by_cases h4 : enw = fnw
          · subst h4
            have hF : Hid (sv = (s1 && s2 && s3)) := Lib.hid (by rw [hE]; simp)
            clear hE
            go_enter Tryd.func61, Tryd.ntmps61
            go_wp2_with fail
            refine (hc1.out _ hb2).mono ?_
            rintro x w3 ⟨rfl, hb3⟩
            have hw3 := hb2.trans (hb3.mono (by omega))
            have hl3 : ∀ b o, b < w.heap.size + 2 → w3.cell? ⟨b, o, none⟩ = ((w.alloc (.cells #[.int .u8 ek, .string enm, .string eto, .bool enw, .slice ea ee.length ecap, .slice eba ebody.length ebcap, .slice ela eels.length elcap, .int .i64 epos] 38)).alloc (.cells #[.int .u8 ek, .string enm, .string eto, .bool enw, .slice fa fe.length fcap, .slice fba fbody.length fbcap, .slice fla fels.length flcap, .int .i64 fpos] 38)).cell? ⟨b, o, none⟩ := fun b o h => hb3.cell (p := ⟨b, o, none⟩) (by simp only; omega)
            have hz3 := hb3.size
            rw [hz2] at hz3
            replace hb3 := Lib.hid hb3
            cases s1
            · go_wp2_with fail
              go_ret
              exact ⟨ret_bool (by rw [hF.out]; rfl), hw3⟩
            · go_wp2_with fail
              refine (hc2.out _ hw3).mono ?_
              rintro x w4 ⟨rfl, hb4⟩
              have hw4 := hw3.trans (hb4.mono (by omega))
              have hl4 : ∀ b o, b < w.heap.size + 2 → w4.cell? ⟨b, o, none⟩ = w3.cell? ⟨b, o, none⟩ := fun b o h => hb4.cell (p := ⟨b, o, none⟩) (by simp only; omega)
              have hz4 := hb4.size
              replace hb4 := Lib.hid hb4
              cases s2
              · go_wp2_with fail
                go_ret
                exact ⟨ret_bool (by rw [hF.out]; rfl), hw4⟩
              · go_wp2_with fail
                refine (hc3.out _ hw4).mono ?_
                rintro x w5 ⟨rfl, hb5⟩
                have hw5 := hw4.trans (hb5.mono (by omega))
                go_wp2_with fail
                go_ret
                exact ⟨ret_bool (by rw [hF.out]; rfl), hw5⟩
          · have hF : Hid (sv = false) := Lib.hid (by rw [hE, decide_eq_false h4]; simp)
            have hx : (enw == fnw) = false := by simpa using h4
            clear hE h4
            go_enter Tryd.func61, Tryd.ntmps61
            go_wp2_with fail
            go_ret
            exact ⟨ret_bool hF.out.symm, hb2⟩
        · have hF : Hid (sv = false) := Lib.hid (by rw [hE, decide_eq_false h3]; simp)
          have hx := str_ne h3
          clear hE h3
          go_enter Tryd.func61, Tryd.ntmps61
          go_wp2_with fail
          go_ret
          exact ⟨ret_bool hF.out.symm, hb2⟩
      · have hF : Hid (sv = false) := Lib.hid (by rw [hE, decide_eq_false h2]; simp)
        have hx := str_ne h2
        clear hE h2
        go_enter Tryd.func61, Tryd.ntmps61
        go_wp2_with fail
        go_ret
        exact ⟨ret_bool hF.out.symm, hb2⟩
    · have hF : Hid (sv = false) := Lib.hid (by rw [hE, decide_eq_false h1]; simp)
      have hx : (ek == fk) = false := by simpa using h1
      clear hE h1
      go_enter Tryd.func61, Tryd.ntmps61
      go_wp2_with fail
      go_ret
      exact ⟨ret_bool hF.out.symm, hb2⟩
end Go.Proofs.YtolmhcdcfnoicaaDoor.Tr
