/- Walks of tree.SameExpr, whole. Conditions: none. -/
import Derived.Test.YtolmhcdcfnoicaaDoorTrM
namespace Go.Proofs.YtolmhcdcfnoicaaDoor.Tr
open Go Go.RowKit
open Go.Proofs.YtolmhcdcfnoicaaDoor.Lx

theorem Ex.mem_sz {l : List Ex} {e : Ex} (h : e ∈ l) : e.sz ≤ Ex.szL l := by
  obtain ⟨i, hi⟩ := List.getElem?_of_mem h
  exact Ex.sz_get hi
theorem Ex.mem_in {w : World} {S : Nat → Prop} {l : List Ex} {e : Ex} (hl : Ex.InL w S l) (h : e ∈ l) : Ex.In w S e := by
  obtain ⟨i, hi⟩ := List.getElem?_of_mem h
  exact hl.get hi
theorem str_ne {a b : ByteArray} (h : ¬ a = b) : (a.toList == b.toList) = false := by
  rw [Bool.eq_false_iff]
  intro e
  rw [beq_iff_eq, Lib.toList_data, Lib.toList_data] at e
  apply h
  rw [← Lib.mk_data a, ← Lib.mk_data b, e]

set_option maxHeartbeats 1600000 in
set_option maxRecDepth 100000 in
theorem sameE_any : ∀ (s : Nat) (e e' : Ex) (w : World), e.sz ≤ s → Ex.In w (fun _ => True) e → Ex.In w (fun _ => True) e' →
    Calls Tryd.prog 21 #[.agg ⟨e.vals⟩, .agg ⟨e'.vals⟩] w fun x w' => x = .returned (.bool (sameE e e')) ∧ Below w.heap.size w w' := by
  intro s
  induction s using Nat.strongRecOn with
  | _ s ih =>
    intro e e' w hs hin hin'
    obtain ⟨ek, enm, en, ea, ecap, eargs, epos⟩ := e
    obtain ⟨fk, fnm, fn', fa, fcap, fargs, fpos⟩ := e'
    unfold Ex.In at hin hin'
    have hsz : Ex.szL eargs < s := by unfold Ex.sz at hs; omega
    have hE := sameE_eq ek enm en ea ecap eargs epos fk fnm fn' fa fcap fargs fpos
    have hc := fun W (hb : Below w.heap.size w W) => equalE_step eargs fargs ea fa ecap fcap W (hin.2.2.2.2.1.below (Kps.of_below hb)) (hin'.2.2.2.2.1.below (Kps.of_below hb))
      (fun e e' W2 he he' hb2 => ih (Ex.szL eargs) hsz e e' W2 (Ex.mem_sz he) (Ex.In.below (Kps.of_below (hb.trans (hb2.mono hb.size))) _ (Ex.mem_in hin.2.2.2.2.2 he)) (Ex.In.below (Kps.of_below (hb.trans (hb2.mono hb.size))) _ (Ex.mem_in hin'.2.2.2.2.2 he')))
    generalize sameE (.mk ek enm en ea ecap eargs epos) (.mk fk fnm fn' fa fcap fargs fpos) = sv at *
    generalize sameEL eargs fargs = sl at *
    show Calls Tryd.prog 21 #[.agg #[.int .u8 ek, .string enm, .int .i64 en, .slice ea eargs.length ecap, .int .i64 epos], .agg #[.int .u8 fk, .string fnm, .int .i64 fn', .slice fa fargs.length fcap, .int .i64 fpos]] w _
    replace hc := Lib.hid hc
    clear ih hin hin' hs
    have hb2 : Below w.heap.size w ((w.alloc (.cells #[.int .u8 ek, .string enm, .int .i64 en, .slice ea eargs.length ecap, .int .i64 epos] 25)).alloc (.cells #[.int .u8 fk, .string fnm, .int .i64 fn', .slice fa fargs.length fcap, .int .i64 fpos] 25)) := ((Below.refl _ _).alloc (Nat.le_refl _) _).alloc (by simp) _
    by_cases h1 : ek = fk
    · subst h1
      by_cases h2 : enm = fnm
      · subst h2
        by_cases h3 : en = fn'
        · subst h3
          have hF : Hid (sv = sl) := Lib.hid (by rw [hE]; simp)
          clear hE
          go_enter Tryd.func21, Tryd.ntmps21
          go_wp2_with fail
          refine (hc.out _ hb2).mono ?_
          rintro x w3 ⟨rfl, hb3⟩
          go_wp2_with fail
          go_ret
          exact ⟨ret_bool hF.out.symm, hb2.trans (hb3.mono (by simp; omega))⟩
        · have hF : Hid (sv = false) := Lib.hid (by rw [hE, decide_eq_false h3]; simp)
          have hx : (en == fn') = false := by simpa using h3
          clear hE h3
          go_enter Tryd.func21, Tryd.ntmps21
          go_wp2_with fail
          go_ret
          exact ⟨ret_bool hF.out.symm, hb2⟩
      · have hF : Hid (sv = false) := Lib.hid (by rw [hE, decide_eq_false h2]; simp)
        have hx := str_ne h2
        clear hE h2
        go_enter Tryd.func21, Tryd.ntmps21
        go_wp2_with fail
        go_ret
        exact ⟨ret_bool hF.out.symm, hb2⟩
    · have hF : Hid (sv = false) := Lib.hid (by rw [hE, decide_eq_false h1]; simp)
      have hx : (ek == fk) = false := by simpa using h1
      clear hE h1
      go_enter Tryd.func21, Tryd.ntmps21
      go_wp2_with fail
      go_ret
      exact ⟨ret_bool hF.out.symm, hb2⟩
end Go.Proofs.YtolmhcdcfnoicaaDoor.Tr
