/- Walks of the document's own answers: exprs, MayExpr whole; sameExprs, SameExpr. Conditions: none. -/
import Derived.Test.YtolmhcdcfnoicaaDoorRfC
import Derived.Deep.RegionHeld3
import Derived.Deep.DrawnRows
namespace Go.Proofs.YtolmhcdcfnoicaaDoor.Tr
open Go Go.RowKit
open Go.Proofs.YtolmhcdcfnoicaaDoor.Lx

theorem all_next {α : Type} (f : α → Bool) (l : List α) (k : Nat) (x : α) (h : l[k]? = some x) : (l.take (k + 1)).all f = ((l.take k).all f && f x) := by
  rw [List.take_add_one, h, List.all_append]
  simp
theorem all_no {α : Type} (f : α → Bool) (l : List α) (k : Nat) (x : α) (h : l[k]? = some x) (hf : f x = false) : l.all f = false := by
  rw [Bool.eq_false_iff]
  intro ha
  have := List.all_eq_true.1 ha x (List.mem_of_getElem? h)
  rw [hf] at this
  cases this
set_option maxHeartbeats 4000000 in
set_option maxRecDepth 100000 in
theorem refexprs_step (l : List Ex) (a : Option Addr) (cap : Nat) (w : World) (hrow : RowAt w (fun _ => True) a cap l.length (exCells l))
    (hcall : ∀ (k : Nat) (e : Ex) (W : World), l[k]? = some e → Below w.heap.size w W → Calls Tryd.prog 20 #[.agg ⟨e.vals⟩] W fun x W' => x = .returned (.bool (mayE e)) ∧ Below W.heap.size W W') :
    Calls Tryd.prog 43 #[.slice a l.length cap] w fun x w' => x = .returned (.bool (l.all mayE)) ∧ Below w.heap.size w w' := by
  have hll : l.length ≤ 9223372036854775807 := by have := hrow.le; have := hrow.lim; unfold maxLen at this; omega
  replace hcall := Lib.hid hcall
  go_enter Tryd.func43, Tryd.ntmps43
  go_wp2_with fail
  go_loopw [3] (fun i wr => ∃ k : Nat, k ≤ l.length ∧ i = .int .i64 k ∧ Hid ((l.take k).all mayE = true) ∧ Below w.heap.size w wr) (fun i _ => l.length - (intOf i).toNat)
  case atStart => exact ⟨0, Nat.zero_le _, rfl, Lib.hid (by simp), Below.refl _ _⟩
  case round =>
    obtain ⟨k, hk, rfl, hok, hbr⟩ := hrel
    by_cases hlt : k < l.length
    · obtain ⟨e, he⟩ : ∃ e, l[k]? = some e := ⟨l[k], by simp [hlt]⟩
      obtain ⟨b, off, rfl, _, hcell⟩ := ex_row hrow k e he
      have hc := hcall.out k e wr he hbr
      have hnx := all_next mayE l k e he
      have hno := all_no mayE l k e he
      obtain ⟨ek, enm, en, ea, ecap, eargs, epos⟩ := e
      simp only [← Nat.add_assoc] at hcell
      have d0 := below_in hbr (hcell 0 _ rfl)
      have d1 := below_in hbr (hcell 1 _ rfl)
      have d2 := below_in hbr (hcell 2 _ rfl)
      have d3 := below_in hbr (hcell 3 _ rfl)
      have d4 := below_in hbr (hcell 4 _ rfl)
      simp only [Nat.add_zero] at d0 d1 d2 d3 d4
      generalize mayE (.mk ek enm en ea ecap eargs epos) = v at *
      replace hc := Lib.hid hc
      replace hnx := Lib.hid hnx
      replace hno := Lib.hid hno
      replace he := Lib.hid he
      clear hcell
      cases v
      · go_wp2_with fail
        refine hc.out.mono ?_
        rintro x W3 ⟨rfl, hb3⟩
        go_wp2_with fail
        go_ret
        exact ⟨ret_bool (hno.out trivial).symm, hbr.trans (hb3.mono hbr.size)⟩
      · go_wp2_with fail
        refine hc.out.mono ?_
        rintro x W3 ⟨rfl, hb3⟩
        replace hb3 := Lib.hid hb3
        go_wp2_with fail
        go_roundw
        case rel => exact ⟨k + 1, by omega, by go_num, Lib.hid (by rw [hnx.out, hok.out]; rfl), hbr.trans (hb3.out.mono hbr.size)⟩
        case measure => simp [intOf]; omega
    · have hall : Hid (l.all mayE = true) := Lib.hid (by have := hok.out; rwa [List.take_of_length_le (by omega)] at this)
      go_wp2_with fail
      go_ret
      exact ⟨ret_bool hall.out.symm, hbr⟩

theorem refmayE_any : ∀ (s : Nat) (e : Ex) (w : World), e.sz ≤ s → Ex.In w (fun _ => True) e →
    Calls Tryd.prog 20 #[.agg ⟨e.vals⟩] w fun x w' => x = .returned (.bool (mayE e)) ∧ Below w.heap.size w w' := by
  intro s
  induction s using Nat.strongRecOn with
  | _ s ih =>
    intro e w hs hin
    obtain ⟨k, nm, n, a, cap, args, pos⟩ := e
    have hsz : Ex.szL args < s := by unfold Ex.sz at hs; omega
    unfold Ex.In at hin
    obtain ⟨hk8, hnm, hn64, _, hrow, hia⟩ := hin
    have hll : args.length ≤ 9223372036854775807 := by have := hrow.le; have := hrow.lim; unfold maxLen at this; omega
    have hex : ∀ V, Below w.heap.size w V → Calls Tryd.prog 43 #[.slice a args.length cap] V fun x w' => x = .returned (.bool (args.all mayE)) ∧ Below V.heap.size V w' := fun V hb =>
      refexprs_step args a cap V (hrow.below (Kps.of_below hb)) fun k e W he hb2 => ih (Ex.szL args) hsz e W (Ex.sz_get he) (Ex.In.below (Kps.of_below (hb.trans (hb2.mono hb.size))) _ (hia.get he))
    unfold U8 at hk8
    have hc : k = 0 ∨ k = 1 ∨ k = 2 ∨ k = 3 ∨ k = 4 ∨ k = 5 ∨ k = 6 ∨ (7 ≤ k ∧ k ≤ 17) ∨ (17 < k ∧ k ≤ 255) := by omega
    rcases hc with h | h | h | h | h | h | h | h | h
    · exact refmay_none k nm n a cap args pos w (.inl h) hnm hn64 hll hex
    · exact refmay_int k nm n a cap args pos w h hnm hn64 hll hex
    · exact refmay_bool k nm n a cap args pos w h hnm hn64 hll hex
    · exact refmay_var k nm n a cap args pos w h hnm hn64 hll hex
    · exact refmay_index k nm n a cap args pos w h hnm hn64 hll hex
    · exact refmay_neg k nm n a cap args pos w h hnm hn64 hll hex
    · exact refmay_not k nm n a cap args pos w h hnm hn64 hll hex
    · exact refmay_two k nm n a cap args pos w h hnm hn64 hll hex
    · exact refmay_none k nm n a cap args pos w (.inr h) hnm hn64 hll hex
theorem refexprs_any (l : List Ex) (a : Option Addr) (cap : Nat) (w : World) (hrow : RowAt w (fun _ => True) a cap l.length (exCells l)) (hin : Ex.InL w (fun _ => True) l) :
    Calls Tryd.prog 43 #[.slice a l.length cap] w fun x w' => x = .returned (.bool (l.all mayE)) ∧ Below w.heap.size w w' :=
  refexprs_step l a cap w hrow fun _ e W he hb => refmayE_any e.sz e W (Nat.le_refl _) (Ex.In.below (Kps.of_below hb) _ (hin.get he))
end Go.Proofs.YtolmhcdcfnoicaaDoor.Tr
