/- Walks of tree.SameExpr. Conditions: none. -/
import Derived.Test.YtolmhcdcfnoicaaDoorTrL
namespace Go.Proofs.YtolmhcdcfnoicaaDoor.Tr
open Go Go.RowKit
open Go.Proofs.YtolmhcdcfnoicaaDoor.Lx

mutual
/-- the same, but for where they stand? -/
def sameE : Ex → Ex → Bool
  | .mk k nm n _ _ args _, f => match f with
    | .mk k' nm' n' _ _ args' _ => decide (k = k') && decide (nm = nm') && decide (n = n') && sameEL args args'
def sameEL : List Ex → List Ex → Bool
  | [], l => l.isEmpty
  | e :: r, l => match l with
    | [] => false
    | e' :: r' => sameE e e' && sameEL r r'
end
theorem sameE_eq (k : Int) (nm : ByteArray) (n : Int) (a : Option Addr) (cap : Nat) (args : List Ex) (pos : Int) (k' : Int) (nm' : ByteArray) (n' : Int) (a' : Option Addr) (cap' : Nat) (args' : List Ex) (pos' : Int) :
    sameE (.mk k nm n a cap args pos) (.mk k' nm' n' a' cap' args' pos') = (decide (k = k') && decide (nm = nm') && decide (n = n') && sameEL args args') := by unfold sameE; rfl
theorem sameEL_len : ∀ l l', sameEL l l' = true → l.length = l'.length
  | [], l', h => by unfold sameEL at h; simp at h; rw [h]
  | e :: r, [], h => by unfold sameEL at h; cases h
  | e :: r, e' :: r', h => by
    unfold sameEL at h
    rw [Bool.and_eq_true] at h
    rw [List.length_cons, List.length_cons, sameEL_len r r' h.2]
/-- from a place on -/
theorem sameEL_drop : ∀ (l l' : List Ex) (k : Nat) (e e' : Ex), l[k]? = some e → l'[k]? = some e' → sameEL (l.drop k) (l'.drop k) = (sameE e e' && sameEL (l.drop (k + 1)) (l'.drop (k + 1)))
  | l, l', k, e, e', h, h' => by
    have h1 := (List.getElem?_eq_some_iff.1 h)
    have h2 := (List.getElem?_eq_some_iff.1 h')
    rw [List.drop_eq_getElem_cons h1.1, List.drop_eq_getElem_cons h2.1, h1.2, h2.2]
    rw [sameEL]
theorem below_in {w W : World} (h : Below w.heap.size w W) {b o : Nat} {v : Value} (hc : w.cell? ⟨b, o, none⟩ = some v) : W.cell? ⟨b, o, none⟩ = some v := Kps.of_below (S := fun _ => True) h b o v trivial hc

set_option maxHeartbeats 1600000 in
set_option maxRecDepth 100000 in
theorem equalE_step (l l' : List Ex) (a a' : Option Addr) (cap cap' : Nat) (w : World) (hrow : RowAt w (fun _ => True) a cap l.length (exCells l)) (hrow' : RowAt w (fun _ => True) a' cap' l'.length (exCells l'))
    (hcall : ∀ e e' W, e ∈ l → e' ∈ l' → Below w.heap.size w W → Calls Tryd.prog 21 #[.agg ⟨e.vals⟩, .agg ⟨e'.vals⟩] W fun x W' => x = .returned (.bool (sameE e e')) ∧ Below W.heap.size W W') :
    Calls Tryd.prog 44 #[.slice a l.length cap, .slice a' l'.length cap', .func (.func 21) #[] #[]] w fun x w' => x = .returned (.bool (sameEL l l')) ∧ Below w.heap.size w w' := by
  have hll : l.length ≤ 9223372036854775807 := by have := hrow.le; have := hrow.lim; unfold maxLen at this; omega
  have hll' : l'.length ≤ 9223372036854775807 := by have := hrow'.le; have := hrow'.lim; unfold maxLen at this; omega
  by_cases hle : l.length = l'.length
  · have hne : ((l.length : Int) != (l'.length : Int)) = false := by rw [hle]; simp
    have hle' := Lib.hid hle
    go_enter Tryd.func44, Tryd.ntmps44
    clear hle
    go_wp2
    go_loopw [17] (fun i wr => ∃ k : Nat, k ≤ l.length ∧ i = .int .i64 k ∧ sameEL l l' = sameEL (l.drop k) (l'.drop k) ∧ Below w.heap.size w wr) (fun i _ => l.length - (intOf i).toNat)
    case atStart => exact ⟨0, Nat.zero_le _, rfl, rfl, Below.refl _ _⟩
    case round =>
      obtain ⟨k, hk, rfl, hsame, hbr⟩ := hrel
      by_cases hlt : k < l.length
      · have hlt' : k < l'.length := by rw [← hle'.out]; exact hlt
        obtain ⟨e, he⟩ : ∃ e, l[k]? = some e := ⟨l[k], by simp [hlt]⟩
        obtain ⟨e', he'⟩ : ∃ e, l'[k]? = some e := ⟨l'[k], by simp [hlt']⟩
        obtain ⟨b, off, rfl, _, hcell⟩ := ex_row hrow k e he
        obtain ⟨b', off', rfl, _, hcell'⟩ := ex_row hrow' k e' he'
        have hc := fun W hb => hcall e e' W (List.mem_of_getElem? he) (List.mem_of_getElem? he') hb
        have hdr := sameEL_drop l l' k e e' he he'
        rw [hdr] at hsame
        obtain ⟨ek, enm, en, ea, ecap, eargs, epos⟩ := e
        obtain ⟨fk, fnm, fn', fa, fcap, fargs, fpos⟩ := e'
        simp only [← Nat.add_assoc] at hcell hcell'
        have d0 := below_in hbr (hcell 0 _ rfl)
        have d1 := below_in hbr (hcell 1 _ rfl)
        have d2 := below_in hbr (hcell 2 _ rfl)
        have d3 := below_in hbr (hcell 3 _ rfl)
        have d4 := below_in hbr (hcell 4 _ rfl)
        have f0 := fun o => below_in ((Below.refl _ _).alloc (Nat.le_refl _) o) (below_in hbr (hcell' 0 _ rfl))
        have f1 := fun o => below_in ((Below.refl _ _).alloc (Nat.le_refl _) o) (below_in hbr (hcell' 1 _ rfl))
        have f2 := fun o => below_in ((Below.refl _ _).alloc (Nat.le_refl _) o) (below_in hbr (hcell' 2 _ rfl))
        have f3 := fun o => below_in ((Below.refl _ _).alloc (Nat.le_refl _) o) (below_in hbr (hcell' 3 _ rfl))
        have f4 := fun o => below_in ((Below.refl _ _).alloc (Nat.le_refl _) o) (below_in hbr (hcell' 4 _ rfl))
        simp only [Nat.add_zero] at d0 d1 d2 d3 d4 f0 f1 f2 f3 f4
        clear hcell hcell' he he' hrow hrow' hcall hdr
        generalize sameE (.mk ek enm en ea ecap eargs epos) (.mk fk fnm fn' fa fcap fargs fpos) = sv at *
        replace hsame := Lib.hid hsame
        replace hc := Lib.hid hc
        cases sv
        · have hF : Hid (sameEL l l' = false) := Lib.hid (by rw [hsame.out]; rfl)
          go_wp2_with fail
          refine (hc.out _ ((hbr.alloc hbr.size _).alloc (by have := hbr.size; simp; omega) _)).mono ?_
          rintro x W3 ⟨rfl, hb3⟩
          go_wp2_with fail
          go_ret
          exact ⟨ret_bool hF.out.symm, ((hbr.alloc hbr.size _).alloc (by have := hbr.size; simp; omega) _).trans (hb3.mono (by have := hbr.size; simp; omega))⟩
        · have hF : Hid (sameEL l l' = sameEL (l.drop (k + 1)) (l'.drop (k + 1))) := Lib.hid (by rw [hsame.out]; rfl)
          go_wp2_with fail
          refine (hc.out _ ((hbr.alloc hbr.size _).alloc (by have := hbr.size; simp; omega) _)).mono ?_
          rintro x W3 ⟨rfl, hb3⟩
          go_wp2_with fail
          go_roundw
          case rel => exact ⟨k + 1, by omega, by go_num, hF.out, ((hbr.alloc hbr.size _).alloc (by have := hbr.size; simp; omega) _).trans (hb3.mono (by have := hbr.size; simp; omega))⟩
          case measure => simp [intOf]; omega
      · have hF : Hid (sameEL l l' = true) := Lib.hid (by
          rw [hsame, List.drop_of_length_le (by omega), List.drop_of_length_le (by have := hle'.out; omega)]; rfl)
        clear hsame
        go_wp2
        go_ret
        exact ⟨ret_bool hF.out.symm, hbr⟩
  · have hne : ((l.length : Int) != (l'.length : Int)) = true := by simp; omega
    have hF : Hid (sameEL l l' = false) := Lib.hid (by rw [Bool.eq_false_iff]; intro h; exact hle (sameEL_len _ _ h))
    go_enter Tryd.func44, Tryd.ntmps44
    go_wp2
    go_ret
    exact ⟨ret_bool hF.out.symm, Below.refl _ _⟩
end Go.Proofs.YtolmhcdcfnoicaaDoor.Tr
