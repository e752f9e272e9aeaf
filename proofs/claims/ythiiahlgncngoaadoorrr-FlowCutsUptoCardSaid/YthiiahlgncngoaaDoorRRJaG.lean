/- Two texts that are not the same. Conditions: none. -/
import Derived.Test.YthiiahlgncngoaaDoorRRJM1
import Derived.Laws.StructEq
set_option maxHeartbeats 16000000
set_option maxRecDepth 100000
namespace Go.Proofs.YthiiahlgncngoaaDoorRR.Tr
open Go Go.RowKit
theorem str_ne {a b : ByteArray} (h : ¬ a = b) : (a.toList == b.toList) = false := by
 rw [Bool.eq_false_iff]
 intro e
 rw [beq_iff_eq, Lib.toList_data, Lib.toList_data] at e
 apply h
 rw [← Lib.mk_data a, ← Lib.mk_data b, e]
theorem Qe {w W : World} (h : Below w.heap.size w W) {b o : Nat} {v : Value} (hc : w.cell? ⟨b, o, none⟩ = some v) : W.cell? ⟨b, o, none⟩ = some v := Kps.of_below (S := fun _ => True) h b o v trivial hc
end Go.Proofs.YthiiahlgncngoaaDoorRR.Tr
namespace Go.Proofs.YthiiahlgncngoaaDoorRR.Cd
open Go Go.RowKit
open Go.Proofs.YthiiahlgncngoaaDoorRR.Lx Go.Proofs.YthiiahlgncngoaaDoorRR.Tr
theorem ne_b {a b : Int} (h : ¬ a = b) : (a == b) = false := by simpa using h
theorem ne_n {a b : Int} (h : ¬ a = b) : (a != b) = true := by simpa using h
theorem bool_b {a b : Bool} (h : ¬ a = b) : (a == b) = false := by simpa using h
theorem Q2 {w : World} {S : Nat → Prop} {a : Option Addr} {cap n : Nat} {xs : List Value} (h : RowAt w S a cap n xs) : n ≤ cap ∧ cap ≤ 9223372036854775807 := ⟨h.le, by have := h.lim; unfold maxLen at this; omega⟩
theorem eqL_drop {α : Type} {f : α → α → Bool} (l l' : List α) (k : Nat) (e e' : α) (h : l[k]? = some e) (h' : l'[k]? = some e') : eqL f (l.drop k) (l'.drop k) = (f e e' && eqL f (l.drop (k + 1)) (l'.drop (k + 1))) := by
 have h1 := (List.getElem?_eq_some_iff.1 h)
 have h2 := (List.getElem?_eq_some_iff.1 h')
 rw [List.drop_eq_getElem_cons h1.1, List.drop_eq_getElem_cons h2.1, h1.2, h2.2]
 rfl
theorem equalI_any (l l' : List Int) (a a' : Option Addr) (cap cap' : Nat) (w : World) (hrow : RowAt w (fun _ => True) a cap l.length (Qc l)) (hrow' : RowAt w (fun _ => True) a' cap' l'.length (Qc l')) :
 Calls Tryd.prog 74 #[.slice a l.length cap, .slice a' l'.length cap'] w fun x w' => x = .returned (.bool (decide (l = l'))) ∧ Below w.heap.size w w' := by
 obtain ⟨hc11, hc12⟩ := Q2 hrow
 obtain ⟨hc21, hc22⟩ := Q2 hrow'
 by_cases hle : l.length = l'.length
 · have hne : ((l.length : Int) != (l'.length : Int)) = false := by rw [hle]; simp
   have hle' := Lh hle
   go_enter Tryd.func74, Tryd.ntmps74
   clear hle
   go_wp2
   go_loopw [13] (fun i wr => ∃ k : Nat, k ≤ l.length ∧ i = .int .i64 k ∧ l.take k = l'.take k ∧ ∃ m, wr = w.drewN m) (fun i _ => l.length - (intOf i).toNat)
   case atStart => exact ⟨0, Nat.zero_le _, rfl, rfl, 0, rfl⟩
   case round =>
    obtain ⟨k, hk, rfl, htk, m, rfl⟩ := hrel
    replace htk := Lh htk
    by_cases hlt : k < l.length
    · have hlt' : k < l'.length := by rw [← hle'.out]; exact hlt
      obtain ⟨x, hx⟩ : ∃ e, l[k]? = some e := ⟨l[k], by simp [hlt]⟩
      obtain ⟨y, hy⟩ : ∃ e, l'[k]? = some e := ⟨l'[k], by simp [hlt']⟩
      obtain ⟨b, off, rfl, _, hcell⟩ := hrow.at_ k (.int .i64 x) (by unfold Qc; rw [List.getElem?_map, hx]; rfl)
      obtain ⟨b', off', rfl, _, hcell'⟩ := hrow'.at_ k (.int .i64 y) (by unfold Qc; rw [List.getElem?_map, hy]; rfl)
      replace hx := Lh hx
      replace hy := Lh hy
      have hkl' : k < l'.length := hlt'
      by_cases hxy : x = y
      · have HT : Hid (l.take (k + 1) = l'.take (k + 1)) := Lh (by rw [List.take_add_one, List.take_add_one, htk.out, hx.out, hy.out, hxy])
        subst hxy
        go_wp2
        go_quiet (fail)
        go_wp2
        go_roundw
        case rel => exact ⟨k + 1, by omega, by go_num, HT.out, _, rfl⟩
        case measure => simp [intOf]; omega
      · have HN : Hid (decide (l = l') = false) := Lh (by
         rw [decide_eq_false_iff_not]; intro e; apply hxy
         have h3 := hx.out; rw [e, hy.out] at h3
         exact (Option.some.inj h3).symm)
        have hs1 := ne_n hxy
        clear hxy
        go_wp2
        go_quiet (fail)
        go_wp2
        go_ret
        exact ⟨Qi HN.out.symm, ⟨rfl, rfl, rfl, Nat.le_refl _, fun _ _ => rfl⟩⟩
    · have HE : Hid (decide (l = l') = true) := Lh (by
       have h3 := htk.out
       have h4 := hle'.out
       rw [List.take_of_length_le (by omega), List.take_of_length_le (by omega)] at h3
       simpa using h3)
      clear htk
      go_wp2
      go_ret
      exact ⟨Qi HE.out.symm, ⟨rfl, rfl, rfl, Nat.le_refl _, fun _ _ => rfl⟩⟩
 · have hne : ((l.length : Int) != (l'.length : Int)) = true := by simp; omega
   have hF : Hid (decide (l = l') = false) := Lh (by rw [decide_eq_false_iff_not]; intro h; exact hle (by rw [h]))
   go_enter Tryd.func74, Tryd.ntmps74
   go_wp2
   go_ret
   exact ⟨Qi hF.out.symm, Below.refl _ _⟩
theorem stoodM : Tryd.prog.stoodInHeld 57 = false := by kernel_rfl
theorem guardM : Tryd.prog.eqGuardType Tryd.prog.depth 57 = false := by kernel_rfl
theorem structM : Tryd.prog.underlying 57 = some (.struct (Tryd.prog.fieldsOf 57)) := by kernel_rfl
theorem str_dec (a b : ByteArray) : (a.toList == b.toList) = decide (a = b) := by
 by_cases h : a = b
 · subst h; simp
 · rw [str_ne h, decide_eq_false h]
theorem mem_neq (x y : Mm) (W : World) : (binOp .neq 57 (.agg #[.string x.name, .int .i64 x.size, .int .i64 x.first]) (.agg #[.string y.name, .int .i64 y.size, .int .i64 y.first])).run Tryd.prog W = .ok (.bool (!sameM x y)) W := by
 unfold sameM
 rw [run_neq_struct, ← str_dec]
 rw [show (10000 : Nat) = 9999 + 1 from rfl, run_equalIn_struct _ 9999 57 _ _ structM stoodM]
 cases h1 : (x.name.toList == y.name.toList) <;> by_cases h2 : x.size = y.size <;> by_cases h3 : x.first = y.first <;>
  simp [Program.fieldsOf, Tryd.underlying57, Tryd.underlying9, Tryd.underlying3, Tryd.underlying2, Op.eqFields, part, go_sem, h1, h2, h3]
end Go.Proofs.YthiiahlgncngoaaDoorRR.Cd
