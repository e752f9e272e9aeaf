/- Two texts that are not the same. Conditions: none. Walks of slices.Equal, slices.EqualFunc, code.SameIns, sameFun, Same. Conditions: what is held against one another lies in memory. Walks of slices.Equal at Mems, code.SameIns, sameFun, Same. Conditions: what is held against one another lies in memory. -/
import Derived.Test.YtkmlhijnkilfpaaDoorJaB
import Derived.Test.YtkmlhijnkilfpaaDoorJaD
import Derived.Deep.QuietTactic
import Derived.Laws.StructEq
namespace Go.Proofs.YtkmlhijnkilfpaaDoor.Tr
open Go Go.RowKit
theorem str_ne {a b : ByteArray} (h : ¬ a = b) : (a.toList == b.toList) = false := by
  rw [Bool.eq_false_iff]
  intro e
  rw [beq_iff_eq, Lib.toList_data, Lib.toList_data] at e
  apply h
  rw [← Lib.mk_data a, ← Lib.mk_data b, e]
theorem below_in {w W : World} (h : Below w.heap.size w W) {b o : Nat} {v : Value} (hc : w.cell? ⟨b, o, none⟩ = some v) : W.cell? ⟨b, o, none⟩ = some v := Kps.of_below (S := fun _ => True) h b o v trivial hc
end Go.Proofs.YtkmlhijnkilfpaaDoor.Tr
namespace Go.Proofs.YtkmlhijnkilfpaaDoor.Cd
open Go Go.RowKit
open Go.Proofs.YtkmlhijnkilfpaaDoor.Lx Go.Proofs.YtkmlhijnkilfpaaDoor.Tr

theorem ne_b {a b : Int} (h : ¬ a = b) : (a == b) = false := by simpa using h
theorem ne_n {a b : Int} (h : ¬ a = b) : (a != b) = true := by simpa using h
theorem bool_b {a b : Bool} (h : ¬ a = b) : (a == b) = false := by simpa using h
theorem len_i {w : World} {S : Nat → Prop} {a : Option Addr} {cap n : Nat} {xs : List Value} (h : RowAt w S a cap n xs) : n ≤ cap ∧ cap ≤ 9223372036854775807 := ⟨h.le, by have := h.lim; unfold maxLen at this; omega⟩
theorem eqL_drop {α : Type} {f : α → α → Bool} (l l' : List α) (k : Nat) (e e' : α) (h : l[k]? = some e) (h' : l'[k]? = some e') : eqL f (l.drop k) (l'.drop k) = (f e e' && eqL f (l.drop (k + 1)) (l'.drop (k + 1))) := by
  have h1 := (List.getElem?_eq_some_iff.1 h)
  have h2 := (List.getElem?_eq_some_iff.1 h')
  rw [List.drop_eq_getElem_cons h1.1, List.drop_eq_getElem_cons h2.1, h1.2, h2.2]
  rfl
theorem eqL_eq {α : Type} [DecidableEq α] {f : α → α → Bool} (hf : ∀ x y, f x y = decide (x = y)) : ∀ l m : List α, eqL f l m = decide (l = m)
  | [], [] => rfl
  | [], _ :: _ => rfl
  | _ :: _, [] => rfl
  | a :: r, b :: s => by
    unfold eqL
    rw [hf, eqL_eq hf r s, Bool.eq_iff_iff]
    simp

set_option maxHeartbeats 800000 in
set_option maxRecDepth 100000 in
theorem equalT_any (l l' : List ByteArray) (a a' : Option Addr) (cap cap' : Nat) (w : World) (hrow : RowAt w (fun _ => True) a cap l.length (strCells l)) (hrow' : RowAt w (fun _ => True) a' cap' l'.length (strCells l')) :
    Calls Tryd.prog 43 #[.slice a l.length cap, .slice a' l'.length cap'] w fun x w' => x = .returned (.bool (decide (l = l'))) ∧ Below w.heap.size w w' := by
  obtain ⟨hc11, hc12⟩ := len_i hrow
  obtain ⟨hc21, hc22⟩ := len_i hrow'
  by_cases hle : l.length = l'.length
  · have hne : ((l.length : Int) != (l'.length : Int)) = false := by rw [hle]; simp
    have hle' := Lib.hid hle
    go_enter Tryd.func43, Tryd.ntmps43
    clear hle
    go_wp2
    go_loopw [13] (fun i wr => ∃ k : Nat, k ≤ l.length ∧ i = .int .i64 k ∧ l.take k = l'.take k ∧ ∃ m, wr = w.drewN m) (fun i _ => l.length - (intOf i).toNat)
    case atStart => exact ⟨0, Nat.zero_le _, rfl, rfl, 0, rfl⟩
    case round =>
      obtain ⟨k, hk, rfl, htk, m, rfl⟩ := hrel
      replace htk := Lib.hid htk
      by_cases hlt : k < l.length
      · have hlt' : k < l'.length := by rw [← hle'.out]; exact hlt
        obtain ⟨x, hx⟩ : ∃ e, l[k]? = some e := ⟨l[k], by simp [hlt]⟩
        obtain ⟨y, hy⟩ : ∃ e, l'[k]? = some e := ⟨l'[k], by simp [hlt']⟩
        obtain ⟨b, off, rfl, _, hcell⟩ := hrow.at_ k (.string x) (by unfold strCells; rw [List.getElem?_map, hx]; rfl)
        obtain ⟨b', off', rfl, _, hcell'⟩ := hrow'.at_ k (.string y) (by unfold strCells; rw [List.getElem?_map, hy]; rfl)
        replace hx := Lib.hid hx
        replace hy := Lib.hid hy
        have hkl' : k < l'.length := hlt'
        by_cases hxy : x = y
        · have HT : Hid (l.take (k + 1) = l'.take (k + 1)) := Lib.hid (by rw [List.take_add_one, List.take_add_one, htk.out, hx.out, hy.out, hxy])
          subst hxy
          go_wp2
          go_quiet (fail)
          go_wp2
          go_roundw
          case rel => exact ⟨k + 1, by omega, by go_num, HT.out, _, rfl⟩
          case measure => simp [intOf]; omega
        · have HN : Hid (decide (l = l') = false) := Lib.hid (by
            rw [decide_eq_false_iff_not]; intro e; apply hxy
            have h3 := hx.out; rw [e, hy.out] at h3
            exact (Option.some.inj h3).symm)
          have hs1 := str_ne hxy
          have hs2 : (x.toList != y.toList) = true := by unfold bne; rw [hs1]; rfl
          clear hxy
          go_wp2
          go_quiet (fail)
          go_wp2
          go_ret
          exact ⟨ret_bool HN.out.symm, ⟨rfl, rfl, rfl, Nat.le_refl _, fun _ _ => rfl⟩⟩
      · have HE : Hid (decide (l = l') = true) := Lib.hid (by
          have h3 := htk.out
          have h4 := hle'.out
          rw [List.take_of_length_le (by omega), List.take_of_length_le (by omega)] at h3
          simpa using h3)
        clear htk
        go_wp2
        go_ret
        exact ⟨ret_bool HE.out.symm, ⟨rfl, rfl, rfl, Nat.le_refl _, fun _ _ => rfl⟩⟩
  · have hne : ((l.length : Int) != (l'.length : Int)) = true := by simp; omega
    have hF : Hid (decide (l = l') = false) := Lib.hid (by rw [decide_eq_false_iff_not]; intro h; exact hle (by rw [h]))
    go_enter Tryd.func43, Tryd.ntmps43
    go_wp2
    go_ret
    exact ⟨ret_bool hF.out.symm, Below.refl _ _⟩
set_option maxHeartbeats 800000 in
set_option maxRecDepth 100000 in
theorem equalI_any (l l' : List Int) (a a' : Option Addr) (cap cap' : Nat) (w : World) (hrow : RowAt w (fun _ => True) a cap l.length (numCells l)) (hrow' : RowAt w (fun _ => True) a' cap' l'.length (numCells l')) :
    Calls Tryd.prog 67 #[.slice a l.length cap, .slice a' l'.length cap'] w fun x w' => x = .returned (.bool (decide (l = l'))) ∧ Below w.heap.size w w' := by
  obtain ⟨hc11, hc12⟩ := len_i hrow
  obtain ⟨hc21, hc22⟩ := len_i hrow'
  by_cases hle : l.length = l'.length
  · have hne : ((l.length : Int) != (l'.length : Int)) = false := by rw [hle]; simp
    have hle' := Lib.hid hle
    go_enter Tryd.func67, Tryd.ntmps67
    clear hle
    go_wp2
    go_loopw [13] (fun i wr => ∃ k : Nat, k ≤ l.length ∧ i = .int .i64 k ∧ l.take k = l'.take k ∧ ∃ m, wr = w.drewN m) (fun i _ => l.length - (intOf i).toNat)
    case atStart => exact ⟨0, Nat.zero_le _, rfl, rfl, 0, rfl⟩
    case round =>
      obtain ⟨k, hk, rfl, htk, m, rfl⟩ := hrel
      replace htk := Lib.hid htk
      by_cases hlt : k < l.length
      · have hlt' : k < l'.length := by rw [← hle'.out]; exact hlt
        obtain ⟨x, hx⟩ : ∃ e, l[k]? = some e := ⟨l[k], by simp [hlt]⟩
        obtain ⟨y, hy⟩ : ∃ e, l'[k]? = some e := ⟨l'[k], by simp [hlt']⟩
        obtain ⟨b, off, rfl, _, hcell⟩ := hrow.at_ k (.int .i64 x) (by unfold numCells; rw [List.getElem?_map, hx]; rfl)
        obtain ⟨b', off', rfl, _, hcell'⟩ := hrow'.at_ k (.int .i64 y) (by unfold numCells; rw [List.getElem?_map, hy]; rfl)
        replace hx := Lib.hid hx
        replace hy := Lib.hid hy
        have hkl' : k < l'.length := hlt'
        by_cases hxy : x = y
        · have HT : Hid (l.take (k + 1) = l'.take (k + 1)) := Lib.hid (by rw [List.take_add_one, List.take_add_one, htk.out, hx.out, hy.out, hxy])
          subst hxy
          go_wp2
          go_quiet (fail)
          go_wp2
          go_roundw
          case rel => exact ⟨k + 1, by omega, by go_num, HT.out, _, rfl⟩
          case measure => simp [intOf]; omega
        · have HN : Hid (decide (l = l') = false) := Lib.hid (by
            rw [decide_eq_false_iff_not]; intro e; apply hxy
            have h3 := hx.out; rw [e, hy.out] at h3
            exact (Option.some.inj h3).symm)
          have hs1 := ne_n hxy
          clear hxy
          go_wp2
          go_quiet (fail)
          go_wp2
          go_ret
          exact ⟨ret_bool HN.out.symm, ⟨rfl, rfl, rfl, Nat.le_refl _, fun _ _ => rfl⟩⟩
      · have HE : Hid (decide (l = l') = true) := Lib.hid (by
          have h3 := htk.out
          have h4 := hle'.out
          rw [List.take_of_length_le (by omega), List.take_of_length_le (by omega)] at h3
          simpa using h3)
        clear htk
        go_wp2
        go_ret
        exact ⟨ret_bool HE.out.symm, ⟨rfl, rfl, rfl, Nat.le_refl _, fun _ _ => rfl⟩⟩
  · have hne : ((l.length : Int) != (l'.length : Int)) = true := by simp; omega
    have hF : Hid (decide (l = l') = false) := Lib.hid (by rw [decide_eq_false_iff_not]; intro h; exact hle (by rw [h]))
    go_enter Tryd.func67, Tryd.ntmps67
    go_wp2
    go_ret
    exact ⟨ret_bool hF.out.symm, Below.refl _ _⟩
end Go.Proofs.YtkmlhijnkilfpaaDoor.Cd
namespace Go.Proofs.YtkmlhijnkilfpaaDoor.Cd
open Go Go.RowKit
open Go.Proofs.YtkmlhijnkilfpaaDoor.Lx Go.Proofs.YtkmlhijnkilfpaaDoor.Tr

theorem stoodM : Tryd.prog.stoodInHeld 56 = false := by kernel_rfl
theorem guardM : Tryd.prog.eqGuardType Tryd.prog.depth 56 = false := by kernel_rfl
theorem structM : Tryd.prog.underlying 56 = some (.struct (Tryd.prog.fieldsOf 56)) := by kernel_rfl
theorem str_dec (a b : ByteArray) : (a.toList == b.toList) = decide (a = b) := by
  by_cases h : a = b
  · subst h; simp
  · rw [str_ne h, decide_eq_false h]
theorem mem_neq (x y : Mm) (W : World) : (binOp .neq 56 (.agg #[.string x.name, .int .i64 x.size, .int .i64 x.first]) (.agg #[.string y.name, .int .i64 y.size, .int .i64 y.first])).run Tryd.prog W = .ok (.bool (!sameM x y)) W := by
  unfold sameM
  rw [run_neq_struct, ← str_dec]
  rw [show (10000 : Nat) = 9999 + 1 from rfl, run_equalIn_struct _ 9999 56 _ _ structM stoodM]
  cases h1 : (x.name.toList == y.name.toList) <;> by_cases h2 : x.size = y.size <;> by_cases h3 : x.first = y.first <;>
    simp [Program.fieldsOf, Tryd.underlying56, Tryd.underlying9, Tryd.underlying3, Tryd.underlying2, Op.eqFields, part, go_sem, h1, h2, h3]
set_option maxHeartbeats 800000 in
set_option maxRecDepth 100000 in
theorem equalM_any (l l' : List Mm) (a a' : Option Addr) (cap cap' : Nat) (w : World) (hrow : RowAt w (fun _ => True) a cap l.length (mmCells l)) (hrow' : RowAt w (fun _ => True) a' cap' l'.length (mmCells l')) :
    Calls Tryd.prog 42 #[.slice a l.length cap, .slice a' l'.length cap'] w fun x w' => x = .returned (.bool (eqL sameM l l')) ∧ Below w.heap.size w w' := by
  obtain ⟨hc11, hc12⟩ := len_i hrow
  obtain ⟨hc21, hc22⟩ := len_i hrow'
  by_cases hle : l.length = l'.length
  · have hne : ((l.length : Int) != (l'.length : Int)) = false := by rw [hle]; simp
    have hle' := Lib.hid hle
    go_enter Tryd.func42, Tryd.ntmps42
    clear hle
    go_wp2
    go_loopw [13] (fun i wr => ∃ k : Nat, k ≤ l.length ∧ i = .int .i64 k ∧ eqL sameM l l' = eqL sameM (l.drop k) (l'.drop k) ∧ ∃ m, wr = w.drewN m) (fun i _ => l.length - (intOf i).toNat)
    case atStart => exact ⟨0, Nat.zero_le _, rfl, rfl, 0, rfl⟩
    case round =>
      obtain ⟨k, hk, rfl, hsame, m, rfl⟩ := hrel
      by_cases hlt : k < l.length
      · have hlt' : k < l'.length := by rw [← hle'.out]; exact hlt
        obtain ⟨x, hx⟩ : ∃ e, l[k]? = some e := ⟨l[k], by simp [hlt]⟩
        obtain ⟨y, hy⟩ : ∃ e, l'[k]? = some e := ⟨l'[k], by simp [hlt']⟩
        obtain ⟨b, off, rfl, _, c0, c1, c2⟩ := mm_row hrow k x hx
        obtain ⟨b', off', rfl, _, e0, e1, e2⟩ := mm_row hrow' k y hy
        rw [eqL_drop l l' k x y hx hy] at hsame
        have hkl' : k < l'.length := hlt'
        have hgd := guardM
        have hcm := fun V => mem_neq x y V
        clear hx hy hrow hrow'
        cases hs : sameM x y
        · have HN : Hid (eqL sameM l l' = false) := Lib.hid (by rw [hsame, hs]; rfl)
          rw [hs] at hcm
          clear hs hsame
          go_wp2
          go_quiet (fail)
          go_wp2
          go_ret
          exact ⟨ret_bool HN.out.symm, ⟨rfl, rfl, rfl, Nat.le_refl _, fun _ _ => rfl⟩⟩
        · have HT : Hid (eqL sameM l l' = eqL sameM (l.drop (k + 1)) (l'.drop (k + 1))) := Lib.hid (by rw [hsame, hs]; rfl)
          rw [hs] at hcm
          clear hs hsame
          go_wp2
          go_quiet (fail)
          go_wp2
          go_roundw
          case rel => exact ⟨k + 1, by omega, by go_num, HT.out, _, rfl⟩
          case measure => simp [intOf]; omega
      · have HE : Hid (eqL sameM l l' = true) := Lib.hid (by
          rw [hsame, List.drop_of_length_le (by omega), List.drop_of_length_le (by have := hle'.out; omega)]; rfl)
        clear hsame
        go_wp2
        go_ret
        exact ⟨ret_bool HE.out.symm, ⟨rfl, rfl, rfl, Nat.le_refl _, fun _ _ => rfl⟩⟩
  · have hne : ((l.length : Int) != (l'.length : Int)) = true := by simp; omega
    have hF : Hid (eqL sameM l l' = false) := Lib.hid (by rw [Bool.eq_false_iff]; intro h; exact hle (eqL_len h))
    go_enter Tryd.func42, Tryd.ntmps42
    go_wp2
    go_ret
    exact ⟨ret_bool hF.out.symm, Below.refl _ _⟩

set_option maxHeartbeats 4000000 in
set_option maxRecDepth 100000 in
theorem sameIns_any (i k : Ins) (w : World) (hi : RowAt w (fun _ => True) i.aa i.acap i.args.length (numCells i.args)) (hk : RowAt w (fun _ => True) k.aa k.acap k.args.length (numCells k.args)) :
    Calls Tryd.prog 81 #[.agg ⟨i.vals⟩, .agg ⟨k.vals⟩] w fun x w' => x = .returned (.bool (sameI i k)) ∧ Below w.heap.size w w' := by
  obtain ⟨op, r, a, b, n, aa, acap, args⟩ := i
  obtain ⟨op', r', a', b', n', aa', acap', args'⟩ := k
  unfold sameI Ins.vals
  simp only at hi hk ⊢
  have hc := fun W (hb : Below w.heap.size w W) => equalI_any args args' aa aa' acap acap' W (hi.below (Kps.of_below hb)) (hk.below (Kps.of_below hb))
  generalize decide (args = args') = dv at *
  clear hi hk
  replace hc := Lib.hid hc
  by_cases h0 : op = op'
  · subst h0
    by_cases h1 : r = r'
    · subst h1
      by_cases h2 : a = a'
      · subst h2
        by_cases h3 : b = b'
        · subst h3
          by_cases h4 : n = n'
          · subst h4
            go_enter Tryd.func81, Tryd.ntmps81
            go_wp2_with fail
            refine (hc.out _ (b_alloc2 _ _ _)).mono ?_
            rintro x w' ⟨rfl, hb⟩
            have hbb := Lib.hid (b_next2 hb)
            clear hb
            go_wp2_with fail
            go_ret
            exact ⟨ret_bool (by simp [*]), hbb.out⟩
          · have e4 := ne_b h4
            go_enter Tryd.func81, Tryd.ntmps81
            go_wp2_with fail
            go_ret
            exact ⟨ret_bool (by simp [*]), b_alloc2 _ _ _⟩
        · have e3 := ne_b h3
          go_enter Tryd.func81, Tryd.ntmps81
          go_wp2_with fail
          go_ret
          exact ⟨ret_bool (by simp [*]), b_alloc2 _ _ _⟩
      · have e2 := ne_b h2
        go_enter Tryd.func81, Tryd.ntmps81
        go_wp2_with fail
        go_ret
        exact ⟨ret_bool (by simp [*]), b_alloc2 _ _ _⟩
    · have e1 := ne_b h1
      go_enter Tryd.func81, Tryd.ntmps81
      go_wp2_with fail
      go_ret
      exact ⟨ret_bool (by simp [*]), b_alloc2 _ _ _⟩
  · have e0 := ne_b h0
    go_enter Tryd.func81, Tryd.ntmps81
    go_wp2_with fail
    go_ret
    exact ⟨ret_bool (by simp [*]), b_alloc2 _ _ _⟩
set_option maxHeartbeats 1600000 in
set_option maxRecDepth 100000 in
theorem equalInsF (l l' : List Ins) (a a' : Option Addr) (cap cap' : Nat) (w : World) (hrow : RowAt w (fun _ => True) a cap l.length (inCells l)) (hrow' : RowAt w (fun _ => True) a' cap' l'.length (inCells l'))
    (hcall : ∀ e e' W, e ∈ l → e' ∈ l' → Below w.heap.size w W → Calls Tryd.prog 81 #[.agg ⟨e.vals⟩, .agg ⟨e'.vals⟩] W fun x W' => x = .returned (.bool (sameI e e')) ∧ Below W.heap.size W W') :
    Calls Tryd.prog 80 #[.slice a l.length cap, .slice a' l'.length cap', .func (.func 81) #[] #[]] w fun x w' => x = .returned (.bool (eqL sameI l l')) ∧ Below w.heap.size w w' := by
  obtain ⟨hc11, hc12⟩ := len_i hrow
  obtain ⟨hc21, hc22⟩ := len_i hrow'
  by_cases hle : l.length = l'.length
  · have hne : ((l.length : Int) != (l'.length : Int)) = false := by rw [hle]; simp
    have hle' := Lib.hid hle
    go_enter Tryd.func80, Tryd.ntmps80
    clear hle
    go_wp2
    go_loopw [17] (fun i wr => ∃ k : Nat, k ≤ l.length ∧ i = .int .i64 k ∧ eqL sameI l l' = eqL sameI (l.drop k) (l'.drop k) ∧ Below w.heap.size w wr) (fun i _ => l.length - (intOf i).toNat)
    case atStart => exact ⟨0, Nat.zero_le _, rfl, rfl, Below.refl _ _⟩
    case round =>
      obtain ⟨k, hk, rfl, hsame, hbr⟩ := hrel
      by_cases hlt : k < l.length
      · have hlt' : k < l'.length := by rw [← hle'.out]; exact hlt
        obtain ⟨e, he⟩ : ∃ e, l[k]? = some e := ⟨l[k], by simp [hlt]⟩
        obtain ⟨e', he'⟩ : ∃ e, l'[k]? = some e := ⟨l'[k], by simp [hlt']⟩
        obtain ⟨b, off, rfl, _, c0, c1, c2, c3, c4, c5⟩ := in_row hrow k e he
        obtain ⟨b', off', rfl, _, e0, e1, e2, e3, e4, e5⟩ := in_row hrow' k e' he'
        have hcl := fun W hb => hcall e e' W (List.mem_of_getElem? he) (List.mem_of_getElem? he') hb
        rw [eqL_drop l l' k e e' he he'] at hsame
        unfold Ins.vals at hcl
        have d0 := below_in hbr c0
        have d1 := below_in hbr c1
        have d2 := below_in hbr c2
        have d3 := below_in hbr c3
        have d4 := below_in hbr c4
        have d5 := below_in hbr c5
        have f0 := fun o => below_in ((Below.refl _ _).alloc (Nat.le_refl _) o) (below_in hbr e0)
        have f1 := fun o => below_in ((Below.refl _ _).alloc (Nat.le_refl _) o) (below_in hbr e1)
        have f2 := fun o => below_in ((Below.refl _ _).alloc (Nat.le_refl _) o) (below_in hbr e2)
        have f3 := fun o => below_in ((Below.refl _ _).alloc (Nat.le_refl _) o) (below_in hbr e3)
        have f4 := fun o => below_in ((Below.refl _ _).alloc (Nat.le_refl _) o) (below_in hbr e4)
        have f5 := fun o => below_in ((Below.refl _ _).alloc (Nat.le_refl _) o) (below_in hbr e5)
        clear c0 c1 c2 c3 c4 c5 e0 e1 e2 e3 e4 e5 he he' hrow hrow' hcall
        generalize sameI e e' = sv at *
        replace hsame := Lib.hid hsame
        replace hcl := Lib.hid hcl
        cases sv
        · have hF : Hid (eqL sameI l l' = false) := Lib.hid (by rw [hsame.out]; rfl)
          go_wp2_with fail
          refine (hcl.out _ ((hbr.alloc hbr.size _).alloc (by have := hbr.size; simp; omega) _)).mono ?_
          rintro x W3 ⟨rfl, hb3⟩
          go_wp2_with fail
          go_ret
          exact ⟨ret_bool hF.out.symm, ((hbr.alloc hbr.size _).alloc (by have := hbr.size; simp; omega) _).trans (hb3.mono (by have := hbr.size; simp; omega))⟩
        · have hF : Hid (eqL sameI l l' = eqL sameI (l.drop (k + 1)) (l'.drop (k + 1))) := Lib.hid (by rw [hsame.out]; rfl)
          go_wp2_with fail
          refine (hcl.out _ ((hbr.alloc hbr.size _).alloc (by have := hbr.size; simp; omega) _)).mono ?_
          rintro x W3 ⟨rfl, hb3⟩
          go_wp2_with fail
          go_roundw
          case rel => exact ⟨k + 1, by omega, by go_num, hF.out, ((hbr.alloc hbr.size _).alloc (by have := hbr.size; simp; omega) _).trans (hb3.mono (by have := hbr.size; simp; omega))⟩
          case measure => simp [intOf]; omega
      · have hF : Hid (eqL sameI l l' = true) := Lib.hid (by
          rw [hsame, List.drop_of_length_le (by omega), List.drop_of_length_le (by have := hle'.out; omega)]; rfl)
        clear hsame
        go_wp2
        go_ret
        exact ⟨ret_bool hF.out.symm, hbr⟩
  · have hne : ((l.length : Int) != (l'.length : Int)) = true := by simp; omega
    have hF : Hid (eqL sameI l l' = false) := Lib.hid (by rw [Bool.eq_false_iff]; intro h; exact hle (eqL_len h))
    go_enter Tryd.func80, Tryd.ntmps80
    go_wp2
    go_ret
    exact ⟨ret_bool hF.out.symm, Below.refl _ _⟩
end Go.Proofs.YtkmlhijnkilfpaaDoor.Cd
