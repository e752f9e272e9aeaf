/- Walk of bobbinref08.Same. Conditions: the memories lie in the world. -/
import Derived.Test.YtnoilcchegmpfaaMgC
import Derived.BigQuiet
namespace Go.Proofs.Ytnoilcchegmpfaa.Me
open Go Go.RowKit

def IsR (P : Prop) (e : Ending) : Prop := ∃ r, e = .returned (.bool r) ∧ (r = true ↔ P)
theorem isR_yes {P : Prop} (h : P) : IsR P (.returned (.bool true)) := ⟨true, rfl, by simp [h]⟩
theorem isR_no {P : Prop} (h : ¬ P) : IsR P (.returned (.bool false)) := ⟨false, rfl, by simp [h]⟩
structure Sd (w V : World) : Prop where
  keep : ∀ a, V.cell? a = w.cell? a
  bl : Below w.heap.size w V
theorem Sd.drew {w V : World} (h : Sd w V) (n : Nat) : Sd w (V.drewN n) := ⟨h.keep, h.bl.trans ⟨rfl, rfl, rfl, Nat.le_refl _, fun _ _ => rfl⟩⟩
def SameP (a b : Dm) : Prop := a.C = b.C ∧ a.locks = b.locks ∧ ∀ i : Nat, i < a.locks → a.h i = b.h i
set_option maxHeartbeats 8000000 in
set_option maxRecDepth 100000 in
theorem dSame_c {w : World} {a b : Dm} (h : a.In w) (h' : b.In w) : Calls Try.prog 12 #[.pointer (some ⟨a.mb, 0, none⟩), .pointer (some ⟨b.mb, 0, none⟩)] w fun e w' => IsR (SameP a b) e ∧ Below w.heap.size w w' := by
  have c0 := h.c0
  have c1 := h.c1
  have c2 := h.c2
  have c0' := h'.c0
  have c1' := h'.c1
  have c2' := h'.c2
  have hl := h.lim
  have hl' := h'.lim
  have hk := h.lk
  have hk' := h'.lk
  have l0 := h.cs.le
  have l1 := h.hs.le
  have l2 := h.bs.le
  have l0' := h'.cs.le
  have l1' := h'.hs.le
  have l2' := h'.bs.le
  have m0 := h.cs.lim
  have m1 := h.hs.lim
  have m2 := h.bs.lim
  have m0' := h'.cs.lim
  have m1' := h'.hs.lim
  have m2' := h'.bs.lim
  have hyes := Lib.hid (fun p : SameP a b => isR_yes p)
  have hno := Lib.hid (fun p : ¬ SameP a b => isR_no p)
  have hSd : Hid (Sd w w) := Lib.hid ⟨fun _ => rfl, Below.refl _ _⟩
  have hrow := Lib.hid (fun k (r : Row) (hr : a.rows[k]? = some r) => h.row hr)
  have hrow' := Lib.hid (fun k (r : Row) (hr : b.rows[k]? = some r) => h'.row hr)
  have hhe := Lib.hid (fun k (hk : k < a.locks) => h.held hk)
  have hhe' := Lib.hid (fun k (hk : k < b.locks) => h'.held hk)
  have hby := Lib.hid (fun k (hk : k < a.locks) => h.by_ hk)
  have hby' := Lib.hid (fun k (hk : k < b.locks) => h'.by_ hk)
  obtain ⟨n, hn⟩ : ∃ n, a.rows.length = n := ⟨_, rfl⟩
  obtain ⟨n', hn'⟩ : ∃ n, b.rows.length = n := ⟨_, rfl⟩
  obtain ⟨z, hz⟩ : ∃ n, a.locks = n := ⟨_, rfl⟩
  obtain ⟨z', hz'⟩ : ∃ n, b.locks = n := ⟨_, rfl⟩
  rw [hn] at c0 hl l0
  rw [hn'] at c0' hl' l0'
  rw [hz] at c1 c2 hk l1 l2
  rw [hz'] at c1' c2' hk' l1' l2'
  replace hn := Lib.hid hn
  replace hn' := Lib.hid hn'
  replace hz := Lib.hid hz
  replace hz' := Lib.hid hz'
  clear h h'
  by_cases hnn : n = n'
  case neg =>
    have hE := Lib.hid (hno.out fun p => hnn (by have := congrArg List.length p.1; unfold Dm.C at this; rw [List.length_map, List.length_map, hn.out, hn'.out] at this; exact this))
    have hne : ¬ (n : Int) = (n' : Int) := by omega
    clear hno hyes hrow hrow' hhe hhe' hby hby' hn hn' hz hz' hnn
    go_enter Try.func12, Try.ntmps12
    go_wp2_with fail
    go_quiet (fail)
    go_wp2_with fail
    go_ret
    exact ⟨hE.out, (hSd.out.drew _).bl⟩
  subst hnn
  by_cases hzz : z = z'
  case neg =>
    have hE := Lib.hid (hno.out fun p => hzz (by have := p.2.1; rw [hz.out, hz'.out] at this; exact this))
    have hne : ¬ (z : Int) = (z' : Int) := by omega
    clear hno hyes hrow hrow' hhe hhe' hby hby' hn hn' hz hz' hzz
    go_enter Try.func12, Try.ntmps12
    go_wp2_with fail
    go_quiet (fail)
    go_wp2_with fail
    go_ret
    exact ⟨hE.out, (hSd.out.drew _).bl⟩
  subst hzz
  have hb0 : Hid (∀ j : Nat, j < 0 → a.C[j]? = b.C[j]?) := Lib.hid (fun j hj => by omega)
  go_enter Try.func12, Try.ntmps12
  go_wp2_with fail
  go_quiet (fail)
  go_wp2_with fail
  go_loopw [5, 6] (fun t5 t6 V => ∃ i : Nat, i ≤ n ∧ t5 = .int .i64 i ∧ Hid (Sd w V) ∧ Hid (∀ j : Nat, j < i → a.C[j]? = b.C[j]?)) (fun t5 _ _ => n - (intOf t5).toNat)
  case atStart => exact ⟨0, Nat.zero_le _, rfl, Lib.hid (hSd.out.drew _), hb0⟩
  case round =>
    clear hSd hb0
    obtain ⟨i, hi, rfl, hSd, hB⟩ := hrel
    rename_i V
    replace c0 := (hSd.out.keep _).trans c0
    replace c1 := (hSd.out.keep _).trans c1
    replace c2 := (hSd.out.keep _).trans c2
    replace c0' := (hSd.out.keep _).trans c0'
    replace c1' := (hSd.out.keep _).trans c1'
    replace c2' := (hSd.out.keep _).trans c2'
    by_cases hin : i < n
    · obtain ⟨r, hr⟩ : ∃ r, a.rows[i]? = some r := ⟨_, List.getElem?_eq_getElem (show i < a.rows.length by rw [hn.out]; exact hin)⟩
      obtain ⟨r', hr'⟩ : ∃ r, b.rows[i]? = some r := ⟨_, List.getElem?_eq_getElem (show i < b.rows.length by rw [hn'.out]; exact hin)⟩
      obtain ⟨hR, cb, e1, d1⟩ := hrow.out i r hr
      obtain ⟨hR', cb', e1', d1'⟩ := hrow'.out i r' hr'
      rw [e1] at c0
      rw [e1'] at c0'
      unfold Row.val at d1 d1'
      have hla : a.C[i]? = some r.l := by unfold Dm.C; rw [List.getElem?_map, hr]; rfl
      have hlb : b.C[i]? = some r'.l := by unfold Dm.C; rw [List.getElem?_map, hr']; rfl
      have hcl := Lib.hid (fun k (hk : k < r.l.length) => (hR.cell (List.getElem?_eq_getElem hk)).1)
      have hcl' := Lib.hid (fun k (hk : k < r'.l.length) => (hR'.cell (List.getElem?_eq_getElem hk)).1)
      have hle3 := hR.le
      have hle3' := hR'.le
      have hlim3 := hR.lim
      have hlim3' := hR'.lim
      have hsz3 := hR.sz
      have hsz3' := hR'.sz
      have hmis : Hid (r.l ≠ r'.l → IsR (SameP a b) (.returned (.bool false))) := Lib.hid fun hne => hno.out fun p => hne (by have := p.1; rw [this, hlb] at hla; exact (Option.some.inj hla).symm)
      have hok : Hid (r.l = r'.l → ∀ j : Nat, j < i + 1 → a.C[j]? = b.C[j]?) := Lib.hid fun he j hj => by
        by_cases hji : j < i
        · exact hB.out j hji
        · obtain rfl : j = i := by omega
          rw [hla, hlb, he]
      have hi0 : (0 : Int) ≤ (i : Int) := by omega
      have hi1 : (i : Int) < (n : Int) := by omega
      clear hR hR' hr hr' hla hlb hrow hrow' hhe hhe' hby hby' hn hn' hz hz' e1 e1' hB hno hyes
      by_cases hlen : r.l.length = r'.l.length
      case neg =>
        have hE := Lib.hid (hmis.out (fun e => hlen (by rw [e])))
        have hne : ¬ (r.l.length : Int) = (r'.l.length : Int) := by omega
        replace d1 := (hSd.out.keep _).trans d1
        replace d1' := (hSd.out.keep _).trans d1'
        clear hmis hok hcl hcl'
        go_wp2_with fail
        go_quiet (fail)
        go_wp2_with fail
        go_ret
        exact ⟨hE.out, (hSd.out.drew _).bl⟩
      have hlen' : (r.l.length : Int) = (r'.l.length : Int) := by omega
      have hv0 := (hSd.out.keep _).trans d1
      have hv0' := (hSd.out.keep _).trans d1'
      obtain ⟨y, hy⟩ : ∃ y, r.l.length = y := ⟨_, rfl⟩
      have hy' : r'.l.length = y := by omega
      rw [hy] at hv0 d1
      rw [hy'] at hv0' d1'
      go_wp2_with fail
      go_quiet (fail)
      go_wp2_with fail
      go_loopw [6] (fun t6 V2 => ∃ k : Nat, k ≤ y ∧ t6 = .int .i64 k ∧ Hid (Sd w V2) ∧ Hid (∀ j : Nat, j < k → r.l[j]? = r'.l[j]?)) (fun t6 _ => y - (intOf t6).toNat)
      case atStart => exact ⟨0, Nat.zero_le _, rfl, Lib.hid (hSd.out.drew _), Lib.hid (fun j hj => by omega)⟩
      case round =>
        obtain ⟨k, hk2, rfl, hS2, hB2⟩ := hrel
        rename_i V2
        replace c0 := ((hS2.out.keep _).trans (hSd.out.keep _).symm).trans c0
        replace c0' := ((hS2.out.keep _).trans (hSd.out.keep _).symm).trans c0'
        replace d1 := (hS2.out.keep _).trans d1
        replace d1' := (hS2.out.keep _).trans d1'
        clear hv0 hv0' c1 c2 c1' c2' hSd
        by_cases hkz : k < y
        · have d3 := (hS2.out.keep _).trans (hcl.out k (by omega))
          have d3' := (hS2.out.keep _).trans (hcl'.out k (by omega))
          have hk0 : (0 : Int) ≤ (k : Int) := by omega
          have hk1 : (k : Int) < (y : Int) := by omega
          have hg := Lib.hid (List.getElem?_eq_getElem (show k < r.l.length by omega))
          have hg' := Lib.hid (List.getElem?_eq_getElem (show k < r'.l.length by omega))
          generalize r.l[k] = x at *
          generalize r'.l[k] = x' at *
          by_cases hxx : x = x'
          · subst hxx
            have hB3 : Hid (∀ j : Nat, j < k + 1 → r.l[j]? = r'.l[j]?) := Lib.hid fun j hj => by
              by_cases hji : j < k
              · exact hB2.out j hji
              · obtain rfl : j = k := by omega
                rw [hg.out, hg'.out]
            clear hg hg' hB2 hcl hcl' hmis hok
            go_wp2_with fail
            go_quiet (fail)
            go_wp2_with fail
            go_roundw
            case rel => exact ⟨k + 1, by omega, rfl, Lib.hid (hS2.out.drew _), hB3⟩
            case measure => simp [intOf]; omega
          · have hE := Lib.hid (hmis.out (fun e => hxx (by have := hg.out; rw [e, hg'.out] at this; exact (Option.some.inj this).symm)))
            clear hg hg' hB2 hcl hcl' hmis hok
            go_wp2_with fail
            go_quiet (fail)
            go_wp2_with fail
            go_ret
            exact ⟨hE.out, (hS2.out.drew _).bl⟩
        · have hky : k = y := by omega
          subst hky
          have hB3 := Lib.hid (hok.out (List.ext_getElem? fun j => by
            by_cases hji : j < k
            · exact hB2.out j hji
            · rw [List.getElem?_eq_none (by omega), List.getElem?_eq_none (by omega)]))
          clear hB2 hcl hcl' hmis hok
          go_wp2_with fail
          go_roundw
          case rel => exact ⟨i + 1, by omega, rfl, hS2, hB3⟩
          case measure => simp [intOf]; omega
    · have hin' : i = n := by omega
      subst hin'
      have hC : Hid (a.C = b.C) := Lib.hid (List.ext_getElem? fun j => by
        by_cases hji : j < i
        · exact hB.out j hji
        · have q1 := hn.out
          have q2 := hn'.out
          unfold Dm.C
          rw [List.getElem?_eq_none (by rw [List.length_map]; omega), List.getElem?_eq_none (by rw [List.length_map]; omega)])
      clear hB hrow hrow' hn hn'
      go_wp2_with fail
      go_loopw [7] (fun t7 V2 => ∃ k : Nat, k ≤ z ∧ t7 = .int .i64 k ∧ Hid (Sd w V2) ∧ Hid (∀ j : Nat, j < k → a.h j = b.h j)) (fun t7 _ => z - (intOf t7).toNat)
      case atStart => exact ⟨0, Nat.zero_le _, rfl, hSd, Lib.hid (fun j hj => by omega)⟩
      case round =>
        obtain ⟨k, hk2, rfl, hS2, hB2⟩ := hrel
        rename_i V2
        replace c1 := ((hS2.out.keep _).trans (hSd.out.keep _).symm).trans c1
        replace c2 := ((hS2.out.keep _).trans (hSd.out.keep _).symm).trans c2
        replace c1' := ((hS2.out.keep _).trans (hSd.out.keep _).symm).trans c1'
        replace c2' := ((hS2.out.keep _).trans (hSd.out.keep _).symm).trans c2'
        clear hSd c0 c0'
        by_cases hkz : k < z
        · obtain ⟨b1, e1, d1, _⟩ := hhe.out k (by rw [hz.out]; exact hkz)
          obtain ⟨b2, e2, d2, _⟩ := hby.out k (by rw [hz.out]; exact hkz)
          obtain ⟨b1', e1', d1', _⟩ := hhe'.out k (by rw [hz'.out]; exact hkz)
          obtain ⟨b2', e2', d2', _⟩ := hby'.out k (by rw [hz'.out]; exact hkz)
          rw [e1] at c1
          rw [e2] at c2
          rw [e1'] at c1'
          rw [e2'] at c2'
          replace d1 := (hS2.out.keep _).trans d1
          replace d2 := (hS2.out.keep _).trans d2
          replace d1' := (hS2.out.keep _).trans d1'
          replace d2' := (hS2.out.keep _).trans d2'
          have hk0 : (0 : Int) ≤ (k : Int) := by omega
          have hk1 : (k : Int) < (z : Int) := by omega
          have hmis : Hid (a.h k ≠ b.h k → IsR (SameP a b) (.returned (.bool false))) := Lib.hid fun hne => hno.out fun p => hne (p.2.2 k (by rw [hz.out]; exact hkz))
          have hok : Hid (a.h k = b.h k → ∀ j : Nat, j < k + 1 → a.h j = b.h j) := Lib.hid fun he j hj => by
            by_cases hji : j < k
            · exact hB2.out j hji
            · obtain rfl : j = k := by omega
              exact he
          clear hno hyes hB2 hhe hhe' hby hby' hz hz' e1 e2 e1' e2' hC
          generalize a.h k = o at *
          generalize b.h k = o' at *
          rcases o with _ | u <;> rcases o' with _ | u' <;> simp only [Option.isSome_none, Option.isSome_some, Option.getD_none, Option.getD_some] at d1 d2 d1' d2'
          · have hB3 := Lib.hid (hok.out rfl)
            clear hmis hok
            go_wp2_with fail
            go_quiet (fail)
            go_wp2_with fail
            go_roundw
            case rel => exact ⟨k + 1, by omega, rfl, Lib.hid (hS2.out.drew _), hB3⟩
            case measure => simp [intOf]; omega
          · have hE := Lib.hid (hmis.out (by simp))
            clear hmis hok
            go_wp2_with fail
            go_quiet (fail)
            go_wp2_with fail
            go_ret
            exact ⟨hE.out, (hS2.out.drew _).bl⟩
          · have hE := Lib.hid (hmis.out (by simp))
            clear hmis hok
            go_wp2_with fail
            go_quiet (fail)
            go_wp2_with fail
            go_ret
            exact ⟨hE.out, (hS2.out.drew _).bl⟩
          · by_cases huu : u = u'
            · subst huu
              have hB3 := Lib.hid (hok.out rfl)
              clear hmis hok
              go_wp2_with fail
              go_quiet (fail)
              go_wp2_with fail
              go_roundw
              case rel => exact ⟨k + 1, by omega, rfl, Lib.hid (hS2.out.drew _), hB3⟩
              case measure => simp [intOf]; omega
            · have hE := Lib.hid (hmis.out (fun e => huu (Option.some.inj e)))
              clear hmis hok
              go_wp2_with fail
              go_quiet (fail)
              go_wp2_with fail
              go_ret
              exact ⟨hE.out, (hS2.out.drew _).bl⟩
        · have hkz' : k = z := by omega
          subst hkz'
          have hE := Lib.hid (hyes.out ⟨hC.out, by rw [hz.out, hz'.out], fun j hj => hB2.out j (by rw [hz.out] at hj; exact hj)⟩)
          clear hno hyes hB2 hhe hhe' hby hby' hz hz' hC
          go_wp2_with fail
          go_ret
          exact ⟨hE.out, hS2.out.bl⟩
end Go.Proofs.Ytnoilcchegmpfaa.Me
