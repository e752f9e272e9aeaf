/- Walk of the law's same. Conditions: both memories lie in the world, and are alike. -/
import Derived.Test.YtnoilcchegmpfaaMgE
import Derived.BigQuiet
namespace Go.Proofs.Ytnoilcchegmpfaa.Me
open Go Go.RowKit

/-- a package's memory and a document's are alike -/
structure Alike (m : Mm) (d : Dm) : Prop where
  c : m.C = d.C
  k : m.locks = d.locks
  h : m.h = d.h
  out : ∀ i, i < 0 ∨ m.locks ≤ i → m.h i = none
theorem Alike.holds {m : Mm} {d : Dm} (h : Alike m d) (i : Int) : holdsD d i = holds (m.h i) := by
  unfold holdsD
  rw [← h.k, ← h.h]
  split
  · rw [h.out i (by assumption)]
  · rfl
set_option maxHeartbeats 8000000 in
set_option maxRecDepth 100000 in
theorem same_c {w : World} {m : Mm} {d : Dm} (h : m.In w) (h' : d.In w) (ha : Alike m d) : Calls Try.prog 10 #[.pointer (some ⟨m.mb, 0, none⟩), .pointer (some ⟨d.mb, 0, none⟩)] w fun e w' => e = .returned (.bool true) ∧ Below w.heap.size w w' := by
  have hlen : m.rows.length = d.rows.length := by have := congrArg List.length ha.c; unfold Mm.C Dm.C at this; simpa using this
  have hC : Hid (Calls Try.prog 15 #[.pointer (some ⟨m.mb, 0, none⟩)] w fun e w' => ∃ g R, e = .returned (.slice (some ⟨g, 0, none⟩) d.rows.length d.rows.length) ∧ Hid (Sl w g R 0 0 w') ∧ Hid (R.map Row.l = d.C)) := Lib.hid ((Cells_c h).mono (by
    rintro e w' ⟨rfl, R, h1, h2, h3, h4⟩
    rw [hlen]
    exact ⟨_, R, rfl, Lib.hid (Sl.start h3 h4 (Nat.le_refl _)), Lib.hid (h1.trans ha.c)⟩))
  have hH := Lib.hid (fun (V : World) (hV : Below w.heap.size w V) (i : Int) (hi : I64 i) => Holder_c (h.below hV) i hi)
  have hD := Lib.hid (fun (V : World) (hV : Below w.heap.size w V) (i : Int) => (by have := dHolder_c (h'.below hV) i; rw [ha.holds] at this; exact this : Calls Try.prog 28 #[.pointer (some ⟨d.mb, 0, none⟩), .int .i64 i] V fun e w' => e = holds (m.h i) ∧ w' = V))
  have hl := h'.lim
  have hk := h'.lk
  have l0 := h'.cs.le
  have m0 := h'.cs.lim
  have l1 := h'.hs.le
  have m1 := h'.hs.lim
  have hc0 := Lib.hid (fun (V : World) (hV : Below w.heap.size w V) => (h'.below hV).c0)
  have hc1 := Lib.hid (fun (V : World) (hV : Below w.heap.size w V) => (h'.below hV).c1)
  have hrow := Lib.hid (fun (V : World) (hV : Below w.heap.size w V) k (r : Row) (hr : d.rows[k]? = some r) => (h'.below hV).row hr)
  obtain ⟨n, hn⟩ : ∃ n, d.rows.length = n := ⟨_, rfl⟩
  obtain ⟨z, hz⟩ : ∃ n, d.locks = n := ⟨_, rfl⟩
  rw [hn] at hC hc0 hl l0
  rw [hz] at hc1 hk l1
  replace hn := Lib.hid hn
  clear h h' ha hlen hz
  go_enter Try.func10, Try.ntmps10
  go_upto_region 2 with (go_at_call 15; refine hC.out.mono ?_; rintro e w1 ⟨g, R, rfl, hS, hR⟩)
  have c0 := hc0.out w1 hS.out.bl
  clear hC
  go_wp2_with fail
  clear c0
  go_loopw [6, 7] (fun t6 t7 V => ∃ i : Nat, i ≤ n ∧ t6 = .int .i64 i ∧ Hid (Sl w g R i 0 V)) (fun t6 _ _ => n - (intOf t6).toNat)
  case atStart => exact ⟨0, Nat.zero_le _, rfl, hS⟩
  case round =>
    clear hS
    obtain ⟨i, hi, rfl, hS⟩ := hrel
    by_cases hin : i < n
    · have c0 := hc0.out _ hS.out.bl
      obtain ⟨r', hr'⟩ : ∃ r, d.rows[i]? = some r := ⟨_, List.getElem?_eq_getElem (show i < d.rows.length by rw [hn.out]; exact hin)⟩
      obtain ⟨r, hr, hrl⟩ : ∃ r, R[i]? = some r ∧ r.l = r'.l := by
        have := congrArg (fun x : List (List Int) => x[i]?) hR.out
        simp only [Dm.C, List.getElem?_map, hr', Option.map_some] at this
        obtain ⟨r, h1, h2⟩ := Option.map_eq_some_iff.1 this
        exact ⟨r, h1, h2⟩
      obtain ⟨hR', cb, e1, d1⟩ := hrow.out _ hS.out.bl i r' hr'
      rw [e1] at c0
      have d0 := hS.out.c i r hr
      unfold Row.val at d0 d1
      rw [hrl] at d0
      have hle := hR'.le
      have hlim := hR'.lim
      have hsz := hR'.sz
      have hrowr := Lib.hid (fun (V2 : World) (hV : Below w.heap.size w V2) => (hrow.out V2 hV i r' hr').1)
      have hrow2 := Lib.hid (fun (V2 : World) (hV : Below w.heap.size w V2) => (⟨hc0.out V2 hV, hrow.out V2 hV i r' hr'⟩ : _ ∧ _))
      replace hr := Lib.hid hr
      replace hrl := Lib.hid hrl
      obtain ⟨y, hy⟩ : ∃ y, r'.l.length = y := ⟨_, rfl⟩
      rw [hy] at d0 d1 hle hsz
      replace hy := Lib.hid hy
      have hi0 : (0 : Int) ≤ (i : Int) := by omega
      have hi1 : (i : Int) < (n : Int) := by omega
      obtain ⟨_, _, hcap, hclim⟩ := hS.out.up r (List.mem_of_getElem? hr.out)
      rw [hrl.out, hy.out] at hcap
      clear hR'
      go_wp2_with fail
      go_quiet (fail)
      go_wp2_with fail
      clear d0 d1 c0
      go_loopw [7] (fun t7 V2 => ∃ k : Nat, k ≤ y ∧ t7 = .int .i64 k ∧ Hid (Sl w g R i k V2)) (fun t7 _ => y - (intOf t7).toNat)
      case atStart => exact ⟨0, Nat.zero_le _, rfl, Lib.hid (hS.out.drew _)⟩
      case round =>
        clear hS
        obtain ⟨k, hk2, rfl, hS⟩ := hrel
        obtain ⟨c0, _, cb2, e2, d1⟩ := hrow2.out _ hS.out.bl
        rw [e1] at e2
        cases e2
        rw [e1] at c0
        unfold Row.val at d1
        rw [hy.out] at d1
        have d0 := hS.out.c i r hr.out
        unfold Row.val at d0
        rw [hrl.out, hy.out] at d0
        by_cases hky : k < y
        · have hk0 : (0 : Int) ≤ (k : Int) := by omega
          have hk1 : (k : Int) < (y : Int) := by omega
          have hkl : k < r'.l.length := by rw [hy.out]; exact hky
          have hg := List.getElem?_eq_getElem hkl
          have d3 := ((hrowr.out _ hS.out.bl).cell hg).1
          obtain ⟨d4, f4⟩ := hS.out.x i r k _ hr.out (by rw [hrl.out]; exact hg) (.inr ⟨rfl, Nat.le_refl _⟩)
          have hst := Lib.hid (fun n : Nat => (hS.out.drew n).store hr.out (Value.int .i64 (-7)))
          generalize r'.l[k] = x at *
          clear hg hrowr hrow2 hrow hc0 hc1 hH hD
          go_wp2_with fail
          go_quiet (fail)
          go_wp2_with fail
          go_roundw
          case rel => exact ⟨k + 1, by omega, rfl, Lib.hid (hst.out _)⟩
          case measure => simp [intOf]; omega
        · have hky' : k = y := by omega
          subst hky'
          clear hrowr hrow2 hrow hc0 hc1 hH hD
          go_wp2_with fail
          go_roundw
          case rel => exact ⟨i + 1, by omega, rfl, Lib.hid hS.out.next⟩
          case measure => simp [intOf]; omega
    · have hin' : i = n := by omega
      subst hin'
      have c1 := hc1.out _ hS.out.bl
      go_wp2_with fail
      go_loopw [8] (fun t8 V2 => ∃ i : Int, -1 ≤ i ∧ i ≤ z + 1 ∧ t8 = .int .i64 i ∧ Hid (Below w.heap.size w V2)) (fun t8 _ => ((z : Int) + 1 - intOf t8).toNat)
      case atStart => exact ⟨-1, by omega, by omega, rfl, Lib.hid hS.out.bl⟩
      case round =>
        clear c1 hS
        obtain ⟨j, hj1, hj2, rfl, hV2⟩ := hrel
        have c1 := hc1.out _ hV2.out
        by_cases hjz : j ≤ z
        · have hH2 := Lib.hid (hH.out _ hV2.out j (by unfold I64; omega))
          have hD2 := Lib.hid (hD.out _ hV2.out j)
          generalize m.h j = o at *
          unfold holds at hH2 hD2
          clear hH hD hrow hc0 hc1
          cases o with
          | none =>
            go_wp2_with (first
              | (go_at_call 16; (with_reducible refine hH2.out.mono ?_); rintro e V3 ⟨rfl, rfl⟩)
              | (go_at_call 28; (with_reducible refine hD2.out.mono ?_); rintro e V3 ⟨rfl, rfl⟩))
            go_roundw
            case rel => exact ⟨j + 1, by omega, by omega, by go_num, hV2⟩
            case measure => simp [intOf]; omega
          | some u =>
            go_wp2_with (first
              | (go_at_call 16; (with_reducible refine hH2.out.mono ?_); rintro e V3 ⟨rfl, rfl⟩)
              | (go_at_call 28; (with_reducible refine hD2.out.mono ?_); rintro e V3 ⟨rfl, rfl⟩))
            go_roundw
            case rel => exact ⟨j + 1, by omega, by omega, by go_num, hV2⟩
            case measure => simp [intOf]; omega
        · have hjz' : ¬ j ≤ (z : Int) := hjz
          go_wp2_with fail
          go_ret
          exact ⟨rfl, hV2.out⟩
end Go.Proofs.Ytnoilcchegmpfaa.Me
