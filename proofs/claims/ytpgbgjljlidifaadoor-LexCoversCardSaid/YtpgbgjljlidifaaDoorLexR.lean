/- Walks of the statements' helper many and of the reference's Same: many makes a text of one byte, Same compares two lists of tokens. Conditions: the lists lie in memory of the call's own. -/
import Derived.Test.YtpgbgjljlidifaaDoorLexQ
import Derived.Laws.IdiomStrings
import Derived.Laws.OwnMore
namespace Go.Proofs.YtpgbgjljlidifaaDoor.Lx
open Go Go.RowKit

def rep (n : Nat) (b : UInt8) : ByteArray := ⟨(List.replicate n b).toArray⟩
theorem rep_data (n : Nat) (b : UInt8) : (rep n b).data.toList = List.replicate n b := rfl
theorem rep_size (n : Nat) (b : UInt8) : (rep n b).size = n := by rw [Lib.size_eq, rep_data, List.length_replicate]

set_option maxHeartbeats 800000 in
set_option maxRecDepth 100000 in
theorem many_any (n : Nat) (b : UInt8) (a c : Int) (ha : a = n) (hc : c = (b.toNat : Int)) (w : World) (hn : n ≤ 100000) :
    Calls Tryd.prog 10 #[.int .i64 a, .int .u8 c] w fun e w' => e = .returned (.string (rep n b)) ∧ Below w.heap.size w w' := by
  subst ha; subst hc
  obtain ⟨i0, hi, hz0, hz1, hz2⟩ := info_parts Tryd.info5
  go_enter Tryd.func10, Tryd.ntmps10
  go_wp2_with (at_make; refine wpList_make_full _ rfl _ _ 40 rfl w.heap.size 5 i0 (.int .u8 0) 1 Tryd.underlying40 hi hz0 hz1 .i64 .i64 _ _ n rfl rfl rfl rfl ?m1 ?m2 ?m3 ?m4)
  case m1 => rw [hz2]; omega
  case m2 => unfold maxLen; omega
  case m3 => exact Nat.le_refl _
  case m4 =>
    intro w1 hown hgr
    have hb1 : Below w.heap.size w w1 := (Below.refl _ w).grown hgr (Nat.le_refl _) (fun k hk => by cases hk)
    go_wp2
    go_loopw [6] (fun i wr => ∃ (k : Nat) (xs : List Value), k ≤ n ∧ i = .int .i64 k ∧ wr.ownsRow w.heap.size 5 1 (.slice (some ⟨w.heap.size, 0, none⟩) n n) n xs ∧ (∀ j, j < k → xs[j]? = some (.int .u8 (b.toNat : Int))) ∧ Below w.heap.size w wr)
      (fun i _ => n - (intOf i).toNat)
    case atStart => exact ⟨0, _, Nat.zero_le _, rfl, hown, fun j hj => absurd hj (by omega), hb1⟩
    case round =>
      obtain ⟨k, xs, hk, rfl, ho, hx, hbl⟩ := hrel
      have hlen := ho.1
      by_cases hlt : k < n
      · have hcell : ∃ u, wr.cell? ⟨w.heap.size, k, none⟩ = some u := ⟨xs[k]'(by omega), by rw [ho.cellAt k (by omega)]; simp⟩
        obtain ⟨u, hcell⟩ := hcell
        have hfr := ho.frozenAt k
        have hst := Lib.hid (ho.stored k (.int .u8 (b.toNat : Int)))
        have HX : Hid (∀ j, j < k + 1 → (xs.set k (.int .u8 (b.toNat : Int)))[j]? = some (.int .u8 (b.toNat : Int))) := by
          refine Lib.hid fun j hj => ?_
          by_cases e : j = k
          · subst e; rw [List.getElem?_set_self (by omega)]
          · rw [List.getElem?_set_ne (by omega)]; exact hx j (by omega)
        have HB : Hid (Below w.heap.size w (wr.setCell ⟨w.heap.size, k, none⟩ (.int .u8 (b.toNat : Int)))) := Lib.hid (hbl.setCell (Nat.le_refl _) _)
        clear hx ho hlen hown hgr hb1 hbl
        go_wp2
        go_roundw
        case rel => exact ⟨k + 1, _, by omega, by go_num, hst.out.1, HX.out, HB.out⟩
        case measure => simp [intOf]; omega
      · obtain rfl : k = n := by omega
        have hl : (List.replicate k b).length = k := List.length_replicate
        have hconv := run_convert_bytes_back (P := Tryd.prog) wr 40 9 5 ⟨w.heap.size, 0, none⟩ k (List.replicate k b) Tryd.underlying40 Tryd.underlying5 Tryd.underlying9
          (fun j hj => by
            rw [hl] at hj
            rw [Addr.add_lit, Nat.zero_add, ho.cellAt j (by omega), hx j hj]
            simp)
        rw [hl] at hconv
        have hconv' : (convert 40 9 (.slice (some ⟨w.heap.size, 0, none⟩) k k)).run Tryd.prog wr = .ok (.string (rep k b)) wr := hconv
        clear hconv hx ho hlen hown hgr hb1 hl
        go_wp2
        go_ret
        exact ⟨rfl, hbl⟩

theorem own_cases {w : World} {base n : Nat} {v : Value} {xs : List Value} (h : w.ownsRow base 36 3 v n xs) : (v = .slice none 0 0 ∧ n = 0) ∨ ∃ g cap, v = .slice (some ⟨g, 0, none⟩) n cap ∧ n ≤ cap ∧ cap ≤ maxLen := by
  rcases h.2 with h | ⟨g, cap, cur, rfl, _, _, h1, h2, _⟩
  · exact .inl h
  · exact .inr ⟨g, cap, rfl, h1, h2⟩

set_option maxHeartbeats 800000 in
set_option maxRecDepth 100000 in
theorem same_some (g1 c1 g2 c2 B1 B2 : Nat) (t1 t2 : List Tok) (w : World) (hl : t1.length = t2.length) (hc1 : t1.length ≤ c1 ∧ c1 ≤ maxLen) (hc2 : t2.length ≤ c2 ∧ c2 ≤ maxLen)
    (h1 : w.ownsRow B1 36 3 (.slice (some ⟨g1, 0, none⟩) t1.length c1) t1.length (cellsOf t1)) (h2 : w.ownsRow B2 36 3 (.slice (some ⟨g2, 0, none⟩) t2.length c2) t2.length (cellsOf t2)) :
    Calls Tryd.prog 16 #[.slice (some ⟨g1, 0, none⟩) t1.length c1, .slice (some ⟨g2, 0, none⟩) t2.length c2] w fun e w' => e = .returned (.bool (decide (t1 = t2))) ∧ ∃ m, w' = w.drewN m := by
  unfold maxLen at hc1 hc2
  obtain ⟨hc11, hc12⟩ := hc1
  obtain ⟨hc21, hc22⟩ := hc2
  have hne : ((t1.length : Int) != (t2.length : Int)) = false := by rw [hl]; simp
  have hl' := Lib.hid hl
  rw [← hl] at hc21 hne ⊢
  have h2' : Hid _ := Lib.hid h2
  have h1' : Hid _ := Lib.hid h1
  clear h1 h2 hl
  go_enter Tryd.func16, Tryd.ntmps16
  go_wp2
  go_loopw [5] (fun i wr => ∃ k : Nat, k ≤ t1.length ∧ i = .int .i64 k ∧ t1.take k = t2.take k ∧ ∃ m, wr = w.drewN m) (fun i _ => t1.length - (intOf i).toNat)
  case atStart => exact ⟨0, by omega, rfl, rfl, 0, rfl⟩
  case round =>
    obtain ⟨i, hi, rfl, htk, m, rfl⟩ := hrel
    replace htk := Lib.hid htk
    by_cases hlt : i < t1.length
    · have hlt2 : i < t2.length := by rw [← hl'.out]; exact hlt
      obtain ⟨x, hx⟩ : ∃ x, t1[i]? = some x := ⟨t1[i], by simp [hlt]⟩
      obtain ⟨y, hy⟩ : ∃ y, t2[i]? = some y := ⟨t2[i], by simp [hlt2]⟩
      obtain ⟨a0, a1, a2⟩ := own_tok h1'.out i x hx
      obtain ⟨b0, b1, b2⟩ := own_tok h2'.out i y hy
      replace hx := Lib.hid hx
      replace hy := Lib.hid hy
      have hgd := guard36
      have hcm := tok_neq x y
      clear hlt2
      by_cases hxy : x = y
      · have HT : Hid (t1.take (i + 1) = t2.take (i + 1)) := Lib.hid (by rw [List.take_add_one, List.take_add_one, htk.out, hx.out, hy.out, hxy])
        have hcmp := fun W => (hcm W).trans (by rw [decide_eq_true hxy]; rfl : _ = Result.ok (Value.bool false) W)
        clear hxy hcm
        go_wp2
        go_quiet (fail)
        go_wp2
        go_roundw
        case rel => exact ⟨i + 1, by omega, by go_num, HT.out, _, rfl⟩
        case measure => simp [intOf]; omega
      · have HN : Hid (decide (t1 = t2) = false) := Lib.hid (by
          rw [decide_eq_false_iff_not]; intro e; apply hxy
          have h3 := hx.out; rw [e, hy.out] at h3
          exact (Option.some.inj h3).symm)
        have hcmp := fun W => (hcm W).trans (by rw [decide_eq_false hxy]; rfl : _ = Result.ok (Value.bool true) W)
        clear hxy hcm
        go_wp2
        go_quiet (fail)
        go_wp2
        go_ret
        exact ⟨ret_bool HN.out.symm, _, World.drewN_drewN _ _ _⟩
    · have HE : Hid (decide (t1 = t2) = true) := Lib.hid (by
        have h3 := htk.out
        have h4 := hl'.out
        rw [List.take_of_length_le (by omega), List.take_of_length_le (by omega)] at h3
        simpa using h3)
      clear htk
      go_wp2
      go_ret
      exact ⟨ret_bool HE.out.symm, _, rfl⟩
set_option maxHeartbeats 800000 in
set_option maxRecDepth 100000 in
theorem same_zero (w : World) :
    Calls Tryd.prog 16 #[.slice none 0 0, .slice none 0 0] w fun e w' => e = .returned (.bool true) ∧ w = w' := by
  go_enter Tryd.func16, Tryd.ntmps16
  go_wp2
  go_loop [5] (fun i => i = .int .i64 0) (fun _ => 0)
  case atStart => rfl
  case round =>
    obtain rfl := hrel
    go_wp2
    go_ret
    exact ⟨rfl, rfl⟩
end Go.Proofs.YtpgbgjljlidifaaDoor.Lx
