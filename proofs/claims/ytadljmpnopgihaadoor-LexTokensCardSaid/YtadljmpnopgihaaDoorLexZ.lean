/- The walk of the statement LexTokens' function: it returns true at every text. Conditions: lex.signs holds its list. -/
import Derived.Test.YtadljmpnopgihaaDoorLexYY
namespace Go.Proofs.YtadljmpnopgihaaDoor.Lx
open Go Go.RowKit

theorem nameZ (s : ByteArray) (hs : s.size ≤ maxLen) (w0 w : World) (h : Since w0 w) :
    Calls Tryd.prog 13 #[.string s] w fun e w' => e = .returned (.bool (nme s.data.toList)) ∧ Since w0 w' :=
  (name_any s w hs h.1).mono fun _ _ ⟨he, hb⟩ => ⟨he, h.next hb⟩
theorem Since.set {w0 w : World} (h : Since w0 w) {g j : Nat} (hg : w0.heap.size ≤ g) (u : Value) : Since w0 (w.setCell ⟨g, j, none⟩ u) := by
  obtain ⟨⟨t, fr, h1⟩, h2, h3⟩ := h
  refine ⟨⟨t, fr, ?_⟩, h2, h3.setCell hg u⟩
  rw [Below.heap_setCell _ _ _ _ (by show 0 ≠ g; omega)]
  exact h1
theorem res_cases (l : List UInt8) : (∃ p n, res l = ([], p, n)) ∨ ∃ ts, ts ≠ [] ∧ res l = (ts, 0, 0) := by
  by_cases h : 65536 < l.length
  · exact .inl ⟨0, 40, by unfold res; rw [if_pos h]⟩
  · cases hx : lexs l 0 with
    | error q => exact .inl ⟨q, 63, res_err l q (by omega) hx⟩
    | ok ts =>
      by_cases ht : ts = []
      · subst ht; exact .inl ⟨0, 0, res_ok l [] (by omega) hx⟩
      · exact .inr ⟨ts, ht, res_ok l ts (by omega) hx⟩
theorem rtokens_none (s : ByteArray) (p n : Nat) (w : World) (hs : s.size ≤ maxLen) (h : res s.data.toList = ([], p, n)) :
    Calls Tryd.prog 15 #[.string s] w fun e w' => e = .returned (.tuple #[.slice none 0 0, .int .i64 (p : Int), .int .i64 (n : Int)]) ∧ Below w.heap.size w w' :=
  (rtokens_any s w hs).mono fun e w' ⟨v, he, _, hb, hn⟩ => by
    rw [h] at he hn
    rw [hn rfl] at he
    exact ⟨he, hb⟩
theorem rtokens_some (s : ByteArray) (ts : List Tok) (w : World) (hs : s.size ≤ maxLen) (h : res s.data.toList = (ts, 0, 0)) (hne : ts ≠ []) :
    Calls Tryd.prog 15 #[.string s] w fun e w' => ∃ g cap, e = .returned (.tuple #[.slice (some ⟨g, 0, none⟩) ts.length cap, .int .i64 0, .int .i64 0]) ∧ w.heap.size ≤ g ∧ g < w'.heap.size ∧ ts.length ≤ cap ∧ cap ≤ maxLen ∧
      w'.ownsRow w.heap.size 36 3 (.slice (some ⟨g, 0, none⟩) ts.length cap) ts.length (cellsOf ts) ∧ Below w.heap.size w w' :=
  (rtokens_any s w hs).mono fun e w' ⟨v, he, ho, hb, hn⟩ => by
    rw [h] at he ho
    have ho' := ho
    rcases ho.2 with ⟨_, h0⟩ | ⟨g, cap, cur, rfl, hg, hgg, h1, h2, _⟩
    · exact absurd (List.eq_nil_of_length_eq_zero h0) hne
    · exact ⟨g, cap, he, hg, (Array.getElem?_eq_some_iff.1 hgg).1, h1, h2, ho', hb⟩

set_option maxHeartbeats 800000 in
set_option maxRecDepth 100000 in
theorem ltok_big (s : ByteArray) (w : World) (hs : 70000 < s.size) :
    Calls Tryd.prog 4 #[.string s] w fun e w' => e = .returned (.bool true) ∧ Below w.heap.size w w' := by
  go_enter Tryd.func4, Tryd.ntmps4
  go_wp2_with fail
  go_ret
  exact ⟨rfl, Below.refl _ _⟩
set_option maxHeartbeats 1600000 in
set_option maxRecDepth 100000 in
theorem ltok_none (s : ByteArray) (p n : Nat) (w : World) (hsg : SignsIn w) (hs : s.size ≤ 70000) (h : res s.data.toList = ([], p, n)) :
    Calls Tryd.prog 4 #[.string s] w fun e w' => e = .returned (.bool true) ∧ Below w.heap.size w w' := by
  have h0 := Since.start hsg
  have hsm : Hid (s.size ≤ maxLen) := Lib.hid (by unfold maxLen; omega)
  replace h := Lib.hid h
  go_enter Tryd.func4, Tryd.ntmps4
  go_wp2_with fail
  refine (rtokens_none s p n _ hsm.out h.out).mono ?_
  rintro e w1 ⟨rfl, hb1⟩
  have h1 := h0.next hb1
  go_wp2_with fail
  go_loopw [6] (fun i wr => ∃ k : Nat, k ≤ 2 ∧ i = .int .i64 k ∧ Since w wr) (fun i _ => 2 - (intOf i).toNat)
  case atStart => exact ⟨0, by omega, rfl, h1⟩
  case round =>
    obtain ⟨k, hk, rfl, hr⟩ := hrel
    by_cases hlt : k < 2
    · go_wp2_with fail
      refine (tokens_none s p n _ hsm.out hr.1 h.out).mono ?_
      rintro e w2 ⟨rfl, hb2⟩
      have h2 := hr.next hb2
      go_wp2_with fail
      refine (same_zero _).mono ?_
      rintro e w3 ⟨rfl, rfl⟩
      go_wp2_with fail
      go_loop [10] (fun i => i = .int .i64 0) (fun _ => 0)
      case atStart => rfl
      case round =>
        obtain rfl := hrel
        go_wp2_with fail
        go_roundw
        case rel => exact ⟨k + 1, by omega, by go_num, h2⟩
        case measure => simp [intOf]; omega
    · go_wp2_with fail
      refine (nameZ s hsm.out w _ hr).mono ?_
      rintro e w2 ⟨rfl, h2⟩
      go_wp2_with fail
      refine (rname_any s _ (by omega)).mono ?_
      rintro e w3 ⟨rfl, hb3⟩
      have h3 := h2.next hb3
      go_wp2_with fail
      refine (reserved_any s _).mono ?_
      rintro e w4 ⟨rfl, rfl⟩
      go_wp2_with fail
      refine (rreserved_any s _).mono ?_
      rintro e w5 ⟨rfl, hb5⟩
      have h5 := h3.next hb5
      go_wp2_with fail
      go_ret
      exact ⟨rfl, h5.2.2⟩

set_option maxHeartbeats 1600000 in
set_option maxRecDepth 100000 in
theorem ltok_some (s : ByteArray) (ts : List Tok) (w : World) (hsg : SignsIn w) (hs : s.size ≤ 70000) (hne : ts ≠ []) (h : res s.data.toList = (ts, 0, 0)) :
    Calls Tryd.prog 4 #[.string s] w fun e w' => e = .returned (.bool true) ∧ Below w.heap.size w w' := by
  have h0 := Since.start hsg
  have hsm : Hid (s.size ≤ maxLen) := Lib.hid (by unfold maxLen; omega)
  replace h := Lib.hid h
  replace hne := Lib.hid hne
  go_enter Tryd.func4, Tryd.ntmps4
  go_wp2_with fail
  refine (rtokens_some s ts _ hsm.out h.out hne.out).mono ?_
  rintro e w1 ⟨g1, c1, rfl, ga1, gb1, gc1, gd1, ho1, hb1⟩
  have h1 := h0.next hb1
  go_wp2_with fail
  go_loopw [6] (fun i wr => ∃ k : Nat, k ≤ 2 ∧ i = .int .i64 k ∧ Since w wr ∧ wr.ownsRow w.heap.size 36 3 (.slice (some ⟨g1, 0, none⟩) ts.length c1) ts.length (cellsOf ts)) (fun i _ => 2 - (intOf i).toNat)
  case atStart => exact ⟨0, by omega, rfl, h1, ho1⟩
  case round =>
    obtain ⟨k, hk, rfl, hr, hw⟩ := hrel
    obtain ⟨wo, hwo⟩ : ∃ wo : World, wo = wr := ⟨_, rfl⟩
    subst hwo
    by_cases hlt : k < 2
    · go_wp2_with fail
      refine (tokens_some s ts _ hsm.out hr.1 h.out hne.out).mono ?_
      rintro e w2 ⟨g2, c2, rfl, ga2, gb2, gc2, gd2, ho2, hb2⟩
      have h2 := hr.next hb2
      have hw2 := own_below hw hb2
      have hgl : g1 < wo.heap.size := (hw.lt g1 rfl).2
      have hgg : g1 ≠ g2 := by omega
      have hc := same_some g2 c2 g1 c1 wo.heap.size w.heap.size ts ts w2 rfl ⟨gc2, gd2⟩ ⟨gc1, gd1⟩ ho2 hw2
      rw [decide_eq_true rfl] at hc
      replace hc := Lib.hid hc
      unfold maxLen at gd1 gd2
      go_wp2_with fail
      refine hc.out.mono ?_
      rintro e w3 ⟨rfl, m, rfl⟩
      have h3 : Since w (w2.drewN m) := h2.drew m
      have ho3 : (w2.drewN m).ownsRow wo.heap.size 36 3 (.slice (some ⟨g2, 0, none⟩) ts.length c2) ts.length (cellsOf ts) := ho2
      have hw3 : (w2.drewN m).ownsRow w.heap.size 36 3 (.slice (some ⟨g1, 0, none⟩) ts.length c1) ts.length (cellsOf ts) := hw2
      have hwg : w.heap.size ≤ g2 := by have := hr.2.2.size; omega
      clear hc hw ho2 hw2 ho1
      go_wp2_with fail
      go_loopw [10] (fun i wx => ∃ (j : Nat) (xs : List Value), j ≤ ts.length ∧ i = .int .i64 j ∧ wx.ownsRow wo.heap.size 36 3 (.slice (some ⟨g2, 0, none⟩) ts.length c2) ts.length xs ∧
          wx.ownsRow w.heap.size 36 3 (.slice (some ⟨g1, 0, none⟩) ts.length c1) ts.length (cellsOf ts) ∧ Since w wx) (fun i _ => ts.length - (intOf i).toNat)
      case atStart => exact ⟨0, _, Nat.zero_le _, rfl, ho3, hw3, h3⟩
      case round =>
        obtain ⟨j, xs, hj, rfl, hoA, hoB, hS⟩ := hrel
        by_cases hlj : j < ts.length
        · have hlen := hoA.1
          have cell : ∀ d, d < 3 → ∃ u, wr.cell? ⟨g2, j * 3 + d, none⟩ = some u := fun d hd => ⟨xs[j * 3 + d]'(by omega), by rw [hoA.cellAt _ (by omega)]; simp⟩
          obtain ⟨u0, k0⟩ := cell 0 (by omega)
          obtain ⟨u1, k1⟩ := cell 1 (by omega)
          obtain ⟨u2, k2⟩ := cell 2 (by omega)
          rw [Nat.add_zero] at k0
          have f0 := hoA.frozenAt (j * 3)
          have f1 := hoA.frozenAt (j * 3 + 1)
          have f2 := hoA.frozenAt (j * 3 + 2)
          have s1 := hoA.stored (j * 3) (.int .u8 0)
          have s2 := s1.1.stored (j * 3 + 1) (.string ⟨#[63]⟩)
          have s3 := (s2.1.stored (j * 3 + 2) (.int .i64 0)).1
          have hv : ∀ k, (Value.slice (some ⟨g1, 0, none⟩) ts.length c1).ownBlock = some k → k ≠ g2 := by
            intro k hk
            have : g1 = k := by simpa [Value.ownBlock] using hk
            omega
          have b3 := own_set (own_set (own_set hoB g2 (j * 3) (.int .u8 0) hv) g2 (j * 3 + 1) (.string ⟨#[63]⟩) hv) g2 (j * 3 + 2) (.int .i64 0) hv
          have hS3 := ((hS.set (j := j * 3) hwg (.int .u8 0)).set (j := j * 3 + 1) hwg (.string ⟨#[63]⟩)).set (j := j * 3 + 2) hwg (.int .i64 0)
          replace s3 := Lib.hid s3
          replace b3 := Lib.hid b3
          replace hS3 := Lib.hid hS3
          clear cell s1 s2 hoA hoB hS hlen hv
          go_wp2_with fail
          go_roundw
          case rel => exact ⟨j + 1, _, by omega, by go_num, s3.out, b3.out, hS3.out⟩
          case measure => simp [intOf]; omega
        · go_wp2_with fail
          go_roundw
          case rel => exact ⟨k + 1, by omega, by go_num, hS, hoB⟩
          case measure => simp [intOf]; omega
    · go_wp2_with fail
      refine (nameZ s hsm.out w _ hr).mono ?_
      rintro e w2 ⟨rfl, h2⟩
      go_wp2_with fail
      refine (rname_any s _ (by omega)).mono ?_
      rintro e w3 ⟨rfl, hb3⟩
      have h3 := h2.next hb3
      go_wp2_with fail
      refine (reserved_any s _).mono ?_
      rintro e w4 ⟨rfl, rfl⟩
      go_wp2_with fail
      refine (rreserved_any s _).mono ?_
      rintro e w5 ⟨rfl, hb5⟩
      have h5 := h3.next hb5
      go_wp2_with fail
      go_ret
      exact ⟨rfl, h5.2.2⟩

theorem ltok_any (s : ByteArray) (w : World) (hsg : SignsIn w) :
    Calls Tryd.prog 4 #[.string s] w fun e w' => e = .returned (.bool true) ∧ Below w.heap.size w w' := by
  by_cases hs : 70000 < s.size
  · exact ltok_big s w hs
  · rcases res_cases s.data.toList with ⟨p, n, h⟩ | ⟨ts, hne, h⟩
    · exact ltok_none s p n w hsg (by omega) h
    · exact ltok_some s ts w hsg (by omega) hne h
end Go.Proofs.YtadljmpnopgihaaDoor.Lx
