/- MemPlays answers true. Conditions: the lists lie in memory; the numbers fit their kinds. -/
import Derived.Test.YtnoilcchegmpfaaMgP
namespace Go.Proofs.Ytnoilcchegmpfaa.Me
open Go Go.RowKit

theorem ex_dec (P : Prop) : ∃ q : Bool, q = true ↔ P := by classical exact ⟨decide P, by simp⟩
def One (w V : World) (mb db n : Nat) : Prop :=
  Below w.heap.size w V ∧ ∃ (m : Mm) (d : Dm), m.mb = mb ∧ d.mb = db ∧ Pair V m d ∧ m.n ≤ n ∧ ∀ b, m.foot b ∨ d.foot b → w.heap.size ≤ b
theorem Two.one {w V : World} {mb db cb yb : Nat} {L : Int} {C C' : List (List Int)} {h h' : Int → Option Int} {n : Nat} (T : Two w V mb db cb yb L C h C' h' n) : One w V mb db n := by
  obtain ⟨h0, m, d, c, y, e1, e2, e3, e4, p1, p2, q1, q2, f1, f2, f3⟩ := T
  exact ⟨h0, m, d, e1, e2, p1, q1.2.2.2, f1⟩
theorem One.start {w w1 w2 : World} {l : List Gm} {n : Nat} {e e' : Ending} (h1 : PostN l (n : Int) w e w1) (hbad : l.any badG = false) (hn : n ≤ 256) (h2 : PostNd l n w1 e' w2) :
    ∃ mb db, e = .returned (.tuple #[.pointer (some ⟨mb, 0, none⟩), .int .i64 0]) ∧ e' = .returned (.tuple #[.pointer (some ⟨db, 0, none⟩), .int .i64 0]) ∧ One w w2 mb db 0 := by
  obtain ⟨b1, h1⟩ := h1
  rw [if_neg (by rw [hbad]; simp), if_neg (by omega)] at h1
  obtain ⟨m, q1, q2, q3, q4, q5, q6, rfl⟩ := h1
  obtain ⟨b2, d, r1, r2, r3, r4, r5, rfl⟩ := h2
  have hs := b1.size
  refine ⟨_, _, rfl, rfl, b1.trans (b2.mono hs), m, d, rfl, rfl, ⟨q1.below b2, r1, ⟨by rw [q2, r2], by rw [q3, r3], by rw [q4, r4], fun i _ => by rw [q4]⟩, fun b k1 k2 => ?_, fun b hb => (r5 b hb).2⟩, by omega, fun b hb => ?_⟩
  · have := q1.foot_lt k1
    have := (r5 b k2).1
    omega
  · rcases hb with hb | hb
    · exact q6 b hb
    · have := (r5 b hb).1; omega
set_option maxHeartbeats 8000000 in
set_option maxRecDepth 100000 in
theorem memPlays_law (l : List Gm) (ga : Option Addr) (gc : Nat) (locks : Int) (st : List Sp) (sa : Option Addr) (sc : Nat) (w : World) (hg : RowAt w (fun _ => True) ga gc l.length (gmCells l)) (_hgi : ∀ g ∈ l, g.In) (_hl : I64 locks) (hs : RowAt w (fun _ => True) sa sc st.length (spCells st)) (hsi : ∀ s ∈ st, s.In) :
    Calls Try.prog 3 #[.slice ga l.length gc, .int .i64 locks, .slice sa st.length sc] w fun e w' => e = .returned (.bool true) ∧ Below w.heap.size w w' := by
  obtain ⟨hc1, hc2⟩ := len_i hg
  obtain ⟨hd1, hd2⟩ := len_i hs
  have hA := Lib.hid (fun (V : World) (hV : Hid (Below w.heap.size w V)) => aw_c hV.out)
  have hb0 : Hid (Below w.heap.size w w) := Lib.hid (Below.refl _ _)
  by_cases hl1 : 20 < l.length
  · have hl1' : (20 : Int) < (l.length : Int) := by omega
    go_enter Try.func3, Try.ntmps3
    go_wp2_with (go_at_call 4; refine (hA.out _ (by assumption)).mono ?_; rintro e w1 ⟨rfl, hbx⟩)
    go_ret
    exact ⟨rfl, hbx⟩
  have hl1' : ¬ (20 : Int) < (l.length : Int) := by omega
  by_cases hl2 : 60 < st.length
  · have hl2' : (60 : Int) < (st.length : Int) := by omega
    go_enter Try.func3, Try.ntmps3
    go_wp2_with (go_at_call 4; refine (hA.out _ (by assumption)).mono ?_; rintro e w1 ⟨rfl, hbx⟩)
    go_ret
    exact ⟨rfl, hbx⟩
  have hl2' : ¬ (60 : Int) < (st.length : Int) := by omega
  by_cases hno : l.any badG = true ∨ locks < 0 ∨ 256 < locks
  · have hN : Hid (Calls Try.prog 5 #[.slice ga l.length gc, .int .i64 locks] w fun e w' => e = .returned (.tuple #[.pointer none, .int .i64 (if l.any badG = true then 4 else 1)]) ∧ Hid (Below w.heap.size w w')) := Lib.hid ((New_c l locks ga gc w hg (by omega)).mono fun e w' ⟨h1, h2⟩ => by
      refine ⟨?_, Lib.hid h1⟩
      by_cases hb : l.any badG = true
      · rw [if_pos hb] at h2 ⊢
        exact h2
      · rw [if_neg hb, if_pos (by simpa [hb] using hno)] at h2
        rw [if_neg hb]
        exact h2)
    have hD : Hid (∀ V, Hid (Below w.heap.size w V) → Calls Try.prog 6 #[.slice ga l.length gc, .int .i64 locks] V fun e w' => e = .returned (.tuple #[.pointer none, .int .i64 (if l.any badG = true then 4 else 1)]) ∧ Hid (Below w.heap.size w w')) := Lib.hid fun V hV => (dNew_no l locks ga gc V (hg.below (Kps.of_below hV.out)) hno).mono fun e w' ⟨h1, h2⟩ => ⟨h1, Lib.hid (hV.out.trans (h2.mono hV.out.size))⟩
    obtain ⟨E, hE, hE0⟩ : ∃ E : Int, (if l.any badG = true then (4 : Int) else 1) = E ∧ E ≠ 0 := ⟨_, rfl, by split <;> decide⟩
    rw [hE] at hN hD
    have hE2 : E = 4 ∨ E = 1 := by
      by_cases hb : l.any badG = true
      · rw [if_pos hb] at hE; exact .inl hE.symm
      · rw [if_neg hb] at hE; exact .inr hE.symm
    clear hE hE0 hno hg hs
    rcases hE2 with rfl | rfl
    · go_enter Try.func3, Try.ntmps3
      go_wp2_with (first
        | (go_at_call 5; (with_reducible refine hN.out.mono ?_); rintro e w1 ⟨rfl, hb1⟩)
        | (go_at_call 6; (with_reducible refine (hD.out _ (by assumption)).mono ?_); rintro e w2 ⟨rfl, hb2⟩)
        | (go_at_call 4; refine (hA.out _ (by assumption)).mono ?_; rintro e w3 ⟨rfl, hbx⟩))
      go_ret
      exact ⟨rfl, hbx⟩
    · go_enter Try.func3, Try.ntmps3
      go_wp2_with (first
        | (go_at_call 5; (with_reducible refine hN.out.mono ?_); rintro e w1 ⟨rfl, hb1⟩)
        | (go_at_call 6; (with_reducible refine (hD.out _ (by assumption)).mono ?_); rintro e w2 ⟨rfl, hb2⟩)
        | (go_at_call 4; refine (hA.out _ (by assumption)).mono ?_; rintro e w3 ⟨rfl, hbx⟩))
      go_ret
      exact ⟨rfl, hbx⟩
  have hbad : l.any badG = false := by
    cases h : l.any badG with
    | true => exact absurd (.inl h) hno
    | false => rfl
  obtain ⟨n, rfl⟩ : ∃ n : Nat, locks = n := ⟨locks.toNat, by omega⟩
  have hn : n ≤ 256 := by omega
  have hN := Lib.hid (New_c l n ga gc w hg (by omega))
  have hD := Lib.hid (fun (V : World) (hV : Below w.heap.size w V) => dNew_c l n ga gc V (hg.below (Kps.of_below hV)) (by omega) hbad hn)
  have hst := Lib.hid (fun (w1 w2 : World) (e e' : Ending) (h1 : PostN l (n : Int) w e w1) (h2 : PostNd l n w1 e' w2) => One.start h1 hbad hn h2)
  have hres : Hid (∀ w1 e, PostN l (n : Int) w e w1 → Below w.heap.size w w1 ∧ ∃ mb, e = .returned (.tuple #[.pointer (some ⟨mb, 0, none⟩), .int .i64 0])) := Lib.hid fun w1 e h1 => by
    obtain ⟨b1, h1⟩ := h1
    rw [if_neg (by rw [hbad]; simp), if_neg (by omega)] at h1
    obtain ⟨m, _, _, _, _, _, _, rfl⟩ := h1
    exact ⟨b1, _, rfl⟩
  clear hno hbad hg
  go_enter Try.func3, Try.ntmps3
  go_upto_region 3 with fail
  go_upto_region 4 with (go_at_call 5; refine hN.out.mono ?_; rintro e w1 h1; obtain ⟨hb1, mb, rfl⟩ := hres.out _ _ h1; replace h1 := Lib.hid h1)
  go_upto_region 5 with (go_at_call 6; refine (hD.out _ hb1).mono ?_; rintro e w2 h2; obtain ⟨mb', db, e1, rfl, hO⟩ := hst.out _ _ _ _ h1.out h2; cases e1; clear h2)
  clear hN hD hst hres h1 hb1
  have hO0 := Lib.hid hO
  clear hO
  go_wp2_with fail
  go_loopw [11] (fun t11 V => ∃ i : Nat, i ≤ st.length ∧ t11 = .int .i64 i ∧ Hid (One w V mb db (2 * i))) (fun t11 _ => st.length - (intOf t11).toNat)
  case atStart => exact ⟨0, Nat.zero_le _, rfl, hO0⟩
  case round =>
    clear hO0
    obtain ⟨i, hi, rfl, hO⟩ := hrel
    by_cases hlt : i < st.length
    · obtain ⟨s, hsx⟩ : ∃ s, st[i]? = some s := ⟨_, List.getElem?_eq_getElem hlt⟩
      have hsIn := hsi s (List.mem_of_getElem? hsx)
      obtain ⟨hbV, m, d, hmb, hdb, p, hmn, hf⟩ := hO.out
      have hrow := Lib.hid (fun (V : World) (hV : Below w.heap.size w V) => sp_row (hs.below (Kps.of_below hV)) i s hsx)
      obtain ⟨b, off, hsa, _, _⟩ := hrow.out _ hbV
      subst hsa
      have hrow2 := Lib.hid (fun (V : World) (hV : Below w.heap.size w V) => (by
        obtain ⟨b', off', e1, _, c0, c1, c2, c3⟩ := hrow.out V hV
        cases e1
        exact ⟨c0, c1, c2, c3⟩ : V.cell? ⟨b, off + i * 4, none⟩ = some (.int .u8 s.kind) ∧ V.cell? ⟨b, off + i * 4 + 1, none⟩ = some (.int .i64 s.at_) ∧ V.cell? ⟨b, off + i * 4 + 2, none⟩ = some (.int .i64 s.here) ∧ V.cell? ⟨b, off + i * 4 + 3, none⟩ = some (.int .i64 s.v)))
      have hi0 : (0 : Int) ≤ (i : Int) := by omega
      have hi1 : (i : Int) < (st.length : Int) := by omega
      have hcp : Hid (Calls Try.prog 7 #[.pointer (some ⟨mb, 0, none⟩)] wr fun e V1 => ∃ cb, e = .returned (.pointer (some ⟨cb, 0, none⟩)) ∧ Hid (Below wr.heap.size wr V1 ∧ PostP m wr (.returned (.pointer (some ⟨cb, 0, none⟩))) V1)) := Lib.hid ((hmb ▸ Copy_c p.i : Calls Try.prog 7 #[.pointer (some ⟨mb, 0, none⟩)] wr (PostP m wr)).mono fun e V1 h1 => by
        have h2 := h1
        obtain ⟨b1, c, rfl, _⟩ := h2
        exact ⟨_, rfl, Lib.hid ⟨b1, h1⟩⟩)
      have hdc : Hid (∀ V1 cb, Hid (Below wr.heap.size wr V1 ∧ PostP m wr (.returned (.pointer (some ⟨cb, 0, none⟩))) V1) → Calls Try.prog 8 #[.pointer (some ⟨db, 0, none⟩)] V1 fun e V2 => ∃ yb, e = .returned (.pointer (some ⟨yb, 0, none⟩)) ∧ Two w V2 mb db cb yb m.locks m.C m.h m.C m.h (2 * i)) := Lib.hid fun V1 cb h1 => (hdb ▸ dCopy_c (p.below h1.out.1).j : Calls Try.prog 8 #[.pointer (some ⟨db, 0, none⟩)] V1 (PostDc d V1)).mono fun e V2 h2 => by
        obtain ⟨cb', yb, e1, e2, T⟩ := Two.start hbV p hmn hf h1.out.2 h2
        cases e1
        rw [hmb, hdb] at T
        exact ⟨yb, e2, T⟩
      clear hO hrow hs hsx hf hmn p hbV hmb hdb
      go_upto_region 12 with fail
      go_upto_region 13 with (first
        | (go_at_call 7; (with_reducible refine hcp.out.mono ?_); rintro e V1 ⟨cb', rfl, h1⟩)
        | (go_at_call 8; (with_reducible refine (hdc.out _ _ h1).mono ?_); rintro e V2 ⟨yb, rfl, hT⟩))
      clear hcp hdc h1
      replace hT := Lib.hid hT
      obtain ⟨c0, c1, c2, c3⟩ := hrow2.out _ hT.out.1
      obtain ⟨q, hq⟩ : ∃ q : Bool, q = true ↔ s.C m.C = m.C ∧ s.H m.locks m.h = m.h := by
        exact ex_dec _
      generalize hgL : m.locks = L at *
      generalize hgh : m.h = h at *
      generalize hgC : m.C = C at *
      clear hgL hgh hgC
      have a1 : Hid (∀ V, Hid (Two w V mb db cb' yb L C h C h (2 * i)) → Calls Try.prog 9 #[.agg #[.int .u8 s.kind, .int .i64 s.at_, .int .i64 s.here, .int .i64 s.v], .pointer (some ⟨mb, 0, none⟩), .pointer (some ⟨db, 0, none⟩)] V fun e V' => e = .returned (.bool true) ∧ Hid (Two w V' mb db cb' yb L (s.C C) (s.H L h) C h (2 * i + 1))) := Lib.hid fun V T => (T.out.do1 (by omega) s hsIn).mono fun _ _ ⟨g1, g2⟩ => ⟨g1, Lib.hid g2⟩
      have a2 : Hid (∀ V, Hid (Two w V mb db cb' yb L (s.C C) (s.H L h) C h (2 * i + 1)) → Calls Try.prog 10 #[.pointer (some ⟨mb, 0, none⟩), .pointer (some ⟨db, 0, none⟩)] V fun e V' => e = .returned (.bool true) ∧ Hid (Two w V' mb db cb' yb L (s.C C) (s.H L h) C h (2 * i + 1))) := Lib.hid fun V T => T.out.same1.mono fun _ _ ⟨g1, g2⟩ => ⟨g1, Lib.hid g2⟩
      have a3 : Hid (∀ V, Hid (Two w V mb db cb' yb L (s.C C) (s.H L h) C h (2 * i + 1)) → Calls Try.prog 10 #[.pointer (some ⟨cb', 0, none⟩), .pointer (some ⟨yb, 0, none⟩)] V fun e V' => e = .returned (.bool true) ∧ Hid (Two w V' mb db cb' yb L (s.C C) (s.H L h) C h (2 * i + 1))) := Lib.hid fun V T => T.out.same2.mono fun _ _ ⟨g1, g2⟩ => ⟨g1, Lib.hid g2⟩
      have a4 : Hid (∀ V, Hid (Two w V mb db cb' yb L (s.C C) (s.H L h) C h (2 * i + 1)) → Calls Try.prog 11 #[.pointer (some ⟨mb, 0, none⟩), .pointer (some ⟨cb', 0, none⟩)] V fun e V' => e = .returned (.bool q) ∧ Hid (Two w V' mb db cb' yb L (s.C C) (s.H L h) C h (2 * i + 1))) := Lib.hid fun V T => (T.out.eqm hq).mono fun _ _ ⟨g1, g2⟩ => ⟨g1, Lib.hid g2⟩
      have a5 : Hid (∀ V, Hid (Two w V mb db cb' yb L (s.C C) (s.H L h) C h (2 * i + 1)) → Calls Try.prog 12 #[.pointer (some ⟨db, 0, none⟩), .pointer (some ⟨yb, 0, none⟩)] V fun e V' => e = .returned (.bool q) ∧ Hid (Two w V' mb db cb' yb L (s.C C) (s.H L h) C h (2 * i + 1)) ∧ V'.cell? ⟨b, off + i * 4, none⟩ = some (.int .u8 s.kind) ∧ V'.cell? ⟨b, off + i * 4 + 1, none⟩ = some (.int .i64 s.at_) ∧ V'.cell? ⟨b, off + i * 4 + 2, none⟩ = some (.int .i64 s.here) ∧ V'.cell? ⟨b, off + i * 4 + 3, none⟩ = some (.int .i64 s.v)) := Lib.hid fun V T => (T.out.eqd hq).mono fun _ _ ⟨g1, g2⟩ => ⟨g1, Lib.hid g2, hrow2.out _ g2.1⟩
      have a6 : Hid (∀ V, Hid (Two w V mb db cb' yb L (s.C C) (s.H L h) C h (2 * i + 1)) → Calls Try.prog 9 #[.agg #[.int .u8 s.kind, .int .i64 s.at_, .int .i64 s.here, .int .i64 s.v], .pointer (some ⟨cb', 0, none⟩), .pointer (some ⟨yb, 0, none⟩)] V fun e V' => e = .returned (.bool true) ∧ Hid (Two w V' mb db cb' yb L (s.C C) (s.H L h) (s.C C) (s.H L h) (2 * i + 2))) := Lib.hid fun V T => (T.out.do2 (by omega) s hsIn).mono fun _ _ ⟨g1, g2⟩ => ⟨g1, Lib.hid g2⟩
      have a7 : Hid (∀ V, Hid (Two w V mb db cb' yb L (s.C C) (s.H L h) (s.C C) (s.H L h) (2 * i + 2)) → Calls Try.prog 11 #[.pointer (some ⟨mb, 0, none⟩), .pointer (some ⟨cb', 0, none⟩)] V fun e V' => e = .returned (.bool true) ∧ Hid (One w V' mb db (2 * (i + 1)))) := Lib.hid fun V T => (T.out.eqm (q := true) (by simp)).mono fun _ _ ⟨g1, g2⟩ => ⟨g1, Lib.hid g2.one⟩
      clear hq hrow2 hsIn hsi
      generalize s.C C = C1 at *
      generalize s.H L h = h1 at *
      obtain ⟨k0, k1, k2, k3⟩ := s
      simp only at c0 c1 c2 c3 a1 a5 a6
      go_wp2_with (first
        | (go_at_call 9; (with_reducible refine (a1.out _ (by assumption)).mono ?_); rintro e V3 ⟨rfl, hT1⟩)
        | (go_at_call 10; (with_reducible refine (a2.out _ (by assumption)).mono ?_); rintro e V4 ⟨rfl, hT2⟩)
        | (go_at_call 10; (with_reducible refine (a3.out _ (by assumption)).mono ?_); rintro e V5 ⟨rfl, hT3⟩)
        | (go_at_call 11; (with_reducible refine (a4.out _ (by assumption)).mono ?_); rintro e V6 ⟨rfl, hT4⟩)
        | (go_at_call 12; (with_reducible refine (a5.out _ (by assumption)).mono ?_); rintro e V7 ⟨rfl, hT5, g0, g1, g2, g3⟩)
        | (go_at_call 9; (with_reducible refine (a6.out _ (by assumption)).mono ?_); rintro e V8 ⟨rfl, hT6⟩)
        | (go_at_call 11; (with_reducible refine (a7.out _ (by assumption)).mono ?_); rintro e V9 ⟨rfl, hT7⟩))
      go_roundw
      case rel => exact ⟨i + 1, by omega, by go_num, hT7⟩
      case measure => simp [intOf]; omega
    · have hlt' : ¬ (i : Int) < (st.length : Int) := by omega
      have hbV := Lib.hid hO.out.1
      clear hO hs hsi
      go_wp2_with (go_at_call 4; refine (hA.out _ (by assumption)).mono ?_; rintro e w3 ⟨rfl, hbx⟩)
      go_ret
      exact ⟨rfl, hbx⟩
end Go.Proofs.Ytnoilcchegmpfaa.Me
