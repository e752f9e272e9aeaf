/- Tokens by cases; walks of the statements' helpers bad and cut. Conditions: lex.signs holds its list. -/
import Derived.Test.YtpgbgjljlidifaaDoorLexH
import Derived.Deep.QuietTactic
namespace Go.Proofs.YtpgbgjljlidifaaDoor.Lx
open Go Go.RowKit

theorem tokens_none (s : ByteArray) (p n : Nat) (w : World) (hs : s.size ≤ maxLen) (hsg : SignsIn w) (h : res s.data.toList = ([], p, n)) :
    Calls Tryd.prog 14 #[.string s] w fun e w' => e = .returned (.tuple #[.slice none 0 0, .int .i64 (p : Int), .int .i64 (n : Int)]) ∧ Below w.heap.size w w' :=
  (tokens_any s w hs hsg).mono fun e w' ⟨v, he, _, hb, hn⟩ => by
    rw [h] at he hn
    rw [hn rfl] at he
    exact ⟨he, hb⟩
theorem tokens_some (s : ByteArray) (ts : List Tok) (w : World) (hs : s.size ≤ maxLen) (hsg : SignsIn w) (h : res s.data.toList = (ts, 0, 0)) (hne : ts ≠ []) :
    Calls Tryd.prog 14 #[.string s] w fun e w' => ∃ g cap, e = .returned (.tuple #[.slice (some ⟨g, 0, none⟩) ts.length cap, .int .i64 0, .int .i64 0]) ∧ w.heap.size ≤ g ∧ g < w'.heap.size ∧ ts.length ≤ cap ∧ cap ≤ maxLen ∧
      w'.ownsRow w.heap.size 36 3 (.slice (some ⟨g, 0, none⟩) ts.length cap) ts.length (cellsOf ts) ∧ Below w.heap.size w w' :=
  (tokens_any s w hs hsg).mono fun e w' ⟨v, he, ho, hb, hn⟩ => by
    rw [h] at he ho
    have ho' := ho
    rcases ho.2 with ⟨_, h0⟩ | ⟨g, cap, cur, rfl, hg, hgg, h1, h2, _⟩
    · exact absurd (List.eq_nil_of_length_eq_zero h0) hne
    · exact ⟨g, cap, he, hg, (Array.getElem?_eq_some_iff.1 hgg).1, h1, h2, ho', hb⟩

set_option maxHeartbeats 1600000 in
set_option maxRecDepth 100000 in
theorem bad_yes (s : ByteArray) (p : Nat) (a : Int) (ha : a = p) (w : World) (hs : s.size ≤ maxLen) (hsg : SignsIn w) (h : res s.data.toList = ([], p, 63)) :
    Calls Tryd.prog 11 #[.string s, .int .i64 a] w fun e w' => e = .returned (.bool true) ∧ Below w.heap.size w w' := by
  subst ha
  replace h := Lib.hid h
  replace hs := Lib.hid hs
  go_enter Tryd.func11, Tryd.ntmps11
  go_wp2_with (go_at_call 14; refine (tokens_none s p 63 _ hs.out hsg h.out).mono ?_; rintro e w' ⟨rfl, hb⟩)
  go_ret
  exact ⟨rfl, hb⟩

theorem cellsOf_at : ∀ (ts : List Tok) (i : Nat) (t : Tok), ts[i]? = some t → (cellsOf ts)[i * 3]? = some (.int .u8 (t.kind : Int)) ∧ (cellsOf ts)[i * 3 + 1]? = some (.string ⟨t.txt.toArray⟩) ∧ (cellsOf ts)[i * 3 + 2]? = some (.int .i64 (t.pos : Int))
  | [], i, t, h => by simp at h
  | x :: r, 0, t, h => by
    simp at h; subst h
    exact ⟨rfl, rfl, rfl⟩
  | x :: r, i + 1, t, h => by
    have ih := cellsOf_at r i t (by simpa using h)
    have e : ∀ j, (cellsOf (x :: r))[(i + 1) * 3 + j]? = (cellsOf r)[i * 3 + j]? := by
      intro j
      have e1 : (i + 1) * 3 + j = (i * 3 + j) + 3 := by omega
      rw [e1]
      simp [cellsOf, tokCells]
    exact ⟨(e 0).trans ih.1, (e 1).trans ih.2.1, (e 2).trans ih.2.2⟩
/-- the cells of a token that a row owns -/
theorem own_tok {w : World} {base g n cap : Nat} {ts : List Tok} (h : w.ownsRow base 36 3 (.slice (some ⟨g, 0, none⟩) n cap) n (cellsOf ts)) (i : Nat) (t : Tok) (ht : ts[i]? = some t) :
    w.cell? ⟨g, i * 3, none⟩ = some (.int .u8 (t.kind : Int)) ∧ w.cell? ⟨g, i * 3 + 1, none⟩ = some (.string ⟨t.txt.toArray⟩) ∧ w.cell? ⟨g, i * 3 + 2, none⟩ = some (.int .i64 (t.pos : Int)) := by
  obtain ⟨h0, h1, h2⟩ := cellsOf_at ts i t ht
  have hc := h.cells (g := g) rfl
  refine ⟨?_, ?_, ?_⟩
  · have := hc _ _ h0; rw [Addr.add_lit] at this; simpa using this
  · have := hc _ _ h1; rw [Addr.add_lit] at this; simpa using this
  · have := hc _ _ h2; rw [Addr.add_lit] at this; simpa using this

/-- the letter of a kind -/
def kch (k : Nat) : Nat := if k = 1 then 110 else if k = 2 then 100 else 115
set_option maxHeartbeats 1600000 in
set_option maxRecDepth 100000 in
theorem cut_yes (s kinds : ByteArray) (ts : List Tok) (b : Nat) (w : World) (hs : s.size ≤ 65536) (hsg : SignsIn w) (h : res s.data.toList = (ts, 0, 0)) (hne : ts ≠ []) (hb : b < w.heap.size) (hlen : ts.length ≤ 65536)
    (hk : kinds.size = ts.length) (hkinds : ∀ (i : Nat) (t : Tok) (hi : i < kinds.size), ts[i]? = some t → (t.kind = 1 ∨ t.kind = 2 ∨ t.kind = 3) ∧ kinds[i].toNat = kch t.kind)
    (htx : ∀ (i : Nat) (t : Tok), ts[i]? = some t → w.cell? ⟨b, i, none⟩ = some (.string ⟨t.txt.toArray⟩))
    (hat : ∀ (i : Nat) (t : Tok), ts[i]? = some t → t.pos + t.txt.length ≤ s.size ∧ s.extract t.pos (t.pos + t.txt.length) = ⟨t.txt.toArray⟩) :
    Calls Tryd.prog 9 #[.string s, .string kinds, .slice (some ⟨b, 0, none⟩) ts.length ts.length] w fun e w' => e = .returned (.bool true) ∧ Below w.heap.size w w' := by
  have hlp : 0 < ts.length := by cases ts with | nil => exact absurd rfl hne | cons a r => simp
  replace h := Lib.hid h
  replace hne := Lib.hid hne
  have hk1 : ((kinds.size : Int) != (ts.length : Int)) = false := by rw [hk]; simp
  replace hk := Lib.hid hk
  replace hkinds := Lib.hid hkinds
  replace hat := Lib.hid hat
  replace htx := Lib.hid htx
  go_enter Tryd.func9, Tryd.ntmps9
  go_wp2_with (go_at_call 14; refine (tokens_some s ts _ (by unfold maxLen; omega) hsg h.out hne.out).mono ?_; rintro e w' ⟨g, cap, rfl, hg1, hg2, hc1, hc2, hown, hbl⟩)
  have htx2 : ∀ (i : Nat) (t : Tok), ts[i]? = some t → w'.cell? ⟨b, i, none⟩ = some (.string ⟨t.txt.toArray⟩) := fun i t hi => (hbl.cell (p := ⟨b, i, none⟩) hb).trans (htx.out i t hi)
  replace htx2 := Lib.hid htx2
  replace hown := Lib.hid hown
  clear htx
  unfold maxLen at hc2
  go_loopw [10] (fun i wr => ∃ k : Nat, k ≤ ts.length ∧ i = .int .i64 k ∧ ∃ m, wr = w'.drewN m) (fun i _ => ts.length - (intOf i).toNat)
  case atStart => exact ⟨0, by omega, rfl, 0, rfl⟩
  case round =>
    obtain ⟨i, hi, rfl, m, rfl⟩ := hrel
    by_cases hlt : i < ts.length
    · obtain ⟨t, ht⟩ : ∃ t, ts[i]? = some t := ⟨ts[i], by simp [hlt]⟩
      obtain ⟨c0, c1, c2⟩ := own_tok hown.out i t ht
      have c3 := htx2.out i t ht
      obtain ⟨a1, a2⟩ := hat.out i t ht
      have hik : i < kinds.size := by rw [hk.out]; exact hlt
      obtain ⟨k1, k2⟩ := hkinds.out i t hik ht
      clear ht
      obtain ⟨kd, tx, ps⟩ := t
      simp only at c0 c1 c2 c3 a1 a2 k1 k2
      obtain ⟨T, hT⟩ : ∃ T : ByteArray, T = ⟨tx.toArray⟩ := ⟨_, rfl⟩
      rw [← hT] at c1 c3 a2
      have hTs : tx.length = T.size := by rw [hT]; rfl
      rw [hTs] at a1 a2
      clear hT hTs
      rcases k1 with rfl | rfl | rfl
      · have e : (kinds[i].toNat : Int) = 110 := by rw [k2]; rfl
        clear k2
        go_wp2
        go_quiet (fail)
        go_wp2
        go_roundw
        case rel => exact ⟨i + 1, by omega, by go_num, _, rfl⟩
        case measure => simp [intOf]; omega
      · have e : (kinds[i].toNat : Int) = 100 := by rw [k2]; rfl
        clear k2
        go_wp2
        go_quiet (fail)
        go_wp2
        go_roundw
        case rel => exact ⟨i + 1, by omega, by go_num, _, rfl⟩
        case measure => simp [intOf]; omega
      · have e : (kinds[i].toNat : Int) = 115 := by rw [k2]; rfl
        clear k2
        go_wp2
        go_quiet (fail)
        go_wp2
        go_roundw
        case rel => exact ⟨i + 1, by omega, by go_num, _, rfl⟩
        case measure => simp [intOf]; omega
    · go_wp2
      go_ret
      exact ⟨rfl, hbl.trans ⟨rfl, rfl, rfl, Nat.le_refl _, fun _ _ => rfl⟩⟩
end Go.Proofs.YtpgbgjljlidifaaDoor.Lx
