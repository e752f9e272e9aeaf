/- Walks of Take, Give of the document's memory. Conditions: the memory lies in the world; the numbers fit their kinds. -/
import Derived.Test.YtnoilcchegmpfaaMgB
namespace Go.Proofs.Ytnoilcchegmpfaa.Me
open Go Go.RowKit

def dtakeH (m : Dm) (k who : Int) : Int → Option Int := if takeE m.locks m.h k = 0 then fun j => if j = k then some who else m.h j else m.h
def dgiveH (m : Dm) (k who : Int) : Int → Option Int := if giveE m.locks m.h k who = 0 then fun j => if j = k then none else m.h j else m.h
set_option maxHeartbeats 4000000 in
theorem dTake_c {w : World} {m : Dm} (h : m.In w) (k who : Int) : Calls Try.prog 24 #[.pointer (some ⟨m.mb, 0, none⟩), .int .i64 k, .int .i64 who] w (PostD m w (takeE m.locks m.h k) m.C (dtakeH m k who)) := by
  have c1 := h.c1
  have c2 := h.c2
  have hl := h.lk
  have hle := h.hs.le
  have hle2 := h.bs.le
  have hlm := h.hs.lim
  have hlm2 := h.bs.lim
  have same : ∀ E, takeE m.locks m.h k = E → E ≠ 0 → ∀ e, e = Ending.returned (.int .i64 E) → PostD m w (takeE m.locks m.h k) m.C (dtakeH m k who) e w := fun E hE hne e he =>
    .same h rfl (by unfold dtakeH; rw [if_neg (by rw [hE]; exact hne)]) (by rw [hE]; exact he)
  by_cases h0 : k < 0
  · replace same := Lib.hid (same 1 (by unfold takeE; rw [if_pos (.inl h0)]) (by decide))
    clear h
    go_enter Try.func24, Try.ntmps24
    go_wp2_with fail
    go_ret
    exact same.out _ rfl
  by_cases h1 : (m.locks : Int) ≤ k
  · replace same := Lib.hid (same 1 (by unfold takeE; rw [if_pos (.inr h1)]) (by decide))
    clear h
    go_enter Try.func24, Try.ntmps24
    go_wp2_with fail
    go_ret
    exact same.out _ rfl
  obtain ⟨n, rfl⟩ : ∃ n : Nat, k = n := ⟨k.toNat, by omega⟩
  have hn : n < m.locks := by omega
  obtain ⟨hb, e1, d1, q1⟩ := h.held hn
  obtain ⟨bb, e2, d2, q2⟩ := h.by_ hn
  have hne : hb ≠ bb := fun e => by
    obtain ⟨b1, vs1, g1, g2, g3⟩ := h.hs.at_ n _ (by unfold Dm.heldL; rw [if_pos hn])
    obtain ⟨b2, vs2, k1, k2, k3⟩ := h.bs.at_ n _ (by unfold Dm.byL; rw [if_pos hn])
    rw [e1] at g1
    rw [e2] at k1
    cases g1
    cases k1
    rw [e, k2] at g2; simp at g2
  have hmb : m.mb ≠ hb := fun e => by
    obtain ⟨b1, vs1, g1, g2, g3⟩ := h.hs.at_ n _ (by unfold Dm.heldL; rw [if_pos hn])
    rw [e1] at g1
    cases g1
    have := h.blk
    rw [e, g2] at this; simp at this
  have hn0 : (0 : Int) ≤ (n : Int) := by omega
  have hn1 : (n : Int) < (m.locks : Int) := by omega
  by_cases ho : (m.h n).isSome = true
  · replace same := Lib.hid (same 6 (by unfold takeE; rw [if_neg (by omega), if_pos ho]) (by decide))
    rw [e1] at c1
    rw [ho] at d1
    clear h ho
    generalize m.locks = z at *
    go_enter Try.func24, Try.ntmps24
    go_wp2_with fail
    go_ret
    exact same.out _ rfl
  · have hE : takeE m.locks m.h n = 0 := by unfold takeE; rw [if_neg (by omega), if_neg ho]
    have hfin : ∀ e, e = Ending.returned (.int .i64 0) → PostD m w (takeE m.locks m.h n) m.C (dtakeH m n who) e ((w.setCell ⟨hb, n, none⟩ (.bool true)).setCell ⟨bb, n, none⟩ (.int .i64 who)) := fun e he => by
      have := PostD.turned h hn (some who) e1 e2 he
      unfold dtakeH
      rw [if_pos hE, hE]
      exact this
    replace hfin := Lib.hid hfin
    rw [e1] at c1
    rw [e2] at c2
    simp only [Bool.not_eq_true] at ho
    rw [ho] at d1
    have c2' : (w.setCell ⟨hb, n, none⟩ (.bool true)).cell? ⟨m.mb, 2, none⟩ = some (.slice (some ⟨bb, 0, none⟩) m.locks m.bc) := (set_ne hmb).trans c2
    have d2' : (w.setCell ⟨hb, n, none⟩ (.bool true)).cell? ⟨bb, n, none⟩ = some (.int .i64 ((m.h n).getD 0)) := (set_ne (fun e => hne e.symm)).trans d2
    clear h ho hE same e1 e2
    generalize m.locks = z at *
    go_enter Try.func24, Try.ntmps24
    go_wp2_with fail
    go_ret
    exact hfin.out _ rfl
set_option maxHeartbeats 4000000 in
theorem dGive_c {w : World} {m : Dm} (h : m.In w) (k who : Int) : Calls Try.prog 26 #[.pointer (some ⟨m.mb, 0, none⟩), .int .i64 k, .int .i64 who] w (PostD m w (giveE m.locks m.h k who) m.C (dgiveH m k who)) := by
  have c1 := h.c1
  have c2 := h.c2
  have hl := h.lk
  have hle := h.hs.le
  have hle2 := h.bs.le
  have hlm := h.hs.lim
  have hlm2 := h.bs.lim
  have same : ∀ E, giveE m.locks m.h k who = E → E ≠ 0 → ∀ e, e = Ending.returned (.int .i64 E) → PostD m w (giveE m.locks m.h k who) m.C (dgiveH m k who) e w := fun E hE hne e he =>
    .same h rfl (by unfold dgiveH; rw [if_neg (by rw [hE]; exact hne)]) (by rw [hE]; exact he)
  by_cases h0 : k < 0
  · replace same := Lib.hid (same 1 (by unfold giveE; rw [if_pos (.inl h0)]) (by decide))
    clear h
    go_enter Try.func26, Try.ntmps26
    go_wp2_with fail
    go_ret
    exact same.out _ rfl
  by_cases h1 : (m.locks : Int) ≤ k
  · replace same := Lib.hid (same 1 (by unfold giveE; rw [if_pos (.inr h1)]) (by decide))
    clear h
    go_enter Try.func26, Try.ntmps26
    go_wp2_with fail
    go_ret
    exact same.out _ rfl
  obtain ⟨n, rfl⟩ : ∃ n : Nat, k = n := ⟨k.toNat, by omega⟩
  have hn : n < m.locks := by omega
  obtain ⟨hb, e1, d1, q1⟩ := h.held hn
  obtain ⟨bb, e2, d2, q2⟩ := h.by_ hn
  have hne : hb ≠ bb := fun e => by
    obtain ⟨b1, vs1, g1, g2, g3⟩ := h.hs.at_ n _ (by unfold Dm.heldL; rw [if_pos hn])
    obtain ⟨b2, vs2, k1, k2, k3⟩ := h.bs.at_ n _ (by unfold Dm.byL; rw [if_pos hn])
    rw [e1] at g1
    rw [e2] at k1
    cases g1
    cases k1
    rw [e, k2] at g2; simp at g2
  have hmb : m.mb ≠ hb := fun e => by
    obtain ⟨b1, vs1, g1, g2, g3⟩ := h.hs.at_ n _ (by unfold Dm.heldL; rw [if_pos hn])
    rw [e1] at g1
    cases g1
    have := h.blk
    rw [e, g2] at this; simp at this
  have hn0 : (0 : Int) ≤ (n : Int) := by omega
  have hn1 : (n : Int) < (m.locks : Int) := by omega
  cases ho : m.h n with
  | none =>
    replace same := Lib.hid (same 69 (by unfold giveE; rw [if_neg (by omega), if_neg (by rw [ho]; simp)]) (by decide))
    rw [e1] at c1
    rw [e2] at c2
    rw [ho] at d1 d2
    simp only [Option.isSome_none, Option.getD_none] at d1 d2
    clear h ho
    generalize m.locks = z at *
    go_enter Try.func26, Try.ntmps26
    go_wp2_with fail
    go_ret
    exact same.out _ rfl
  | some v =>
    by_cases hv : v = who
    · subst hv
      have hE : giveE m.locks m.h n v = 0 := by unfold giveE; rw [if_neg (by omega), if_pos ho]
      have hfin : ∀ e, e = Ending.returned (.int .i64 0) → PostD m w (giveE m.locks m.h n v) m.C (dgiveH m n v) e ((w.setCell ⟨hb, n, none⟩ (.bool false)).setCell ⟨bb, n, none⟩ (.int .i64 0)) := fun e he => by
        have := PostD.turned h hn none e1 e2 he
        unfold dgiveH
        rw [if_pos hE, hE]
        exact this
      replace hfin := Lib.hid hfin
      rw [e1] at c1
      rw [e2] at c2
      rw [ho] at d1 d2
      simp only [Option.isSome_some, Option.getD_some] at d1 d2
      have c2' : (w.setCell ⟨hb, n, none⟩ (.bool false)).cell? ⟨m.mb, 2, none⟩ = some (.slice (some ⟨bb, 0, none⟩) m.locks m.bc) := (set_ne hmb).trans c2
      have d2' : (w.setCell ⟨hb, n, none⟩ (.bool false)).cell? ⟨bb, n, none⟩ = some (.int .i64 v) := (set_ne (fun e => hne e.symm)).trans d2
      clear h ho hE same e1 e2
      generalize m.locks = z at *
      go_enter Try.func26, Try.ntmps26
      go_wp2_with fail
      go_ret
      exact hfin.out _ rfl
    · replace same := Lib.hid (same 69 (by unfold giveE; rw [if_neg (by omega), if_neg (by rw [ho]; intro e; exact hv (Option.some.inj e))]) (by decide))
      rw [e1] at c1
      rw [e2] at c2
      rw [ho] at d1 d2
      simp only [Option.isSome_some, Option.getD_some] at d1 d2
      clear h ho
      generalize m.locks = z at *
      go_enter Try.func26, Try.ntmps26
      go_wp2_with fail
      go_ret
      exact same.out _ rfl
end Go.Proofs.Ytnoilcchegmpfaa.Me
