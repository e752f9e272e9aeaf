/- Walks of look, Take, Give, Holder. Conditions: the memory lies in the world; the numbers fit their kinds. -/
import Derived.Test.YtnoilcchegmpfaaMeF
namespace Go.Proofs.Ytnoilcchegmpfaa.Me
open Go Go.RowKit

theorem look_c {w : World} {m : Mm} (h : m.In w) (k : Int) : Calls Try.prog 33 #[.pointer (some ⟨m.mb, 0, none⟩), .int .i64 k] w fun e w' => e = .returned (.int .i64 (if k < 0 ∨ m.locks ≤ k then 1 else 0)) ∧ w' = w := by
  have c1 := h.c1
  have hl := h.lk
  clear h
  generalize m.locks = n at *
  by_cases h0 : k < 0
  · rw [if_pos (.inl h0)]
    go_enter Try.func33, Try.ntmps33
    go_wp2_with fail
    go_ret
    exact ⟨rfl, rfl⟩
  · by_cases h1 : n ≤ k
    · rw [if_pos (.inr h1)]
      go_enter Try.func33, Try.ntmps33
      go_wp2_with fail
      go_ret
      exact ⟨rfl, rfl⟩
    · rw [if_neg (by omega)]
      go_enter Try.func33, Try.ntmps33
      go_wp2_with fail
      go_ret
      exact ⟨rfl, rfl⟩
/-- how Take and Give end -/
def PostT (m : Mm) (w : World) (err : Int) (h' : Int → Option Int) (e : Ending) (w' : World) : Prop :=
  e = .returned (.int .i64 err) ∧ ∃ m' : Mm, m'.In w' ∧ m'.C = m.C ∧ m'.h = h' ∧ m'.locks = m.locks ∧ m'.n ≤ m.n + 1 ∧ m'.mb = m.mb ∧ (∀ b, m'.foot b ↔ m.foot b) ∧ (∀ b, ¬ m.foot b → w'.heap[b]? = w.heap[b]?) ∧ ∀ B, (∀ b, m.foot b → B ≤ b) → Below B w w'
theorem PostT.same {m : Mm} {w : World} (h : m.In w) {err : Int} {h' : Int → Option Int} (hh : h' = m.h) {e : Ending} (he : e = .returned (.int .i64 err)) : PostT m w err h' e w :=
  ⟨he, m, h, rfl, hh.symm, rfl, Nat.le_succ _, rfl, fun _ => Iff.rfl, fun _ _ => rfl, fun _ _ => Below.refl _ _⟩
theorem PostT.turned {m : Mm} {w w' : World} (h : m.In w) {h' : Int → Option Int} {n' : Nat} (hn : n' ≤ m.n + 1) (hd : Hd w' m.hb n' h') (ht : w.mapTurned w' m.hb) {e : Ending} (he : e = .returned (.int .i64 0)) : PostT m w 0 h' e w' := by
  obtain ⟨t1, t2, t3⟩ := turned_ne ht
  have hhb : m.foot m.hb := .inr (.inr (.inl rfl))
  have n1 : m.mb ≠ m.hb := fun e => by
    obtain ⟨D, ⟨es, clock, h1, _⟩, _⟩ := h.hd
    rw [← e, h.blk] at h1
    cases h1
  have n2 : m.cb ≠ m.hb := fun e => by
    obtain ⟨D, ⟨es, clock, h1, _⟩, _⟩ := h.hd
    rw [← e, h.cbl] at h1
    cases h1
  refine ⟨he, { m with n := n', h := h' }, ⟨(t1 _ n1).trans h.blk, (t1 _ n2).trans h.cbl, fun r hr => (h.rows r hr).keep (t1 _ ?_), h.nd, hd, h.lim, h.lk⟩, rfl, rfl, rfl, hn, rfl, fun _ => Iff.rfl, fun b hb => t1 b (fun e => hb (by rw [e]; exact hhb)), fun B hB => (Below.refl B w).grown t3 (by have := hB _ hhb; have := h.hd.lt; omega) (fun k hk => by cases hk; exact hB _ hhb)⟩
  intro e
  obtain ⟨⟨vs, hb, _⟩, _⟩ := h.rows r hr
  obtain ⟨D, ⟨es, clock, h1, _⟩, _⟩ := h.hd
  rw [← e, hb] at h1
  cases h1
def takeH (m : Mm) (k who : Int) : Int → Option Int := if takeE m.locks m.h k = 0 then fun j => if j = k then some who else m.h j else m.h
def giveH (m : Mm) (k who : Int) : Int → Option Int := if giveE m.locks m.h k who = 0 then fun j => if j = k then none else m.h j else m.h
theorem Take_c {w : World} {m : Mm} (h : m.In w) (hn : m.n < 1000000) (k who : Int) (hwho : I64 who) : Calls Try.prog 14 #[.pointer (some ⟨m.mb, 0, none⟩), .int .i64 k, .int .i64 who] w (PostT m w (takeE m.locks m.h k) (takeH m k who)) := by
  have hc := look_c h k
  by_cases h0 : k < 0 ∨ m.locks ≤ k
  · have he : takeE m.locks m.h k = 1 := by unfold takeE; rw [if_pos h0]
    rw [if_pos h0] at hc
    have hfin : ∀ e, e = Ending.returned (.int .i64 1) → PostT m w (takeE m.locks m.h k) (takeH m k who) e w := fun e hee => PostT.same h (by unfold takeH; rw [he]; rfl) (by rw [he]; exact hee)
    replace hfin := Lib.hid hfin
    replace hc := Lib.hid hc
    clear h h0 he
    go_enter Try.func14, Try.ntmps14
    go_wp2_with (go_at_call 33; refine hc.out.mono ?_; rintro e w' ⟨rfl, rfl⟩)
    go_ret
    exact hfin.out _ rfl
  · have hki : I64 k := by have := h.lk; unfold I64; omega
    rw [if_neg h0] at hc
    have hl := h.hd.look k hki
    have c2 := h.c2
    cases hs : m.h k with
    | some u =>
      have he : takeE m.locks m.h k = 6 := by unfold takeE; rw [if_neg h0, hs]; rfl
      rw [hs] at hl
      have hfin : ∀ e, e = Ending.returned (.int .i64 6) → PostT m w (takeE m.locks m.h k) (takeH m k who) e w := fun e hee => PostT.same h (by unfold takeH; rw [he]; rfl) (by rw [he]; exact hee)
      replace hfin := Lib.hid hfin
      replace hc := Lib.hid hc
      simp only [Option.getD_some, Option.isSome_some] at hl
      clear h h0 he hs
      go_enter Try.func14, Try.ntmps14
      go_wp2_with (go_at_call 33; refine hc.out.mono ?_; rintro e w' ⟨rfl, rfl⟩)
      go_ret
      exact hfin.out _ rfl
    | none =>
      have he : takeE m.locks m.h k = 0 := by unfold takeE; rw [if_neg h0, hs]; rfl
      rw [hs] at hl
      obtain ⟨w1, e1, e2, e3⟩ := h.hd.put hn k who hki hwho
      have hfin : ∀ e, e = Ending.returned (.int .i64 0) → PostT m w (takeE m.locks m.h k) (takeH m k who) e w1 := fun e hee => by
        rw [he]
        unfold takeH
        rw [if_pos he]
        exact PostT.turned h (Nat.le_refl _) e2 e3 hee
      replace hfin := Lib.hid hfin
      replace hc := Lib.hid hc
      simp only [Option.getD_none, Option.isSome_none] at hl
      clear h h0 he hs e2 e3
      go_enter Try.func14, Try.ntmps14
      go_wp2_with (go_at_call 33; refine hc.out.mono ?_; rintro e w' ⟨rfl, rfl⟩)
      go_ret
      exact hfin.out _ rfl
set_option maxRecDepth 20000 in
theorem Give_c {w : World} {m : Mm} (h : m.In w) (k who : Int) : Calls Try.prog 25 #[.pointer (some ⟨m.mb, 0, none⟩), .int .i64 k, .int .i64 who] w (PostT m w (giveE m.locks m.h k who) (giveH m k who)) := by
  have hc := look_c h k
  by_cases h0 : k < 0 ∨ m.locks ≤ k
  · have he : giveE m.locks m.h k who = 1 := by unfold giveE; rw [if_pos h0]
    rw [if_pos h0] at hc
    have hfin : ∀ e, e = Ending.returned (.int .i64 1) → PostT m w (giveE m.locks m.h k who) (giveH m k who) e w := fun e hee => PostT.same h (by unfold giveH; rw [he]; rfl) (by rw [he]; exact hee)
    replace hfin := Lib.hid hfin
    replace hc := Lib.hid hc
    clear h h0 he
    go_enter Try.func25, Try.ntmps25
    go_wp2_with (go_at_call 33; refine hc.out.mono ?_; rintro e w' ⟨rfl, rfl⟩)
    go_ret
    exact hfin.out _ rfl
  · have hki : I64 k := by have := h.lk; unfold I64; omega
    rw [if_neg h0] at hc
    have hl := h.hd.look k hki
    have c2 := h.c2
    by_cases hs : m.h k = some who
    · have he : giveE m.locks m.h k who = 0 := by unfold giveE; rw [if_neg h0, if_pos hs]
      rw [hs] at hl
      obtain ⟨w1, e1, e2, e3⟩ := h.hd.del k hki
      have hfin : ∀ e, e = Ending.returned (.int .i64 0) → PostT m w (giveE m.locks m.h k who) (giveH m k who) e w1 := fun e hee => by
        rw [he]
        unfold giveH
        rw [if_pos he]
        exact PostT.turned h (Nat.le_succ _) e2 e3 hee
      replace hfin := Lib.hid hfin
      replace hc := Lib.hid hc
      simp only [Option.getD_some, Option.isSome_some] at hl
      clear h h0 he hs e2 e3
      go_enter Try.func25, Try.ntmps25
      go_wp2_with (go_at_call 33; refine hc.out.mono ?_; rintro e w' ⟨rfl, rfl⟩)
      go_ret
      exact hfin.out _ rfl
    · have he : giveE m.locks m.h k who = 69 := by unfold giveE; rw [if_neg h0, if_neg hs]
      have hfin : ∀ e, e = Ending.returned (.int .i64 69) → PostT m w (giveE m.locks m.h k who) (giveH m k who) e w := fun e hee => PostT.same h (by unfold giveH; rw [he]; rfl) (by rw [he]; exact hee)
      replace hfin := Lib.hid hfin
      replace hc := Lib.hid hc
      cases hm : m.h k with
      | none =>
        rw [hm] at hl
        simp only [Option.getD_none, Option.isSome_none] at hl
        clear h h0 he hs hm
        go_enter Try.func25, Try.ntmps25
        go_wp2_with (go_at_call 33; refine hc.out.mono ?_; rintro e w' ⟨rfl, rfl⟩)
        go_ret
        exact hfin.out _ rfl
      | some u =>
        rw [hm] at hl hs
        simp only [Option.getD_some, Option.isSome_some] at hl
        have hu : ¬ u = who := fun e => hs (by rw [e])
        clear h h0 he hs hm
        go_enter Try.func25, Try.ntmps25
        go_wp2_with (go_at_call 33; refine hc.out.mono ?_; rintro e w' ⟨rfl, rfl⟩)
        go_ret
        exact hfin.out _ rfl
def holds (o : Option Int) : Ending := .returned (.tuple #[.int .i64 (o.getD 0), .bool o.isSome])
theorem Holder_c {w : World} {m : Mm} (h : m.In w) (k : Int) (hk : I64 k) : Calls Try.prog 16 #[.pointer (some ⟨m.mb, 0, none⟩), .int .i64 k] w fun e w' => e = holds (m.h k) ∧ w' = w := by
  have hl := h.hd.look k hk
  have c2 := h.c2
  generalize m.h k = o at hl
  clear h
  go_enter Try.func16, Try.ntmps16
  go_wp2_with fail
  go_ret2
  exact ⟨rfl, rfl⟩
end Go.Proofs.Ytnoilcchegmpfaa.Me
