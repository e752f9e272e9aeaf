/- Walk of DomAbove. Conditions: the graph lies in memory. -/
import Derived.Test.YtiaecobjbckhoaaDoD
set_option linter.unusedVariables false
set_option linter.unusedSimpArgs false
namespace Go.Proofs.Ytiaecobjbckhoaa.Db
open Go Go.RowKit
open Go.WideShapes Go.MapKept

set_option maxHeartbeats 8000000 in
set_option maxRecDepth 100000 in
theorem domAbove_law (T : List Tl) (ta : Option Addr) (tcap : Nat) (x y z : Int) (w : World) (hg : ToM w.heap.size ta tcap T w) :
    Calls Try.prog 8 #[.slice ta T.length tcap, .int .i64 x, .int .i64 y, .int .i64 z] w fun e w' => e = .returned (.bool true) ∧ Below w.heap.size w w' := by
  have hlc := Lib.hid (long_c T.length tcap ta w rfl hg)
  have haw := Lib.hid (fun V => awake_c V)
  rcases hl : longP T with _ | _
  · rw [hl] at hlc
    have hof := Lib.hid (fun V (hb : Below w.heap.size w V) => of_law (T := T) T.length tcap ta V rfl ⟨(hg.keep hb).row.mono fun _ h => Nat.lt_of_lt_of_le h hb.size, fun x hx => ((hg.keep hb).rows x hx).mono fun _ h => Nat.lt_of_lt_of_le h hb.size⟩ hl)
    obtain ⟨hc1, hc2⟩ := len_i hg.row
    clear hg hl
    go_enter Try.func8, Try.ntmps8
    go_wp2_with fail
    refine hlc.out.mono ?_
    rintro e w1 ⟨rfl, hw1⟩
    have hw2 := hw1.symm
    subst hw2
    clear hlc hw1
    go_wp2_with fail
    refine (haw.out _).mono ?_
    rintro e w2 ⟨rfl, hb2⟩
    have hof2 := Lib.hid (hof.out w2 hb2)
    replace hb2 := Lib.hid hb2
    clear hof
    go_wp2_with fail
    refine hof2.out.mono ?_
    rintro e w3 ⟨hb3, ⟨hm, rfl⟩ | ⟨hm, H, tb, rfl, htb, hA⟩⟩
    · replace hm := Lib.hid hm
      have hb4 := Lib.hid (hb2.out.trans (hb3.mono hb2.out.size))
      clear hb3 hb2 hof2
      go_wp2_with fail
      go_ret
      exact ⟨rfl, hb4.out⟩
    · have hb4 := Lib.hid (hb2.out.trans (hb3.mono hb2.out.size))
      have hA := Lib.hid hA
      have e1 := H.self x
      have e2 := H.zero x
      have f1 := Lib.hid (fun h => ab_re (t := tre T.length T) (x := x) (y := y) h)
      have f2 := Lib.hid (fun h h' => H.anti (x := x) (y := y) h h')
      have f3 := Lib.hid (fun h h' => H.tra (x := x) (y := y) (z := z) h h')
      have f4 := Lib.hid (fun h h' => H.lin (x := x) (y := y) (z := z) h h')
      have hbe : Hid (Below w3.heap.size w3 w3) := Lib.hid (Below.refl _ _)
      generalize tre T.length T = t at *
      replace hm := Lib.hid hm
      replace H := Lib.hid H
      clear hb3 hb2 hof2 haw htb hm H hc1 hc2
      have hend : Hid (∀ V, Below w3.heap.size w3 V → Below w.heap.size w V) := Lib.hid fun V h => hb4.out.trans (h.mono hb4.out.size)
      clear hb4
      have f5 := Lib.hid (fun h => ab_re (t := t) (x := x) (y := z) h)
      by_cases hxy2 : x = y
      · subst hxy2
        clear f1 f2 f3 f4
        rcases hr : t.reach x with _ | _
        · rw [hr] at e1 e2
          rcases hxz : t.above x z with _ | _
          · clear f5
            go_wp2_with fail
            repeat (first
              | (with_reducible refine (hA.out.re _ _ (by assumption)).mono ?_); rintro _ _ ⟨rfl, rfl⟩; go_wp2_with fail
              | (with_reducible refine (hA.out.ab _ _ _ (by assumption)).mono ?_); rintro _ _ ⟨rfl, _, _⟩; go_wp2_with fail)
            go_ret
            exact ⟨rfl, hend.out _ (Hid.out (by assumption))⟩
          · have h := (f5.out hxz).1
            rw [hr] at h; cases h
        · rw [hr] at e1 e2
          rcases hxz : t.above x z with _ | _
          · clear f5
            go_wp2_with fail
            repeat (first
              | (with_reducible refine (hA.out.re _ _ (by assumption)).mono ?_); rintro _ _ ⟨rfl, rfl⟩; go_wp2_with fail
              | (with_reducible refine (hA.out.ab _ _ _ (by assumption)).mono ?_); rintro _ _ ⟨rfl, _, _⟩; go_wp2_with fail)
            go_ret
            exact ⟨rfl, hend.out _ (Hid.out (by assumption))⟩
          · clear f5
            go_wp2_with fail
            repeat (first
              | (with_reducible refine (hA.out.re _ _ (by assumption)).mono ?_); rintro _ _ ⟨rfl, rfl⟩; go_wp2_with fail
              | (with_reducible refine (hA.out.ab _ _ _ (by assumption)).mono ?_); rintro _ _ ⟨rfl, _, _⟩; go_wp2_with fail)
            go_ret
            exact ⟨rfl, hend.out _ (Hid.out (by assumption))⟩
      · clear f5
        have hne : (x != y) = true := ne_n hxy2
        rcases hxy : t.above x y with _ | _
        · clear f1 f2 f3 hxy2
          rcases hyz : t.above y z with _ | _
          · rcases hxz : t.above x z with _ | _
            · clear f4
              go_wp2_with fail
              repeat (first
                | (with_reducible refine (hA.out.re _ _ (by assumption)).mono ?_); rintro _ _ ⟨rfl, rfl⟩; go_wp2_with fail
                | (with_reducible refine (hA.out.ab _ _ _ (by assumption)).mono ?_); rintro _ _ ⟨rfl, _, _⟩; go_wp2_with fail)
              go_ret
              exact ⟨rfl, hend.out _ (Hid.out (by assumption))⟩
            · clear f4
              go_wp2_with fail
              repeat (first
                | (with_reducible refine (hA.out.re _ _ (by assumption)).mono ?_); rintro _ _ ⟨rfl, rfl⟩; go_wp2_with fail
                | (with_reducible refine (hA.out.ab _ _ _ (by assumption)).mono ?_); rintro _ _ ⟨rfl, _, _⟩; go_wp2_with fail)
              go_ret
              exact ⟨rfl, hend.out _ (Hid.out (by assumption))⟩
          · rcases hxz : t.above x z with _ | _
            · clear f4
              go_wp2_with fail
              repeat (first
                | (with_reducible refine (hA.out.re _ _ (by assumption)).mono ?_); rintro _ _ ⟨rfl, rfl⟩; go_wp2_with fail
                | (with_reducible refine (hA.out.ab _ _ _ (by assumption)).mono ?_); rintro _ _ ⟨rfl, _, _⟩; go_wp2_with fail)
              go_ret
              exact ⟨rfl, hend.out _ (Hid.out (by assumption))⟩
            · have hyx : t.above y x = true := by
                rcases f4.out hxz hyz with h | h
                · rw [hxy] at h; cases h
                · exact h
              clear f4
              go_wp2_with fail
              repeat (first
                | (with_reducible refine (hA.out.re _ _ (by assumption)).mono ?_); rintro _ _ ⟨rfl, rfl⟩; go_wp2_with fail
                | (with_reducible refine (hA.out.ab _ _ _ (by assumption)).mono ?_); rintro _ _ ⟨rfl, _, _⟩; go_wp2_with fail)
              go_ret
              exact ⟨rfl, hend.out _ (Hid.out (by assumption))⟩
        · obtain ⟨r1, r2⟩ := f1.out hxy
          have hyx : t.above y x = false := by
            rcases h : t.above y x with _ | _
            · rfl
            · exact absurd (f2.out hxy h) hxy2
          clear f1 f2 f4 hxy2
          rcases hyz : t.above y z with _ | _
          · clear f3
            rcases hxz : t.above x z with _ | _
            · go_wp2_with fail
              repeat (first
                | (with_reducible refine (hA.out.re _ _ (by assumption)).mono ?_); rintro _ _ ⟨rfl, rfl⟩; go_wp2_with fail
                | (with_reducible refine (hA.out.ab _ _ _ (by assumption)).mono ?_); rintro _ _ ⟨rfl, _, _⟩; go_wp2_with fail)
              go_ret
              exact ⟨rfl, hend.out _ (Hid.out (by assumption))⟩
            · go_wp2_with fail
              repeat (first
                | (with_reducible refine (hA.out.re _ _ (by assumption)).mono ?_); rintro _ _ ⟨rfl, rfl⟩; go_wp2_with fail
                | (with_reducible refine (hA.out.ab _ _ _ (by assumption)).mono ?_); rintro _ _ ⟨rfl, _, _⟩; go_wp2_with fail)
              go_ret
              exact ⟨rfl, hend.out _ (Hid.out (by assumption))⟩
          · have hxz : t.above x z = true := f3.out hxy hyz
            clear f3
            go_wp2_with fail
            repeat (first
              | (with_reducible refine (hA.out.re _ _ (by assumption)).mono ?_); rintro _ _ ⟨rfl, rfl⟩; go_wp2_with fail
              | (with_reducible refine (hA.out.ab _ _ _ (by assumption)).mono ?_); rintro _ _ ⟨rfl, _, _⟩; go_wp2_with fail)
            go_ret
            exact ⟨rfl, hend.out _ (Hid.out (by assumption))⟩
  · rw [hl] at hlc
    clear hl hg
    go_enter Try.func8, Try.ntmps8
    go_wp2_with fail
    refine hlc.out.mono ?_
    rintro e w1 ⟨rfl, hw1⟩
    have hw2 := hw1.symm
    subst hw2
    clear hlc hw1
    go_wp2_with fail
    refine (haw.out _).mono ?_
    rintro e w2 ⟨rfl, hb2⟩
    replace hb2 := Lib.hid hb2
    go_wp2_with fail
    go_ret
    exact ⟨rfl, hb2.out⟩
end Go.Proofs.Ytiaecobjbckhoaa.Db
