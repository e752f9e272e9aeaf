/- The law's step, whatever it is. Conditions: both memories lie in the world, alike, apart; the numbers fit their kinds. -/
import Derived.Test.YtnoilcchegmpfaaMgN
namespace Go.Proofs.Ytnoilcchegmpfaa.Me
open Go Go.RowKit

theorem PostB.new0 {m : Mm} {d : Dm} {w : World} {o : Obj} {w' : World} {C' : List (List Int)} {h' : Int → Option Int} (hp : Pair w m d) (h : PostB m d (w.alloc o) C' h' w') : PostB m d w C' h' w' := by
  obtain ⟨m', d', q1, q2, q3, q4, q5, q6, q7, q8, q9, q10, q11⟩ := h
  have e : (w.alloc o).heap.size = w.heap.size + 1 := by simp
  exact ⟨m', d', q1, q2, q3, q4, q5, q6, q7, q8, q9, fun b hb b1 b2 => (q10 b (by omega) b1 b2).trans (Below.heap_alloc w o b hb), fun B b1 b2 => ((Below.refl B w).alloc (by have := b1 _ (Or.inl rfl); have := cells_lt hp.i.blk; omega) o).trans (q11 B b1 b2)⟩
set_option maxHeartbeats 4000000 in
set_option maxRecDepth 100000 in
theorem do_get {w : World} {m : Mm} {d : Dm} (h : Pair w m d) (kind k i v : Int) (k0 : ¬ kind = 0) (k1 : ¬ kind = 1) (k2 : ¬ kind = 2) :
    Calls Try.prog 9 #[.agg #[.int .u8 kind, .int .i64 k, .int .i64 i, .int .i64 v], .pointer (some ⟨m.mb, 0, none⟩), .pointer (some ⟨d.mb, 0, none⟩)] w fun e w' => e = .returned (.bool true) ∧ PostB m d w m.C m.h w' := by
  have hbx := b_alloc w (.cells #[.int .u8 kind, .int .i64 k, .int .i64 i, .int .i64 v] 35)
  have hP := h.below hbx
  have hfin : Hid (PostB m d w m.C m.h (w.alloc (.cells #[.int .u8 kind, .int .i64 k, .int .i64 i, .int .i64 v] 35))) := Lib.hid (.new0 h (.same hP))
  have h1 := Lib.hid (hP.get_ k i)
  have h2 := Lib.hid (hP.get2 k i)
  unfold gets at h1 h2
  generalize (getP m.C k i).1 = x at *
  generalize (getP m.C k i).2 = y at *
  clear h hbx hP
  go_enter Try.func9, Try.ntmps9
  go_wp2_with (first
    | (go_at_call 17; (with_reducible refine h1.out.mono ?_); rintro e V3 ⟨rfl, rfl⟩)
    | (go_at_call 27; (with_reducible refine h2.out.mono ?_); rintro e V3 ⟨rfl, rfl⟩))
  go_ret
  exact ⟨rfl, hfin.out⟩
theorem do_c {w : World} {m : Mm} {d : Dm} (h : Pair w m d) (hn : m.n < 1000000) (s : Sp) (hs : s.In) :
    Calls Try.prog 9 #[.agg #[.int .u8 s.kind, .int .i64 s.at_, .int .i64 s.here, .int .i64 s.v], .pointer (some ⟨m.mb, 0, none⟩), .pointer (some ⟨d.mb, 0, none⟩)] w fun e w' => e = .returned (.bool true) ∧ PostB m d w (s.C m.C) (s.H m.locks m.h) w' := by
  unfold Sp.C Sp.H
  by_cases k0 : s.kind = 0
  · rw [if_pos k0, if_neg (by omega), if_neg (by omega), k0]
    exact do_set h hn s.at_ s.here s.v hs.here
  rw [if_neg k0]
  by_cases k1 : s.kind = 1
  · rw [if_pos k1, k1]
    exact do_take h hn s.at_ s.here s.v hs.here
  rw [if_neg k1]
  by_cases k2 : s.kind = 2
  · rw [if_pos k2, k2]
    exact do_give h hn s.at_ s.here s.v hs.here
  rw [if_neg k2]
  exact do_get h s.kind s.at_ s.here s.v k0 k1 k2
end Go.Proofs.Ytnoilcchegmpfaa.Me
