/- Walks of slices.Repeat, of one number, and of none. Conditions: at least one, at most 100000 times. -/
import Derived.Test.YtiaecobjbckhoaaDbB
import Derived.Test.YtiaecobjbckhoaaShelf
set_option linter.unusedVariables false
set_option linter.unusedSimpArgs false
namespace Go.Proofs.Ytiaecobjbckhoaa.Db
open Go Go.RowKit
open Go.WideShapes Go.MapKept

theorem make_rep (n : Nat) (hn : n ≤ 100000) (V : World) : (Instr.makeSlice 33 (.int .i64 (n : Int)) (.int .i64 (n : Int))).run Try.prog V = .ok (.slice (some ⟨V.heap.size, 0, none⟩) n n) (V.alloc (.cells (List.replicate n (Value.int .i64 0)).toArray 3)) := by
  obtain ⟨i0, hi0, hz0, hz1, hz2⟩ := info_parts info_in
  have h := run_makeSlice (P := Try.prog) V 33 3 i0 _ Try.underlying33 hi0 hz0 .i64 .i64 (n : Int) (n : Int) (by omega) (Int.le_refl _) (by rw [hz1]; omega) (by rw [hz2]; omega) (by omega)
  rw [hz1, Int.toNat_natCast, Nat.mul_one, made_one _ rfl] at h
  exact h
/-- a row of which the first c are v, of n -/
def half (v : Int) (c n : Nat) : List Value := List.replicate c (Value.int .i64 v) ++ List.replicate (n - c) (Value.int .i64 0)
theorem half_len (v : Int) {c n : Nat} (h : c ≤ n) : (half v c n).length = n := by simp [half]; omega
theorem half_splice (v : Int) {c d n : Nat} (h : c + d ≤ n) : splice (half v c n) c (List.replicate d (Value.int .i64 v)) = half v (c + d) n := by
  unfold splice half
  rw [List.take_append_of_le_length (by simp), List.take_of_length_le (by simp), List.length_replicate, List.drop_append, List.length_replicate, List.drop_of_length_le (by simp), List.nil_append, List.drop_replicate, ← List.append_assoc, List.replicate_append_replicate]
  congr 2
  omega
theorem half_at (v : Int) {c n j : Nat} (hj : j < c) : (half v c n)[j]? = some (Value.int .i64 v) := by
  unfold half
  rw [List.getElem?_append_left (by simpa using hj), List.getElem?_replicate, if_pos hj]
theorem copy_ex {W : World} {g off dLen dCap sLen sCap : Nat} {ad : Addr} {cur cs : List Value} (hg : W.heap[g]? = some (.cells cur.toArray 3 (0, 0))) (hn : cs.length = Nat.min sLen dLen)
    (hsrc : ∀ j u, cs[j]? = some u → W.cell? (ad.add j) = some u) (hfit : off + cs.length ≤ cur.length) (h1 : ∀ u ∈ cs, u.oneCell' = true) :
    ∃ w', (∀ ty, (Builtin.copy_ #[33, 33] ty #[.slice (some ⟨g, off, none⟩) dLen dCap, .slice (some ad) sLen sCap]).run Try.prog W = .ok (.int .i64 cs.length) w') ∧ w'.heap[g]? = some (.cells (splice cur off cs).toArray 3 (0, 0)) ∧ (∀ B, B ≤ g → Below B W w') ∧ w'.heap.size = W.heap.size := by
  have hinfo : (Try.prog.info? 3).map (·.size) = some 1 := by kernel_rfl
  refine ⟨_, fun ty => run_copy_row (P := Try.prog) W 33 33 ty 3 g off dLen dCap ad sLen sCap cur.toArray 3 cs Try.underlying33 hinfo hg hn hsrc (by simpa using hfit) h1, ?_, fun B hB => below_setRow (Below.refl _ _) hB _, by simp [World.setRow]⟩
  have := setRow_heap W g cur.toArray (cur.take off ++ (cs ++ cur.drop (off + cs.length))).toArray 3 (0, 0) hg
  simpa [splice] using this

set_option maxHeartbeats 4000000 in
set_option maxRecDepth 100000 in
theorem repeat_c (b o cp : Nat) (v : Int) (n : Nat) (hn1 : 1 ≤ n) (hn2 : n ≤ 100000) (w : World) (hc : w.cell? ⟨b, o, none⟩ = some (.int .i64 v)) :
    Calls Try.prog 41 #[.slice (some ⟨b, o, none⟩) 1 cp, .int .i64 n] w fun e w' => e = .returned (.slice (some ⟨w.heap.size, 0, none⟩) n n) ∧ w'.heap[w.heap.size]? = some (.cells (List.replicate n (Value.int .i64 v)).toArray 3 (0, 0)) ∧ Below w.heap.size w w' ∧ w'.heap.size = w.heap.size + 1 := by
  have hmul := Lib.hid (fun V : World => Try.bits_Mul 1 n (by omega) (by omega) V)
  rw [Nat.one_mul, Nat.div_eq_of_lt (by omega), Nat.mod_eq_of_lt (by omega)] at hmul
  have hmk := fun V => make_rep n hn2 V
  have hinfo : (Try.prog.info? 3).map (·.size) = some 1 := by kernel_rfl
  have hb1 : Below w.heap.size w (w.alloc (.cells (List.replicate n (Value.int .i64 0)).toArray 3)) := b_alloc _ _
  have hh1 : (w.alloc (.cells (List.replicate n (Value.int .i64 0)).toArray 3)).heap[w.heap.size]? = some (.cells (half v 0 n).toArray 3 (0, 0)) := (MapKept.heap_alloc w _).1
  have hn0 : ¬ (n : Int) < 0 := by omega
  have hnm : ¬ 9223372036854775807 < (n : Int) := by omega
  have hsrc : ∀ (j : Nat) (u : Value), [Value.int .i64 v][j]? = some u → (w.alloc (.cells (List.replicate n (Value.int .i64 0)).toArray 3)).cell? ((⟨b, o, none⟩ : Addr).add j) = some u := fun j u hj => by
    cases j with
    | zero =>
      simp at hj
      subst hj
      rw [show (⟨b, o, none⟩ : Addr).add 0 = ⟨b, o, none⟩ from rfl]
      exact (hb1.cell (World.block_lt_of_cell? _ _ hc)).trans hc
    | succ j => simp at hj
  have hs1 : splice (half v 0 n) 0 [Value.int .i64 v] = half v 1 n := half_splice v (c := 0) (d := 1) (by omega)
  obtain ⟨w2, hcp, hg2, hb2, hz2⟩ := copy_ex (dLen := n) (dCap := n) (sLen := 1) (sCap := cp) (off := 0) hh1 (by rw [List.length_singleton]; exact (Nat.min_eq_left hn1).symm) hsrc (by rw [half_len v (by omega), List.length_singleton]; omega) (by intro u hu; rw [List.mem_singleton.1 hu]; rfl)
  rw [hs1] at hg2
  replace hg2 := Lib.hid hg2
  replace hb2 := Lib.hid (hb1.trans (hb2 w.heap.size (Nat.le_refl _)))
  have hz3 : w2.heap.size = w.heap.size + 1 := by rw [hz2]; simp
  replace hz3 := Lib.hid hz3
  have hcp' := hcp 3
  rw [List.toArray_replicate, List.length_singleton] at hcp'
  clear hsrc hs1 hh1 hb1 hcp hz2
  go_enter Try.func41, Try.ntmps41
  go_wp2_with (go_at_call 44; refine (hmul.out _).mono ?_; rintro e w1 ⟨rfl, hw1⟩; subst w1)
  go_loopw [8] (fun i wr => ∃ c : Nat, 1 ≤ c ∧ c ≤ n ∧ i = .int .i64 c ∧ Hid (wr.heap[w.heap.size]? = some (.cells (half v c n).toArray 3 (0, 0))) ∧ Hid (Below w.heap.size w wr) ∧ Hid (wr.heap.size = w.heap.size + 1)) (fun i _ => n - (intOf i).toNat)
  case atStart => exact ⟨1, Nat.le_refl _, hn1, rfl, hg2, hb2, hz3⟩
  case round =>
    clear hcp' hg2 hb2 hz3 hmk hmul hc
    obtain ⟨c, hc1, hc2, rfl, hg, hb, hz⟩ := hrel
    by_cases hlt : c < n
    · obtain ⟨d, hd⟩ : ∃ d, d = min c (n - c) := ⟨_, rfl⟩
      have hd1 : 1 ≤ d := by omega
      have hd2 : c + d ≤ n := by omega
      have hd3 : d ≤ c := by omega
      have hsrc : ∀ (j : Nat) (u : Value), (List.replicate d (Value.int .i64 v))[j]? = some u → wr.drew.cell? ((⟨w.heap.size, 0, none⟩ : Addr).add j) = some u := fun j u hj => by
        rw [List.getElem?_replicate] at hj
        split at hj
        · rename_i hjd
          cases hj
          have := blk_cell (j := j) (u := Value.int .i64 v) hg.out (by simpa using half_at v (n := n) (Nat.lt_of_lt_of_le hjd hd3))
          rw [show (⟨w.heap.size, 0, none⟩ : Addr).add j = ⟨w.heap.size, j, none⟩ by simp [Addr.add]; exact fun h => h.symm]
          exact this
        · cases hj
      obtain ⟨w4, hcp, hg4, hb4, hz4⟩ := copy_ex (W := wr.drew) (g := w.heap.size) (off := c) (dLen := n - c) (dCap := n - c) (sLen := c) (sCap := n) (cur := half v c n) (cs := List.replicate d (Value.int .i64 v)) hg.out (by rw [List.length_replicate]; exact hd) hsrc (by rw [half_len v hc2, List.length_replicate]; exact hd2) (by intro u hu; rw [List.eq_of_mem_replicate hu]; rfl)
      rw [half_splice v hd2] at hg4
      replace hg4 := Lib.hid hg4
      have hb5 := Lib.hid (hb.out.drew.trans (hb4 w.heap.size (Nat.le_refl _)))
      have hz5 := Lib.hid (show w4.heap.size = w.heap.size + 1 from hz4.trans hz.out)
      have hcp' := hcp 3
      rw [List.length_replicate] at hcp'
      clear hsrc hcp hb4 hz4 hd
      have h0c : (0 : Int) ≤ (c : Int) := by omega
      have h0d : (c : Int) ≤ (n : Int) := by omega
      have hne : ¬ n = c := by omega
      have hl1 : (c : Int) < (n : Int) := by omega
      have hw : IntKind.i64.wrap ((c : Int) + (d : Int)) = (c : Int) + (d : Int) := by rw [IntKind.wrap_i64]; omega
      go_wp2_with fail
      go_region
      all_goals
        go_wp2_with fail
        go_roundw
        case rel => exact ⟨c + d, by omega, hd2, by go_num, hg4, hb5, hz5⟩
        case measure => simp [intOf]; omega
    · have hcn : c = n := by omega
      subst hcn
      have hfull : half v c c = List.replicate c (Value.int .i64 v) := by simp [half]
      rw [hfull] at hg
      go_wp2_with fail
      go_ret
      exact ⟨rfl, hg.out, hb.out, hz.out⟩
set_option maxHeartbeats 1000000 in
set_option maxRecDepth 100000 in
theorem none_c (n : Nat) (hn1 : 1 ≤ n) (hn2 : n ≤ 100000) (w : World) :
    Calls Try.prog 34 #[.int .i64 n] w fun e w' => ∃ g, e = .returned (.slice (some ⟨g, 0, none⟩) n n) ∧ w.heap.size ≤ g ∧ InR g n (fun _ => -1) w' ∧ Below w.heap.size w w' := by
  have hrep := Lib.hid (fun V hc => repeat_c w.heap.size 0 1 (-1) n hn1 hn2 V hc)
  have hal := Lib.hid (b_alloc w (.cells #[.int .i64 (-1)] 3))
  have hc0 : (w.alloc (.cells #[.int .i64 (-1)] 3)).cell? ⟨w.heap.size, 0, none⟩ = some (.int .i64 (-1)) := blk_cell (blk_new w _ rfl) rfl
  have hsz : (w.alloc (.cells #[.int .i64 (-1)] 3)).heap.size = w.heap.size + 1 := by simp
  have hcall := Lib.hid (hrep.out _ hc0)
  clear hrep hc0
  go_enter Try.func34, Try.ntmps34
  go_wp2_with fail
  refine hcall.out.mono ?_
  rintro e w3 ⟨rfl, hg3, hb3, hz3⟩
  have hin : Hid (InR (w.heap.size + 1) n (fun _ => -1) w3) := Lib.hid ⟨List.replicate n (.int .i64 (-1)), by simp, by rw [← hsz]; simpa using hg3, fun k hk => by rw [List.getElem?_replicate, if_pos hk]⟩
  have hbb := Lib.hid (hal.out.trans (hb3.mono (by rw [hsz]; omega)))
  rw [hsz]
  clear hg3 hb3 hz3 hcall
  go_wp2_with fail
  go_ret
  exact ⟨_, rfl, by omega, hin.out, hbb.out⟩
end Go.Proofs.Ytiaecobjbckhoaa.Db
