/- Walk of nexts: what is known by rank becomes known by block. Conditions: above answers as it should. -/
import Derived.Test.YtiaecobjbckhoaaDbH
import Derived.Test.YtiaecobjbckhoaaDbD
set_option linter.unusedVariables false
set_option linter.unusedSimpArgs false
namespace Go.Proofs.Ytiaecobjbckhoaa.Db
open Go Go.RowKit
open Go.WideShapes Go.MapKept Dm

/-- by block the next one above, of the first k ranks -/
def nextsP (met nx : Nat → Int) : Nat → (Nat → Int)
  | 0 => fun _ => -1
  | k + 1 => if 0 ≤ nx k then Dm.upd (nextsP met nx k) (met k).toNat (met (nx k).toNat) else nextsP met nx k
set_option maxHeartbeats 8000000 in
set_option maxRecDepth 100000 in
theorem nexts_c (wb gm gl m cm n : Nat) (met nx : Nat → Int) (W : World) (hn0 : 0 < n) (hn : n ≤ 32768) (hm : m ≤ 32768 ∧ m ≤ cm ∧ cm ≤ maxLen) (hmet : ∀ k, k < m → ∃ b : Nat, met k = b ∧ b < n) (hnx : ∀ k, k < m → nx k = -1 ∨ ∃ j : Nat, nx k = j ∧ j < m)
    (hc : W.cell? ⟨wb, 0, none⟩ = some (.slice (some ⟨gm, 0, none⟩) m cm)) (hM : InR gm m met W) (hne : wb ≠ gl ∧ gm ≠ gl) (hgl : gl < W.heap.size)
    (hup : ∀ V, Below W.heap.size W V → Calls Try.prog 38 #[.pointer (some ⟨wb, 0, none⟩)] V fun e w' => ∃ ga c, e = .returned (.slice (some ⟨ga, 0, none⟩) m c) ∧ m ≤ c ∧ c ≤ maxLen ∧ V.heap.size ≤ ga ∧ InR ga m nx w' ∧ Fr (fun i => i = gl) V w') :
    Calls Try.prog 27 #[.pointer (some ⟨wb, 0, none⟩), .int .i64 (n : Int)] W fun e W' => ∃ g, e = .returned (.slice (some ⟨g, 0, none⟩) n n) ∧ W.heap.size ≤ g ∧ InR g n (nextsP met nx m) W' ∧ Fr (fun i => i = gl) W W' := by
  obtain ⟨hm1, hm2, hm3⟩ := hm
  have hnone := none_c n hn0 (by omega) W
  replace hM := Lib.hid hM
  replace hc := Lib.hid hc
  replace hup := Lib.hid hup
  replace hgl := Lib.hid hgl
  replace hnone := Lib.hid hnone
  obtain ⟨hne1, hne2⟩ := hne
  go_enter Try.func27, Try.ntmps27
  go_wp2_with fail
  refine hnone.out.mono ?_
  rintro e W1 ⟨g, rfl, hg, hr, hb⟩
  have hcall := Lib.hid (hup.out W1 hb)
  have hrH := Lib.hid hr
  have hbH := Lib.hid hb
  have hz1 := Lib.hid hb.size
  have hr1 := Lib.hid hr.lt
  clear hup hnone hr hb
  go_wp2_with fail
  refine hcall.out.mono ?_
  rintro e W2 ⟨ga, c, rfl, hc1, hc2, hga, hra, hf⟩
  have hgl' := hgl.out
  have hr1' := hr1.out
  have hr2 := Lib.hid (hf.inr hrH.out (by omega))
  have hf2 := Lib.hid ((Fr.of_below (S := fun i => i = gl) hbH.out).trans hf)
  have hM2 := Lib.hid (hf2.out.inr hM.out hne2)
  have hcw := Lib.hid (hf2.out.cell hne1 hc.out)
  have hra := Lib.hid hra
  have hap : ga ≠ g ∧ gm ≠ g ∧ wb ≠ g := ⟨by omega, by have := hM.out.lt; omega, by have := World.block_lt_of_cell? _ _ hc.out; simp at this; omega⟩
  obtain ⟨hap1, hap2, hap3⟩ := hap
  replace hap1 := Lib.hid hap1
  clear hcall hf hgl' hr1' hM hc hrH hbH
  go_wp2_with fail
  go_loopw [13] (fun i wr => ∃ k : Nat, k ≤ m ∧ i = .int .i64 k ∧ Hid (InR g n (nextsP met nx k) wr) ∧ Hid (Fr (fun i => i = g) W2 wr)) (fun i _ => m - (intOf i).toNat)
  case atStart => exact ⟨0, Nat.zero_le _, rfl, hr2, Lib.hid (Fr.refl _ _)⟩
  case round =>
    clear hr2
    obtain ⟨k, hk, rfl, hR, hf⟩ := hrel
    by_cases hlt : k < m
    · obtain ⟨t1, _⟩ := (hf.out.inr hra.out hap1.out).get hlt
      have hk0 : (0 : Int) ≤ (k : Int) := by omega
      have hk1 : (k : Int) < (m : Int) := by omega
      rcases hnx k hlt with he | ⟨j, he, hj⟩
      · have hR' : Hid (InR g n (nextsP met nx (k + 1)) wr) := Lib.hid (by
          unfold nextsP
          rw [he, if_neg (by omega)]
          exact hR.out)
        rw [he] at t1
        clear he
        go_wp2_with fail
        go_roundw
        case rel => exact ⟨k + 1, by omega, by go_num, hR', hf⟩
        case measure => simp [intOf]; omega
      · obtain ⟨b, hb, hbn⟩ := hmet k hlt
        obtain ⟨b2, hb2, hbn2⟩ := hmet j hj
        have t2 := hf.out.cell hap3 hcw.out
        obtain ⟨t3, _⟩ := (hf.out.inr hM2.out hap2).get hlt
        obtain ⟨t4, _⟩ := (hf.out.inr hM2.out hap2).get hj
        obtain ⟨t5, f5⟩ := hR.out.get hbn
        rw [he] at t1
        rw [hb] at t3
        rw [hb2] at t4
        have hset := Lib.hid (hR.out.set hbn (b2 : Int) (nextsP met nx (k + 1)) (fun i _ => by
          show (if 0 ≤ nx k then Dm.upd (nextsP met nx k) (met k).toNat (met (nx k).toNat) else nextsP met nx k) i = _
          rw [he, if_pos (by omega), hb, Int.toNat_natCast, Int.toNat_natCast, hb2]
          rfl))
        have hfs := Lib.hid (hf.out.trans (Fr.set (S := fun i => i = g) wr (g := g) (o := b) (.int .i64 (b2 : Int)) rfl))
        have hj0 : (0 : Int) ≤ (j : Int) := by omega
        have hj1 : (j : Int) < (m : Int) := by omega
        have hb0 : (0 : Int) ≤ (b : Int) := by omega
        have hb1 : (b : Int) < (n : Int) := by omega
        generalize nextsP met nx k b = old at *
        clear he hb hb2 hR hf
        go_wp2_with fail
        go_region
        go_wp2_with fail
        generalize hw4 : wr.setCell ⟨g, b, none⟩ (.int .i64 (b2 : Int)) = w4 at *
        have hs4 := Lib.hid (hset.out.at_ (W' := w4.drew) rfl)
        have hf4 := Lib.hid (hfs.out.trans (⟨rfl, rfl, rfl, Nat.le_refl _, fun _ _ _ => rfl⟩ : Fr (fun i => i = g) w4 w4.drew))
        go_roundw
        case rel => exact ⟨k + 1, by omega, by go_num, hs4, hf4⟩
        case measure => simp [intOf]; omega
    · have hk2 : m = k := by omega
      subst hk2
      clear hlt
      go_wp2_with fail
      go_ret
      have hgl' := hgl.out
      have hz1' := hz1.out
      exact ⟨g, rfl, hg, hR.out, ⟨hf.out.os.trans hf2.out.os, hf.out.tape.trans hf2.out.tape, hf.out.output.trans hf2.out.output, Nat.le_trans hf2.out.size hf.out.size, fun i hi hn => (hf.out.block i (Nat.lt_of_lt_of_le hi hf2.out.size) (by omega)).trans (hf2.out.block i hi hn)⟩⟩
end Go.Proofs.Ytiaecobjbckhoaa.Db
