/- Walks of threads, of names. Conditions: the declarations lie in memory. -/
import Derived.Test.YtpcdlneompnhlaaGreatDoorTyE
import Derived.Test.YtpcdlneompnhlaaGreatDoorTyP1
namespace Go.Proofs.YtpcdlneompnhlaaGreatDoor.Ty
open Go Go.RowKit
open Go.Proofs.YtpcdlneompnhlaaGreatDoor.Lx Go.Proofs.YtpcdlneompnhlaaGreatDoor.Tr

theorem de_at {w : World} {S : Nat → Prop} {a : Option Addr} {cap : Nat} {ds : List De} (h : RowAt w S a cap ds.length (deCells ds)) {i : Nat} {d : De} (hd : ds[i]? = some d) : ∃ b off, a = some ⟨b, off, none⟩ ∧ S b ∧ w.cell? ⟨b, off + i * 6, none⟩ = some (.int .u8 d.kind) ∧ w.cell? ⟨b, off + i * 6 + 1, none⟩ = some (.string d.name) ∧ w.cell? ⟨b, off + i * 6 + 2, none⟩ = some (.int .i64 d.n) ∧ w.cell? ⟨b, off + i * 6 + 3, none⟩ = some (.slice d.pa d.params.length d.pcap) ∧ w.cell? ⟨b, off + i * 6 + 4, none⟩ = some (.slice d.ba d.body.length d.bcap) ∧ w.cell? ⟨b, off + i * 6 + 5, none⟩ = some (.int .i64 d.pos) := by
  obtain ⟨b, off, ha, hb, hc⟩ := de_row h i d hd
  refine ⟨b, off, ha, hb, ?_, ?_, ?_, ?_, ?_, ?_⟩
  · have := hc 0 _ rfl; rwa [Nat.add_zero] at this
  · have := hc 1 _ rfl; rwa [← Nat.add_assoc] at this
  · have := hc 2 _ rfl; rwa [← Nat.add_assoc] at this
  · have := hc 3 _ rfl; rwa [← Nat.add_assoc] at this
  · have := hc 4 _ rfl; rwa [← Nat.add_assoc] at this
  · have := hc 5 _ rfl; rwa [← Nat.add_assoc] at this
theorem threadsK_succ {ds : List De} {k : Nat} {d : De} (hd : ds[k]? = some d) : threadsK (ds.take (k + 1)) = threadsK (ds.take k) + if d.kind = 5 then 1 else 0 := by
  unfold threadsK
  rw [List.take_add_one, hd, List.countP_append]
  simp only [Option.toList_some, List.countP_cons, List.countP_nil, decide_eq_true_eq]
  omega
theorem threadsK_le (ds : List De) : threadsK ds ≤ ds.length := List.countP_le_length
set_option maxHeartbeats 2000000 in
set_option maxRecDepth 100000 in
theorem threads_c {w : World} {S : Nat → Prop} {a : Option Addr} {cap : Nat} {ds : List De} (hrow : RowAt w S a cap ds.length (deCells ds)) :
    Calls Tryz.prog 43 #[.slice a ds.length cap] w fun e w' => e = .returned (.int .i64 (threadsK ds : Nat)) ∧ Below w.heap.size w w' := by
  have hll : ds.length ≤ 9223372036854775807 := by have := hrow.le; have := hrow.lim; unfold maxLen at this; omega
  have hend : Hid (threadsK (ds.take ds.length) = threadsK ds) := Lib.hid (by rw [List.take_length])
  have hz : Hid (threadsK (ds.take 0) = 0) := Lib.hid rfl
  replace hrow := Lib.hid hrow
  go_enter Tryz.func43, Tryz.ntmps43
  go_wp2_with fail
  go_loopw [3, 8] (fun v i wr => ∃ k c : Nat, k ≤ ds.length ∧ i = .int .i64 k ∧ v = .int .i64 c ∧ Hid (threadsK (ds.take k) = c) ∧ Hid (Below w.heap.size w wr)) (fun _ i _ => ds.length - (intOf i).toNat)
  case atStart => exact ⟨0, 0, Nat.zero_le _, rfl, rfl, hz, Lib.hid (Below.refl _ _)⟩
  case round =>
    obtain ⟨k, c, hk, rfl, rfl, hc, hb⟩ := hrel
    by_cases hlt : k < ds.length
    · obtain ⟨d, hd⟩ : ∃ d, ds[k]? = some d := ⟨_, List.getElem?_eq_getElem hlt⟩
      obtain ⟨b, off, ha, _, d0, d1, d2, d3, d4, d5⟩ := de_at (hrow.out.below (Kps.of_below hb.out)) hd
      subst ha
      have hs := threadsK_succ hd
      rw [hc.out] at hs
      have hcl : c ≤ 9223372036854775806 := by
        have h1 := threadsK_le (ds.take k)
        rw [hc.out, List.length_take] at h1
        omega
      have hi0 : (0 : Int) ≤ (k : Int) := by omega
      have hi1 : (k : Int) < (ds.length : Int) := by omega
      clear hd
      obtain ⟨dk, e1, e2, pa, pcap, ps, ba, bcap, body, e5⟩ := d
      simp only at d0 d1 d2 d3 d4 d5 hs
      generalize ps.length = pl at *
      generalize body.length = bl at *
      replace hs := Lib.hid hs
      have hbx := Lib.hid (fun o => hb.out.trans (((Below.refl _ _).alloc (Nat.le_refl _) o : Below wr.heap.size wr (wr.alloc o)).mono hb.out.size))
      by_cases h5 : dk = 5
      · have hn : Hid (threadsK (ds.take (k + 1)) = c + 1) := Lib.hid (by rw [hs.out, if_pos h5])
        have hnx : ((c + 1 : Nat) : Int) = (c : Int) + 1 := by omega
        subst h5
        clear hs hc
        go_wp2_with fail
        go_roundw
        case rel => exact ⟨k + 1, c + 1, by omega, by go_num, by go_num, hn, Lib.hid (hbx.out _)⟩
        case measure => simp [intOf]; omega
      · have hn : Hid (threadsK (ds.take (k + 1)) = c) := Lib.hid (by rw [hs.out, if_neg h5]; rfl)
        have hq5 : (dk == 5) = false := by simpa using h5
        clear hs hc h5
        go_wp2_with fail
        go_roundw
        case rel => exact ⟨k + 1, c, by omega, by go_num, rfl, hn, Lib.hid (hbx.out _)⟩
        case measure => simp [intOf]; omega
    · have hge : ¬ ((k : Int) < (ds.length : Int)) := by omega
      have hr : Hid (threadsK ds = c) := Lib.hid (by
        have hkl : k = ds.length := by omega
        rw [← hend.out, ← hkl]
        exact hc.out)
      clear hc hlt
      go_wp2_with fail
      go_ret
      exact ⟨by rw [hr.out]; rfl, hb.out⟩
end Go.Proofs.YtpcdlneompnhlaaGreatDoor.Ty
