/- A callee more: what contains and append say of a row of numbers. Conditions: none. -/
import Derived.Test.YtpcdlneompnhlaaGreatDoorTyL
import Derived.Test.YtpcdlneompnhlaaGreatDoorShelf
import Derived.Test.YtpcdlneompnhlaaGreatDoorGrAF
namespace Go.Proofs.YtpcdlneompnhlaaGreatDoor.Ty
open Go Go.RowKit
open Go.Proofs.YtpcdlneompnhlaaGreatDoor.Lx Go.Proofs.YtpcdlneompnhlaaGreatDoor.Tr

theorem nodup_len : ∀ (n : Nat) (l : List Nat), l.Nodup → (∀ x ∈ l, x < n) → l.length ≤ n
  | 0, l, _, h => by
    cases l with
    | nil => simp
    | cons x r => exact absurd (h x (by simp)) (by omega)
  | n + 1, l, hn, h => by
    have h1 := nodup_len n (l.filter (fun x => decide (x ≠ n))) (hn.filter _) (fun x hx => by
      have := List.mem_filter.1 hx
      have h2 := h x this.1
      have h3 : x ≠ n := of_decide_eq_true this.2
      omega)
    have h2 : l.count n ≤ 1 := List.nodup_iff_count.1 hn n
    have h3 : l.length = (l.filter (fun x => decide (x ≠ n))).length + l.count n := by
      rw [← List.countP_eq_length_filter, List.count, List.length_eq_countP_add_countP (fun x => decide (x ≠ n)) (l := l)]
      congr 1
      refine List.countP_congr fun x _ => ?_
      by_cases hx : x = n <;> simp [hx]
    omega
/-- slices.Contains, of a row of numbers -/
theorem contains_c {w : World} {B : Nat} {r : CRow} (h : w.ownsRow B 3 1 r.val r.l.length (r.l.map fun n : Nat => Value.int .i64 (n : Int))) (hlen : r.l.length ≤ 9223372036854775807) (i : Nat) :
    Calls Tryz.prog 166 #[r.val, .int .i64 (i : Int)] w fun e w' => e = .returned (.bool (decide (i ∈ r.l))) ∧ w' = w := by
  obtain ⟨v, l⟩ := r
  rcases h.2 with ⟨hv, h0⟩ | ⟨g, cap, cur, hv, _, hg, hle, _, hcs, htk⟩
  · simp only at hv h0 ⊢
    have : l = [] := List.length_eq_zero_iff.1 h0
    subst this
    subst hv
    refine (Tryz.slices_Contains_int_empty none 0 (i : Int) w).mono ?_
    rintro e w' ⟨rfl, rfl⟩
    exact ⟨by simp, rfl⟩
  · simp only at hv hle htk hlen ⊢
    subst hv
    rw [Nat.mul_one] at hcs htk
    refine (Tryz.slices_Contains_int g 0 l.length cap (l.map fun n : Nat => (n : Int)) (i : Int) w (by simp) hlen (fun j hj => ?_)).mono ?_
    · have hjl : j < l.length := by simpa using hj
      have h1 : cur[j]? = some (.int .i64 ((l[j] : Nat) : Int)) := by
        have := congrArg (·[j]?) htk
        simp only [List.getElem?_take, hjl, if_true, List.getElem?_map, List.getElem?_eq_getElem hjl, Option.map_some] at this
        rw [Array.getElem?_toList] at this
        exact this
      rw [Nat.zero_add]
      have h2 := blk_cell hg h1
      rw [h2]
      congr 2
      rw [List.getD_eq_getElem?_getD, List.getElem?_map, List.getElem?_eq_getElem hjl]
      rfl
    · rintro e w' ⟨rfl, rfl⟩
      refine ⟨?_, rfl⟩
      have hl : (List.map (fun n : Nat => (n : Int)) l).take l.length = List.map (fun n : Nat => (n : Int)) l := by
        rw [List.take_of_length_le (by simp)]
      rw [hl]
      congr 2
      rw [Bool.eq_iff_iff, List.contains_iff_mem, decide_eq_true_eq, List.mem_map]
      constructor
      · rintro ⟨n, hn, he⟩
        have : n = i := by omega
        rw [← this]; exact hn
      · exact fun hi => ⟨i, hi, rfl⟩
theorem info_int : (Tryz.prog.info? 3).map (fun i => (i.zero, i.size, i.bytes)) = some (some (.int .i64 0), 1, 8) := by kernel_rfl
/-- a number appended to a row of the looker's -/
theorem append_run {w : World} {B : Nat} {r : CRow} (h : w.ownsRow B 3 1 r.val r.l.length (r.l.map fun n : Nat => Value.int .i64 (n : Int))) (hlen : r.l.length ≤ 256) (hB : B ≤ w.heap.size) (i : Nat) (g : Nat) (fr : Nat × Nat) (hg : w.heap[g]? = some (.cells #[.int .i64 (i : Int)] 3 fr)) (ty : TypeId) :
    ∃ v' w', (Builtin.append_ #[180, 180] ty #[r.val, .slice (some ⟨g, 0, none⟩) 1 1]).run Tryz.prog w = .ok v' w' ∧ w'.ownsRow B 3 1 v' (r.l ++ [i]).length ((r.l ++ [i]).map fun n : Nat => Value.int .i64 (n : Int)) ∧ w.grownBy w' r.val.ownBlock ∧ (v'.ownBlock = r.val.ownBlock ∨ v'.ownBlock = some w.heap.size) := by
  obtain ⟨i0, hi0, hz0, hz1, hz2⟩ := info_parts info_int
  obtain ⟨v', w', h1, h2, h3, _, h5⟩ := run_append_own_at (P := Tryz.prog) w B 180 ty 3 i0 _ 1 8 Tryz.underlying180 hi0 hz0 hz1 hz2 rfl (by decide) r.val r.l.length _ h ⟨g, 0, none⟩ 1 1 [.int .i64 (i : Int)] rfl (fun j u hj => by
    have hj0 : j = 0 := by
      have := (List.getElem?_eq_some_iff.1 hj).1
      simp at this
      omega
    subst hj0
    have : (⟨g, 0, none⟩ : Addr).add 0 = ⟨g, 0, none⟩ := rfl
    rw [this]
    simp at hj
    subst hj
    exact blk_cell hg rfl) (by intro u hu; simp at hu; subst hu; rfl) (by unfold maxLen; omega) (by omega) hB
  refine ⟨v', w', h1, ?_, h3, h5⟩
  rw [List.length_append, List.map_append]
  exact h2
end Go.Proofs.YtpcdlneompnhlaaGreatDoor.Ty
