/- Walk of awake: the first example. Conditions: none. -/
import Derived.Test.YtiaecobjbckhoaaDoA
set_option linter.unusedVariables false
set_option linter.unusedSimpArgs false
namespace Go.Proofs.Ytiaecobjbckhoaa.Db
open Go Go.RowKit
open Go.WideShapes Go.MapKept

/-- the first example -/
def exT (a b c : Option Addr) (i j k : Nat) : List Tl := [⟨a, i, [1, 2]⟩, ⟨b, j, [3]⟩, ⟨c, k, [3]⟩, ⟨none, 0, []⟩]
section
variable (a b c : Option Addr) (i j k : Nat)
theorem ex_may : mayL 4 (exT a b c i j k) = true := by kernel_rfl
theorem ex_next : (tre 4 (exT a b c i j k)).nextP 3 = 0 := by kernel_rfl
theorem ex_kids : (tre 4 (exT a b c i j k)).kids 0 = [1, 2, 3] := by kernel_rfl
theorem ex_order : (tre 4 (exT a b c i j k)).order = [0, 1, 2, 3] := by kernel_rfl
theorem ex_03 : (tre 4 (exT a b c i j k)).above 0 3 = true := by kernel_rfl
theorem ex_13 : (tre 4 (exT a b c i j k)).above 1 3 = false := by kernel_rfl
theorem ex_K : ∀ x, (tos (exT a b c i j k) x).length ≤ 2 := fun x => by
  match x with
  | 0 => exact Nat.le_refl _
  | 1 => show 1 ≤ 2; omega
  | 2 => show 1 ≤ 2; omega
  | 3 => show 0 ≤ 2; omega
  | n + 4 => show 0 ≤ 2; omega
end
theorem row_blk {W : World} {S : Nat → Prop} {b : Nat} {vs : List Value} {T : TypeId} {fr : Nat × Nat} (n : Nat) (h : W.heap[b]? = some (.cells ⟨vs⟩ T fr)) (hn : n ≤ 100000) (hS : S b) : RowAt W S (some ⟨b, 0, none⟩) n n vs :=
  ⟨Nat.le_refl _, by unfold maxLen; omega, fun h => (by cases h), fun j u hu => ⟨b, 0, rfl, hS, by rw [Nat.zero_add]; simp only [World.cell?, h]; simpa using hu⟩⟩
theorem below_drawN (w : World) (k : Nat) : Below w.heap.size w (w.drewN k) := ⟨rfl, rfl, rfl, Nat.le_refl _, fun _ _ => rfl⟩
set_option maxHeartbeats 4000000 in
set_option maxRecDepth 100000 in
theorem awake_c (w : World) : Calls Try.prog 10 #[] w fun e w' => e = .returned (.bool true) ∧ Below w.heap.size w w' := by
  go_enter Try.func10, Try.ntmps10
  go_wp2_with fail
  obtain ⟨W1, hW1⟩ : ∃ W1, W1 = (((w.alloc (.cells #[.int .i64 1, .int .i64 2] 3)).alloc (.cells #[.int .i64 3] 3)).alloc (.cells #[.int .i64 3] 3)).alloc (.cells #[.slice (some ⟨w.heap.size, 0, none⟩) 2 2, .slice (some ⟨w.heap.size + 1, 0, none⟩) 1 1, .slice (some ⟨w.heap.size + 1 + 1, 0, none⟩) 1 1, .slice none 0 0] 33) := ⟨_, rfl⟩
  rw [← hW1]
  have hb1 : Below w.heap.size w W1 := by
    rw [hW1]
    exact ((((Below.refl _ _).alloc (Nat.le_refl _) _).alloc (by simp) _).alloc (by simp <;> omega) _).alloc (by simp <;> omega) _
  have hz : W1.heap.size = w.heap.size + 4 := by rw [hW1]; simp
  have g3 : W1.heap[w.heap.size + 1 + 1 + 1]? = some (.cells #[.slice (some ⟨w.heap.size, 0, none⟩) 2 2, .slice (some ⟨w.heap.size + 1, 0, none⟩) 1 1, .slice (some ⟨w.heap.size + 1 + 1, 0, none⟩) 1 1, .slice none 0 0] 33 (0, 0)) := by rw [hW1]; exact blk_new _ _ (by simp)
  have g2 : W1.heap[w.heap.size + 1 + 1]? = some (.cells #[.int .i64 3] 3 (0, 0)) := by rw [hW1]; exact (Below.heap_alloc _ _ _ (by simp)).trans (blk_new _ _ (by simp))
  have g1 : W1.heap[w.heap.size + 1]? = some (.cells #[.int .i64 3] 3 (0, 0)) := by rw [hW1]; exact (Below.heap_alloc _ _ _ (by simp <;> omega)).trans ((Below.heap_alloc _ _ _ (by simp)).trans (blk_new _ _ (by simp)))
  have g0 : W1.heap[w.heap.size]? = some (.cells #[.int .i64 1, .int .i64 2] 3 (0, 0)) := by rw [hW1]; exact (Below.heap_alloc _ _ _ (by simp <;> omega)).trans ((Below.heap_alloc _ _ _ (by simp <;> omega)).trans ((Below.heap_alloc _ _ _ (by simp)).trans (blk_new _ _ (by simp))))
  have hTo : ToM W1.heap.size (some ⟨w.heap.size + 1 + 1 + 1, 0, none⟩) 4 (exT (some ⟨w.heap.size, 0, none⟩) (some ⟨w.heap.size + 1, 0, none⟩) (some ⟨w.heap.size + 1 + 1, 0, none⟩) 2 1 1) W1 := by
    refine ⟨row_blk 4 g3 (by decide) (by omega), fun x hx => ?_⟩
    simp only [exT, List.mem_cons, List.not_mem_nil, or_false] at hx
    rcases hx with rfl | rfl | rfl | rfl
    · exact row_blk 2 g0 (by decide) (by omega)
    · exact row_blk 1 g1 (by decide) (by omega)
    · exact row_blk 1 g2 (by decide) (by omega)
    · exact row_none _ _
  have hcall := Lib.hid (of_yes 4 4 2 _ W1 rfl hTo (ex_may _ _ _ _ _ _) (ex_K _ _ _ _ _ _) (by omega))
  have hok := Lib.hid (mayL_gf (T := exT (some ⟨w.heap.size, 0, none⟩) (some ⟨w.heap.size + 1, 0, none⟩) (some ⟨w.heap.size + 1 + 1, 0, none⟩) 2 1 1) rfl (ex_may _ _ _ _ _ _)).1.hn
  replace hb1 := Lib.hid hb1
  replace hz := Lib.hid hz
  clear g0 g1 g2 g3 hTo hW1
  have x1 := ex_next (some ⟨w.heap.size, 0, none⟩) (some ⟨w.heap.size + 1, 0, none⟩) (some ⟨w.heap.size + 1 + 1, 0, none⟩) 2 1 1
  have x2 := ex_kids (some ⟨w.heap.size, 0, none⟩) (some ⟨w.heap.size + 1, 0, none⟩) (some ⟨w.heap.size + 1 + 1, 0, none⟩) 2 1 1
  have x3 := ex_order (some ⟨w.heap.size, 0, none⟩) (some ⟨w.heap.size + 1, 0, none⟩) (some ⟨w.heap.size + 1 + 1, 0, none⟩) 2 1 1
  have x4 := ex_03 (some ⟨w.heap.size, 0, none⟩) (some ⟨w.heap.size + 1, 0, none⟩) (some ⟨w.heap.size + 1 + 1, 0, none⟩) 2 1 1
  have x5 := ex_13 (some ⟨w.heap.size, 0, none⟩) (some ⟨w.heap.size + 1, 0, none⟩) (some ⟨w.heap.size + 1 + 1, 0, none⟩) 2 1 1
  have x6 : (tre 4 (exT (some ⟨w.heap.size, 0, none⟩) (some ⟨w.heap.size + 1, 0, none⟩) (some ⟨w.heap.size + 1 + 1, 0, none⟩) 2 1 1)).ok := hok.out.ok
  generalize tre 4 (exT (some ⟨w.heap.size, 0, none⟩) (some ⟨w.heap.size + 1, 0, none⟩) (some ⟨w.heap.size + 1 + 1, 0, none⟩) 2 1 1) = t at *
  clear hok
  replace x1 := Lib.hid x1
  replace x2 := Lib.hid x2
  replace x3 := Lib.hid x3
  replace x4 := Lib.hid x4
  replace x5 := Lib.hid x5
  replace x6 := Lib.hid x6
  go_wp2_with fail
  refine hcall.out.mono ?_
  rintro e w1 ⟨tb, gp, ge, gn, oa, oc, rfl, hT, htb, hb2⟩
  have c1 := Lib.hid (next_c tb gp ge gn 4 4 4 oa oc t 3 w1 hT)
  rw [x1.out] at c1
  have c2 := Lib.hid (kids_c tb gp ge gn 4 4 4 oa oc t 0 w1 hT x6.out (by rw [x3.out]; decide))
  rw [x2.out] at c2
  have hb3 := Lib.hid (hb1.out.trans (hb2.mono (by have := hz.out; omega)))
  replace hT := Lib.hid hT
  have hzz : Hid (w.heap.size ≤ w1.heap.size) := Lib.hid hb3.out.size
  clear hcall hb2 hb1 hz htb
  go_wp2_with fail
  refine c1.out.mono ?_
  rintro e w2 ⟨rfl, rfl⟩
  clear c1
  go_wp2_with fail
  refine c2.out.mono ?_
  rintro e w3 ⟨v, rfl, ho, hb4⟩
  obtain ⟨a3, c3, rfl, hr3⟩ := row_own ho
  obtain ⟨W4, hW4⟩ : ∃ W4, W4 = w3.alloc (.cells #[.int .i64 1, .int .i64 2, .int .i64 3] 3) := ⟨_, rfl⟩
  have hb5 : Below w3.heap.size w3 W4 := by rw [hW4]; exact b_alloc _ _
  have g4 : W4.heap[w3.heap.size]? = some (.cells #[.int .i64 1, .int .i64 2, .int .i64 3] 3 (0, 0)) := by rw [hW4]; exact blk_new _ _ rfl
  have c4 := Lib.hid (ints_any [1, 2, 3] [1, 2, 3] a3 (some ⟨w3.heap.size, 0, none⟩) c3 3 W4 ((hr3.mono fun _ _ => trivial).below (Kps.of_below hb5)) (row_blk 3 g4 (by decide) trivial))
  have hb6 := Lib.hid (hb4.trans (hb5.mono hb4.size))
  clear ho hr3 hb4 hb5 g4 c2
  go_wp2_with fail
  rw [← hW4]
  replace hW4 := Lib.hid hW4
  refine c4.out.mono ?_
  rintro e w5 ⟨rfl, hb7⟩
  have hb8 := Lib.hid (hb6.out.trans (hb7.mono hb6.out.size))
  have c5 := Lib.hid (order_c tb gp ge gn 4 4 4 oa oc t w5 (hT.out.keep hb8.out) (by rw [x3.out]; decide))
  rw [x3.out] at c5
  have hb9 := Lib.hid (hb3.out.trans (hb8.out.mono hb3.out.size))
  clear c4 hb6 hb7 hW4
  go_wp2_with fail
  refine c5.out.mono ?_
  rintro e w6 ⟨v, rfl, ho, hb4⟩
  obtain ⟨a3, c3, rfl, hr3⟩ := row_own ho
  obtain ⟨W4, hW4⟩ : ∃ W4, W4 = w6.alloc (.cells #[.int .i64 0, .int .i64 1, .int .i64 2, .int .i64 3] 3) := ⟨_, rfl⟩
  have hb5 : Below w6.heap.size w6 W4 := by rw [hW4]; exact b_alloc _ _
  have g4 : W4.heap[w6.heap.size]? = some (.cells #[.int .i64 0, .int .i64 1, .int .i64 2, .int .i64 3] 3 (0, 0)) := by rw [hW4]; exact blk_new _ _ rfl
  have c4 := Lib.hid (ints_any [0, 1, 2, 3] [0, 1, 2, 3] a3 (some ⟨w6.heap.size, 0, none⟩) c3 4 W4 ((hr3.mono fun _ _ => trivial).below (Kps.of_below hb5)) (row_blk 4 g4 (by decide) trivial))
  have hb6 := Lib.hid (hb4.trans (hb5.mono hb4.size))
  clear ho hr3 hb4 hb5 g4 c5
  go_wp2_with fail
  rw [← hW4]
  replace hW4 := Lib.hid hW4
  refine c4.out.mono ?_
  rintro e w7 ⟨rfl, hb7⟩
  have hb10 := Lib.hid (hb8.out.trans ((hb6.out.trans (hb7.mono hb6.out.size)).mono hb8.out.size))
  have hT7 := hT.out.keep hb10.out
  have c6 := Lib.hid (above_c tb gp ge gn 4 4 4 oa oc t 0 3 w7 hT7)
  have c7 := Lib.hid (fun k => above_c tb gp ge gn 4 4 4 oa oc t 1 3 (w7.drewN k) (hT7.keep (below_drawN w7 k)))
  rw [x4.out] at c6
  rw [x5.out] at c7
  have hb11 := Lib.hid (hb3.out.trans (hb10.out.mono hb3.out.size))
  clear c4 hb6 hb7 hW4 hT7
  go_wp2_with fail
  refine c6.out.mono ?_
  rintro e w8 ⟨rfl, k1, rfl⟩
  have c8 := Lib.hid (c7.out k1)
  clear c6 c7
  go_wp2_with fail
  refine c8.out.mono ?_
  rintro e w9 ⟨rfl, k2, rfl⟩
  clear c8
  go_wp2_with fail
  go_ret
  exact ⟨rfl, hb11.out.trans ((below_drawN _ _).mono hb11.out.size)⟩
end Go.Proofs.Ytiaecobjbckhoaa.Db
