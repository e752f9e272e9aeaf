/- Walk of DomNames. Conditions: none. -/
import Derived.Test.YtiaecobjbckhoaaDoI
import Derived.Test.YtiaecobjbckhoaaDoB
set_option linter.unusedVariables false
set_option linter.unusedSimpArgs false
namespace Go.Proofs.Ytiaecobjbckhoaa.Db
open Go Go.RowKit
open Go.WideShapes Go.MapKept

theorem Ask.mono {tb : Nat} {t : Tp} {w1 w2 : World} (h : Ask tb t w1) (hb : Below w1.heap.size w1 w2) : Ask tb t w2 := by
  have k : ∀ V, Hid (Below w2.heap.size w2 V) → Hid (Below w1.heap.size w1 V) := fun V h2 => Lib.hid (hb.trans (h2.out.mono hb.size))
  refine ⟨fun x V h2 => h.re x V (k V h2), fun x V h2 => h.nx x V (k V h2), fun x y V h2 => (h.ab x y V (k V h2)).mono ?_, fun x V h2 => h.ki x V (k V h2), fun V h2 => h.od V (k V h2), fun x y V h2 => h.abq x y V (k V h2)⟩
  rintro e w' ⟨he, h3, h4⟩
  exact ⟨he, h3, Lib.hid (h2.out.trans (h3.out.1.mono h2.out.size))⟩
def gT (a b c d : Option Addr) (i j k l : Nat) : List Tl := [⟨a, i, [1]⟩, ⟨b, j, [2]⟩, ⟨c, k, [1, 3]⟩, ⟨none, 0, []⟩, ⟨d, l, [0]⟩]
section
variable (a b c d : Option Addr) (i j k l : Nat)
theorem g_may : mayL 5 (gT a b c d i j k l) = true := by kernel_rfl
theorem g_1 : (tre 5 (gT a b c d i j k l)).nextP 3 = 2 := by kernel_rfl
theorem g_2 : (tre 5 (gT a b c d i j k l)).above 1 3 = true := by kernel_rfl
theorem g_3 : (tre 5 (gT a b c d i j k l)).above 3 1 = false := by kernel_rfl
theorem g_4 : (tre 5 (gT a b c d i j k l)).reach 4 = false := by kernel_rfl
theorem g_5 : (tre 5 (gT a b c d i j k l)).nextP 4 = -1 := by kernel_rfl
theorem g_6 : (tre 5 (gT a b c d i j k l)).nextP 0 = -1 := by kernel_rfl
theorem g_7 : (tre 5 (gT a b c d i j k l)).above 4 4 = false := by kernel_rfl
theorem g_8 : (tre 5 (gT a b c d i j k l)).above 0 0 = true := by kernel_rfl
theorem g_long : longP (gT a b c d i j k l) = false := by kernel_rfl
end
theorem o_may : mayL 1 [⟨none, 0, []⟩] = true := by kernel_rfl
theorem o_1 : (tre 1 [⟨none, 0, []⟩]).reach 0 = true := by kernel_rfl
theorem o_2 : (tre 1 [⟨none, 0, []⟩]).order = [0] := by kernel_rfl
theorem o_long : longP [⟨none, 0, []⟩] = false := by kernel_rfl
theorem may_big (T : List Tl) : mayL 32769 T = false := by
  unfold mayL
  rw [show decide (32769 ≤ 32768) = false from rfl]
  simp
/-- a row of one list -/
theorem to_one (w : World) (x : Int) : ToM ((w.alloc (.cells #[.int .i64 x] 3)).alloc (.cells #[.slice (some ⟨w.heap.size, 0, none⟩) 1 1] 33)).heap.size (some ⟨w.heap.size + 1, 0, none⟩) 1 [⟨some ⟨w.heap.size, 0, none⟩, 1, [x]⟩] ((w.alloc (.cells #[.int .i64 x] 3)).alloc (.cells #[.slice (some ⟨w.heap.size, 0, none⟩) 1 1] 33)) := by
  have g0 : ((w.alloc (.cells #[.int .i64 x] 3)).alloc (.cells #[.slice (some ⟨w.heap.size, 0, none⟩) 1 1] 33)).heap[w.heap.size]? = some (.cells #[.int .i64 x] 3 (0, 0)) := (Below.heap_alloc _ _ _ (by simp)).trans (blk_new _ _ (by simp))
  have g1 : ((w.alloc (.cells #[.int .i64 x] 3)).alloc (.cells #[.slice (some ⟨w.heap.size, 0, none⟩) 1 1] 33)).heap[w.heap.size + 1]? = some (.cells #[.slice (some ⟨w.heap.size, 0, none⟩) 1 1] 33 (0, 0)) := blk_new _ _ (by simp)
  refine ⟨row_blk 1 g1 (by decide) (by simp), fun y hy => ?_⟩
  rw [List.mem_singleton] at hy
  subst hy
  exact row_blk 1 g0 (by decide) (by simp; omega)
set_option maxHeartbeats 8000000 in
set_option maxRecDepth 100000 in
theorem domNames_law (w : World) : Calls Try.prog 4 #[] w fun e w' => e = .returned (.bool true) ∧ Below w.heap.size w w' := by
  have c1 := Lib.hid (of_no (T := []) 0 0 none w rfl ⟨row_none _ _, fun x hx => (by cases hx)⟩ rfl)
  go_enter Try.func4, Try.ntmps4
  go_wp2_with fail
  refine c1.out.mono ?_
  rintro _ w1 ⟨rfl, hb1⟩
  replace hb1 := Lib.hid hb1
  clear c1
  have c2 := Lib.hid (of_no 1 1 _ _ rfl (to_one w1 1) rfl)
  go_wp2_with fail
  refine c2.out.mono ?_
  rintro _ w2 ⟨rfl, hb2⟩
  have hb2' : Below w1.heap.size w1 w2 := (((Below.refl _ _).alloc (Nat.le_refl _) _).alloc (by simp) _).trans (hb2.mono (by simp; omega))
  have hb3 := Lib.hid (hb1.out.trans (hb2'.mono hb1.out.size))
  clear c2 hb1 hb2 hb2'
  have c3 := Lib.hid (of_no 1 1 _ _ rfl (to_one w2 (-1)) rfl)
  go_wp2_with fail
  refine c3.out.mono ?_
  rintro _ w3 ⟨rfl, hb4⟩
  have hb4' : Below w2.heap.size w2 w3 := (((Below.refl _ _).alloc (Nat.le_refl _) _).alloc (by simp) _).trans (hb4.mono (by simp; omega))
  have hb5 := Lib.hid (hb3.out.trans (hb4'.mono hb3.out.size))
  clear c3 hb3 hb4 hb4'
  have hmk := make_ll 32769 (by decide) w3
  have g1 : (w3.alloc (.cells (Array.replicate 32769 (Value.slice none 0 0)) 33)).heap[w3.heap.size]? = some (.cells (Array.replicate 32769 (Value.slice none 0 0)) 33 (0, 0)) := blk_new _ _ rfl
  have hT4 : ToM (w3.alloc (.cells (Array.replicate 32769 (Value.slice none 0 0)) 33)).heap.size (some ⟨w3.heap.size, 0, none⟩) 32769 (List.replicate 32769 ⟨none, 0, []⟩) (w3.alloc (.cells (Array.replicate 32769 (Value.slice none 0 0)) 33)) := by
    have e : tlCells (List.replicate 32769 ⟨none, 0, []⟩) = List.replicate 32769 (Value.slice none 0 0) := by
      unfold tlCells
      generalize 32769 = q
      induction q with
      | zero => rfl
      | succ q ih => rw [List.replicate_succ, List.flatMap_cons, ih, List.replicate_succ]; rfl
    refine ⟨?_, fun x hx => ?_⟩
    · rw [e, List.length_replicate]
      refine row_blk (T := 33) (fr := (0, 0)) 32769 (vs := List.replicate 32769 (Value.slice none 0 0)) ?_ (by decide) (by simp)
      rw [g1, ← List.toArray_replicate]
    · obtain ⟨_, rfl⟩ := List.mem_replicate.1 hx
      exact row_none _ _
  have c4 := Lib.hid (of_no 32769 32769 _ _ (List.length_replicate) hT4 (may_big _))
  have hmk' : (Instr.makeSlice 22 (.int .i64 32769) (.int .i64 32769)).run Try.prog w3 = .ok (.slice (some ⟨w3.heap.size, 0, none⟩) 32769 32769) (w3.alloc (.cells (Array.replicate 32769 (Value.slice none 0 0)) 33)) := hmk
  clear hmk hT4 g1
  generalize hwb : w3.alloc (.cells (Array.replicate 32769 (Value.slice none 0 0)) 33) = wb at *
  have hbb : Hid (Below w3.heap.size w3 wb) := Lib.hid (by rw [← hwb]; exact b_alloc _ _)
  replace hwb := Lib.hid hwb
  go_wp2_with fail
  refine c4.out.mono ?_
  rintro _ w4 ⟨rfl, hb6⟩
  have hb7 := Lib.hid (hb5.out.trans ((hbb.out.trans (hb6.mono hbb.out.size)).mono hb5.out.size))
  clear c4 hmk' hb5 hb6 hbb hwb
  go_wp2_with fail
  obtain ⟨w5, hw5⟩ : ∃ w5, w5 = ((((w4.alloc (.cells #[.int .i64 1] 3)).alloc (.cells #[.int .i64 2] 3)).alloc (.cells #[.int .i64 1, .int .i64 3] 3)).alloc (.cells #[.int .i64 0] 3)).alloc (.cells #[.slice (some ⟨w4.heap.size, 0, none⟩) 1 1, .slice (some ⟨w4.heap.size + 1, 0, none⟩) 1 1, .slice (some ⟨w4.heap.size + 1 + 1, 0, none⟩) 2 2, .slice none 0 0, .slice (some ⟨w4.heap.size + 1 + 1 + 1, 0, none⟩) 1 1] 33) := ⟨_, rfl⟩
  rw [← hw5]
  have hb8 : Below w4.heap.size w4 w5 := by
    rw [hw5]
    exact (((((Below.refl _ _).alloc (Nat.le_refl _) _).alloc (by simp) _).alloc (by simp <;> omega) _).alloc (by simp <;> omega) _).alloc (by simp <;> omega) _
  have hz : w5.heap.size = w4.heap.size + 5 := by rw [hw5]; simp
  have g4 : w5.heap[w4.heap.size + 1 + 1 + 1 + 1]? = some (.cells #[.slice (some ⟨w4.heap.size, 0, none⟩) 1 1, .slice (some ⟨w4.heap.size + 1, 0, none⟩) 1 1, .slice (some ⟨w4.heap.size + 1 + 1, 0, none⟩) 2 2, .slice none 0 0, .slice (some ⟨w4.heap.size + 1 + 1 + 1, 0, none⟩) 1 1] 33 (0, 0)) := by rw [hw5]; exact blk_new _ _ (by simp)
  have g3 : w5.heap[w4.heap.size + 1 + 1 + 1]? = some (.cells #[.int .i64 0] 3 (0, 0)) := by rw [hw5]; exact (Below.heap_alloc _ _ _ (by simp)).trans (blk_new _ _ (by simp))
  have g2 : w5.heap[w4.heap.size + 1 + 1]? = some (.cells #[.int .i64 1, .int .i64 3] 3 (0, 0)) := by rw [hw5]; exact (Below.heap_alloc _ _ _ (by simp <;> omega)).trans ((Below.heap_alloc _ _ _ (by simp)).trans (blk_new _ _ (by simp)))
  have g1 : w5.heap[w4.heap.size + 1]? = some (.cells #[.int .i64 2] 3 (0, 0)) := by rw [hw5]; exact (Below.heap_alloc _ _ _ (by simp <;> omega)).trans ((Below.heap_alloc _ _ _ (by simp <;> omega)).trans ((Below.heap_alloc _ _ _ (by simp)).trans (blk_new _ _ (by simp))))
  have g0 : w5.heap[w4.heap.size]? = some (.cells #[.int .i64 1] 3 (0, 0)) := by rw [hw5]; exact (Below.heap_alloc _ _ _ (by simp <;> omega)).trans ((Below.heap_alloc _ _ _ (by simp <;> omega)).trans ((Below.heap_alloc _ _ _ (by simp <;> omega)).trans ((Below.heap_alloc _ _ _ (by simp)).trans (blk_new _ _ (by simp)))))
  have hT5 : ToM w5.heap.size (some ⟨w4.heap.size + 1 + 1 + 1 + 1, 0, none⟩) 5 (gT (some ⟨w4.heap.size, 0, none⟩) (some ⟨w4.heap.size + 1, 0, none⟩) (some ⟨w4.heap.size + 1 + 1, 0, none⟩) (some ⟨w4.heap.size + 1 + 1 + 1, 0, none⟩) 1 1 2 1) w5 := by
    refine ⟨row_blk 5 g4 (by decide) (by omega), fun x hx => ?_⟩
    simp only [gT, List.mem_cons, List.not_mem_nil, or_false] at hx
    rcases hx with rfl | rfl | rfl | rfl | rfl
    · exact row_blk 1 g0 (by decide) (by omega)
    · exact row_blk 1 g1 (by decide) (by omega)
    · exact row_blk 2 g2 (by decide) (by omega)
    · exact row_none _ _
    · exact row_blk 1 g3 (by decide) (by omega)
  have hcall := Lib.hid (of_law 5 5 _ w5 rfl hT5 (g_long _ _ _ _ _ _ _ _))
  have x1 := g_1 (some ⟨w4.heap.size, 0, none⟩) (some ⟨w4.heap.size + 1, 0, none⟩) (some ⟨w4.heap.size + 1 + 1, 0, none⟩) (some ⟨w4.heap.size + 1 + 1 + 1, 0, none⟩) 1 1 2 1
  have x2 := g_2 (some ⟨w4.heap.size, 0, none⟩) (some ⟨w4.heap.size + 1, 0, none⟩) (some ⟨w4.heap.size + 1 + 1, 0, none⟩) (some ⟨w4.heap.size + 1 + 1 + 1, 0, none⟩) 1 1 2 1
  have x3 := g_3 (some ⟨w4.heap.size, 0, none⟩) (some ⟨w4.heap.size + 1, 0, none⟩) (some ⟨w4.heap.size + 1 + 1, 0, none⟩) (some ⟨w4.heap.size + 1 + 1 + 1, 0, none⟩) 1 1 2 1
  have x4 := g_4 (some ⟨w4.heap.size, 0, none⟩) (some ⟨w4.heap.size + 1, 0, none⟩) (some ⟨w4.heap.size + 1 + 1, 0, none⟩) (some ⟨w4.heap.size + 1 + 1 + 1, 0, none⟩) 1 1 2 1
  have x5 := g_5 (some ⟨w4.heap.size, 0, none⟩) (some ⟨w4.heap.size + 1, 0, none⟩) (some ⟨w4.heap.size + 1 + 1, 0, none⟩) (some ⟨w4.heap.size + 1 + 1 + 1, 0, none⟩) 1 1 2 1
  have x6 := g_6 (some ⟨w4.heap.size, 0, none⟩) (some ⟨w4.heap.size + 1, 0, none⟩) (some ⟨w4.heap.size + 1 + 1, 0, none⟩) (some ⟨w4.heap.size + 1 + 1 + 1, 0, none⟩) 1 1 2 1
  have x7 := g_7 (some ⟨w4.heap.size, 0, none⟩) (some ⟨w4.heap.size + 1, 0, none⟩) (some ⟨w4.heap.size + 1 + 1, 0, none⟩) (some ⟨w4.heap.size + 1 + 1 + 1, 0, none⟩) 1 1 2 1
  have x8 := g_8 (some ⟨w4.heap.size, 0, none⟩) (some ⟨w4.heap.size + 1, 0, none⟩) (some ⟨w4.heap.size + 1 + 1, 0, none⟩) (some ⟨w4.heap.size + 1 + 1 + 1, 0, none⟩) 1 1 2 1
  have x9 := g_may (some ⟨w4.heap.size, 0, none⟩) (some ⟨w4.heap.size + 1, 0, none⟩) (some ⟨w4.heap.size + 1 + 1, 0, none⟩) (some ⟨w4.heap.size + 1 + 1 + 1, 0, none⟩) 1 1 2 1
  generalize gT (some ⟨w4.heap.size, 0, none⟩) (some ⟨w4.heap.size + 1, 0, none⟩) (some ⟨w4.heap.size + 1 + 1, 0, none⟩) (some ⟨w4.heap.size + 1 + 1 + 1, 0, none⟩) 1 1 2 1 = G at *
  generalize tre 5 G = t at *
  have hb9 := Lib.hid (hb7.out.trans (hb8.mono hb7.out.size))
  replace hz := Lib.hid hz
  have hs := Lib.hid (⟨x1, x2, x3, x4, x5, x6, x7, x8⟩ : t.nextP 3 = 2 ∧ t.above 1 3 = true ∧ t.above 3 1 = false ∧ t.reach 4 = false ∧ t.nextP 4 = -1 ∧ t.nextP 0 = -1 ∧ t.above 4 4 = false ∧ t.above 0 0 = true)
  replace x9 := Lib.hid x9
  replace hw5 := Lib.hid hw5
  clear g0 g1 g2 g3 g4 hT5 hb7 hb8 x1 x2 x3 x4 x5 x6 x7 x8
  go_wp2_with fail
  refine hcall.out.mono ?_
  rintro _ w6 ⟨hb10, ⟨hm, rfl⟩ | ⟨hm, H, tb, rfl, htb, hA⟩⟩
  · rw [x9.out] at hm; cases hm
  have hb11 := Lib.hid (hb9.out.trans (hb10.mono hb9.out.size))
  replace hA := Lib.hid hA
  replace H := Lib.hid H
  clear hcall hm htb hb9 hb10
  go_wp2_with fail
  obtain ⟨w7, hw7⟩ : ∃ w7, w7 = w6.alloc (.cells #[.slice none 0 0] 33) := ⟨_, rfl⟩
  rw [← hw7]
  have hb12 : Below w6.heap.size w6 w7 := by rw [hw7]; exact b_alloc _ _
  have g0 : w7.heap[w6.heap.size]? = some (.cells #[.slice none 0 0] 33 (0, 0)) := by rw [hw7]; exact blk_new _ _ rfl
  have hz7 : w7.heap.size = w6.heap.size + 1 := by rw [hw7]; simp
  have hT7 : ToM w7.heap.size (some ⟨w6.heap.size, 0, none⟩) 1 [⟨none, 0, []⟩] w7 := by
    refine ⟨row_blk 1 g0 (by decide) (by omega), fun y hy => ?_⟩
    rw [List.mem_singleton] at hy
    subst hy
    exact row_none _ _
  have hcall := Lib.hid (of_law 1 1 _ w7 rfl hT7 o_long)
  have y1 := o_1
  have y2 := o_2
  have y3 := Lib.hid o_may
  generalize tre 1 [⟨none, 0, []⟩] = u at *
  have hys := Lib.hid (⟨y1, y2⟩ : u.reach 0 = true ∧ u.order = [0])
  replace hb12 := Lib.hid hb12
  replace hw7 := Lib.hid hw7
  clear g0 hz7 hT7 y1 y2
  go_wp2_with fail
  refine hcall.out.mono ?_
  rintro _ w8 ⟨hb13, ⟨hm, rfl⟩ | ⟨hm, H2, ub, rfl, htb, hA2⟩⟩
  · rw [y3.out] at hm; cases hm
  have hb14 : Below w6.heap.size w6 w8 := hb12.out.trans (hb13.mono hb12.out.size)
  have hA3 := Lib.hid (hA.out.mono hb14)
  replace hA2 := Lib.hid hA2
  have hb15 := Lib.hid (hb11.out.trans (hb14.mono hb11.out.size))
  have hbe : Hid (Below w8.heap.size w8 w8) := Lib.hid (Below.refl _ _)
  obtain ⟨x1, x2, x3, x4, x5, x6, x7, x8⟩ := hs.out
  obtain ⟨y1, y2⟩ := hys.out
  clear hcall hm htb hb11 hb12 hb13 hb14 hA H H2 hs hys hw5 hw7 x9 y3 hz
  go_wp2_with fail
  repeat (first
    | (with_reducible refine (hA3.out.re _ _ (by assumption)).mono ?_); rintro _ _ ⟨rfl, hV⟩; have hV := hV.symm; subst hV; go_wp2_with fail
    | (with_reducible refine (hA3.out.nx _ _ (by assumption)).mono ?_); rintro _ _ ⟨rfl, hV⟩; have hV := hV.symm; subst hV; go_wp2_with fail
    | (with_reducible refine (hA3.out.ab _ _ _ (by assumption)).mono ?_); rintro _ _ ⟨rfl, _, _⟩; go_wp2_with fail
    | (with_reducible refine (hA2.out.re _ _ (by assumption)).mono ?_); rintro _ _ ⟨rfl, hV⟩; have hV := hV.symm; subst hV; go_wp2_with fail)
  rename_i V hl hr q1 q2
  have hod := Lib.hid (hA2.out.od V hr)
  rw [y2] at hod
  clear x1 x2 x3 x4 x5 x6 x7 x8 y1 hA3 hA2
  refine hod.out.mono ?_
  rintro _ w9 ⟨v, rfl, ho, hb16⟩
  obtain ⟨w10, hw10⟩ : ∃ w10, w10 = w9.alloc (.cells #[.int .i64 0] 3) := ⟨_, rfl⟩
  have hb17 : Below w9.heap.size w9 w10 := by rw [hw10]; exact b_alloc _ _
  have g0 : w10.heap[w9.heap.size]? = some (.cells #[.int .i64 0] 3 (0, 0)) := by rw [hw10]; exact blk_new _ _ rfl
  have hsame := Lib.hid (same_c [0] [0] v (some ⟨w9.heap.size, 0, none⟩) 1 V.heap.size w10 (own_below ho hb17) (Nat.le_trans hb16.size hb17.size) (row_blk 1 g0 (by decide) trivial))
  have hb18 := Lib.hid (hb16.trans (hb17.mono hb16.size))
  clear ho hb16 hb17 g0 hod
  go_wp2_with fail
  rw [← hw10]
  replace hw10 := Lib.hid hw10
  refine hsame.out.mono ?_
  rintro _ w11 ⟨rfl, hb19⟩
  have hb20 := Lib.hid (hr.out.trans ((hb18.out.trans hb19).mono hr.out.size))
  have hb21 := Lib.hid (hb15.out.trans (hb20.out.mono hb15.out.size))
  have haw := Lib.hid (fun W => awake_c W)
  clear hsame hb18 hb19 hb20 hr hl hb15 hw10
  go_wp2_with fail
  repeat (first
    | (with_reducible refine (nil_re _ _).mono ?_); rintro _ _ ⟨rfl, hV⟩; have hV := hV.symm; subst hV; go_wp2_with fail
    | (with_reducible refine (nil_nx _ _).mono ?_); rintro _ _ ⟨rfl, hV⟩; have hV := hV.symm; subst hV; go_wp2_with fail
    | (with_reducible refine (nil_ab _ _ _).mono ?_); rintro _ _ ⟨rfl, _, rfl⟩; go_wp2_with fail
    | (with_reducible refine (nil_ki _ _).mono ?_); rintro _ _ ⟨rfl, hV⟩; have hV := hV.symm; subst hV; go_wp2_with fail
    | (with_reducible refine (nil_od _).mono ?_); rintro _ _ ⟨rfl, hV⟩; have hV := hV.symm; subst hV; go_wp2_with fail)
  refine (haw.out _).mono ?_
  rintro _ w12 ⟨rfl, hb22⟩
  have hb23 := Lib.hid (hb21.out.trans (((below_drawN _ _).trans hb22).mono hb21.out.size))
  clear hb22 hb21 haw
  go_wp2_with fail
  go_ret
  exact ⟨rfl, hb23.out⟩
end Go.Proofs.Ytiaecobjbckhoaa.Db
