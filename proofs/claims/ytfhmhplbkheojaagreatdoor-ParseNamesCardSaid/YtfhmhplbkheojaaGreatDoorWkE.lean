/- Walk of ParseNames: its own loop. Conditions: the variables that the packages read hold what they were laid with. -/
import Derived.Test.YtfhmhplbkheojaaGreatDoorWkC
namespace Go.Proofs.YtfhmhplbkheojaaGreatDoor.Pa
open Go Go.RowKit
open Go.Proofs.YtfhmhplbkheojaaGreatDoor.Lx Go.Proofs.YtfhmhplbkheojaaGreatDoor.Tr

def namTab : List (ByteArray × ByteArray) := [(⟨#[49]⟩, ⟨#[105, 49]⟩), (⟨#[116, 114, 117, 101]⟩, ⟨#[98, 49]⟩), (⟨#[102, 97, 108, 115, 101]⟩, ⟨#[98, 48]⟩), (⟨#[97]⟩, ⟨#[118, 58, 97]⟩), (⟨#[97, 91, 49, 93]⟩, ⟨#[120, 58, 97, 40, 105, 49, 41]⟩), (⟨#[40, 97, 41]⟩, ⟨#[118, 58, 97]⟩), (⟨#[45, 97]⟩, ⟨#[110, 101, 103, 40, 118, 58, 97, 41]⟩), (⟨#[33, 97]⟩, ⟨#[110, 111, 116, 40, 118, 58, 97, 41]⟩), (⟨#[45, 32, 45, 32, 49]⟩, ⟨#[110, 101, 103, 40, 110, 101, 103, 40, 105, 49, 41, 41]⟩), (⟨#[45, 33, 97]⟩, ⟨#[110, 101, 103, 40, 110, 111, 116, 40, 118, 58, 97, 41, 41]⟩), (⟨#[49, 45, 50, 45, 51]⟩, ⟨#[115, 117, 98, 40, 115, 117, 98, 40, 105, 49, 32, 105, 50, 41, 32, 105, 51, 41]⟩), (⟨#[49, 45, 40, 50, 45, 51, 41]⟩, ⟨#[115, 117, 98, 40, 105, 49, 32, 115, 117, 98, 40, 105, 50, 32, 105, 51, 41, 41]⟩), (⟨#[49, 47, 50, 42, 51, 37, 52]⟩, ⟨#[109, 111, 100, 40, 109, 117, 108, 40, 100, 105, 118, 40, 105, 49, 32, 105, 50, 41, 32, 105, 51, 41, 32, 105, 52, 41]⟩), (⟨#[49, 43, 50, 42, 51, 45, 52]⟩, ⟨#[115, 117, 98, 40, 97, 100, 100, 40, 105, 49, 32, 109, 117, 108, 40, 105, 50, 32, 105, 51, 41, 41, 32, 105, 52, 41]⟩), (⟨#[97, 124, 124, 98, 38, 38, 99, 124, 124, 100]⟩, ⟨#[111, 114, 40, 111, 114, 40, 118, 58, 97, 32, 97, 110, 100, 40, 118, 58, 98, 32, 118, 58, 99, 41, 41, 32, 118, 58, 100, 41]⟩), (⟨#[97, 38, 38, 98, 38, 38, 99]⟩, ⟨#[97, 110, 100, 40, 97, 110, 100, 40, 118, 58, 97, 32, 118, 58, 98, 41, 32, 118, 58, 99, 41]⟩), (⟨#[49, 60, 50, 38, 38, 51, 60, 61, 52]⟩, ⟨#[97, 110, 100, 40, 108, 116, 40, 105, 49, 32, 105, 50, 41, 32, 108, 101, 40, 105, 51, 32, 105, 52, 41, 41]⟩), (⟨#[49, 62, 61, 50, 124, 124, 51, 61, 61, 52]⟩, ⟨#[111, 114, 40, 108, 101, 40, 105, 50, 32, 105, 49, 41, 32, 101, 113, 40, 105, 51, 32, 105, 52, 41, 41]⟩), (⟨#[49, 33, 61, 50]⟩, ⟨#[110, 101, 40, 105, 49, 32, 105, 50, 41]⟩), (⟨#[40, 49, 60, 50, 41, 60, 51]⟩, ⟨#[108, 116, 40, 108, 116, 40, 105, 49, 32, 105, 50, 41, 32, 105, 51, 41]⟩), (⟨#[49, 43, 50, 60, 51, 42, 52]⟩, ⟨#[108, 116, 40, 97, 100, 100, 40, 105, 49, 32, 105, 50, 41, 32, 109, 117, 108, 40, 105, 51, 32, 105, 52, 41, 41]⟩), (⟨#[45, 49, 42, 50]⟩, ⟨#[109, 117, 108, 40, 110, 101, 103, 40, 105, 49, 41, 32, 105, 50, 41]⟩), (⟨#[45, 40, 49, 43, 50, 41]⟩, ⟨#[110, 101, 103, 40, 97, 100, 100, 40, 105, 49, 32, 105, 50, 41, 41]⟩), (⟨#[97, 91, 98, 91, 49, 93, 43, 50, 93]⟩, ⟨#[120, 58, 97, 40, 97, 100, 100, 40, 120, 58, 98, 40, 105, 49, 41, 32, 105, 50, 41, 41]⟩), (⟨#[40, 40, 40, 40, 97, 41, 41, 41, 41]⟩, ⟨#[118, 58, 97]⟩), (⟨#[49, 62, 50, 62, 61, 51]⟩, ⟨#[63]⟩), (⟨#[97, 61, 61, 98, 33, 61, 99]⟩, ⟨#[63]⟩)]
def namOk (x : ByteArray × ByteArray) : Bool :=
  if x.2 = ⟨#[63]⟩ then (match parseP (⟨#[116, 104, 114, 101, 97, 100, 32, 116, 123, 112, 114, 105, 110, 116, 32]⟩ ++ x.1 ++ ⟨#[59, 125]⟩) with | (_, _, e) => decide (e ≠ 0))
  else match parseP (⟨#[116, 104, 114, 101, 97, 100, 32, 116, 123, 112, 114, 105, 110, 116, 32]⟩ ++ x.1 ++ ⟨#[59, 125]⟩) with
    | ([⟨_, _, _, none, 0, _, none, 0, [.mk k _ _ _ none 0 [e] none 0 _ none 0 _ _], _⟩], p, er) => decide (k = 7) && decide (p = 0) && decide (er = 0) && shOk e && decide (shp e = x.2)
    | _ => false
set_option maxRecDepth 100000 in
theorem nam_all : namTab.all namOk = true := by kernel_rfl
theorem nam_sz : namTab.all (fun x => decide (x.1.size ≤ 1000) && decide (x.2.size ≤ 1000)) = true := by kernel_rfl
theorem nam_len : namTab.length = 27 := by kernel_rfl
def namCells : List Value := namTab.flatMap fun x => [.string x.1, .string x.2]
theorem nam_cell (i : Nat) (x : ByteArray × ByteArray) (h : namTab[i]? = some x) : namCells[i * 2 + 0]? = some (.string x.1) ∧ namCells[i * 2 + 1]? = some (.string x.2) :=
  ⟨flat_at (fun x : ByteArray × ByteArray => [Value.string x.1, .string x.2]) 2 (fun _ => rfl) namTab i 0 x h (by decide), flat_at (fun x : ByteArray × ByteArray => [Value.string x.1, .string x.2]) 2 (fun _ => rfl) namTab i 1 x h (by decide)⟩
theorem namCells_eq : namCells = [.string ⟨#[49]⟩, .string ⟨#[105, 49]⟩, .string ⟨#[116, 114, 117, 101]⟩, .string ⟨#[98, 49]⟩, .string ⟨#[102, 97, 108, 115, 101]⟩, .string ⟨#[98, 48]⟩, .string ⟨#[97]⟩, .string ⟨#[118, 58, 97]⟩, .string ⟨#[97, 91, 49, 93]⟩, .string ⟨#[120, 58, 97, 40, 105, 49, 41]⟩, .string ⟨#[40, 97, 41]⟩, .string ⟨#[118, 58, 97]⟩, .string ⟨#[45, 97]⟩, .string ⟨#[110, 101, 103, 40, 118, 58, 97, 41]⟩, .string ⟨#[33, 97]⟩, .string ⟨#[110, 111, 116, 40, 118, 58, 97, 41]⟩, .string ⟨#[45, 32, 45, 32, 49]⟩, .string ⟨#[110, 101, 103, 40, 110, 101, 103, 40, 105, 49, 41, 41]⟩, .string ⟨#[45, 33, 97]⟩, .string ⟨#[110, 101, 103, 40, 110, 111, 116, 40, 118, 58, 97, 41, 41]⟩, .string ⟨#[49, 45, 50, 45, 51]⟩, .string ⟨#[115, 117, 98, 40, 115, 117, 98, 40, 105, 49, 32, 105, 50, 41, 32, 105, 51, 41]⟩, .string ⟨#[49, 45, 40, 50, 45, 51, 41]⟩, .string ⟨#[115, 117, 98, 40, 105, 49, 32, 115, 117, 98, 40, 105, 50, 32, 105, 51, 41, 41]⟩, .string ⟨#[49, 47, 50, 42, 51, 37, 52]⟩, .string ⟨#[109, 111, 100, 40, 109, 117, 108, 40, 100, 105, 118, 40, 105, 49, 32, 105, 50, 41, 32, 105, 51, 41, 32, 105, 52, 41]⟩, .string ⟨#[49, 43, 50, 42, 51, 45, 52]⟩, .string ⟨#[115, 117, 98, 40, 97, 100, 100, 40, 105, 49, 32, 109, 117, 108, 40, 105, 50, 32, 105, 51, 41, 41, 32, 105, 52, 41]⟩, .string ⟨#[97, 124, 124, 98, 38, 38, 99, 124, 124, 100]⟩, .string ⟨#[111, 114, 40, 111, 114, 40, 118, 58, 97, 32, 97, 110, 100, 40, 118, 58, 98, 32, 118, 58, 99, 41, 41, 32, 118, 58, 100, 41]⟩, .string ⟨#[97, 38, 38, 98, 38, 38, 99]⟩, .string ⟨#[97, 110, 100, 40, 97, 110, 100, 40, 118, 58, 97, 32, 118, 58, 98, 41, 32, 118, 58, 99, 41]⟩, .string ⟨#[49, 60, 50, 38, 38, 51, 60, 61, 52]⟩, .string ⟨#[97, 110, 100, 40, 108, 116, 40, 105, 49, 32, 105, 50, 41, 32, 108, 101, 40, 105, 51, 32, 105, 52, 41, 41]⟩, .string ⟨#[49, 62, 61, 50, 124, 124, 51, 61, 61, 52]⟩, .string ⟨#[111, 114, 40, 108, 101, 40, 105, 50, 32, 105, 49, 41, 32, 101, 113, 40, 105, 51, 32, 105, 52, 41, 41]⟩, .string ⟨#[49, 33, 61, 50]⟩, .string ⟨#[110, 101, 40, 105, 49, 32, 105, 50, 41]⟩, .string ⟨#[40, 49, 60, 50, 41, 60, 51]⟩, .string ⟨#[108, 116, 40, 108, 116, 40, 105, 49, 32, 105, 50, 41, 32, 105, 51, 41]⟩, .string ⟨#[49, 43, 50, 60, 51, 42, 52]⟩, .string ⟨#[108, 116, 40, 97, 100, 100, 40, 105, 49, 32, 105, 50, 41, 32, 109, 117, 108, 40, 105, 51, 32, 105, 52, 41, 41]⟩, .string ⟨#[45, 49, 42, 50]⟩, .string ⟨#[109, 117, 108, 40, 110, 101, 103, 40, 105, 49, 41, 32, 105, 50, 41]⟩, .string ⟨#[45, 40, 49, 43, 50, 41]⟩, .string ⟨#[110, 101, 103, 40, 97, 100, 100, 40, 105, 49, 32, 105, 50, 41, 41]⟩, .string ⟨#[97, 91, 98, 91, 49, 93, 43, 50, 93]⟩, .string ⟨#[120, 58, 97, 40, 97, 100, 100, 40, 120, 58, 98, 40, 105, 49, 41, 32, 105, 50, 41, 41]⟩, .string ⟨#[40, 40, 40, 40, 97, 41, 41, 41, 41]⟩, .string ⟨#[118, 58, 97]⟩, .string ⟨#[49, 62, 50, 62, 61, 51]⟩, .string ⟨#[63]⟩, .string ⟨#[97, 61, 61, 98, 33, 61, 99]⟩, .string ⟨#[63]⟩] := by kernel_rfl
/-- what says answers of a row -/
theorem nam_says (x : ByteArray × ByteArray) (h : namOk x = true) (h1 : x.1.size ≤ 1000) (h2 : x.2.size ≤ 1000) (w : World) (hw : All w) :
    Calls Tryz.prog 12 #[.string x.1, .string x.2] w fun e w' => e = .returned (.bool (!decide (x.2 = ⟨#[63]⟩))) ∧ Below w.heap.size w w' := by
  unfold namOk at h
  by_cases hq : x.2 = ⟨#[63]⟩
  · rw [if_pos hq] at h
    rw [decide_eq_true hq]
    obtain ⟨ds, p, e, hp⟩ : ∃ ds p e, parseP (⟨#[116, 104, 114, 101, 97, 100, 32, 116, 123, 112, 114, 105, 110, 116, 32]⟩ ++ x.1 ++ ⟨#[59, 125]⟩) = (ds, p, e) := ⟨_, _, _, rfl⟩
    rw [hp] at h
    exact says_no x.1 x.2 w (by omega) hw ds p e (of_decide_eq_true h) hp
  · rw [if_neg hq] at h
    rw [decide_eq_false hq]
    split at h
    · rename_i dk dnm dn dps k snm sto snw e sb sl sp dp p er hp
      simp only [Bool.and_eq_true, decide_eq_true_eq] at h
      obtain ⟨⟨⟨⟨rfl, rfl⟩, rfl⟩, h3⟩, h4⟩ := h
      exact says_yes x.1 x.2 w (by omega) hw _ _ _ _ _ _ _ _ e _ _ _ h3 h4 (by omega) hp
    · cases h
set_option maxHeartbeats 4000000 in
set_option maxRecDepth 100000 in
theorem names_c (w : World) (hw : All w) (hSt : ∀ V, All V → Calls Tryz.prog 13 #[] V fun x w' => x = .returned (.bool true) ∧ Below V.heap.size V w') (hLi : ∀ V, All V → Calls Tryz.prog 15 #[] V fun x w' => x = .returned (.bool true) ∧ Below V.heap.size V w') :
    Calls Tryz.prog 3 #[] w fun x w' => x = .returned (.bool true) ∧ Below w.heap.size w w' := by
  have hS := Lib.hid (fun (x : ByteArray × ByteArray) (hx : x ∈ namTab) V (hV : All V) => nam_says x (List.all_eq_true.1 nam_all x hx) (by have := List.all_eq_true.1 nam_sz x hx; simp at this; exact this.1) (by have := List.all_eq_true.1 nam_sz x hx; simp at this; exact this.2) V hV)
  replace hw := Lib.hid hw
  replace hSt := Lib.hid hSt
  replace hLi := Lib.hid hLi
  have hln := nam_len
  go_enter Tryz.func3, Tryz.ntmps3
  go_wp2_with fail
  refine (works_c w hw.out).mono ?_
  rintro e w0 ⟨rfl, hb0⟩
  obtain ⟨W1, hW1⟩ : ∃ W, w0.alloc (.cells ⟨namCells⟩ 23) = W := ⟨_, rfl⟩
  have hb1 : Below w.heap.size w W1 := by rw [← hW1]; exact hb0.alloc hb0.size _
  have hr1 : W1.heap[w0.heap.size]? = some (.cells ⟨namCells⟩ 23 (0, 0)) := by rw [← hW1]; exact World.alloc_heap_new w0 _
  rw [namCells_eq] at hW1
  have hs1 : w0.heap.size < W1.heap.size := cells_lt hr1
  replace hb1 := Lib.hid hb1
  replace hr1 := Lib.hid hr1
  clear hb0
  go_wp2_with fail
  go_loopw [46] (fun v wr => ∃ i : Nat, i ≤ 27 ∧ v = .int .i64 i ∧ Below W1.heap.size W1 wr) (fun v _ => 27 - (intOf v).toNat)
  case atStart => exact ⟨0, by omega, rfl, Below.refl _ _⟩
  case round =>
    obtain ⟨i, hi, rfl, hbr⟩ := hrel
    have hbw := hb1.out.trans (hbr.mono hb1.out.size)
    have hrr := (hbr.block _ hs1).trans hr1.out
    by_cases hlt : i < 27
    · obtain ⟨x, hx⟩ : ∃ x, namTab[i]? = some x := ⟨_, List.getElem?_eq_getElem (by rw [hln]; exact hlt)⟩
      obtain ⟨c0, c1⟩ := nam_cell i x hx
      have d0 : wr.cell? ⟨w0.heap.size, i * 2, none⟩ = some (.string x.1) := blk_cell hrr (by simpa using c0)
      have d1 : wr.cell? ⟨w0.heap.size, i * 2 + 1, none⟩ = some (.string x.2) := blk_cell hrr (by simpa using c1)
      have hBx := Lib.hid (hS.out x (List.mem_of_getElem? hx))
      obtain ⟨s, t⟩ := x
      have hi0 : (0 : Int) ≤ (i : Int) := by omega
      have hi1 : (i : Int) < 27 := by omega
      have hbo := hbw.alloc hbw.size (.cells #[.string s, .string t] 23)
      have hro : (wr.alloc (.cells #[.string s, .string t] 23)).heap[wr.heap.size]? = some (.cells #[.string s, .string t] 23 (0, 0)) := World.alloc_heap_new wr _
      obtain ⟨W2, hW2⟩ : ∃ W, wr.alloc (.cells #[.string s, .string t] 23) = W := ⟨_, rfl⟩
      have hbr2 : Below W1.heap.size W1 W2 := by rw [← hW2]; exact hbr.alloc hbr.size _
      rw [hW2] at hbo hro
      replace hbw := Lib.hid hbw
      replace hbr2 := Lib.hid hbr2
      clear c0 c1 hrr hx hbr
      go_wp2_with fail
      have hbd : Below w.heap.size w W2.drew := hbo.trans (Below.drew (Below.refl _ _))
      have hrd : W2.drew.heap[wr.heap.size]? = some (.cells #[.string s, .string t] 23 (0, 0)) := hro
      have hSS : (fun V : World => V.cell? ⟨wr.heap.size, 0, none⟩ = some (.string s) ∧ V.cell? ⟨wr.heap.size, 1, none⟩ = some (.string t)) W2.drew := ⟨blk_cell hrd rfl, blk_cell hrd rfl⟩
      have hCl := Lib.hid (hBx.out W2.drew (hw.out.below hbd))
      have hbr3 := Lib.hid (hbr2.out.trans (Below.drew (Below.refl _ _)))
      replace hbd := Lib.hid hbd
      replace hrd := Lib.hid hrd
      clear hbo hro hbr2 hW2
      by_cases hq : t = ⟨#[63]⟩
      · subst hq
        rw [decide_eq_true rfl] at hCl
        refine wp_region_noPanic ?_
        refine wp_region_held_drew (S := (fun V : World => V.cell? ⟨wr.heap.size, 0, none⟩ = some (.string s) ∧ V.cell? ⟨wr.heap.size, 1, none⟩ = some (.string ⟨#[63]⟩))) (by kernel_rfl) hSS (fun hHeld => ?_)
        refine' wpAnyH_take (i := 0) (oi := _) (v := _) rfl (by kernel_rfl) (by kernel_rfl) (by kernel_rfl) (fun _ _ _ h => h) (Or.inl ⟨by rfl, ?hyp0⟩) (by assumption) ?restp0
        case hyp0 => (intro w hSw; obtain ⟨s0, s1⟩ := hSw; go_simp; all_goals (with_reducible rfl))
        try simp only [Act.put, List.getElem_toArray, List.getElem_cons_zero, List.setIfInBounds_toArray, List.set_cons_zero, List.set_cons_succ]
        refine' wpAnyH_take (i := 1) (oi := _) (v := _) rfl (by kernel_rfl) (by kernel_rfl) (by kernel_rfl) (fun _ _ _ h => h) (Or.inl ⟨by rfl, ?hyp1⟩) (by assumption) ?restp1
        case hyp1 => (intro w hSw; obtain ⟨s0, s1⟩ := hSw; go_simp; all_goals (with_reducible rfl))
        try simp only [Act.put, List.getElem_toArray, List.getElem_cons_zero, List.getElem_cons_succ, List.setIfInBounds_toArray, List.set_cons_zero, List.set_cons_succ]
        refine' wpAnyH_take (i := 2) (oi := _) (v := _) rfl (by kernel_rfl) (by kernel_rfl) (by kernel_rfl) (fun _ _ _ h => h) (Or.inl ⟨by rfl, ?hyp2⟩) (by assumption) ?restp2
        case hyp2 => (intro w hSw; obtain ⟨s0, s1⟩ := hSw; go_simp; all_goals (with_reducible rfl))
        try simp only [Act.put, List.getElem_toArray, List.getElem_cons_zero, List.getElem_cons_succ, List.setIfInBounds_toArray, List.set_cons_zero, List.set_cons_succ]
        refine' wpAnyH_take (i := 3) (oi := _) (v := _) rfl (by kernel_rfl) (by kernel_rfl) (by kernel_rfl) (fun _ _ _ h => h) (Or.inl ⟨by rfl, ?hyp3⟩) (by assumption) ?restp3
        case hyp3 => (intro w hSw; obtain ⟨s0, s1⟩ := hSw; go_simp; all_goals (with_reducible rfl))
        try simp only [Act.put, List.getElem_toArray, List.getElem_cons_zero, List.getElem_cons_succ, List.setIfInBounds_toArray, List.set_cons_zero, List.set_cons_succ]
        refine' wpAnyH_take (i := 5) (oi := _) (v := _) rfl (by kernel_rfl) (by kernel_rfl) (by kernel_rfl) (fun _ _ _ h => h) (Or.inl ⟨by rfl, ?hyp5⟩) (by assumption) ?restp5
        case hyp5 => (intro w hSw; obtain ⟨s0, s1⟩ := hSw; go_simp; all_goals (with_reducible rfl))
        try simp only [Act.put, List.getElem_toArray, List.getElem_cons_zero, List.getElem_cons_succ, List.setIfInBounds_toArray, List.set_cons_zero, List.set_cons_succ]
        refine' wpAnyH_take (i := 6) (oi := _) (v := _) rfl (by kernel_rfl) (by kernel_rfl) (by kernel_rfl) (fun _ _ _ h => h) (Or.inl ⟨by rfl, ?hyp6⟩) (by assumption) ?restp6
        case hyp6 => (intro w hSw; obtain ⟨s0, s1⟩ := hSw; go_simp; all_goals (with_reducible rfl))
        try simp only [Act.put, List.getElem_toArray, List.getElem_cons_zero, List.getElem_cons_succ, List.setIfInBounds_toArray, List.set_cons_zero, List.set_cons_succ]
        refine' wpAnyH_take (i := 7) (oi := _) (v := _) rfl (by kernel_rfl) (by kernel_rfl) (by kernel_rfl) (fun _ _ _ h => h) (Or.inl ⟨by rfl, ?hyp7⟩) (by assumption) ?restp7
        case hyp7 => (intro w hSw; obtain ⟨s0, s1⟩ := hSw; go_simp; all_goals (with_reducible rfl))
        try simp only [Act.put, List.getElem_toArray, List.getElem_cons_zero, List.getElem_cons_succ, List.setIfInBounds_toArray, List.set_cons_zero, List.set_cons_succ]
        refine wpAnyH_ready (rs := [4]) (by kernel_rfl) (by simp) ?_
        refine AllReadyH.cons (o := _) rfl (fun K hK => ?_) AllReadyH.nil
        go_simp
        go_at_call 12
        refine hCl.out.mono ?_
        rintro e w7 ⟨rfl, hb7⟩
        have hr7 := (hb7.block _ (cells_lt hrd.out)).trans hrd.out
        have hS7 : (fun V : World => V.cell? ⟨wr.heap.size, 0, none⟩ = some (.string s) ∧ V.cell? ⟨wr.heap.size, 1, none⟩ = some (.string ⟨#[63]⟩)) w7 := ⟨blk_cell hr7 rfl, blk_cell hr7 rfl⟩
        refine hK.out _ _ hS7 (fun hHeld => ?_)
        clear hK K
        have hb8 := Lib.hid (hbr3.out.trans (hb7.mono hbr3.out.size))
        clear hb7 hr7 hbr3 hCl
        try simp only [Act.put, List.getElem_toArray, List.getElem_cons_zero, List.getElem_cons_succ, List.setIfInBounds_toArray, List.set_cons_zero, List.set_cons_succ]
        refine' wpAnyH_take (i := 8) (oi := _) (v := _) rfl (by kernel_rfl) (by kernel_rfl) (by kernel_rfl) (fun _ _ _ h => h) (Or.inl ⟨by rfl, ?hyp8⟩) (by assumption) ?restp8
        case hyp8 => (intro w hSw; obtain ⟨s0, s1⟩ := hSw; go_simp; all_goals (with_reducible rfl))
        try simp only [Act.put, List.getElem_toArray, List.getElem_cons_zero, List.getElem_cons_succ, List.setIfInBounds_toArray, List.set_cons_zero, List.set_cons_succ]
        refine wpAnyH_done (by kernel_rfl) ?_ _
        refine NoPanic.normal ?_
        clear hS7 hSS
        go_wp2_with fail
        go_roundw
        case rel => exact ⟨i + 1, by omega, by go_num, hb8.out⟩
        case measure => simp [intOf]; omega
      · have hx : (t.toList == [63]) = false := by have h := str_ne hq; rw [Lib.toList_data ⟨#[63]⟩] at h; exact h
        rw [decide_eq_false hq] at hCl
        refine wp_region_noPanic ?_
        refine wp_region_held_drew (S := (fun V : World => V.cell? ⟨wr.heap.size, 0, none⟩ = some (.string s) ∧ V.cell? ⟨wr.heap.size, 1, none⟩ = some (.string t))) (by kernel_rfl) hSS (fun hHeld => ?_)
        refine' wpAnyH_take (i := 0) (oi := _) (v := _) rfl (by kernel_rfl) (by kernel_rfl) (by kernel_rfl) (fun _ _ _ h => h) (Or.inl ⟨by rfl, ?hym0⟩) (by assumption) ?restm0
        case hym0 => (intro w hSw; obtain ⟨s0, s1⟩ := hSw; go_simp; all_goals (with_reducible rfl))
        try simp only [Act.put, List.getElem_toArray, List.getElem_cons_zero, List.setIfInBounds_toArray, List.set_cons_zero, List.set_cons_succ]
        refine' wpAnyH_take (i := 1) (oi := _) (v := _) rfl (by kernel_rfl) (by kernel_rfl) (by kernel_rfl) (fun _ _ _ h => h) (Or.inl ⟨by rfl, ?hym1⟩) (by assumption) ?restm1
        case hym1 => (intro w hSw; obtain ⟨s0, s1⟩ := hSw; go_simp; all_goals (with_reducible rfl))
        try simp only [Act.put, List.getElem_toArray, List.getElem_cons_zero, List.getElem_cons_succ, List.setIfInBounds_toArray, List.set_cons_zero, List.set_cons_succ]
        refine' wpAnyH_take (i := 2) (oi := _) (v := _) rfl (by kernel_rfl) (by kernel_rfl) (by kernel_rfl) (fun _ _ _ h => h) (Or.inl ⟨by rfl, ?hym2⟩) (by assumption) ?restm2
        case hym2 => (intro w hSw; obtain ⟨s0, s1⟩ := hSw; go_simp; all_goals (with_reducible rfl))
        try simp only [Act.put, List.getElem_toArray, List.getElem_cons_zero, List.getElem_cons_succ, List.setIfInBounds_toArray, List.set_cons_zero, List.set_cons_succ]
        refine' wpAnyH_take (i := 3) (oi := _) (v := _) rfl (by kernel_rfl) (by kernel_rfl) (by kernel_rfl) (fun _ _ _ h => h) (Or.inl ⟨by rfl, ?hym3⟩) (by assumption) ?restm3
        case hym3 => (intro w hSw; obtain ⟨s0, s1⟩ := hSw; go_simp; all_goals (with_reducible rfl))
        try simp only [Act.put, List.getElem_toArray, List.getElem_cons_zero, List.getElem_cons_succ, List.setIfInBounds_toArray, List.set_cons_zero, List.set_cons_succ]
        refine' wpAnyH_take (i := 5) (oi := _) (v := _) rfl (by kernel_rfl) (by kernel_rfl) (by kernel_rfl) (fun _ _ _ h => h) (Or.inl ⟨by rfl, ?hym5⟩) (by assumption) ?restm5
        case hym5 => (intro w hSw; obtain ⟨s0, s1⟩ := hSw; go_simp; all_goals (with_reducible rfl))
        try simp only [Act.put, List.getElem_toArray, List.getElem_cons_zero, List.getElem_cons_succ, List.setIfInBounds_toArray, List.set_cons_zero, List.set_cons_succ]
        refine' wpAnyH_take (i := 6) (oi := _) (v := _) rfl (by kernel_rfl) (by kernel_rfl) (by kernel_rfl) (fun _ _ _ h => h) (Or.inl ⟨by rfl, ?hym6⟩) (by assumption) ?restm6
        case hym6 => (intro w hSw; obtain ⟨s0, s1⟩ := hSw; go_simp; all_goals (with_reducible rfl))
        try simp only [Act.put, List.getElem_toArray, List.getElem_cons_zero, List.getElem_cons_succ, List.setIfInBounds_toArray, List.set_cons_zero, List.set_cons_succ]
        refine' wpAnyH_take (i := 7) (oi := _) (v := _) rfl (by kernel_rfl) (by kernel_rfl) (by kernel_rfl) (fun _ _ _ h => h) (Or.inl ⟨by rfl, ?hym7⟩) (by assumption) ?restm7
        case hym7 => (intro w hSw; obtain ⟨s0, s1⟩ := hSw; go_simp; all_goals (with_reducible rfl))
        try simp only [Act.put, List.getElem_toArray, List.getElem_cons_zero, List.getElem_cons_succ, List.setIfInBounds_toArray, List.set_cons_zero, List.set_cons_succ]
        refine wpAnyH_ready (rs := [4]) (by kernel_rfl) (by simp) ?_
        refine AllReadyH.cons (o := _) rfl (fun K hK => ?_) AllReadyH.nil
        go_simp
        go_at_call 12
        refine hCl.out.mono ?_
        rintro e w7 ⟨rfl, hb7⟩
        have hr7 := (hb7.block _ (cells_lt hrd.out)).trans hrd.out
        have hS7 : (fun V : World => V.cell? ⟨wr.heap.size, 0, none⟩ = some (.string s) ∧ V.cell? ⟨wr.heap.size, 1, none⟩ = some (.string t)) w7 := ⟨blk_cell hr7 rfl, blk_cell hr7 rfl⟩
        refine hK.out _ _ hS7 (fun hHeld => ?_)
        clear hK K
        have hb8 := Lib.hid (hbr3.out.trans (hb7.mono hbr3.out.size))
        clear hb7 hr7 hbr3 hCl
        try simp only [Act.put, List.getElem_toArray, List.getElem_cons_zero, List.getElem_cons_succ, List.setIfInBounds_toArray, List.set_cons_zero, List.set_cons_succ]
        refine' wpAnyH_take (i := 8) (oi := _) (v := _) rfl (by kernel_rfl) (by kernel_rfl) (by kernel_rfl) (fun _ _ _ h => h) (Or.inl ⟨by rfl, ?hym8⟩) (by assumption) ?restm8
        case hym8 => (intro w hSw; obtain ⟨s0, s1⟩ := hSw; go_simp; all_goals (with_reducible rfl))
        try simp only [Act.put, List.getElem_toArray, List.getElem_cons_zero, List.getElem_cons_succ, List.setIfInBounds_toArray, List.set_cons_zero, List.set_cons_succ]
        refine wpAnyH_done (by kernel_rfl) ?_ _
        refine NoPanic.normal ?_
        clear hS7 hSS
        go_wp2_with fail
        go_roundw
        case rel => exact ⟨i + 1, by omega, by go_num, hb8.out⟩
        case measure => simp [intOf]; omega
    · have hi1 : ¬ (i : Int) < 27 := by omega
      replace hbw := Lib.hid hbw
      clear hrr hbr
      go_wp2_with fail
      refine (hSt.out wr (hw.out.below hbw.out)).mono ?_
      rintro e w3 ⟨rfl, hb3⟩
      have hb03 := Lib.hid (hbw.out.trans (hb3.mono hbw.out.size))
      clear hb3 hbw
      go_wp2_with fail
      refine (refused_c w3 (hw.out.below hb03.out)).mono ?_
      rintro e w4 ⟨rfl, hb4⟩
      have hb04 := Lib.hid (hb03.out.trans (hb4.mono hb03.out.size))
      clear hb4 hb03
      go_wp2_with fail
      refine (hLi.out w4 (hw.out.below hb04.out)).mono ?_
      rintro e w5 ⟨rfl, hb5⟩
      have hb05 := Lib.hid (hb04.out.trans (hb5.mono hb04.out.size))
      clear hb5 hb04
      go_wp2_with fail
      go_ret
      exact ⟨rfl, hb05.out⟩
end Go.Proofs.YtfhmhplbkheojaaGreatDoor.Pa
