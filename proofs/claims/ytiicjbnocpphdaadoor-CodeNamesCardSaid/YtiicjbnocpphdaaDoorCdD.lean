/- Walk of code.mayNumber. Conditions: the package's table holds its list. -/
import Derived.Test.YtiicjbnocpphdaaDoorCdC
namespace Go.Proofs.YtiicjbnocpphdaaDoor.Cd
open Go Go.RowKit
open Go.Proofs.YtiicjbnocpphdaaDoor.Lx Go.Proofs.YtiicjbnocpphdaaDoor.Tr Go.Proofs.YtiicjbnocpphdaaDoor.Rg

theorem numK_cases (op : Int) : numK op = 0 ∨ numK op = 1 ∨ numK op = 2 ∨ numK op = 3 ∨ numK op = 4 ∨ numK op = 5 ∨ numK op = 6 ∨ numK op = 7 := by
  unfold numK
  repeat' split
  all_goals simp
theorem fit_fin (A : Bool × Int) (l : Nat) (x : Bool) (c : Int) (h : A = (x, c)) : (A.1 && decide ((l : Int) = A.2)) = (x && decide ((l : Int) = c)) := by rw [h]

set_option maxRecDepth 100000 in
set_option maxHeartbeats 8000000 in
theorem mayNum_none (p : Pg) (f : Fn) (i : Ins) (w : World) (hi : U8 i.op) (hT : OpTab w) (hK : numK i.op = 0) :
    Calls Tryd.prog 26 #[p.val, f.val, i.val] w fun e w' => e = .returned (.bool (numP p f i)) ∧ Below w.heap.size w w' := by
  have hn := fun W (hb : Below w.heap.size w W) => namesOf_any i.op W hi (hT.keep hb)
  unfold nmV at hn
  rw [hK] at hn
  have hfit : numP p f i = _ := fit_fin (fitP p f i) i.args.length _ _ (by unfold fitP; simp only [hK]; rfl)
  rw [hfit]
  clear hfit hT
  generalize hasR i.op = xR at *
  generalize hasA i.op = xA at *
  generalize hasB i.op = xB at *
  generalize hasF i.op = xF at *
  replace hn := Lib.hid hn
  by_cases h1 : i.n = 0
  · rw [decide_eq_true h1]
    go_enter Tryd.func26, Tryd.ntmps26
    go_wp2_with fail
    refine (hn.out _ (b_alloc3 _ _ _ _)).mono ?_
    rintro e w1 ⟨rfl, hb1⟩
    obtain ⟨hc, hf⟩ := bcell hb1
    have hlt : w.heap.size + 2 < w1.heap.size := by have := hb1.size; simp at this; omega
    have hlt1 : w.heap.size + 1 < w1.heap.size := by omega
    have hlt0 : w.heap.size < w1.heap.size := by omega
    have hfl := fl_nm4 w1
    have hbb := Lib.hid (b_next3 hb1)
    clear hb1
    go_wp2_with fail
    go_ret
    exact ⟨ret_bool (by rw [Bool.eq_iff_iff] <;> simp [*]), hbb.out⟩
  · rw [decide_eq_false h1]
    go_enter Tryd.func26, Tryd.ntmps26
    go_wp2_with fail
    refine (hn.out _ (b_alloc3 _ _ _ _)).mono ?_
    rintro e w1 ⟨rfl, hb1⟩
    obtain ⟨hc, hf⟩ := bcell hb1
    have hlt : w.heap.size + 2 < w1.heap.size := by have := hb1.size; simp at this; omega
    have hlt1 : w.heap.size + 1 < w1.heap.size := by omega
    have hlt0 : w.heap.size < w1.heap.size := by omega
    have hfl := fl_nm4 w1
    have hbb := Lib.hid (b_next3 hb1)
    clear hb1
    go_wp2_with fail
    go_ret
    exact ⟨ret_bool (by rw [Bool.eq_iff_iff] <;> simp [*]), hbb.out⟩
set_option maxRecDepth 100000 in
set_option maxHeartbeats 8000000 in
theorem mayNum_any1 (p : Pg) (f : Fn) (i : Ins) (w : World) (hi : U8 i.op) (hT : OpTab w) (hK : numK i.op = 1) :
    Calls Tryd.prog 26 #[p.val, f.val, i.val] w fun e w' => e = .returned (.bool (numP p f i)) ∧ Below w.heap.size w w' := by
  have hn := fun W (hb : Below w.heap.size w W) => namesOf_any i.op W hi (hT.keep hb)
  unfold nmV at hn
  rw [hK] at hn
  have hfit : numP p f i = _ := fit_fin (fitP p f i) i.args.length _ _ (by unfold fitP; simp only [hK]; rfl)
  rw [hfit]
  clear hfit hT
  generalize hasR i.op = xR at *
  generalize hasA i.op = xA at *
  generalize hasB i.op = xB at *
  generalize hasF i.op = xF at *
  replace hn := Lib.hid hn
  go_enter Tryd.func26, Tryd.ntmps26
  go_wp2_with fail
  refine (hn.out _ (b_alloc3 _ _ _ _)).mono ?_
  rintro e w1 ⟨rfl, hb1⟩
  obtain ⟨hc, hf⟩ := bcell hb1
  have hlt : w.heap.size + 2 < w1.heap.size := by have := hb1.size; simp at this; omega
  have hlt1 : w.heap.size + 1 < w1.heap.size := by omega
  have hlt0 : w.heap.size < w1.heap.size := by omega
  have hfl := fl_nm4 w1
  have hbb := Lib.hid (b_next3 hb1)
  clear hb1
  go_wp2_with fail
  go_ret
  exact ⟨ret_bool (by rw [Bool.eq_iff_iff] <;> simp [*]), hbb.out⟩
set_option maxRecDepth 100000 in
set_option maxHeartbeats 8000000 in
theorem mayNum_one (p : Pg) (f : Fn) (i : Ins) (w : World) (hi : U8 i.op) (hT : OpTab w) (hK : numK i.op = 2) :
    Calls Tryd.prog 26 #[p.val, f.val, i.val] w fun e w' => e = .returned (.bool (numP p f i)) ∧ Below w.heap.size w w' := by
  have hn := fun W (hb : Below w.heap.size w W) => namesOf_any i.op W hi (hT.keep hb)
  unfold nmV at hn
  rw [hK] at hn
  have hfit : numP p f i = _ := fit_fin (fitP p f i) i.args.length _ _ (by unfold fitP; simp only [hK]; rfl)
  rw [hfit]
  clear hfit hT
  generalize hasR i.op = xR at *
  generalize hasA i.op = xA at *
  generalize hasB i.op = xB at *
  generalize hasF i.op = xF at *
  replace hn := Lib.hid hn
  by_cases h5 : i.n = 5
  · rw [decide_eq_true h5]
    go_enter Tryd.func26, Tryd.ntmps26
    go_wp2_with fail
    refine (hn.out _ (b_alloc3 _ _ _ _)).mono ?_
    rintro e w1 ⟨rfl, hb1⟩
    obtain ⟨hc, hf⟩ := bcell hb1
    have hlt : w.heap.size + 2 < w1.heap.size := by have := hb1.size; simp at this; omega
    have hlt1 : w.heap.size + 1 < w1.heap.size := by omega
    have hlt0 : w.heap.size < w1.heap.size := by omega
    have hfl := fl_nm4 w1
    have hbb := Lib.hid (b_next3 hb1)
    clear hb1
    go_wp2_with fail
    go_ret
    exact ⟨ret_bool (by rw [Bool.eq_iff_iff] <;> simp [*]), hbb.out⟩
  · rw [decide_eq_false h5]
    by_cases h6 : i.n = 6
    · rw [decide_eq_true h6]
      go_enter Tryd.func26, Tryd.ntmps26
      go_wp2_with fail
      refine (hn.out _ (b_alloc3 _ _ _ _)).mono ?_
      rintro e w1 ⟨rfl, hb1⟩
      obtain ⟨hc, hf⟩ := bcell hb1
      have hlt : w.heap.size + 2 < w1.heap.size := by have := hb1.size; simp at this; omega
      have hlt1 : w.heap.size + 1 < w1.heap.size := by omega
      have hlt0 : w.heap.size < w1.heap.size := by omega
      have hfl := fl_nm4 w1
      have hbb := Lib.hid (b_next3 hb1)
      clear hb1
      go_wp2_with fail
      go_ret
      exact ⟨ret_bool (by rw [Bool.eq_iff_iff] <;> simp [*]), hbb.out⟩
    · rw [decide_eq_false h6]
      go_enter Tryd.func26, Tryd.ntmps26
      go_wp2_with fail
      refine (hn.out _ (b_alloc3 _ _ _ _)).mono ?_
      rintro e w1 ⟨rfl, hb1⟩
      obtain ⟨hc, hf⟩ := bcell hb1
      have hlt : w.heap.size + 2 < w1.heap.size := by have := hb1.size; simp at this; omega
      have hlt1 : w.heap.size + 1 < w1.heap.size := by omega
      have hlt0 : w.heap.size < w1.heap.size := by omega
      have hfl := fl_nm4 w1
      have hbb := Lib.hid (b_next3 hb1)
      clear hb1
      go_wp2_with fail
      go_ret
      exact ⟨ret_bool (by rw [Bool.eq_iff_iff] <;> simp [*]), hbb.out⟩
set_option maxRecDepth 100000 in
set_option maxHeartbeats 8000000 in
theorem mayNum_two (p : Pg) (f : Fn) (i : Ins) (w : World) (hi : U8 i.op) (hT : OpTab w) (hK : numK i.op = 3) :
    Calls Tryd.prog 26 #[p.val, f.val, i.val] w fun e w' => e = .returned (.bool (numP p f i)) ∧ Below w.heap.size w w' := by
  have hn := fun W (hb : Below w.heap.size w W) => namesOf_any i.op W hi (hT.keep hb)
  unfold nmV at hn
  rw [hK] at hn
  have hfit : numP p f i = _ := fit_fin (fitP p f i) i.args.length _ _ (by unfold fitP; simp only [hK]; rfl)
  rw [hfit]
  clear hfit hT
  generalize hasR i.op = xR at *
  generalize hasA i.op = xA at *
  generalize hasB i.op = xB at *
  generalize hasF i.op = xF at *
  replace hn := Lib.hid hn
  by_cases h5 : 7 ≤ i.n
  · rw [decide_eq_true h5]
    by_cases h6 : i.n ≤ 17
    · rw [decide_eq_true h6]
      go_enter Tryd.func26, Tryd.ntmps26
      go_wp2_with fail
      refine (hn.out _ (b_alloc3 _ _ _ _)).mono ?_
      rintro e w1 ⟨rfl, hb1⟩
      obtain ⟨hc, hf⟩ := bcell hb1
      have hlt : w.heap.size + 2 < w1.heap.size := by have := hb1.size; simp at this; omega
      have hlt1 : w.heap.size + 1 < w1.heap.size := by omega
      have hlt0 : w.heap.size < w1.heap.size := by omega
      have hfl := fl_nm4 w1
      have hbb := Lib.hid (b_next3 hb1)
      clear hb1
      go_wp2_with fail
      go_ret
      exact ⟨ret_bool (by rw [Bool.eq_iff_iff] <;> simp [*]), hbb.out⟩
    · rw [decide_eq_false h6]
      go_enter Tryd.func26, Tryd.ntmps26
      go_wp2_with fail
      refine (hn.out _ (b_alloc3 _ _ _ _)).mono ?_
      rintro e w1 ⟨rfl, hb1⟩
      obtain ⟨hc, hf⟩ := bcell hb1
      have hlt : w.heap.size + 2 < w1.heap.size := by have := hb1.size; simp at this; omega
      have hlt1 : w.heap.size + 1 < w1.heap.size := by omega
      have hlt0 : w.heap.size < w1.heap.size := by omega
      have hfl := fl_nm4 w1
      have hbb := Lib.hid (b_next3 hb1)
      clear hb1
      go_wp2_with fail
      go_ret
      exact ⟨ret_bool (by rw [Bool.eq_iff_iff] <;> simp [*]), hbb.out⟩
  · rw [decide_eq_false h5]
    go_enter Tryd.func26, Tryd.ntmps26
    go_wp2_with fail
    refine (hn.out _ (b_alloc3 _ _ _ _)).mono ?_
    rintro e w1 ⟨rfl, hb1⟩
    obtain ⟨hc, hf⟩ := bcell hb1
    have hlt : w.heap.size + 2 < w1.heap.size := by have := hb1.size; simp at this; omega
    have hlt1 : w.heap.size + 1 < w1.heap.size := by omega
    have hlt0 : w.heap.size < w1.heap.size := by omega
    have hfl := fl_nm4 w1
    have hbb := Lib.hid (b_next3 hb1)
    clear hb1
    go_wp2_with fail
    go_ret
    exact ⟨ret_bool (by rw [Bool.eq_iff_iff] <;> simp [*]), hbb.out⟩
set_option maxRecDepth 100000 in
set_option maxHeartbeats 8000000 in
theorem mayNum_mem (p : Pg) (f : Fn) (i : Ins) (w : World) (hi : U8 i.op) (hT : OpTab w) (hK : numK i.op = 4) :
    Calls Tryd.prog 26 #[p.val, f.val, i.val] w fun e w' => e = .returned (.bool (numP p f i)) ∧ Below w.heap.size w w' := by
  have hn := fun W (hb : Below w.heap.size w W) => namesOf_any i.op W hi (hT.keep hb)
  unfold nmV at hn
  rw [hK] at hn
  have hfit : numP p f i = _ := fit_fin (fitP p f i) i.args.length _ _ (by unfold fitP; simp only [hK]; rfl)
  rw [hfit]
  clear hfit hT
  generalize hasR i.op = xR at *
  generalize hasA i.op = xA at *
  generalize hasB i.op = xB at *
  generalize hasF i.op = xF at *
  replace hn := Lib.hid hn
  have hwi := fun W => within_any i.n p.mems.length W
  generalize inP i.n p.mems.length = x at *
  replace hwi := Lib.hid hwi
  cases x
  · go_enter Tryd.func26, Tryd.ntmps26
    go_wp2_with fail
    refine (hn.out _ (b_alloc3 _ _ _ _)).mono ?_
    rintro e w1 ⟨rfl, hb1⟩
    obtain ⟨hc, hf⟩ := bcell hb1
    have hlt : w.heap.size + 2 < w1.heap.size := by have := hb1.size; simp at this; omega
    have hlt1 : w.heap.size + 1 < w1.heap.size := by omega
    have hlt0 : w.heap.size < w1.heap.size := by omega
    have hfl := fl_nm4 w1
    have hbb := Lib.hid (b_next3 hb1)
    clear hb1
    go_wp2_with fail
    refine (hwi.out _).mono ?_
    rintro e w2 ⟨rfl, hb2⟩
    obtain ⟨hc2, hf2⟩ := bcell hb2
    have hl2 := hb2.size
    have hbb2 := Lib.hid (hbb.out.trans (hb2.mono hbb.out.size))
    clear hb2 hbb
    go_wp2_with fail
    go_ret
    exact ⟨ret_bool (by rw [Bool.eq_iff_iff] <;> simp [*]), hbb2.out⟩
  · go_enter Tryd.func26, Tryd.ntmps26
    go_wp2_with fail
    refine (hn.out _ (b_alloc3 _ _ _ _)).mono ?_
    rintro e w1 ⟨rfl, hb1⟩
    obtain ⟨hc, hf⟩ := bcell hb1
    have hlt : w.heap.size + 2 < w1.heap.size := by have := hb1.size; simp at this; omega
    have hlt1 : w.heap.size + 1 < w1.heap.size := by omega
    have hlt0 : w.heap.size < w1.heap.size := by omega
    have hfl := fl_nm4 w1
    have hbb := Lib.hid (b_next3 hb1)
    clear hb1
    go_wp2_with fail
    refine (hwi.out _).mono ?_
    rintro e w2 ⟨rfl, hb2⟩
    obtain ⟨hc2, hf2⟩ := bcell hb2
    have hl2 := hb2.size
    have hbb2 := Lib.hid (hbb.out.trans (hb2.mono hbb.out.size))
    clear hb2 hbb
    go_wp2_with fail
    go_ret
    exact ⟨ret_bool (by rw [Bool.eq_iff_iff] <;> simp [*]), hbb2.out⟩
set_option maxRecDepth 100000 in
set_option maxHeartbeats 8000000 in
theorem mayNum_lock (p : Pg) (f : Fn) (i : Ins) (w : World) (hi : U8 i.op) (hT : OpTab w) (hK : numK i.op = 5) :
    Calls Tryd.prog 26 #[p.val, f.val, i.val] w fun e w' => e = .returned (.bool (numP p f i)) ∧ Below w.heap.size w w' := by
  have hn := fun W (hb : Below w.heap.size w W) => namesOf_any i.op W hi (hT.keep hb)
  unfold nmV at hn
  rw [hK] at hn
  have hfit : numP p f i = _ := fit_fin (fitP p f i) i.args.length _ _ (by unfold fitP; simp only [hK]; rfl)
  rw [hfit]
  clear hfit hT
  generalize hasR i.op = xR at *
  generalize hasA i.op = xA at *
  generalize hasB i.op = xB at *
  generalize hasF i.op = xF at *
  replace hn := Lib.hid hn
  have hwi := fun W => within_any i.n p.locks.length W
  generalize inP i.n p.locks.length = x at *
  replace hwi := Lib.hid hwi
  cases x
  · go_enter Tryd.func26, Tryd.ntmps26
    go_wp2_with fail
    refine (hn.out _ (b_alloc3 _ _ _ _)).mono ?_
    rintro e w1 ⟨rfl, hb1⟩
    obtain ⟨hc, hf⟩ := bcell hb1
    have hlt : w.heap.size + 2 < w1.heap.size := by have := hb1.size; simp at this; omega
    have hlt1 : w.heap.size + 1 < w1.heap.size := by omega
    have hlt0 : w.heap.size < w1.heap.size := by omega
    have hfl := fl_nm4 w1
    have hbb := Lib.hid (b_next3 hb1)
    clear hb1
    go_wp2_with fail
    refine (hwi.out _).mono ?_
    rintro e w2 ⟨rfl, hb2⟩
    obtain ⟨hc2, hf2⟩ := bcell hb2
    have hl2 := hb2.size
    have hbb2 := Lib.hid (hbb.out.trans (hb2.mono hbb.out.size))
    clear hb2 hbb
    go_wp2_with fail
    go_ret
    exact ⟨ret_bool (by rw [Bool.eq_iff_iff] <;> simp [*]), hbb2.out⟩
  · go_enter Tryd.func26, Tryd.ntmps26
    go_wp2_with fail
    refine (hn.out _ (b_alloc3 _ _ _ _)).mono ?_
    rintro e w1 ⟨rfl, hb1⟩
    obtain ⟨hc, hf⟩ := bcell hb1
    have hlt : w.heap.size + 2 < w1.heap.size := by have := hb1.size; simp at this; omega
    have hlt1 : w.heap.size + 1 < w1.heap.size := by omega
    have hlt0 : w.heap.size < w1.heap.size := by omega
    have hfl := fl_nm4 w1
    have hbb := Lib.hid (b_next3 hb1)
    clear hb1
    go_wp2_with fail
    refine (hwi.out _).mono ?_
    rintro e w2 ⟨rfl, hb2⟩
    obtain ⟨hc2, hf2⟩ := bcell hb2
    have hl2 := hb2.size
    have hbb2 := Lib.hid (hbb.out.trans (hb2.mono hbb.out.size))
    clear hb2 hbb
    go_wp2_with fail
    go_ret
    exact ⟨ret_bool (by rw [Bool.eq_iff_iff] <;> simp [*]), hbb2.out⟩
set_option maxRecDepth 100000 in
set_option maxHeartbeats 8000000 in
theorem mayNum_goal (p : Pg) (f : Fn) (i : Ins) (w : World) (hi : U8 i.op) (hT : OpTab w) (hK : numK i.op = 7) :
    Calls Tryd.prog 26 #[p.val, f.val, i.val] w fun e w' => e = .returned (.bool (numP p f i)) ∧ Below w.heap.size w w' := by
  have hn := fun W (hb : Below w.heap.size w W) => namesOf_any i.op W hi (hT.keep hb)
  unfold nmV at hn
  rw [hK] at hn
  have hfit : numP p f i = _ := fit_fin (fitP p f i) i.args.length _ _ (by unfold fitP; simp only [hK]; rfl)
  rw [hfit]
  clear hfit hT
  generalize hasR i.op = xR at *
  generalize hasA i.op = xA at *
  generalize hasB i.op = xB at *
  generalize hasF i.op = xF at *
  replace hn := Lib.hid hn
  have hwi := fun W => within_any i.n f.code.length W
  generalize inP i.n f.code.length = x at *
  replace hwi := Lib.hid hwi
  cases x
  · go_enter Tryd.func26, Tryd.ntmps26
    go_wp2_with fail
    refine (hn.out _ (b_alloc3 _ _ _ _)).mono ?_
    rintro e w1 ⟨rfl, hb1⟩
    obtain ⟨hc, hf⟩ := bcell hb1
    have hlt : w.heap.size + 2 < w1.heap.size := by have := hb1.size; simp at this; omega
    have hlt1 : w.heap.size + 1 < w1.heap.size := by omega
    have hlt0 : w.heap.size < w1.heap.size := by omega
    have hfl := fl_nm4 w1
    have hbb := Lib.hid (b_next3 hb1)
    clear hb1
    go_wp2_with fail
    refine (hwi.out _).mono ?_
    rintro e w2 ⟨rfl, hb2⟩
    obtain ⟨hc2, hf2⟩ := bcell hb2
    have hl2 := hb2.size
    have hbb2 := Lib.hid (hbb.out.trans (hb2.mono hbb.out.size))
    clear hb2 hbb
    go_wp2_with fail
    go_ret
    exact ⟨ret_bool (by rw [Bool.eq_iff_iff] <;> simp [*]), hbb2.out⟩
  · go_enter Tryd.func26, Tryd.ntmps26
    go_wp2_with fail
    refine (hn.out _ (b_alloc3 _ _ _ _)).mono ?_
    rintro e w1 ⟨rfl, hb1⟩
    obtain ⟨hc, hf⟩ := bcell hb1
    have hlt : w.heap.size + 2 < w1.heap.size := by have := hb1.size; simp at this; omega
    have hlt1 : w.heap.size + 1 < w1.heap.size := by omega
    have hlt0 : w.heap.size < w1.heap.size := by omega
    have hfl := fl_nm4 w1
    have hbb := Lib.hid (b_next3 hb1)
    clear hb1
    go_wp2_with fail
    refine (hwi.out _).mono ?_
    rintro e w2 ⟨rfl, hb2⟩
    obtain ⟨hc2, hf2⟩ := bcell hb2
    have hl2 := hb2.size
    have hbb2 := Lib.hid (hbb.out.trans (hb2.mono hbb.out.size))
    clear hb2 hbb
    go_wp2_with fail
    go_ret
    exact ⟨ret_bool (by rw [Bool.eq_iff_iff] <;> simp [*]), hbb2.out⟩
set_option maxRecDepth 100000 in
set_option maxHeartbeats 8000000 in
theorem mayNum_call_no (p : Pg) (f : Fn) (i : Ins) (w : World) (hi : U8 i.op) (hT : OpTab w) (hK : numK i.op = 6) (hin : inP i.n p.funs.length = false) :
    Calls Tryd.prog 26 #[p.val, f.val, i.val] w fun e w' => e = .returned (.bool (numP p f i)) ∧ Below w.heap.size w w' := by
  have hn := fun W (hb : Below w.heap.size w W) => namesOf_any i.op W hi (hT.keep hb)
  unfold nmV at hn
  rw [hK] at hn
  have hfit : numP p f i = _ := fit_fin (fitP p f i) i.args.length _ _ (by unfold fitP; simp only [hK, hin]; rfl)
  rw [hfit]
  clear hfit hT
  generalize hasR i.op = xR at *
  generalize hasA i.op = xA at *
  generalize hasB i.op = xB at *
  generalize hasF i.op = xF at *
  replace hn := Lib.hid hn
  have hwi := fun W => within_any i.n p.funs.length W
  rw [hin] at hwi
  replace hwi := Lib.hid hwi
  go_enter Tryd.func26, Tryd.ntmps26
  go_wp2_with fail
  refine (hn.out _ (b_alloc3 _ _ _ _)).mono ?_
  rintro e w1 ⟨rfl, hb1⟩
  obtain ⟨hc, hf⟩ := bcell hb1
  have hlt : w.heap.size + 2 < w1.heap.size := by have := hb1.size; simp at this; omega
  have hlt1 : w.heap.size + 1 < w1.heap.size := by omega
  have hlt0 : w.heap.size < w1.heap.size := by omega
  have hfl := fl_nm4 w1
  have hbb := Lib.hid (b_next3 hb1)
  clear hb1
  go_wp2_with fail
  refine (hwi.out _).mono ?_
  rintro e w2 ⟨rfl, hb2⟩
  obtain ⟨hc2, hf2⟩ := bcell hb2
  have hl2 := hb2.size
  have hbb2 := Lib.hid (hbb.out.trans (hb2.mono hbb.out.size))
  clear hb2 hbb
  go_wp2_with fail
  go_ret
  exact ⟨ret_bool (by rw [Bool.eq_iff_iff] <;> simp [*]), hbb2.out⟩
end Go.Proofs.YtiicjbnocpphdaaDoor.Cd
