/- Walks of the document's own answers: MayExpr. Conditions: none. -/
import Derived.Test.YtolmhcdcfnoicaaDoorRfB
import Derived.Test.YtolmhcdcfnoicaaDoorTrPa
namespace Go.Proofs.YtolmhcdcfnoicaaDoor.Tr
open Go Go.RowKit
open Go.Proofs.YtolmhcdcfnoicaaDoor.Lx

theorem all_ptsL : ∀ (l : List Ex) (b o : Nat), (ptsL b o 2 l).all fitPt = l.all mayE
  | [], b, o => by unfold ptsL; rfl
  | e :: r, b, o => by
    unfold ptsL
    rw [List.all_append, mayE_two, all_ptsL r, List.all_cons]
theorem mayE_eq (k : Int) (nm : ByteArray) (n : Int) (a : Option Addr) (cap : Nat) (args : List Ex) (pos : Int) : mayE (.mk k nm n a cap args pos) = (fitE (.mk k nm n a cap args pos) && args.all mayE) := by
  have h : mayE (.mk k nm n a cap args pos) = (ptsE 0 0 1 (.mk k nm n a cap args pos)).all fitPt := rfl
  rw [h, ptsE_eq, List.all_cons, show (1 : Int) + 1 = 2 by rfl, all_ptsL]
  rfl
theorem fitE_iff (k : Int) (nm : ByteArray) (n : Int) (a : Option Addr) (cap : Nat) (args : List Ex) (pos : Int) : fitE (.mk k nm n a cap args pos) = true ↔ 1 ≤ k ∧ k ≤ 17 ∧ fitNm nm (exName k) = true ∧ 0 ≤ n ∧ n ≤ exMost k ∧ (args.length : Int) = exArgs k := by
  rw [fitE_eq]
  simp only [Bool.and_eq_true, decide_eq_true_eq, and_assoc]
theorem may_no {k : Int} {nm : ByteArray} {n : Int} {a : Option Addr} {cap : Nat} {args : List Ex} {pos : Int} {b : Bool} {m c : Int} (h1 : exName k = b) (h2 : exMost k = m) (h3 : exArgs k = c) (h : ¬ (1 ≤ k ∧ k ≤ 17 ∧ fitNm nm b = true ∧ 0 ≤ n ∧ n ≤ m ∧ (args.length : Int) = c)) : mayE (.mk k nm n a cap args pos) = false := by
  have hf : fitE (.mk k nm n a cap args pos) = false := Bool.eq_false_iff.2 (fun hh => h (by rw [← h1, ← h2, ← h3]; exact (fitE_iff ..).1 hh))
  rw [mayE_eq, hf, Bool.false_and]
theorem may_yes {k : Int} {nm : ByteArray} {n : Int} {a : Option Addr} {cap : Nat} {args : List Ex} {pos : Int} {b : Bool} {m c : Int} (h1 : exName k = b) (h2 : exMost k = m) (h3 : exArgs k = c) (h : 1 ≤ k ∧ k ≤ 17 ∧ fitNm nm b = true ∧ 0 ≤ n ∧ n ≤ m ∧ (args.length : Int) = c) : mayE (.mk k nm n a cap args pos) = args.all mayE := by
  rw [mayE_eq, (fitE_iff ..).2 (by rw [h1, h2, h3]; exact h), Bool.true_and]
theorem ib_t {a b : Int} (h : a = b) : (a == b) = true := by simpa using h
theorem ib_f {a b : Int} (h : ¬ a = b) : (a == b) = false := by simpa using h
theorem in_t {a b : Int} (h : ¬ a = b) : (a != b) = true := by simpa using h
theorem in_f {a b : Int} (h : a = b) : (a != b) = false := by simpa using h
theorem fitNm_f (nm : ByteArray) : fitNm nm false = nm.toList.isEmpty := (fitNm_no nm).symm
theorem fitNm_t (nm : ByteArray) : fitNm nm true = nme nm.data.toList := rfl

set_option maxHeartbeats 4000000 in
set_option maxRecDepth 100000 in
theorem refmay_int (k : Int) (nm : ByteArray) (n : Int) (a : Option Addr) (cap : Nat) (args : List Ex) (pos : Int) (w : World) (hkc : k = 1) (hnm : nm.size ≤ maxLen) (hn64 : I64 n) (hal : args.length ≤ 9223372036854775807)
    (hex : ∀ V, Below w.heap.size w V → Calls Tryd.prog 43 #[.slice a args.length cap] V fun x w' => x = .returned (.bool (args.all mayE)) ∧ Below V.heap.size V w') :
    Calls Tryd.prog 20 #[.agg #[.int .u8 k, .string nm, .int .i64 n, .slice a args.length cap, .int .i64 pos]] w fun x w' => x = .returned (.bool (mayE (.mk k nm n a cap args pos))) ∧ Below w.heap.size w w' := by
  have hb0 : Below w.heap.size w (w.alloc (.cells #[.int .u8 k, .string nm, .int .i64 n, .slice a args.length cap, .int .i64 pos] 25)) := (Below.refl _ _).alloc (Nat.le_refl _) _
  have hx3 : Hid (∀ V, Below (w.alloc (.cells #[.int .u8 k, .string nm, .int .i64 n, .slice a args.length cap, .int .i64 pos] 25)).heap.size (w.alloc (.cells #[.int .u8 k, .string nm, .int .i64 n, .slice a args.length cap, .int .i64 pos] 25)) V → V.cell? ⟨w.heap.size, 3, none⟩ = some (.slice a args.length cap)) := Lib.hid fun V h => below_in h (blk_cell (blk_new _ _ rfl) rfl)
  have hcn := fun V => refname_any nm V hnm
  unfold I64 at hn64
  have _ := hal
  have _ := hn64
  have _ := hx3
  replace hcn := Lib.hid hcn
  replace hex := Lib.hid hex
  replace hb0 := Lib.hid hb0
  replace hnm := Lib.hid hnm
  subst hkc
  by_cases hl : (args.length : Int) = 0
  · have hl1 : ((args.length : Int) == 0) = true := ib_t hl
    have hl2 : ((args.length : Int) != 0) = false := in_f hl
    replace hl := Lib.hid hl
    by_cases hn : 0 ≤ n
    · have hn1 : ¬ n < 0 := by omega
      by_cases he : nm.toList = []
      · have he1 : nm.toList.isEmpty = true := by rw [he]; rfl
        have he2 := Lib.hid he1
        go_enter Tryd.func20, Tryd.ntmps20
        go_wp2_with fail
        refine (hex.out _ hb0.out).mono ?_
        rintro x V2 ⟨rfl, hb2⟩
        go_wp2_with fail
        go_ret
        exact ⟨ret_bool (may_yes (b := false) (m := 9223372036854775807) (c := 0) (by rfl) (by rfl) (by rfl) ⟨by omega, by omega, by rw [fitNm_f]; exact he2.out, by omega, by omega, hl.out⟩).symm, hb0.out.trans (hb2.mono (by simp))⟩
      · have he1 : nm.toList.isEmpty = false := by simpa using he
        have he2 := Lib.hid he1
        go_enter Tryd.func20, Tryd.ntmps20
        go_wp2_with fail
        go_ret
        exact ⟨ret_bool (may_no (b := false) (m := 9223372036854775807) (c := 0) (by rfl) (by rfl) (by rfl) (fun h => by rw [fitNm_f, he2.out] at h; simp at h)).symm, hb0.out⟩
    · have hn1 : n < 0 := by omega
      go_enter Tryd.func20, Tryd.ntmps20
      go_wp2_with fail
      all_goals
        go_ret
        first | exact ⟨ret_bool (may_no (b := false) (m := 9223372036854775807) (c := 0) (by rfl) (by rfl) (by rfl) (by omega)).symm, hb0.out⟩ | (have hz : n = 0 := (by assumption); subst hz; exact ⟨ret_bool (may_no (b := false) (m := 9223372036854775807) (c := 0) (by rfl) (by rfl) (by rfl) (by omega)).symm, hb0.out⟩) | (exfalso; omega)
  · have hl1 : ((args.length : Int) == 0) = false := ib_f hl
    have hl2 : ((args.length : Int) != 0) = true := in_t hl
    go_enter Tryd.func20, Tryd.ntmps20
    go_wp2_with fail
    all_goals
      go_ret
      first | exact ⟨ret_bool (may_no (b := false) (m := 9223372036854775807) (c := 0) (by rfl) (by rfl) (by rfl) (by omega)).symm, hb0.out⟩ | (have hz : n = 0 := (by assumption); subst hz; exact ⟨ret_bool (may_no (b := false) (m := 9223372036854775807) (c := 0) (by rfl) (by rfl) (by rfl) (by omega)).symm, hb0.out⟩) | (exfalso; omega)

set_option maxHeartbeats 4000000 in
set_option maxRecDepth 100000 in
theorem refmay_bool (k : Int) (nm : ByteArray) (n : Int) (a : Option Addr) (cap : Nat) (args : List Ex) (pos : Int) (w : World) (hkc : k = 2) (hnm : nm.size ≤ maxLen) (hn64 : I64 n) (hal : args.length ≤ 9223372036854775807)
    (hex : ∀ V, Below w.heap.size w V → Calls Tryd.prog 43 #[.slice a args.length cap] V fun x w' => x = .returned (.bool (args.all mayE)) ∧ Below V.heap.size V w') :
    Calls Tryd.prog 20 #[.agg #[.int .u8 k, .string nm, .int .i64 n, .slice a args.length cap, .int .i64 pos]] w fun x w' => x = .returned (.bool (mayE (.mk k nm n a cap args pos))) ∧ Below w.heap.size w w' := by
  have hb0 : Below w.heap.size w (w.alloc (.cells #[.int .u8 k, .string nm, .int .i64 n, .slice a args.length cap, .int .i64 pos] 25)) := (Below.refl _ _).alloc (Nat.le_refl _) _
  have hx3 : Hid (∀ V, Below (w.alloc (.cells #[.int .u8 k, .string nm, .int .i64 n, .slice a args.length cap, .int .i64 pos] 25)).heap.size (w.alloc (.cells #[.int .u8 k, .string nm, .int .i64 n, .slice a args.length cap, .int .i64 pos] 25)) V → V.cell? ⟨w.heap.size, 3, none⟩ = some (.slice a args.length cap)) := Lib.hid fun V h => below_in h (blk_cell (blk_new _ _ rfl) rfl)
  have hcn := fun V => refname_any nm V hnm
  unfold I64 at hn64
  have _ := hal
  have _ := hn64
  have _ := hx3
  replace hcn := Lib.hid hcn
  replace hex := Lib.hid hex
  replace hb0 := Lib.hid hb0
  replace hnm := Lib.hid hnm
  subst hkc
  by_cases hl : (args.length : Int) = 0
  · have hl1 : ((args.length : Int) == 0) = true := ib_t hl
    have hl2 : ((args.length : Int) != 0) = false := in_f hl
    replace hl := Lib.hid hl
    by_cases hn : n = 0 ∨ n = 1
    · rcases hn with rfl | rfl
      all_goals
        by_cases he : nm.toList = []
        · have he1 : nm.toList.isEmpty = true := by rw [he]; rfl
          have he2 := Lib.hid he1
          go_enter Tryd.func20, Tryd.ntmps20
          go_wp2_with fail
          refine (hex.out _ hb0.out).mono ?_
          rintro x V2 ⟨rfl, hb2⟩
          go_wp2_with fail
          go_ret
          exact ⟨ret_bool (may_yes (b := false) (m := 1) (c := 0) (by rfl) (by rfl) (by rfl) ⟨by omega, by omega, by rw [fitNm_f]; exact he2.out, by omega, by omega, hl.out⟩).symm, hb0.out.trans (hb2.mono (by simp))⟩
        · have he1 : nm.toList.isEmpty = false := by simpa using he
          have he2 := Lib.hid he1
          go_enter Tryd.func20, Tryd.ntmps20
          go_wp2_with fail
          go_ret
          exact ⟨ret_bool (may_no (b := false) (m := 1) (c := 0) (by rfl) (by rfl) (by rfl) (fun h => by rw [fitNm_f, he2.out] at h; simp at h)).symm, hb0.out⟩
    · have hn0 : ¬ n = 0 := fun h => hn (.inl h)
      have hn1 : ¬ n = 1 := fun h => hn (.inr h)
      have hn2 : (n == 0) = false := by simpa using hn0
      have hn3 : (n == 1) = false := by simpa using hn1
      have hn4 : (n != 0) = true := by simpa using hn0
      have hn5 : (n != 1) = true := by simpa using hn1
      clear hn
      go_enter Tryd.func20, Tryd.ntmps20
      go_wp2_with fail
      all_goals
        go_ret
        first | exact ⟨ret_bool (may_no (b := false) (m := 1) (c := 0) (by rfl) (by rfl) (by rfl) (by omega)).symm, hb0.out⟩ | (have hz : n = 0 := (by assumption); subst hz; exact ⟨ret_bool (may_no (b := false) (m := 1) (c := 0) (by rfl) (by rfl) (by rfl) (by omega)).symm, hb0.out⟩) | (exfalso; omega)
  · have hl1 : ((args.length : Int) == 0) = false := ib_f hl
    have hl2 : ((args.length : Int) != 0) = true := in_t hl
    go_enter Tryd.func20, Tryd.ntmps20
    go_wp2_with fail
    all_goals
      go_ret
      first | exact ⟨ret_bool (may_no (b := false) (m := 1) (c := 0) (by rfl) (by rfl) (by rfl) (by omega)).symm, hb0.out⟩ | (have hz : n = 0 := (by assumption); subst hz; exact ⟨ret_bool (may_no (b := false) (m := 1) (c := 0) (by rfl) (by rfl) (by rfl) (by omega)).symm, hb0.out⟩) | (exfalso; omega)

set_option maxHeartbeats 4000000 in
set_option maxRecDepth 100000 in
theorem refmay_var (k : Int) (nm : ByteArray) (n : Int) (a : Option Addr) (cap : Nat) (args : List Ex) (pos : Int) (w : World) (hkc : k = 3) (hnm : nm.size ≤ maxLen) (hn64 : I64 n) (hal : args.length ≤ 9223372036854775807)
    (hex : ∀ V, Below w.heap.size w V → Calls Tryd.prog 43 #[.slice a args.length cap] V fun x w' => x = .returned (.bool (args.all mayE)) ∧ Below V.heap.size V w') :
    Calls Tryd.prog 20 #[.agg #[.int .u8 k, .string nm, .int .i64 n, .slice a args.length cap, .int .i64 pos]] w fun x w' => x = .returned (.bool (mayE (.mk k nm n a cap args pos))) ∧ Below w.heap.size w w' := by
  have hb0 : Below w.heap.size w (w.alloc (.cells #[.int .u8 k, .string nm, .int .i64 n, .slice a args.length cap, .int .i64 pos] 25)) := (Below.refl _ _).alloc (Nat.le_refl _) _
  have hx3 : Hid (∀ V, Below (w.alloc (.cells #[.int .u8 k, .string nm, .int .i64 n, .slice a args.length cap, .int .i64 pos] 25)).heap.size (w.alloc (.cells #[.int .u8 k, .string nm, .int .i64 n, .slice a args.length cap, .int .i64 pos] 25)) V → V.cell? ⟨w.heap.size, 3, none⟩ = some (.slice a args.length cap)) := Lib.hid fun V h => below_in h (blk_cell (blk_new _ _ rfl) rfl)
  have hcn := fun V => refname_any nm V hnm
  unfold I64 at hn64
  have _ := hal
  have _ := hn64
  have _ := hx3
  replace hcn := Lib.hid hcn
  replace hex := Lib.hid hex
  replace hb0 := Lib.hid hb0
  replace hnm := Lib.hid hnm
  subst hkc
  by_cases hl : (args.length : Int) = 0
  · have hl1 : ((args.length : Int) == 0) = true := ib_t hl
    have hl2 : ((args.length : Int) != 0) = false := in_f hl
    replace hl := Lib.hid hl
    by_cases hn : n = 0
    · subst hn
      cases hv : nme nm.data.toList
      · have hv' := Lib.hid hv
        have hcn' := fun V => hcn.out V
        simp only [hv] at hcn'
        replace hcn' := Lib.hid hcn'
        clear hv
        go_enter Tryd.func20, Tryd.ntmps20
        go_wp2_with fail
        refine (hcn'.out _).mono ?_
        rintro x V1 ⟨rfl, hb1⟩
        replace hb1 := Lib.hid (hb0.out.trans (hb1.mono (by simp)))
        go_wp2_with fail
        go_ret
        exact ⟨ret_bool (may_no (b := true) (m := 0) (c := 0) (by rfl) (by rfl) (by rfl) (fun h => by rw [fitNm_t, hv'.out] at h; simp at h)).symm, hb1.out⟩
      · have hv' := Lib.hid hv
        have hcn' := fun V => hcn.out V
        simp only [hv] at hcn'
        replace hcn' := Lib.hid hcn'
        clear hv
        go_enter Tryd.func20, Tryd.ntmps20
        go_wp2_with fail
        refine (hcn'.out _).mono ?_
        rintro x V1 ⟨rfl, hb1⟩
        have y3 := hx3.out V1 hb1
        replace hb1 := Lib.hid (hb0.out.trans (hb1.mono (by simp)))
        go_wp2_with fail
        refine (hex.out _ hb1.out).mono ?_
        rintro x V2 ⟨rfl, hb2⟩
        go_wp2_with fail
        go_ret
        exact ⟨ret_bool (may_yes (b := true) (m := 0) (c := 0) (by rfl) (by rfl) (by rfl) ⟨by omega, by omega, by rw [fitNm_t]; exact hv'.out, by omega, by omega, hl.out⟩).symm, hb1.out.trans (hb2.mono hb1.out.size)⟩
    · have hn2 : (n == 0) = false := by simpa using hn
      have hn4 : (n != 0) = true := by simpa using hn
      go_enter Tryd.func20, Tryd.ntmps20
      go_wp2_with fail
      all_goals
        go_ret
        first | exact ⟨ret_bool (may_no (b := true) (m := 0) (c := 0) (by rfl) (by rfl) (by rfl) (by omega)).symm, hb0.out⟩ | (have hz : n = 0 := (by assumption); subst hz; exact ⟨ret_bool (may_no (b := true) (m := 0) (c := 0) (by rfl) (by rfl) (by rfl) (by omega)).symm, hb0.out⟩) | (exfalso; omega)
  · have hl1 : ((args.length : Int) == 0) = false := ib_f hl
    have hl2 : ((args.length : Int) != 0) = true := in_t hl
    go_enter Tryd.func20, Tryd.ntmps20
    go_wp2_with fail
    all_goals
      go_ret
      first | exact ⟨ret_bool (may_no (b := true) (m := 0) (c := 0) (by rfl) (by rfl) (by rfl) (by omega)).symm, hb0.out⟩ | (have hz : n = 0 := (by assumption); subst hz; exact ⟨ret_bool (may_no (b := true) (m := 0) (c := 0) (by rfl) (by rfl) (by rfl) (by omega)).symm, hb0.out⟩) | (exfalso; omega)

set_option maxHeartbeats 4000000 in
set_option maxRecDepth 100000 in
theorem refmay_index (k : Int) (nm : ByteArray) (n : Int) (a : Option Addr) (cap : Nat) (args : List Ex) (pos : Int) (w : World) (hkc : k = 4) (hnm : nm.size ≤ maxLen) (hn64 : I64 n) (hal : args.length ≤ 9223372036854775807)
    (hex : ∀ V, Below w.heap.size w V → Calls Tryd.prog 43 #[.slice a args.length cap] V fun x w' => x = .returned (.bool (args.all mayE)) ∧ Below V.heap.size V w') :
    Calls Tryd.prog 20 #[.agg #[.int .u8 k, .string nm, .int .i64 n, .slice a args.length cap, .int .i64 pos]] w fun x w' => x = .returned (.bool (mayE (.mk k nm n a cap args pos))) ∧ Below w.heap.size w w' := by
  have hb0 : Below w.heap.size w (w.alloc (.cells #[.int .u8 k, .string nm, .int .i64 n, .slice a args.length cap, .int .i64 pos] 25)) := (Below.refl _ _).alloc (Nat.le_refl _) _
  have hx3 : Hid (∀ V, Below (w.alloc (.cells #[.int .u8 k, .string nm, .int .i64 n, .slice a args.length cap, .int .i64 pos] 25)).heap.size (w.alloc (.cells #[.int .u8 k, .string nm, .int .i64 n, .slice a args.length cap, .int .i64 pos] 25)) V → V.cell? ⟨w.heap.size, 3, none⟩ = some (.slice a args.length cap)) := Lib.hid fun V h => below_in h (blk_cell (blk_new _ _ rfl) rfl)
  have hcn := fun V => refname_any nm V hnm
  unfold I64 at hn64
  have _ := hal
  have _ := hn64
  have _ := hx3
  replace hcn := Lib.hid hcn
  replace hex := Lib.hid hex
  replace hb0 := Lib.hid hb0
  replace hnm := Lib.hid hnm
  subst hkc
  by_cases hl : (args.length : Int) = 1
  · have hl1 : ((args.length : Int) == 1) = true := ib_t hl
    have hl2 : ((args.length : Int) != 1) = false := in_f hl
    replace hl := Lib.hid hl
    by_cases hn : n = 0
    · subst hn
      cases hv : nme nm.data.toList
      · have hv' := Lib.hid hv
        have hcn' := fun V => hcn.out V
        simp only [hv] at hcn'
        replace hcn' := Lib.hid hcn'
        clear hv
        go_enter Tryd.func20, Tryd.ntmps20
        go_wp2_with fail
        refine (hcn'.out _).mono ?_
        rintro x V1 ⟨rfl, hb1⟩
        replace hb1 := Lib.hid (hb0.out.trans (hb1.mono (by simp)))
        go_wp2_with fail
        go_ret
        exact ⟨ret_bool (may_no (b := true) (m := 0) (c := 1) (by rfl) (by rfl) (by rfl) (fun h => by rw [fitNm_t, hv'.out] at h; simp at h)).symm, hb1.out⟩
      · have hv' := Lib.hid hv
        have hcn' := fun V => hcn.out V
        simp only [hv] at hcn'
        replace hcn' := Lib.hid hcn'
        clear hv
        go_enter Tryd.func20, Tryd.ntmps20
        go_wp2_with fail
        refine (hcn'.out _).mono ?_
        rintro x V1 ⟨rfl, hb1⟩
        have y3 := hx3.out V1 hb1
        replace hb1 := Lib.hid (hb0.out.trans (hb1.mono (by simp)))
        go_wp2_with fail
        refine (hex.out _ hb1.out).mono ?_
        rintro x V2 ⟨rfl, hb2⟩
        go_wp2_with fail
        go_ret
        exact ⟨ret_bool (may_yes (b := true) (m := 0) (c := 1) (by rfl) (by rfl) (by rfl) ⟨by omega, by omega, by rw [fitNm_t]; exact hv'.out, by omega, by omega, hl.out⟩).symm, hb1.out.trans (hb2.mono hb1.out.size)⟩
    · have hn2 : (n == 0) = false := by simpa using hn
      have hn4 : (n != 0) = true := by simpa using hn
      go_enter Tryd.func20, Tryd.ntmps20
      go_wp2_with fail
      all_goals
        go_ret
        first | exact ⟨ret_bool (may_no (b := true) (m := 0) (c := 1) (by rfl) (by rfl) (by rfl) (by omega)).symm, hb0.out⟩ | (have hz : n = 0 := (by assumption); subst hz; exact ⟨ret_bool (may_no (b := true) (m := 0) (c := 1) (by rfl) (by rfl) (by rfl) (by omega)).symm, hb0.out⟩) | (exfalso; omega)
  · have hl1 : ((args.length : Int) == 1) = false := ib_f hl
    have hl2 : ((args.length : Int) != 1) = true := in_t hl
    go_enter Tryd.func20, Tryd.ntmps20
    go_wp2_with fail
    all_goals
      go_ret
      first | exact ⟨ret_bool (may_no (b := true) (m := 0) (c := 1) (by rfl) (by rfl) (by rfl) (by omega)).symm, hb0.out⟩ | (have hz : n = 0 := (by assumption); subst hz; exact ⟨ret_bool (may_no (b := true) (m := 0) (c := 1) (by rfl) (by rfl) (by rfl) (by omega)).symm, hb0.out⟩) | (exfalso; omega)

set_option maxHeartbeats 4000000 in
set_option maxRecDepth 100000 in
theorem refmay_neg (k : Int) (nm : ByteArray) (n : Int) (a : Option Addr) (cap : Nat) (args : List Ex) (pos : Int) (w : World) (hkc : k = 5) (hnm : nm.size ≤ maxLen) (hn64 : I64 n) (hal : args.length ≤ 9223372036854775807)
    (hex : ∀ V, Below w.heap.size w V → Calls Tryd.prog 43 #[.slice a args.length cap] V fun x w' => x = .returned (.bool (args.all mayE)) ∧ Below V.heap.size V w') :
    Calls Tryd.prog 20 #[.agg #[.int .u8 k, .string nm, .int .i64 n, .slice a args.length cap, .int .i64 pos]] w fun x w' => x = .returned (.bool (mayE (.mk k nm n a cap args pos))) ∧ Below w.heap.size w w' := by
  have hb0 : Below w.heap.size w (w.alloc (.cells #[.int .u8 k, .string nm, .int .i64 n, .slice a args.length cap, .int .i64 pos] 25)) := (Below.refl _ _).alloc (Nat.le_refl _) _
  have hx3 : Hid (∀ V, Below (w.alloc (.cells #[.int .u8 k, .string nm, .int .i64 n, .slice a args.length cap, .int .i64 pos] 25)).heap.size (w.alloc (.cells #[.int .u8 k, .string nm, .int .i64 n, .slice a args.length cap, .int .i64 pos] 25)) V → V.cell? ⟨w.heap.size, 3, none⟩ = some (.slice a args.length cap)) := Lib.hid fun V h => below_in h (blk_cell (blk_new _ _ rfl) rfl)
  have hcn := fun V => refname_any nm V hnm
  unfold I64 at hn64
  have _ := hal
  have _ := hn64
  have _ := hx3
  replace hcn := Lib.hid hcn
  replace hex := Lib.hid hex
  replace hb0 := Lib.hid hb0
  replace hnm := Lib.hid hnm
  subst hkc
  by_cases hl : (args.length : Int) = 1
  · have hl1 : ((args.length : Int) == 1) = true := ib_t hl
    have hl2 : ((args.length : Int) != 1) = false := in_f hl
    replace hl := Lib.hid hl
    by_cases hn : n = 0
    · subst hn
      by_cases he : nm.toList = []
      · have he1 : nm.toList.isEmpty = true := by rw [he]; rfl
        have he2 := Lib.hid he1
        go_enter Tryd.func20, Tryd.ntmps20
        go_wp2_with fail
        refine (hex.out _ hb0.out).mono ?_
        rintro x V2 ⟨rfl, hb2⟩
        go_wp2_with fail
        go_ret
        exact ⟨ret_bool (may_yes (b := false) (m := 0) (c := 1) (by rfl) (by rfl) (by rfl) ⟨by omega, by omega, by rw [fitNm_f]; exact he2.out, by omega, by omega, hl.out⟩).symm, hb0.out.trans (hb2.mono (by simp))⟩
      · have he1 : nm.toList.isEmpty = false := by simpa using he
        have he2 := Lib.hid he1
        go_enter Tryd.func20, Tryd.ntmps20
        go_wp2_with fail
        go_ret
        exact ⟨ret_bool (may_no (b := false) (m := 0) (c := 1) (by rfl) (by rfl) (by rfl) (fun h => by rw [fitNm_f, he2.out] at h; simp at h)).symm, hb0.out⟩
    · have hn2 : (n == 0) = false := by simpa using hn
      have hn4 : (n != 0) = true := by simpa using hn
      go_enter Tryd.func20, Tryd.ntmps20
      go_wp2_with fail
      all_goals
        go_ret
        first | exact ⟨ret_bool (may_no (b := false) (m := 0) (c := 1) (by rfl) (by rfl) (by rfl) (by omega)).symm, hb0.out⟩ | (have hz : n = 0 := (by assumption); subst hz; exact ⟨ret_bool (may_no (b := false) (m := 0) (c := 1) (by rfl) (by rfl) (by rfl) (by omega)).symm, hb0.out⟩) | (exfalso; omega)
  · have hl1 : ((args.length : Int) == 1) = false := ib_f hl
    have hl2 : ((args.length : Int) != 1) = true := in_t hl
    go_enter Tryd.func20, Tryd.ntmps20
    go_wp2_with fail
    all_goals
      go_ret
      first | exact ⟨ret_bool (may_no (b := false) (m := 0) (c := 1) (by rfl) (by rfl) (by rfl) (by omega)).symm, hb0.out⟩ | (have hz : n = 0 := (by assumption); subst hz; exact ⟨ret_bool (may_no (b := false) (m := 0) (c := 1) (by rfl) (by rfl) (by rfl) (by omega)).symm, hb0.out⟩) | (exfalso; omega)

set_option maxHeartbeats 4000000 in
set_option maxRecDepth 100000 in
theorem refmay_not (k : Int) (nm : ByteArray) (n : Int) (a : Option Addr) (cap : Nat) (args : List Ex) (pos : Int) (w : World) (hkc : k = 6) (hnm : nm.size ≤ maxLen) (hn64 : I64 n) (hal : args.length ≤ 9223372036854775807)
    (hex : ∀ V, Below w.heap.size w V → Calls Tryd.prog 43 #[.slice a args.length cap] V fun x w' => x = .returned (.bool (args.all mayE)) ∧ Below V.heap.size V w') :
    Calls Tryd.prog 20 #[.agg #[.int .u8 k, .string nm, .int .i64 n, .slice a args.length cap, .int .i64 pos]] w fun x w' => x = .returned (.bool (mayE (.mk k nm n a cap args pos))) ∧ Below w.heap.size w w' := by
  have hb0 : Below w.heap.size w (w.alloc (.cells #[.int .u8 k, .string nm, .int .i64 n, .slice a args.length cap, .int .i64 pos] 25)) := (Below.refl _ _).alloc (Nat.le_refl _) _
  have hx3 : Hid (∀ V, Below (w.alloc (.cells #[.int .u8 k, .string nm, .int .i64 n, .slice a args.length cap, .int .i64 pos] 25)).heap.size (w.alloc (.cells #[.int .u8 k, .string nm, .int .i64 n, .slice a args.length cap, .int .i64 pos] 25)) V → V.cell? ⟨w.heap.size, 3, none⟩ = some (.slice a args.length cap)) := Lib.hid fun V h => below_in h (blk_cell (blk_new _ _ rfl) rfl)
  have hcn := fun V => refname_any nm V hnm
  unfold I64 at hn64
  have _ := hal
  have _ := hn64
  have _ := hx3
  replace hcn := Lib.hid hcn
  replace hex := Lib.hid hex
  replace hb0 := Lib.hid hb0
  replace hnm := Lib.hid hnm
  subst hkc
  by_cases hl : (args.length : Int) = 1
  · have hl1 : ((args.length : Int) == 1) = true := ib_t hl
    have hl2 : ((args.length : Int) != 1) = false := in_f hl
    replace hl := Lib.hid hl
    by_cases hn : n = 0
    · subst hn
      by_cases he : nm.toList = []
      · have he1 : nm.toList.isEmpty = true := by rw [he]; rfl
        have he2 := Lib.hid he1
        go_enter Tryd.func20, Tryd.ntmps20
        go_wp2_with fail
        refine (hex.out _ hb0.out).mono ?_
        rintro x V2 ⟨rfl, hb2⟩
        go_wp2_with fail
        go_ret
        exact ⟨ret_bool (may_yes (b := false) (m := 0) (c := 1) (by rfl) (by rfl) (by rfl) ⟨by omega, by omega, by rw [fitNm_f]; exact he2.out, by omega, by omega, hl.out⟩).symm, hb0.out.trans (hb2.mono (by simp))⟩
      · have he1 : nm.toList.isEmpty = false := by simpa using he
        have he2 := Lib.hid he1
        go_enter Tryd.func20, Tryd.ntmps20
        go_wp2_with fail
        go_ret
        exact ⟨ret_bool (may_no (b := false) (m := 0) (c := 1) (by rfl) (by rfl) (by rfl) (fun h => by rw [fitNm_f, he2.out] at h; simp at h)).symm, hb0.out⟩
    · have hn2 : (n == 0) = false := by simpa using hn
      have hn4 : (n != 0) = true := by simpa using hn
      go_enter Tryd.func20, Tryd.ntmps20
      go_wp2_with fail
      all_goals
        go_ret
        first | exact ⟨ret_bool (may_no (b := false) (m := 0) (c := 1) (by rfl) (by rfl) (by rfl) (by omega)).symm, hb0.out⟩ | (have hz : n = 0 := (by assumption); subst hz; exact ⟨ret_bool (may_no (b := false) (m := 0) (c := 1) (by rfl) (by rfl) (by rfl) (by omega)).symm, hb0.out⟩) | (exfalso; omega)
  · have hl1 : ((args.length : Int) == 1) = false := ib_f hl
    have hl2 : ((args.length : Int) != 1) = true := in_t hl
    go_enter Tryd.func20, Tryd.ntmps20
    go_wp2_with fail
    all_goals
      go_ret
      first | exact ⟨ret_bool (may_no (b := false) (m := 0) (c := 1) (by rfl) (by rfl) (by rfl) (by omega)).symm, hb0.out⟩ | (have hz : n = 0 := (by assumption); subst hz; exact ⟨ret_bool (may_no (b := false) (m := 0) (c := 1) (by rfl) (by rfl) (by rfl) (by omega)).symm, hb0.out⟩) | (exfalso; omega)

set_option maxHeartbeats 4000000 in
set_option maxRecDepth 100000 in
theorem refmay_two (k : Int) (nm : ByteArray) (n : Int) (a : Option Addr) (cap : Nat) (args : List Ex) (pos : Int) (w : World) (hkc : 7 ≤ k ∧ k ≤ 17) (hnm : nm.size ≤ maxLen) (hn64 : I64 n) (hal : args.length ≤ 9223372036854775807)
    (hex : ∀ V, Below w.heap.size w V → Calls Tryd.prog 43 #[.slice a args.length cap] V fun x w' => x = .returned (.bool (args.all mayE)) ∧ Below V.heap.size V w') :
    Calls Tryd.prog 20 #[.agg #[.int .u8 k, .string nm, .int .i64 n, .slice a args.length cap, .int .i64 pos]] w fun x w' => x = .returned (.bool (mayE (.mk k nm n a cap args pos))) ∧ Below w.heap.size w w' := by
  have hb0 : Below w.heap.size w (w.alloc (.cells #[.int .u8 k, .string nm, .int .i64 n, .slice a args.length cap, .int .i64 pos] 25)) := (Below.refl _ _).alloc (Nat.le_refl _) _
  have hx3 : Hid (∀ V, Below (w.alloc (.cells #[.int .u8 k, .string nm, .int .i64 n, .slice a args.length cap, .int .i64 pos] 25)).heap.size (w.alloc (.cells #[.int .u8 k, .string nm, .int .i64 n, .slice a args.length cap, .int .i64 pos] 25)) V → V.cell? ⟨w.heap.size, 3, none⟩ = some (.slice a args.length cap)) := Lib.hid fun V h => below_in h (blk_cell (blk_new _ _ rfl) rfl)
  have hcn := fun V => refname_any nm V hnm
  unfold I64 at hn64
  have _ := hal
  have _ := hn64
  have _ := hx3
  replace hcn := Lib.hid hcn
  replace hex := Lib.hid hex
  replace hb0 := Lib.hid hb0
  replace hnm := Lib.hid hnm
  obtain ⟨hk7, hk17⟩ := hkc
  have hxn : exName k = false := by unfold exName; simp; omega
  have hxm : exMost k = 0 := by unfold exMost; rw [if_neg (by omega), if_neg (by omega)]
  have hxa : exArgs k = 2 := by unfold exArgs; rw [if_pos hk7]
  have hk_1 : (k == 1) = false := ib_f (by omega)
  have hkn_1 : (k != 1) = true := in_t (by omega)
  have hk_2 : (k == 2) = false := ib_f (by omega)
  have hkn_2 : (k != 2) = true := in_t (by omega)
  have hk_3 : (k == 3) = false := ib_f (by omega)
  have hkn_3 : (k != 3) = true := in_t (by omega)
  have hk_4 : (k == 4) = false := ib_f (by omega)
  have hkn_4 : (k != 4) = true := in_t (by omega)
  have hk_5 : (k == 5) = false := ib_f (by omega)
  have hkn_5 : (k != 5) = true := in_t (by omega)
  have hk_6 : (k == 6) = false := ib_f (by omega)
  have hkn_6 : (k != 6) = true := in_t (by omega)
  replace hxn := Lib.hid hxn
  replace hxm := Lib.hid hxm
  replace hxa := Lib.hid hxa
  by_cases hl : (args.length : Int) = 2
  · have hl1 : ((args.length : Int) == 2) = true := ib_t hl
    have hl2 : ((args.length : Int) != 2) = false := in_f hl
    replace hl := Lib.hid hl
    by_cases hn : n = 0
    · subst hn
      by_cases he : nm.toList = []
      · have he1 : nm.toList.isEmpty = true := by rw [he]; rfl
        have he2 := Lib.hid he1
        go_enter Tryd.func20, Tryd.ntmps20
        go_wp2_with fail
        refine (hex.out _ hb0.out).mono ?_
        rintro x V2 ⟨rfl, hb2⟩
        go_wp2_with fail
        go_ret
        exact ⟨ret_bool (may_yes (b := false) (m := 0) (c := 2) hxn.out hxm.out hxa.out ⟨by omega, by omega, by rw [fitNm_f]; exact he2.out, by omega, by omega, hl.out⟩).symm, hb0.out.trans (hb2.mono (by simp))⟩
      · have he1 : nm.toList.isEmpty = false := by simpa using he
        have he2 := Lib.hid he1
        go_enter Tryd.func20, Tryd.ntmps20
        go_wp2_with fail
        go_ret
        exact ⟨ret_bool (may_no (b := false) (m := 0) (c := 2) hxn.out hxm.out hxa.out (fun h => by rw [fitNm_f, he2.out] at h; simp at h)).symm, hb0.out⟩
    · have hn2 : (n == 0) = false := by simpa using hn
      have hn4 : (n != 0) = true := by simpa using hn
      go_enter Tryd.func20, Tryd.ntmps20
      go_wp2_with fail
      all_goals
        go_ret
        first | exact ⟨ret_bool (may_no (b := false) (m := 0) (c := 2) hxn.out hxm.out hxa.out (by omega)).symm, hb0.out⟩ | (have hz : n = 0 := (by assumption); subst hz; exact ⟨ret_bool (may_no (b := false) (m := 0) (c := 2) hxn.out hxm.out hxa.out (by omega)).symm, hb0.out⟩) | (exfalso; omega)
  · have hl1 : ((args.length : Int) == 2) = false := ib_f hl
    have hl2 : ((args.length : Int) != 2) = true := in_t hl
    go_enter Tryd.func20, Tryd.ntmps20
    go_wp2_with fail
    all_goals
      go_ret
      first | exact ⟨ret_bool (may_no (b := false) (m := 0) (c := 2) hxn.out hxm.out hxa.out (by omega)).symm, hb0.out⟩ | (have hz : n = 0 := (by assumption); subst hz; exact ⟨ret_bool (may_no (b := false) (m := 0) (c := 2) hxn.out hxm.out hxa.out (by omega)).symm, hb0.out⟩) | (exfalso; omega)

set_option maxHeartbeats 4000000 in
set_option maxRecDepth 100000 in
theorem refmay_none (k : Int) (nm : ByteArray) (n : Int) (a : Option Addr) (cap : Nat) (args : List Ex) (pos : Int) (w : World) (hkc : k = 0 ∨ (17 < k ∧ k ≤ 255)) (hnm : nm.size ≤ maxLen) (hn64 : I64 n) (hal : args.length ≤ 9223372036854775807)
    (hex : ∀ V, Below w.heap.size w V → Calls Tryd.prog 43 #[.slice a args.length cap] V fun x w' => x = .returned (.bool (args.all mayE)) ∧ Below V.heap.size V w') :
    Calls Tryd.prog 20 #[.agg #[.int .u8 k, .string nm, .int .i64 n, .slice a args.length cap, .int .i64 pos]] w fun x w' => x = .returned (.bool (mayE (.mk k nm n a cap args pos))) ∧ Below w.heap.size w w' := by
  have hb0 : Below w.heap.size w (w.alloc (.cells #[.int .u8 k, .string nm, .int .i64 n, .slice a args.length cap, .int .i64 pos] 25)) := (Below.refl _ _).alloc (Nat.le_refl _) _
  have hx3 : Hid (∀ V, Below (w.alloc (.cells #[.int .u8 k, .string nm, .int .i64 n, .slice a args.length cap, .int .i64 pos] 25)).heap.size (w.alloc (.cells #[.int .u8 k, .string nm, .int .i64 n, .slice a args.length cap, .int .i64 pos] 25)) V → V.cell? ⟨w.heap.size, 3, none⟩ = some (.slice a args.length cap)) := Lib.hid fun V h => below_in h (blk_cell (blk_new _ _ rfl) rfl)
  have hcn := fun V => refname_any nm V hnm
  unfold I64 at hn64
  have _ := hal
  have _ := hn64
  have _ := hx3
  replace hcn := Lib.hid hcn
  replace hex := Lib.hid hex
  replace hb0 := Lib.hid hb0
  replace hnm := Lib.hid hnm
  rcases hkc with rfl | ⟨hk17, hk255⟩
  · go_enter Tryd.func20, Tryd.ntmps20
    go_wp2_with fail
    go_ret
    first | exact ⟨ret_bool (may_no (b := false) (m := 0) (c := 0) (by rfl) (by rfl) (by rfl) (by omega)).symm, hb0.out⟩ | (have hz : n = 0 := (by assumption); subst hz; exact ⟨ret_bool (may_no (b := false) (m := 0) (c := 0) (by rfl) (by rfl) (by rfl) (by omega)).symm, hb0.out⟩) | (exfalso; omega)
  · have hk_1 : (k == 1) = false := ib_f (by omega)
    have hkn_1 : (k != 1) = true := in_t (by omega)
    have hk_2 : (k == 2) = false := ib_f (by omega)
    have hkn_2 : (k != 2) = true := in_t (by omega)
    have hk_3 : (k == 3) = false := ib_f (by omega)
    have hkn_3 : (k != 3) = true := in_t (by omega)
    have hk_4 : (k == 4) = false := ib_f (by omega)
    have hkn_4 : (k != 4) = true := in_t (by omega)
    have hk_5 : (k == 5) = false := ib_f (by omega)
    have hkn_5 : (k != 5) = true := in_t (by omega)
    have hk_6 : (k == 6) = false := ib_f (by omega)
    have hkn_6 : (k != 6) = true := in_t (by omega)
    have hkd : decide (k ≤ 17) = false := decide_eq_false (by omega)
    have hk7 : 7 ≤ k := by omega
    go_enter Tryd.func20, Tryd.ntmps20
    go_wp2_with fail
    all_goals
      go_ret
      exact ⟨ret_bool (may_no (b := exName k) (m := exMost k) (c := exArgs k) rfl rfl rfl (fun h => by omega)).symm, hb0.out⟩

end Go.Proofs.YtolmhcdcfnoicaaDoor.Tr
