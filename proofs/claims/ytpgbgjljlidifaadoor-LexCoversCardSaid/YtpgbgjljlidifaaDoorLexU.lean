/- Walks of the reference's small functions: letter, digit, among, Reserved, sign, number. Conditions: number: digits alone; sign: a byte at least. -/
import Derived.Test.YtpgbgjljlidifaaDoorLexJ
import Derived.Test.YtpgbgjljlidifaaDoorLexK
namespace Go.Proofs.YtpgbgjljlidifaaDoor.Lx
open Go Go.RowKit

set_option maxHeartbeats 400000 in
theorem rletter_any (c : UInt8) (w : World) :
    Calls Tryd.prog 23 #[.int .u8 (c.toNat : Int)] w fun e w' => e = .returned (.bool (bgn c)) ∧ w = w' := by
  go_enter Tryd.func23, Tryd.ntmps23
  go_wp2
  all_goals
    go_ret
    refine ⟨ret_bool ?_, rfl⟩
    rw [Bool.eq_iff_iff]
    simp [bgn] <;> omega
set_option maxHeartbeats 400000 in
theorem rdigit_any (c : UInt8) (w : World) :
    Calls Tryd.prog 24 #[.int .u8 (c.toNat : Int)] w fun e w' => e = .returned (.bool (dgt c)) ∧ w = w' := by
  go_enter Tryd.func24, Tryd.ntmps24
  go_wp2
  all_goals
    go_ret
    refine ⟨ret_bool ?_, rfl⟩
    rw [Bool.eq_iff_iff]
    simp [dgt] <;> omega

/-- is a text among others? -/
def amg (L : List (List UInt8)) (s : ByteArray) : Bool := L.contains s.data.toList
set_option maxHeartbeats 800000 in
set_option maxRecDepth 100000 in
theorem among_any (s : ByteArray) (L : List (List UInt8)) (n b : Nat) (hn : L.length = n) (w : World) (hb : n ≤ 1000)
    (hc : ∀ (i : Nat) (x : List UInt8), L[i]? = some x → w.cell? ⟨b, i, none⟩ = some (.string ⟨x.toArray⟩)) :
    Calls Tryd.prog 27 #[.string s, .slice (some ⟨b, 0, none⟩) n n] w fun e w' => e = .returned (.bool (amg L s)) ∧ w = w' := by
  subst hn
  replace hc := Lib.hid hc
  go_enter Tryd.func27, Tryd.ntmps27
  go_wp2
  go_loop [5] (fun i => ∃ k : Nat, k ≤ L.length ∧ i = .int .i64 k ∧ (L.take k).contains s.data.toList = false) (fun i => L.length - (intOf i).toNat)
  case atStart => exact ⟨0, by omega, rfl, by simp⟩
  case round =>
    obtain ⟨k, hk, rfl, hno⟩ := hrel
    by_cases hlt : k < L.length
    · obtain ⟨x, hx⟩ : ∃ x, L[k]? = some x := ⟨L[k], by simp [hlt]⟩
      have c0 := hc.out k x hx
      by_cases he : x = s.data.toList
      · have e1 : (⟨x.toArray⟩ : ByteArray).toList = s.toList := by rw [Lib.toList_data, Lib.toList_data, he]
        have HY : Hid (amg L s = true) := Lib.hid (by
          have := List.mem_of_getElem? hx
          rw [he] at this
          unfold amg; simpa using this)
        have hq : (x == s.toList) = true := by rw [Lib.toList_data, he]; simp
        clear hx he e1 hno
        go_wp2
        go_ret
        exact ⟨ret_bool HY.out.symm, rfl⟩
      · have HN : Hid ((L.take (k + 1)).contains s.data.toList = false) := Lib.hid (by
          rw [List.take_add_one, hx]
          rw [Bool.eq_false_iff] at hno ⊢
          intro h; apply hno
          simp only [Option.toList_some, List.contains_eq_mem, List.mem_append, List.mem_singleton, decide_eq_true_eq] at h ⊢
          rcases h with h | h
          · exact h
          · exact absurd h.symm he)
        have hq : (x == s.toList) = false := by rw [Lib.toList_data]; simpa using he
        clear hx he hno
        go_wp2
        go_round
        case rel => exact ⟨k + 1, by omega, by go_num, HN.out⟩
        case measure => simp [intOf]; omega
    · have HE : Hid (amg L s = false) := Lib.hid (by unfold amg; rw [List.take_of_length_le (by omega)] at hno; exact hno)
      clear hno
      go_wp2
      go_ret
      exact ⟨ret_bool HE.out.symm, rfl⟩

theorem texts_in (w : World) (X : Array Value) (L : List (List UInt8)) (hX : X.toList = L.map fun x => Value.string ⟨x.toArray⟩) :
    ∀ (i : Nat) (x : List UInt8), L[i]? = some x → (w.alloc (.cells X 9)).cell? ⟨w.heap.size, i, none⟩ = some (.string ⟨x.toArray⟩) := by
  intro i x hx
  have := cells_new w X 9 i (Value.string ⟨x.toArray⟩) (by rw [hX, List.getElem?_map, hx]; rfl)
  rw [Addr.add_lit] at this
  simpa using this
def strs (L : List (List UInt8)) : Array Value := (L.map fun x => Value.string ⟨x.toArray⟩).toArray
theorem among_new (s : ByteArray) (L : List (List UInt8)) (X : Array Value) (n : Nat) (hn : L.length = n) (hb : n ≤ 1000) (hX : X.toList = L.map fun x => Value.string ⟨x.toArray⟩) (w : World) :
    Calls Tryd.prog 27 #[.string s, .slice (some ⟨w.heap.size, 0, none⟩) n n] (w.alloc (.cells X 9)) fun e w' => e = .returned (.bool (amg L s)) ∧ Below w.heap.size w w' :=
  (among_any s L n w.heap.size hn _ hb (texts_in w X L hX)).mono fun _ _ ⟨he, hw⟩ => ⟨he, hw ▸ (Below.refl _ _).alloc (Nat.le_refl _) _⟩

set_option maxHeartbeats 800000 in
set_option maxRecDepth 100000 in
theorem rreserved_any (s : ByteArray) (w : World) :
    Calls Tryd.prog 18 #[.string s] w fun e w' => e = .returned (.bool (rsv s.data.toList)) ∧ Below w.heap.size w w' := by
  go_enter Tryd.func18, Tryd.ntmps18
  go_wp2_with fail
  have hc := among_new s words _ 15 rfl (by omega) (rfl : (strs words).toList = _) w
  refine hc.mono ?_
  rintro e w' ⟨rfl, hb⟩
  go_wp2_with fail
  go_ret
  exact ⟨rfl, hb⟩

def twos : List (List UInt8) := [[124, 124], [38, 38], [60, 61], [62, 61], [61, 61], [33, 61]]
def ones : List (List UInt8) := [[60], [62], [61], [43], [45], [42], [47], [37], [33], [40], [41], [123], [125], [91], [93], [59], [44]]
theorem sgnIn_app (n : Nat) : ∀ (A B : List (List UInt8)) (l : List UInt8), (∀ x ∈ A, x.length = n) → sgnIn (A ++ B) l = if A.any (·.isPrefixOf l) then n else sgnIn B l
  | [], B, l, _ => by simp
  | x :: r, B, l, h => by
    rw [List.cons_append, sgnIn, sgnIn_app n r B l (fun y hy => h y (by simp [hy])), List.any_cons]
    by_cases hp : x.isPrefixOf l = true
    · rw [if_pos hp, hp, Bool.true_or, if_pos rfl, h x (by simp)]
    · rw [if_neg hp]; simp [hp]
theorem pfx_take (n : Nat) (x l : List UInt8) (hx : x.length = n) : x.isPrefixOf l = (x == l.take n) := by
  rw [Bool.eq_iff_iff, List.isPrefixOf_iff_prefix, List.prefix_iff_eq_take, hx]; simp
theorem any_take (n : Nat) : ∀ (A : List (List UInt8)) (l : List UInt8), (∀ x ∈ A, x.length = n) → A.any (·.isPrefixOf l) = A.contains (l.take n)
  | [], l, _ => by simp
  | x :: r, l, h => by
    rw [List.any_cons, List.contains_cons, any_take n r l (fun y hy => h y (by simp [hy])), pfx_take n x l (h x (by simp))]
    congr 1
    rw [Bool.eq_iff_iff, beq_iff_eq, beq_iff_eq]; exact eq_comm
theorem sgn_eq (l : List UInt8) : sgn l = if twos.contains (l.take 2) then 2 else if ones.contains (l.take 1) then 1 else 0 := by
  have e : signs = twos ++ (ones ++ []) := rfl
  unfold sgn
  rw [e, sgnIn_app 2 twos _ l (by decide), sgnIn_app 1 ones [] l (by decide), any_take 2 twos l (by decide), any_take 1 ones l (by decide)]
  rfl
theorem twos_short (l : List UInt8) (h : l.length ≤ 1) : twos.contains (l.take 2) = false := by
  rw [Bool.eq_false_iff]; intro e
  have hm : l.take 2 ∈ twos := by simpa using e
  have : ∀ x ∈ twos, x.length = 2 := by decide
  have := this _ hm
  rw [List.length_take] at this
  omega
/-- how many bytes the sign at a text's beginning has -/
def sgB (s : ByteArray) : Nat := sgn s.data.toList
theorem amg_take (L : List (List UInt8)) (s : ByteArray) (n : Nat) : amg L (s.extract 0 n) = L.contains (s.data.toList.take n) := by
  unfold amg; rw [Lib.extract_data, List.drop_zero, Nat.sub_zero]
theorem sgB_two (s : ByteArray) (h : amg twos (s.extract 0 2) = true) : sgB s = 2 := by
  unfold sgB; rw [sgn_eq, ← amg_take, h, if_pos rfl]
theorem sgB_one (s : ByteArray) (h2 : amg twos (s.extract 0 2) = false) (h1 : amg ones (s.extract 0 1) = true) : sgB s = 1 := by
  unfold sgB; rw [sgn_eq, ← amg_take, ← amg_take, h2, h1]; rfl
theorem sgB_no (s : ByteArray) (h2 : amg twos (s.extract 0 2) = false) (h1 : amg ones (s.extract 0 1) = false) : sgB s = 0 := by
  unfold sgB; rw [sgn_eq, ← amg_take, ← amg_take, h2, h1]; rfl

set_option maxHeartbeats 400000 in
set_option maxRecDepth 100000 in
theorem rsign_long (s : ByteArray) (w : World) (h : 1 < s.size) (hs : s.size ≤ 100000) :
    Calls Tryd.prog 26 #[.string s] w fun e w' => e = .returned (.int .i64 (sgB s : Int)) ∧ Below w.heap.size w w' := by
  go_enter Tryd.func26, Tryd.ntmps26
  go_wp2_with fail
  have hc := among_new (s.extract 0 2) twos _ 6 rfl (by omega) (rfl : (strs twos).toList = _) w
  refine hc.mono ?_
  clear hc
  rintro e w1 ⟨rfl, hb1⟩
  cases h2 : amg twos (s.extract 0 2)
  · go_wp2_with fail
    have hc := among_new (s.extract 0 1) ones _ 17 rfl (by omega) (rfl : (strs ones).toList = _) w1
    refine hc.mono ?_
    clear hc
    rintro e w2 ⟨rfl, hb2⟩
    have hb := hb1.trans (hb2.mono hb1.size)
    cases h1 : amg ones (s.extract 0 1)
    · have HS := Lib.hid (sgB_no s h2 h1)
      go_wp2_with fail
      go_ret
      exact ⟨ret_int (by rw [HS.out]; rfl), hb⟩
    · have HS := Lib.hid (sgB_one s h2 h1)
      go_wp2_with fail
      go_ret
      exact ⟨ret_int (by rw [HS.out]; rfl), hb⟩
  · have HS := Lib.hid (sgB_two s h2)
    go_wp2_with fail
    go_ret
    exact ⟨ret_int (by rw [HS.out]; rfl), hb1⟩
set_option maxHeartbeats 400000 in
set_option maxRecDepth 100000 in
theorem rsign_short (s : ByteArray) (w : World) (h : s.size = 1) :
    Calls Tryd.prog 26 #[.string s] w fun e w' => e = .returned (.int .i64 (sgB s : Int)) ∧ Below w.heap.size w w' := by
  have h2 : amg twos (s.extract 0 2) = false := by rw [amg_take]; exact twos_short _ (by rw [← Lib.size_eq]; omega)
  replace h2 := Lib.hid h2
  have g1 : s.size ≤ 1 := by omega
  have g2 : 1 ≤ s.size := by omega
  clear h
  go_enter Tryd.func26, Tryd.ntmps26
  go_wp2_with fail
  have hc := among_new (s.extract 0 1) ones _ 17 rfl (by omega) (rfl : (strs ones).toList = _) w
  refine hc.mono ?_
  clear hc
  rintro e w1 ⟨rfl, hb⟩
  cases h1 : amg ones (s.extract 0 1)
  · have HS := Lib.hid (sgB_no s h2.out h1)
    go_wp2_with fail
    go_ret
    exact ⟨ret_int (by rw [HS.out]; rfl), hb⟩
  · have HS := Lib.hid (sgB_one s h2.out h1)
    go_wp2_with fail
    go_ret
    exact ⟨ret_int (by rw [HS.out]; rfl), hb⟩
theorem rsign_any (s : ByteArray) (w : World) (h : 0 < s.size) (hs : s.size ≤ 100000) :
    Calls Tryd.prog 26 #[.string s] w fun e w' => e = .returned (.int .i64 (sgB s : Int)) ∧ Below w.heap.size w w' := by
  by_cases h1 : 1 < s.size
  · exact rsign_long s w h1 hs
  · exact rsign_short s w (by omega)
end Go.Proofs.YtpgbgjljlidifaaDoor.Lx
