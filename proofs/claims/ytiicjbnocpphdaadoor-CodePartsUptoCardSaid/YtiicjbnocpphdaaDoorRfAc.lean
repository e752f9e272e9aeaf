/- Walks of the document's own answers: Reserved, Name. Conditions: none. -/
import Derived.Test.YtiicjbnocpphdaaDoorStrNe
import Derived.Test.YtiicjbnocpphdaaDoorCdG
namespace Go.Proofs.YtiicjbnocpphdaaDoor.Tr
open Go Go.RowKit
open Go.Proofs.YtiicjbnocpphdaaDoor.Lx Go.Proofs.YtiicjbnocpphdaaDoor.Cd

def okc : List UInt8 → Bool
  | [] => true
  | c :: r => bgn c && r.all wth
def nmeR (l : List UInt8) : Bool := !l.isEmpty && decide (l.length ≤ 32) && !rsv l && okc l
theorem run_all (p : UInt8 → Bool) : ∀ l, run p l = l.length ↔ l.all p = true
  | [] => by simp [run]
  | c :: r => by
    have := run_le p r
    unfold run
    by_cases h : p c = true
    · rw [if_pos h, List.length_cons, List.all_cons, h, Bool.true_and, ← run_all p r]; omega
    · rw [if_neg h, List.length_cons, List.all_cons, Bool.eq_false_iff.2 h, Bool.false_and]; simp
theorem okc_cons (c : UInt8) (r : List UInt8) : okc (c :: r) = (bgn c && r.all wth) := rfl
theorem nme_eq (l : List UInt8) : nme l = nmeR l := by
  cases l with
  | nil => rfl
  | cons c r =>
    unfold nme nmeR
    rw [cutL_cons, okc_cons]
    have hr := run_all wth (c :: r)
    have hle := run_le wth (c :: r)
    by_cases hb : bgn c = true
    · have hw : wth c = true := by unfold wth; rw [hb]; rfl
      rw [if_pos hb, hb]
      have hal : (c :: r).all wth = r.all wth := by rw [List.all_cons, hw, Bool.true_and]
      rw [hal] at hr
      by_cases h32 : 32 < run wth (c :: r)
      · rw [if_pos h32]
        have : ¬ (c :: r).length ≤ 32 := by omega
        rw [decide_eq_false this]
        simp
      · rw [if_neg h32, Bool.eq_iff_iff]
        simp only [Bool.and_eq_true, beq_iff_eq, decide_eq_true_eq, Bool.true_and]
        constructor
        · rintro ⟨⟨⟨h1, h2⟩, _⟩, h4⟩
          exact ⟨⟨⟨h1, by omega⟩, h2⟩, hr.1 h4⟩
        · rintro ⟨⟨⟨h1, h2⟩, h3⟩, h4⟩
          exact ⟨⟨⟨h1, h3⟩, trivial⟩, hr.2 h4⟩
    · rw [if_neg hb, Bool.eq_false_iff.2 hb, Bool.false_and, Bool.and_false, Bool.eq_false_iff]
      intro h
      simp only [Bool.and_eq_true, beq_iff_eq] at h
      obtain ⟨⟨_, h3⟩, _⟩ := h
      split at h3
      · split at h3 <;> simp at h3
      · split at h3 <;> simp at h3
theorem okc_snoc (l : List UInt8) (c : UInt8) : okc (l ++ [c]) = if l = [] then bgn c else okc l && wth c := by
  cases l with
  | nil => simp [okc]
  | cons x r =>
    simp [okc, Bool.and_assoc]
theorem okc_take {l : List UInt8} (h : okc l = true) (k : Nat) : okc (l.take k) = true := by
  cases l with
  | nil => simp [okc]
  | cons c r =>
    cases k with
    | zero => rfl
    | succ k =>
      rw [List.take_succ_cons]
      unfold okc at h ⊢
      simp only [Bool.and_eq_true, List.all_eq_true] at h ⊢
      exact ⟨h.1, fun x hx => h.2 x (List.mem_of_mem_take hx)⟩

theorem words_len : words.length = 15 := by rfl
def wordCells : Array Value := (words.map fun x => Value.string ⟨x.toArray⟩).toArray
theorem str_eq' {a b : ByteArray} (h : ¬ a = b) : (a.toList == b.toList) = false := str_ne h
set_option maxHeartbeats 4000000 in
set_option maxRecDepth 100000 in
theorem refres_any (s : ByteArray) (w : World) :
    Calls Tryd.prog 56 #[.string s] w fun e w' => e = .returned (.bool (rsv s.data.toList)) ∧ Below w.heap.size w w' := by
  have hW : ∀ j x, words[j]? = some x → (w.alloc (.cells wordCells 9)).cell? ⟨w.heap.size, j, none⟩ = some (.string ⟨x.toArray⟩) := fun j x hx => blk_cell (blk_new _ _ rfl) (by
    unfold wordCells
    rw [List.getElem?_toArray, List.getElem?_map, hx]; rfl)
  replace hW := Lib.hid hW
  go_enter Tryd.func56, Tryd.ntmps56
  go_wp2_with fail
  obtain ⟨w1, hw1⟩ : ∃ W, w.alloc (.cells wordCells 9) = W := ⟨_, rfl⟩
  have hb1 : Below w.heap.size w w1 := by rw [← hw1]; exact (Below.refl _ _).alloc (Nat.le_refl _) _
  rw [hw1] at hW
  have hw1' := hw1
  unfold wordCells words at hw1'
  simp only [List.map_cons, List.map_nil] at hw1'
  rw [hw1']
  clear hw1 hw1'
  go_loopw [7] (fun i wr => ∃ j : Nat, j ≤ 15 ∧ i = .int .i64 j ∧ Hid (∀ x ∈ words.take j, ¬ s.data.toList = x) ∧ wr = w1) (fun i _ => 15 - (intOf i).toNat)
  case atStart => exact ⟨0, by omega, rfl, Lib.hid (fun x hx => by simp at hx), rfl⟩
  case round =>
    obtain ⟨j, hj, rfl, hno, rfl⟩ := hrel
    by_cases hlt : j < 15
    · obtain ⟨x, hx⟩ : ∃ x, words[j]? = some x := ⟨words[j]'(by rw [words_len]; exact hlt), by simp [words_len, hlt]⟩
      have hc := hW.out j x hx
      have hmem := List.mem_of_getElem? hx
      have htk : words.take (j + 1) = words.take j ++ [x] := by rw [List.take_add_one, hx]; rfl
      obtain ⟨X, hX⟩ : ∃ X : ByteArray, X = ⟨x.toArray⟩ := ⟨_, rfl⟩
      have hXl : X.data.toList = x := by rw [hX]
      rw [← hX] at hc
      replace hX := Lib.hid hX
      replace hXl := Lib.hid hXl
      replace htk := Lib.hid htk
      replace hx := Lib.hid hx
      by_cases hs : s = X
      · subst hs
        have hyes : rsv s.data.toList = true := by rw [hXl.out]; unfold rsv; simpa using hmem
        replace hyes := Lib.hid hyes
        go_wp2_with fail
        go_ret
        exact ⟨ret_bool hyes.out.symm, hb1⟩
      · have hne := str_ne hs
        have hsl : ¬ s.data.toList = x := fun h => hs (by rw [hX.out, ← h, Lib.mk_data])
        replace hsl := Lib.hid hsl
        replace hs := Lib.hid hs
        go_wp2_with fail
        go_roundw
        case rel => exact ⟨j + 1, by omega, by go_num, Lib.hid (fun y hy => by
          rw [htk.out] at hy
          rcases List.mem_append.1 hy with hy | hy
          · exact hno.out y hy
          · rw [List.mem_singleton.1 hy]; exact hsl.out), trivial⟩
        case measure => simp [intOf]; omega
    · have hfin : rsv s.data.toList = false := by
        unfold rsv
        rw [Bool.eq_false_iff]
        intro h
        have hm : s.data.toList ∈ words := by simpa using h
        exact hno.out _ (by rw [List.take_of_length_le (by rw [words_len]; omega)]; exact hm) rfl
      replace hfin := Lib.hid hfin
      go_wp2_with fail
      go_ret
      exact ⟨ret_bool hfin.out.symm, hb1⟩
end Go.Proofs.YtiicjbnocpphdaaDoor.Tr
