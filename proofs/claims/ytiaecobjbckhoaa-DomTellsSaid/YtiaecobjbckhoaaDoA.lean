/- Walks of Ints, long, of the walk of an example. Conditions: what is handed in lies in memory. -/
import Derived.Test.YtiaecobjbckhoaaDnD
import Derived.BigQuiet
set_option linter.unusedVariables false
set_option linter.unusedSimpArgs false
namespace Go.Proofs.Ytiaecobjbckhoaa.Db
open Go Go.RowKit
open Go.WideShapes Go.MapKept

theorem row_own {B : Nat} {e : TypeId} {c n : Nat} {v : Value} {xs : List Value} {w : World} (h : w.ownsRow B e c v n xs) : ∃ a cap, v = .slice a n cap ∧ RowAt w (fun b => B ≤ b) a cap n xs := by
  obtain ⟨hlen, ⟨rfl, h0⟩ | ⟨g, cap, cur, rfl, hB, hg, h1, h2, h3, h4⟩⟩ := h
  · subst h0
    have : xs = [] := List.eq_nil_of_length_eq_zero (by simpa using hlen)
    subst this
    exact ⟨none, 0, rfl, row_none _ _⟩
  · refine ⟨_, cap, rfl, ⟨h1, h2, fun h => (by cases h), fun j u hj => ⟨g, 0, rfl, hB, ?_⟩⟩⟩
    have hj2 : j < n * c := by rw [← hlen]; exact (List.getElem?_eq_some_iff.1 hj).1
    rw [Nat.zero_add]
    rw [← h4, List.getElem?_take, if_pos hj2] at hj
    simp only [World.cell?, hg]
    simpa using hj
theorem ne_n {x y : Int} (h : ¬x = y) : (x != y) = true := by simpa using h
set_option maxHeartbeats 800000 in
set_option maxRecDepth 100000 in
theorem ints_any (l l' : List Int) (a a' : Option Addr) (cap cap' : Nat) (w : World) (hrow : RowAt w (fun _ => True) a cap l.length (numCells l)) (hrow' : RowAt w (fun _ => True) a' cap' l'.length (numCells l')) :
    Calls Try.prog 23 #[.slice a l.length cap, .slice a' l'.length cap'] w fun x w' => x = .returned (.bool (decide (l = l'))) ∧ Below w.heap.size w w' := by
  obtain ⟨hc11, hc12⟩ := len_i hrow
  obtain ⟨hc21, hc22⟩ := len_i hrow'
  by_cases hle : l.length = l'.length
  · have hne : ((l.length : Int) != (l'.length : Int)) = false := by rw [hle]; simp
    have hle' := Lib.hid hle
    go_enter Try.func23, Try.ntmps23
    clear hle
    go_wp2
    go_loopw [5] (fun i wr => ∃ k : Nat, k ≤ l.length ∧ i = .int .i64 k ∧ l.take k = l'.take k ∧ ∃ m, wr = w.drewN m) (fun i _ => l.length - (intOf i).toNat)
    case atStart => exact ⟨0, Nat.zero_le _, rfl, rfl, 0, rfl⟩
    case round =>
      obtain ⟨k, hk, rfl, htk, m, rfl⟩ := hrel
      replace htk := Lib.hid htk
      by_cases hlt : k < l.length
      · have hlt' : k < l'.length := by rw [← hle'.out]; exact hlt
        obtain ⟨x, hx⟩ : ∃ e, l[k]? = some e := ⟨l[k], by simp [hlt]⟩
        obtain ⟨y, hy⟩ : ∃ e, l'[k]? = some e := ⟨l'[k], by simp [hlt']⟩
        obtain ⟨b, off, rfl, _, hcell⟩ := hrow.at_ k (.int .i64 x) (by unfold numCells; rw [List.getElem?_map, hx]; rfl)
        obtain ⟨b', off', rfl, _, hcell'⟩ := hrow'.at_ k (.int .i64 y) (by unfold numCells; rw [List.getElem?_map, hy]; rfl)
        replace hx := Lib.hid hx
        replace hy := Lib.hid hy
        have hkl' : k < l'.length := hlt'
        by_cases hxy : x = y
        · have HT : Hid (l.take (k + 1) = l'.take (k + 1)) := Lib.hid (by rw [List.take_add_one, List.take_add_one, htk.out, hx.out, hy.out, hxy])
          subst hxy
          go_wp2
          go_quiet (fail)
          go_wp2
          go_roundw
          case rel => exact ⟨k + 1, by omega, by go_num, HT.out, _, rfl⟩
          case measure => simp [intOf]; omega
        · have HN : Hid (decide (l = l') = false) := Lib.hid (by
            rw [decide_eq_false_iff_not]; intro e; apply hxy
            have h3 := hx.out; rw [e, hy.out] at h3
            exact (Option.some.inj h3).symm)
          have hs1 := ne_n hxy
          clear hxy
          go_wp2
          go_quiet (fail)
          go_wp2
          go_ret
          exact ⟨ret_bool HN.out.symm, ⟨rfl, rfl, rfl, Nat.le_refl _, fun _ _ => rfl⟩⟩
      · have HE : Hid (decide (l = l') = true) := Lib.hid (by
          have h3 := htk.out
          have h4 := hle'.out
          rw [List.take_of_length_le (by omega), List.take_of_length_le (by omega)] at h3
          simpa using h3)
        clear htk
        go_wp2
        go_ret
        exact ⟨ret_bool HE.out.symm, ⟨rfl, rfl, rfl, Nat.le_refl _, fun _ _ => rfl⟩⟩
  · have hne : ((l.length : Int) != (l'.length : Int)) = true := by simp; omega
    have hF : Hid (decide (l = l') = false) := Lib.hid (by rw [decide_eq_false_iff_not]; intro h; exact hle (by rw [h]))
    go_enter Try.func23, Try.ntmps23
    go_wp2
    go_ret
    exact ⟨ret_bool hF.out.symm, Below.refl _ _⟩

/-- is a graph more than a statement goes over? -/
def longP (T : List Tl) : Bool := decide (40 < T.length) || (T.any (fun x => decide (60 < x.l.length)) || decide (200 < (T.map fun x => x.l.length).sum))
theorem sum_take {T : List Tl} : ∀ k, k ≤ T.length → (∀ x ∈ T.take k, x.l.length ≤ 60) → ((T.take k).map fun x => x.l.length).sum ≤ k * 60 := by
  intro k hk h
  have : ∀ l : List Tl, (∀ x ∈ l, x.l.length ≤ 60) → (l.map fun x => x.l.length).sum ≤ l.length * 60 := by
    intro l
    induction l with
    | nil => intro _; simp
    | cons x r ih =>
      intro hl
      have h1 := hl x List.mem_cons_self
      have h2 := ih fun y hy => hl y (List.mem_cons_of_mem _ hy)
      rw [List.map_cons, List.sum_cons, List.length_cons, Nat.succ_mul]
      omega
  have h3 := this _ h
  rw [List.length_take, Nat.min_eq_left hk] at h3
  exact h3
set_option maxHeartbeats 1600000 in
set_option maxRecDepth 100000 in
theorem long_c {T : List Tl} (n tcap : Nat) (ta : Option Addr) (w : World) (hT : T.length = n) (hg : ToM w.heap.size ta tcap T w) :
    Calls Try.prog 9 #[.slice ta n tcap] w fun e w' => e = .returned (.bool (longP T)) ∧ w' = w := by
  obtain ⟨hc1, hc2⟩ := len_i hg.row
  rw [hT] at hc1
  by_cases h40 : 40 < n
  · have hF : Hid (longP T = true) := Lib.hid (by unfold longP; rw [hT]; simp [h40])
    have h40' : (40 : Int) < (n : Int) := by omega
    go_enter Try.func9, Try.ntmps9
    clear h40
    go_wp2_with fail
    go_ret
    exact ⟨ret_bool hF.out.symm, rfl⟩
  · have h40' : ¬ (40 : Int) < (n : Int) := by omega
    have hrow := hg.row
    rw [hT] at hrow
    have hn40 : n ≤ 40 := by omega
    go_enter Try.func9, Try.ntmps9
    clear h40
    go_wp2_with fail
    go_loopw [3, 4] (fun c i wr => ∃ k : Nat, k ≤ n ∧ i = .int .i64 k ∧ (∃ s : Nat, c = .int .i64 s ∧ s = ((T.take k).map fun x => x.l.length).sum ∧ s ≤ k * 60) ∧ Hid ((T.take k).any (fun x => decide (60 < x.l.length)) = false) ∧ wr = w) (fun _ i _ => n - (intOf i).toNat)
    case atStart => exact ⟨0, Nat.zero_le _, rfl, ⟨0, rfl, by simp, by omega⟩, Lib.hid (by simp), rfl⟩
    case round =>
      obtain ⟨k, hk, rfl, ⟨s, rfl, hs, hs60⟩, hany, rfl⟩ := hrel
      by_cases hlt : k < n
      · obtain ⟨x, hx⟩ : ∃ x, T[k]? = some x := ⟨_, List.getElem?_eq_getElem (by omega)⟩
        obtain ⟨b, off, rfl, _, hcell⟩ := tl_row hg.row k x hx
        obtain ⟨hl1, hl2⟩ := len_i (hg.rows x (List.mem_of_getElem? hx))
        have htk : T.take (k + 1) = T.take k ++ [x] := by rw [List.take_add_one, hx]; rfl
        have hk0 : (0 : Int) ≤ (k : Int) := by omega
        have hk1 : (k : Int) < (n : Int) := by omega
        by_cases h60 : 60 < x.l.length
        · have hF : Hid (longP T = true) := Lib.hid (by
            unfold longP
            have : T.any (fun x => decide (60 < x.l.length)) = true := List.any_eq_true.2 ⟨x, List.mem_of_getElem? hx, by simpa using h60⟩
            simp [this])
          have h60' : (60 : Int) < (x.l.length : Int) := by omega
          replace hs := Lib.hid hs
          clear hany htk h60 hx
          go_wp2_with fail
          go_ret
          exact ⟨ret_bool hF.out.symm, rfl⟩
        · have h60' : ¬(60 : Int) < (x.l.length : Int) := by omega
          have hs2 : Hid (s + x.l.length = ((T.take (k + 1)).map fun x => x.l.length).sum ∧ s + x.l.length ≤ (k + 1) * 60) := Lib.hid ⟨by rw [htk, List.map_append, List.sum_append, ← hs]; simp, by rw [Nat.succ_mul]; omega⟩
          have hany2 : Hid ((T.take (k + 1)).any (fun x => decide (60 < x.l.length)) = false) := Lib.hid (by rw [htk, List.any_append, hany.out]; simp; omega)
          replace hs := Lib.hid hs
          have hs3 : s ≤ 2400 := by omega
          have hl3 : x.l.length ≤ 60 := by omega
          clear hany htk h60 hx
          go_wp2_with fail
          go_roundw
          case rel => exact ⟨k + 1, by omega, by go_num, ⟨s + x.l.length, by go_num, hs2.out.1, hs2.out.2⟩, hany2, trivial⟩
          case measure => simp [intOf]; omega
      · have hkn : k = n := by omega
        have e1 : T.take k = T := List.take_of_length_le (by omega)
        rw [e1] at hs hany
        have hF : Hid (longP T = decide ((200 : Int) < (s : Int))) := Lib.hid (by
          unfold longP
          rw [hany.out, ← hs, hT]
          have : ¬ 40 < n := by omega
          simp [this]
          omega)
        replace hs := Lib.hid hs
        clear hany e1
        go_wp2_with fail
        go_ret
        exact ⟨ret_bool hF.out.symm, rfl⟩
end Go.Proofs.Ytiaecobjbckhoaa.Db
