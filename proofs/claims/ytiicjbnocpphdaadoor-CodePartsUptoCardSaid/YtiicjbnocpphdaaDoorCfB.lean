/- Walks of the document's Writes, Goal, within, SameIns, kept. Conditions: the instructions lie in memory. -/
import Derived.Test.YtiicjbnocpphdaaDoorCfA
import Derived.Test.YtiicjbnocpphdaaDoorCdK
namespace Go.Proofs.YtiicjbnocpphdaaDoor.Cd
open Go Go.RowKit
open Go.Proofs.YtiicjbnocpphdaaDoor.Lx Go.Proofs.YtiicjbnocpphdaaDoor.Tr

set_option maxHeartbeats 800000 in
theorem rwithin_any (n m : Int) (w : World) : Calls Tryd.prog 55 #[.int .i64 n, .int .i64 m] w fun e w' => e = .returned (.bool (inP n m)) ∧ Below w.heap.size w w' := by
  by_cases h1 : 0 ≤ n
  · by_cases h2 : n < m
    · go_enter Tryd.func55, Tryd.ntmps55
      go_wp2_with fail
      go_ret
      exact ⟨ret_bool (by simp [inP, h1, h2]), Below.refl _ _⟩
    · go_enter Tryd.func55, Tryd.ntmps55
      go_wp2_with fail
      go_ret
      exact ⟨ret_bool (by simp [inP, h2]), Below.refl _ _⟩
  · go_enter Tryd.func55, Tryd.ntmps55
    go_wp2_with fail
    go_ret
    exact ⟨ret_bool (by rw [inP, decide_eq_false (by omega : ¬ 0 ≤ n)]; rfl), Below.refl _ _⟩

set_option maxHeartbeats 2000000 in
set_option maxRecDepth 100000 in
theorem rwrites_o1 (r a b n : Int) (aa : Option Addr) (acap : Nat) (args : List Int) (w : World) :
    Calls Tryd.prog 54 #[(⟨1, r, a, b, n, aa, acap, args⟩ : Ins).val] w fun e w' => e = .returned (.tuple #[.int .i64 (wrP ⟨1, r, a, b, n, aa, acap, args⟩).1, .bool (wrP ⟨1, r, a, b, n, aa, acap, args⟩).2]) ∧ Below w.heap.size w w' := by
  go_enter Tryd.func54, Tryd.ntmps54
  go_wp2_with fail
  go_ret2
  exact ⟨rfl, b_alloc _ _⟩
set_option maxHeartbeats 2000000 in
set_option maxRecDepth 100000 in
theorem rwrites_o2 (r a b n : Int) (aa : Option Addr) (acap : Nat) (args : List Int) (w : World) :
    Calls Tryd.prog 54 #[(⟨2, r, a, b, n, aa, acap, args⟩ : Ins).val] w fun e w' => e = .returned (.tuple #[.int .i64 (wrP ⟨2, r, a, b, n, aa, acap, args⟩).1, .bool (wrP ⟨2, r, a, b, n, aa, acap, args⟩).2]) ∧ Below w.heap.size w w' := by
  go_enter Tryd.func54, Tryd.ntmps54
  go_wp2_with fail
  go_ret2
  exact ⟨rfl, b_alloc _ _⟩
set_option maxHeartbeats 2000000 in
set_option maxRecDepth 100000 in
theorem rwrites_o3 (r a b n : Int) (aa : Option Addr) (acap : Nat) (args : List Int) (w : World) :
    Calls Tryd.prog 54 #[(⟨3, r, a, b, n, aa, acap, args⟩ : Ins).val] w fun e w' => e = .returned (.tuple #[.int .i64 (wrP ⟨3, r, a, b, n, aa, acap, args⟩).1, .bool (wrP ⟨3, r, a, b, n, aa, acap, args⟩).2]) ∧ Below w.heap.size w w' := by
  go_enter Tryd.func54, Tryd.ntmps54
  go_wp2_with fail
  go_ret2
  exact ⟨rfl, b_alloc _ _⟩
set_option maxHeartbeats 2000000 in
set_option maxRecDepth 100000 in
theorem rwrites_o4 (r a b n : Int) (aa : Option Addr) (acap : Nat) (args : List Int) (w : World) :
    Calls Tryd.prog 54 #[(⟨4, r, a, b, n, aa, acap, args⟩ : Ins).val] w fun e w' => e = .returned (.tuple #[.int .i64 (wrP ⟨4, r, a, b, n, aa, acap, args⟩).1, .bool (wrP ⟨4, r, a, b, n, aa, acap, args⟩).2]) ∧ Below w.heap.size w w' := by
  go_enter Tryd.func54, Tryd.ntmps54
  go_wp2_with fail
  go_ret2
  exact ⟨rfl, b_alloc _ _⟩
set_option maxHeartbeats 2000000 in
set_option maxRecDepth 100000 in
theorem rwrites_o5 (r a b n : Int) (aa : Option Addr) (acap : Nat) (args : List Int) (w : World) :
    Calls Tryd.prog 54 #[(⟨5, r, a, b, n, aa, acap, args⟩ : Ins).val] w fun e w' => e = .returned (.tuple #[.int .i64 (wrP ⟨5, r, a, b, n, aa, acap, args⟩).1, .bool (wrP ⟨5, r, a, b, n, aa, acap, args⟩).2]) ∧ Below w.heap.size w w' := by
  go_enter Tryd.func54, Tryd.ntmps54
  go_wp2_with fail
  go_ret2
  exact ⟨rfl, b_alloc _ _⟩
set_option maxHeartbeats 2000000 in
set_option maxRecDepth 100000 in
theorem rwrites_o10 (r a b n : Int) (aa : Option Addr) (acap : Nat) (args : List Int) (w : World) :
    Calls Tryd.prog 54 #[(⟨10, r, a, b, n, aa, acap, args⟩ : Ins).val] w fun e w' => e = .returned (.tuple #[.int .i64 (wrP ⟨10, r, a, b, n, aa, acap, args⟩).1, .bool (wrP ⟨10, r, a, b, n, aa, acap, args⟩).2]) ∧ Below w.heap.size w w' := by
  go_enter Tryd.func54, Tryd.ntmps54
  go_wp2_with fail
  go_ret2
  exact ⟨rfl, b_alloc _ _⟩
set_option maxHeartbeats 2000000 in
set_option maxRecDepth 100000 in
theorem rwrites_no (op r a b n : Int) (aa : Option Addr) (acap : Nat) (args : List Int) (w : World) (h : ¬ op = 1 ∧ ¬ op = 2 ∧ ¬ op = 3 ∧ ¬ op = 4 ∧ ¬ op = 5 ∧ ¬ op = 10) :
    Calls Tryd.prog 54 #[(⟨op, r, a, b, n, aa, acap, args⟩ : Ins).val] w fun e w' => e = .returned (.tuple #[.int .i64 (wrP ⟨op, r, a, b, n, aa, acap, args⟩).1, .bool (wrP ⟨op, r, a, b, n, aa, acap, args⟩).2]) ∧ Below w.heap.size w w' := by
  obtain ⟨h1, h2, h3, h4, h5, h10⟩ := h
  have hp : wrP ⟨op, r, a, b, n, aa, acap, args⟩ = (0, false) := by simp [wrP, hasR, h1, h2, h3, h4, h5, h10]
  rw [hp]
  clear hp
  have e1 := ne_b h1
  have e2 := ne_b h2
  have e3 := ne_b h3
  have e4 := ne_b h4
  have e5 := ne_b h5
  have e10 := ne_b h10
  clear h1 h2 h3 h4 h5 h10
  go_enter Tryd.func54, Tryd.ntmps54
  go_wp2_with fail
  go_ret2
  exact ⟨rfl, b_alloc _ _⟩
set_option maxHeartbeats 2000000 in
set_option maxRecDepth 100000 in
theorem rwrites_any (i : Ins) (w : World) :
    Calls Tryd.prog 54 #[i.val] w fun e w' => e = .returned (.tuple #[.int .i64 (wrP i).1, .bool (wrP i).2]) ∧ Below w.heap.size w w' := by
  obtain ⟨op, r, a, b, n, aa, acap, args⟩ := i
  by_cases h : ¬ op = 1 ∧ ¬ op = 2 ∧ ¬ op = 3 ∧ ¬ op = 4 ∧ ¬ op = 5 ∧ ¬ op = 10
  · exact rwrites_no op r a b n aa acap args w h
  · have h' : op = 1 ∨ op = 2 ∨ op = 3 ∨ op = 4 ∨ op = 5 ∨ op = 10 := by omega
    rcases h' with rfl | rfl | rfl | rfl | rfl | rfl
    · exact rwrites_o1 r a b n aa acap args w
    · exact rwrites_o2 r a b n aa acap args w
    · exact rwrites_o3 r a b n aa acap args w
    · exact rwrites_o4 r a b n aa acap args w
    · exact rwrites_o5 r a b n aa acap args w
    · exact rwrites_o10 r a b n aa acap args w
theorem box2 (w : World) (i k : Ins) : ((w.alloc (.cells ⟨i.vals⟩ 31)).alloc (.cells ⟨k.vals⟩ 31)).cell? ⟨w.heap.size, 5, none⟩ = some (.slice i.aa i.args.length i.acap) ∧ ((w.alloc (.cells ⟨i.vals⟩ 31)).alloc (.cells ⟨k.vals⟩ 31)).cell? ⟨w.heap.size + 1, 5, none⟩ = some (.slice k.aa k.args.length k.acap) :=
  ⟨below_in (b_alloc _ _) (box_new w i.vals 31 5 _ rfl), cells_of (t := 31) (vs := k.vals) (blk_new _ _ (by simp)) 5 _ rfl⟩
set_option maxHeartbeats 4000000 in
set_option maxRecDepth 100000 in
theorem rsameIns_any (i k : Ins) (w : World) (hi : RowAt w (fun _ => True) i.aa i.acap i.args.length (numCells i.args)) (hk : RowAt w (fun _ => True) k.aa k.acap k.args.length (numCells k.args)) :
    Calls Tryd.prog 42 #[i.val, k.val] w fun x w' => x = .returned (.bool (sameI i k)) ∧ Below w.heap.size w w' := by
  obtain ⟨op, r, a, b, n, aa, acap, args⟩ := i
  obtain ⟨op', r', a', b', n', aa', acap', args'⟩ := k
  unfold sameI
  simp only at hi hk ⊢
  obtain ⟨hc11, hc12⟩ := len_i hi
  obtain ⟨hc21, hc22⟩ := len_i hk
  have hbx := Lib.hid (box2 w ⟨op, r, a, b, n, aa, acap, args⟩ ⟨op', r', a', b', n', aa', acap', args'⟩)
  by_cases h0 : op = op'
  · subst h0
    by_cases h1 : r = r'
    · subst h1
      by_cases h2 : a = a'
      · subst h2
        by_cases h3 : b = b'
        · subst h3
          by_cases h4 : n = n'
          · subst h4
            by_cases hle : args.length = args'.length
            · have hne : ((args.length : Int) != (args'.length : Int)) = false := by rw [hle]; simp
              have hle' := Lib.hid hle
              have hst := Lib.hid (b_alloc2 w (.cells ⟨(⟨op, r, a, b, n, aa, acap, args⟩ : Ins).vals⟩ 31) (.cells ⟨(⟨op, r, a, b, n, aa', acap', args'⟩ : Ins).vals⟩ 31))
              have hri := hi.below (Kps.of_below hst.out)
              have hrk := hk.below (Kps.of_below hst.out)
              clear hle hi hk
              go_enter Tryd.func42, Tryd.ntmps42
              go_wp2
              generalize hW0 : (w.alloc (.cells ⟨(⟨op, r, a, b, n, aa, acap, args⟩ : Ins).vals⟩ 31)).alloc (.cells ⟨(⟨op, r, a, b, n, aa', acap', args'⟩ : Ins).vals⟩ 31) = W0 at hst hri hrk hbx
              obtain ⟨q1, q2⟩ := hbx.out
              go_loopw [5] (fun i wr => ∃ k : Nat, k ≤ args.length ∧ i = .int .i64 k ∧ args.take k = args'.take k ∧ ∃ m, wr = W0.drewN m) (fun i _ => args.length - (intOf i).toNat)
              case atStart => exact ⟨0, Nat.zero_le _, rfl, rfl, 0, hW0⟩
              case round =>
                obtain ⟨k, hk, rfl, htk, m, rfl⟩ := hrel
                replace htk := Lib.hid htk
                by_cases hlt : k < args.length
                · have hlt' : k < args'.length := by rw [← hle'.out]; exact hlt
                  obtain ⟨x, hx⟩ : ∃ e, args[k]? = some e := ⟨args[k], by simp [hlt]⟩
                  obtain ⟨y, hy⟩ : ∃ e, args'[k]? = some e := ⟨args'[k], by simp [hlt']⟩
                  obtain ⟨b1, off, rfl, _, hcell⟩ := num_row hri k x hx
                  obtain ⟨b2, off', rfl, _, hcell'⟩ := num_row hrk k y hy
                  replace hx := Lib.hid hx
                  replace hy := Lib.hid hy
                  clear hri hrk hW0
                  by_cases hxy : x = y
                  · have HT : Hid (args.take (k + 1) = args'.take (k + 1)) := Lib.hid (by rw [List.take_add_one, List.take_add_one, htk.out, hx.out, hy.out, hxy])
                    subst hxy
                    go_wp2
                    go_quiet (fail)
                    go_wp2
                    go_roundw
                    case rel => exact ⟨k + 1, by omega, by go_num, HT.out, _, rfl⟩
                    case measure => simp [intOf]; omega
                  · have HN : Hid (decide (args = args') = false) := Lib.hid (by
                      rw [decide_eq_false_iff_not]; intro e; apply hxy
                      have h3 := hx.out; rw [e, hy.out] at h3
                      exact (Option.some.inj h3).symm)
                    have hs1 := ne_n hxy
                    clear hxy
                    go_wp2
                    go_quiet (fail)
                    go_wp2
                    go_ret
                    exact ⟨ret_bool (by rw [HN.out]; simp), hst.out.trans ⟨rfl, rfl, rfl, Nat.le_refl _, fun _ _ => rfl⟩⟩
                · have HE : Hid (decide (args = args') = true) := Lib.hid (by
                    have h3 := htk.out
                    have h4 := hle'.out
                    rw [List.take_of_length_le (by omega), List.take_of_length_le (by omega)] at h3
                    simpa using h3)
                  clear htk hri hrk hW0
                  go_wp2
                  go_ret
                  exact ⟨ret_bool (by rw [HE.out]; simp), hst.out.trans ⟨rfl, rfl, rfl, Nat.le_refl _, fun _ _ => rfl⟩⟩
            · have hne : ((args.length : Int) != (args'.length : Int)) = true := by simp; omega
              have hF : Hid (decide (args = args') = false) := Lib.hid (by rw [decide_eq_false_iff_not]; intro h; exact hle (by rw [h]))
              clear hbx
              go_enter Tryd.func42, Tryd.ntmps42
              go_wp2_with fail
              go_ret
              exact ⟨ret_bool (by rw [hF.out]; simp), b_alloc2 _ _ _⟩
          · have e4 := ne_n h4
            clear hbx
            go_enter Tryd.func42, Tryd.ntmps42
            go_wp2_with fail
            go_ret
            exact ⟨ret_bool (by simp [*]), b_alloc2 _ _ _⟩
        · have e3 := ne_n h3
          clear hbx
          go_enter Tryd.func42, Tryd.ntmps42
          go_wp2_with fail
          go_ret
          exact ⟨ret_bool (by simp [*]), b_alloc2 _ _ _⟩
      · have e2 := ne_n h2
        clear hbx
        go_enter Tryd.func42, Tryd.ntmps42
        go_wp2_with fail
        go_ret
        exact ⟨ret_bool (by simp [*]), b_alloc2 _ _ _⟩
    · have e1 := ne_n h1
      clear hbx
      go_enter Tryd.func42, Tryd.ntmps42
      go_wp2_with fail
      go_ret
      exact ⟨ret_bool (by simp [*]), b_alloc2 _ _ _⟩
  · have e0 := ne_n h0
    clear hbx
    go_enter Tryd.func42, Tryd.ntmps42
    go_wp2_with fail
    go_ret
    exact ⟨ret_bool (by simp [*]), b_alloc2 _ _ _⟩
end Go.Proofs.YtiicjbnocpphdaaDoor.Cd
