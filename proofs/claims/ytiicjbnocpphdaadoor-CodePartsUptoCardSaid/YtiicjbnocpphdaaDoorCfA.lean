/- Walks of the document's Reads, Writes, Goal, within. Conditions: the instruction lies in memory. -/
import Derived.Test.YtiicjbnocpphdaaDoorCeC
namespace Go.Proofs.YtiicjbnocpphdaaDoor.Cd
open Go Go.RowKit
open Go.Proofs.YtiicjbnocpphdaaDoor.Lx Go.Proofs.YtiicjbnocpphdaaDoor.Tr

theorem news_at (W : World) (vs : List Value) (t : TypeId) (B : Nat) (hB : W.heap.size = B) : ∀ j u, vs[j]? = some u → (W.alloc (.cells ⟨vs⟩ t)).cell? ((⟨B, 0, none⟩ : Addr).add j) = some u := fun j u hu => by
  subst hB
  rw [Go.WideShapes.add_plain, Nat.zero_add]
  exact box_new W vs t j u hu

set_option maxHeartbeats 4000000 in
set_option maxRecDepth 100000 in
theorem rreads_o2 (r a b n : Int) (aa : Option Addr) (acap : Nat) (args : List Int) (w : World) :
    Calls Tryd.prog 53 #[(⟨2, r, a, b, n, aa, acap, args⟩ : Ins).val] w fun e w' => ∃ v, e = .returned v ∧ w'.ownsRow w.heap.size 3 1 v (rdP ⟨2, r, a, b, n, aa, acap, args⟩).length (numCells (rdP ⟨2, r, a, b, n, aa, acap, args⟩)) ∧ Below w.heap.size w w' := by
  have hrd : rdP ⟨2, r, a, b, n, aa, acap, args⟩ = [a] := by simp [rdP, rdA, rdB, rdC, hasA, hasB, hasF, numK]
  rw [hrd]
  clear hrd
  obtain ⟨i0, hi0, hz0, hz1, hz2⟩ := info_i
  go_enter Tryd.func53, Tryd.ntmps53
  go_wp2_with (at_builtin; refine wpList_append_own_at _ rfl _ _ 29 rfl w.heap.size 3 i0 _ 1 8 Tryd.underlying29 hi0 hz0 hz1 hz2 rfl (by decide) _ _ _ rfl (World.ownsRow_nil _ _ _ _) _ 1 1 [.int .i64 a] rfl rfl (news_at _ _ _ _ (by first | rfl | simp)) (by simp [Value.oneCell']) (by unfold maxLen; decide) (by decide) (by first | (simp; done) | (simp; omega)) ?_)
  intro v1 w1 hown1 hg1 _ hat1
  have hq1 := Lib.hid (((b_alloc w (.cells ⟨(⟨2, r, a, b, n, aa, acap, args⟩ : Ins).vals⟩ 31)).alloc (by simp) _).grown hg1 (by first | (simp; done) | (simp; omega)) (fun k e => by cases e) : Below w.heap.size w w1)
  replace hown1 := Lib.hid hown1
  clear hg1 hat1
  go_wp2_with fail
  go_ret
  exact ⟨_, rfl, by simpa [numCells] using hown1.out, hq1.out⟩
set_option maxHeartbeats 4000000 in
set_option maxRecDepth 100000 in
theorem rreads_o3 (r a b n : Int) (aa : Option Addr) (acap : Nat) (args : List Int) (w : World) :
    Calls Tryd.prog 53 #[(⟨3, r, a, b, n, aa, acap, args⟩ : Ins).val] w fun e w' => ∃ v, e = .returned v ∧ w'.ownsRow w.heap.size 3 1 v (rdP ⟨3, r, a, b, n, aa, acap, args⟩).length (numCells (rdP ⟨3, r, a, b, n, aa, acap, args⟩)) ∧ Below w.heap.size w w' := by
  have hrd : rdP ⟨3, r, a, b, n, aa, acap, args⟩ = [a] := by simp [rdP, rdA, rdB, rdC, hasA, hasB, hasF, numK]
  rw [hrd]
  clear hrd
  obtain ⟨i0, hi0, hz0, hz1, hz2⟩ := info_i
  go_enter Tryd.func53, Tryd.ntmps53
  go_wp2_with (at_builtin; refine wpList_append_own_at _ rfl _ _ 29 rfl w.heap.size 3 i0 _ 1 8 Tryd.underlying29 hi0 hz0 hz1 hz2 rfl (by decide) _ _ _ rfl (World.ownsRow_nil _ _ _ _) _ 1 1 [.int .i64 a] rfl rfl (news_at _ _ _ _ (by first | rfl | simp)) (by simp [Value.oneCell']) (by unfold maxLen; decide) (by decide) (by first | (simp; done) | (simp; omega)) ?_)
  intro v1 w1 hown1 hg1 _ hat1
  have hq1 := Lib.hid (((b_alloc w (.cells ⟨(⟨3, r, a, b, n, aa, acap, args⟩ : Ins).vals⟩ 31)).alloc (by simp) _).grown hg1 (by first | (simp; done) | (simp; omega)) (fun k e => by cases e) : Below w.heap.size w w1)
  replace hown1 := Lib.hid hown1
  clear hg1 hat1
  go_wp2_with fail
  go_ret
  exact ⟨_, rfl, by simpa [numCells] using hown1.out, hq1.out⟩
set_option maxHeartbeats 4000000 in
set_option maxRecDepth 100000 in
theorem rreads_o9 (r a b n : Int) (aa : Option Addr) (acap : Nat) (args : List Int) (w : World) :
    Calls Tryd.prog 53 #[(⟨9, r, a, b, n, aa, acap, args⟩ : Ins).val] w fun e w' => ∃ v, e = .returned v ∧ w'.ownsRow w.heap.size 3 1 v (rdP ⟨9, r, a, b, n, aa, acap, args⟩).length (numCells (rdP ⟨9, r, a, b, n, aa, acap, args⟩)) ∧ Below w.heap.size w w' := by
  have hrd : rdP ⟨9, r, a, b, n, aa, acap, args⟩ = [a] := by simp [rdP, rdA, rdB, rdC, hasA, hasB, hasF, numK]
  rw [hrd]
  clear hrd
  obtain ⟨i0, hi0, hz0, hz1, hz2⟩ := info_i
  go_enter Tryd.func53, Tryd.ntmps53
  go_wp2_with (at_builtin; refine wpList_append_own_at _ rfl _ _ 29 rfl w.heap.size 3 i0 _ 1 8 Tryd.underlying29 hi0 hz0 hz1 hz2 rfl (by decide) _ _ _ rfl (World.ownsRow_nil _ _ _ _) _ 1 1 [.int .i64 a] rfl rfl (news_at _ _ _ _ (by first | rfl | simp)) (by simp [Value.oneCell']) (by unfold maxLen; decide) (by decide) (by first | (simp; done) | (simp; omega)) ?_)
  intro v1 w1 hown1 hg1 _ hat1
  have hq1 := Lib.hid (((b_alloc w (.cells ⟨(⟨9, r, a, b, n, aa, acap, args⟩ : Ins).vals⟩ 31)).alloc (by simp) _).grown hg1 (by first | (simp; done) | (simp; omega)) (fun k e => by cases e) : Below w.heap.size w w1)
  replace hown1 := Lib.hid hown1
  clear hg1 hat1
  go_wp2_with fail
  go_ret
  exact ⟨_, rfl, by simpa [numCells] using hown1.out, hq1.out⟩
set_option maxHeartbeats 4000000 in
set_option maxRecDepth 100000 in
theorem rreads_o12 (r a b n : Int) (aa : Option Addr) (acap : Nat) (args : List Int) (w : World) :
    Calls Tryd.prog 53 #[(⟨12, r, a, b, n, aa, acap, args⟩ : Ins).val] w fun e w' => ∃ v, e = .returned v ∧ w'.ownsRow w.heap.size 3 1 v (rdP ⟨12, r, a, b, n, aa, acap, args⟩).length (numCells (rdP ⟨12, r, a, b, n, aa, acap, args⟩)) ∧ Below w.heap.size w w' := by
  have hrd : rdP ⟨12, r, a, b, n, aa, acap, args⟩ = [a] := by simp [rdP, rdA, rdB, rdC, hasA, hasB, hasF, numK]
  rw [hrd]
  clear hrd
  obtain ⟨i0, hi0, hz0, hz1, hz2⟩ := info_i
  go_enter Tryd.func53, Tryd.ntmps53
  go_wp2_with (at_builtin; refine wpList_append_own_at _ rfl _ _ 29 rfl w.heap.size 3 i0 _ 1 8 Tryd.underlying29 hi0 hz0 hz1 hz2 rfl (by decide) _ _ _ rfl (World.ownsRow_nil _ _ _ _) _ 1 1 [.int .i64 a] rfl rfl (news_at _ _ _ _ (by first | rfl | simp)) (by simp [Value.oneCell']) (by unfold maxLen; decide) (by decide) (by first | (simp; done) | (simp; omega)) ?_)
  intro v1 w1 hown1 hg1 _ hat1
  have hq1 := Lib.hid (((b_alloc w (.cells ⟨(⟨12, r, a, b, n, aa, acap, args⟩ : Ins).vals⟩ 31)).alloc (by simp) _).grown hg1 (by first | (simp; done) | (simp; omega)) (fun k e => by cases e) : Below w.heap.size w w1)
  replace hown1 := Lib.hid hown1
  clear hg1 hat1
  go_wp2_with fail
  go_ret
  exact ⟨_, rfl, by simpa [numCells] using hown1.out, hq1.out⟩
set_option maxHeartbeats 4000000 in
set_option maxRecDepth 100000 in
theorem rreads_o13 (r a b n : Int) (aa : Option Addr) (acap : Nat) (args : List Int) (w : World) :
    Calls Tryd.prog 53 #[(⟨13, r, a, b, n, aa, acap, args⟩ : Ins).val] w fun e w' => ∃ v, e = .returned v ∧ w'.ownsRow w.heap.size 3 1 v (rdP ⟨13, r, a, b, n, aa, acap, args⟩).length (numCells (rdP ⟨13, r, a, b, n, aa, acap, args⟩)) ∧ Below w.heap.size w w' := by
  have hrd : rdP ⟨13, r, a, b, n, aa, acap, args⟩ = [a] := by simp [rdP, rdA, rdB, rdC, hasA, hasB, hasF, numK]
  rw [hrd]
  clear hrd
  obtain ⟨i0, hi0, hz0, hz1, hz2⟩ := info_i
  go_enter Tryd.func53, Tryd.ntmps53
  go_wp2_with (at_builtin; refine wpList_append_own_at _ rfl _ _ 29 rfl w.heap.size 3 i0 _ 1 8 Tryd.underlying29 hi0 hz0 hz1 hz2 rfl (by decide) _ _ _ rfl (World.ownsRow_nil _ _ _ _) _ 1 1 [.int .i64 a] rfl rfl (news_at _ _ _ _ (by first | rfl | simp)) (by simp [Value.oneCell']) (by unfold maxLen; decide) (by decide) (by first | (simp; done) | (simp; omega)) ?_)
  intro v1 w1 hown1 hg1 _ hat1
  have hq1 := Lib.hid (((b_alloc w (.cells ⟨(⟨13, r, a, b, n, aa, acap, args⟩ : Ins).vals⟩ 31)).alloc (by simp) _).grown hg1 (by first | (simp; done) | (simp; omega)) (fun k e => by cases e) : Below w.heap.size w w1)
  replace hown1 := Lib.hid hown1
  clear hg1 hat1
  go_wp2_with fail
  go_ret
  exact ⟨_, rfl, by simpa [numCells] using hown1.out, hq1.out⟩
set_option maxHeartbeats 4000000 in
set_option maxRecDepth 100000 in
theorem rreads_o4 (r a b n : Int) (aa : Option Addr) (acap : Nat) (args : List Int) (w : World) :
    Calls Tryd.prog 53 #[(⟨4, r, a, b, n, aa, acap, args⟩ : Ins).val] w fun e w' => ∃ v, e = .returned v ∧ w'.ownsRow w.heap.size 3 1 v (rdP ⟨4, r, a, b, n, aa, acap, args⟩).length (numCells (rdP ⟨4, r, a, b, n, aa, acap, args⟩)) ∧ Below w.heap.size w w' := by
  have hrd : rdP ⟨4, r, a, b, n, aa, acap, args⟩ = [a, b] := by simp [rdP, rdA, rdB, rdC, hasA, hasB, hasF, numK]
  rw [hrd]
  clear hrd
  obtain ⟨i0, hi0, hz0, hz1, hz2⟩ := info_i
  go_enter Tryd.func53, Tryd.ntmps53
  go_wp2_with (at_builtin; refine wpList_append_own_at _ rfl _ _ 29 rfl w.heap.size 3 i0 _ 1 8 Tryd.underlying29 hi0 hz0 hz1 hz2 rfl (by decide) _ _ _ rfl (World.ownsRow_nil _ _ _ _) _ 2 2 [.int .i64 a, .int .i64 b] rfl rfl (news_at _ _ _ _ (by first | rfl | simp)) (by simp [Value.oneCell']) (by unfold maxLen; decide) (by decide) (by first | (simp; done) | (simp; omega)) ?_)
  intro v1 w1 hown1 hg1 _ hat1
  have hq1 := Lib.hid (((b_alloc w (.cells ⟨(⟨4, r, a, b, n, aa, acap, args⟩ : Ins).vals⟩ 31)).alloc (by simp) _).grown hg1 (by first | (simp; done) | (simp; omega)) (fun k e => by cases e) : Below w.heap.size w w1)
  replace hown1 := Lib.hid hown1
  clear hg1 hat1
  go_wp2_with fail
  go_ret
  exact ⟨_, rfl, by simpa [numCells] using hown1.out, hq1.out⟩
set_option maxHeartbeats 4000000 in
set_option maxRecDepth 100000 in
theorem rreads_o5y (r a b n : Int) (aa : Option Addr) (acap : Nat) (args : List Int) (w : World) (ha : ¬ a = -1) :
    Calls Tryd.prog 53 #[(⟨5, r, a, b, n, aa, acap, args⟩ : Ins).val] w fun e w' => ∃ v, e = .returned v ∧ w'.ownsRow w.heap.size 3 1 v (rdP ⟨5, r, a, b, n, aa, acap, args⟩).length (numCells (rdP ⟨5, r, a, b, n, aa, acap, args⟩)) ∧ Below w.heap.size w w' := by
  have hrd : rdP ⟨5, r, a, b, n, aa, acap, args⟩ = [a] := by simp [rdP, rdA, rdB, rdC, hasA, hasB, hasF, numK, ha]
  rw [hrd]
  clear hrd
  obtain ⟨i0, hi0, hz0, hz1, hz2⟩ := info_i
  have hae : (a != -1) = true := by simpa using ha
  go_enter Tryd.func53, Tryd.ntmps53
  go_wp2_with (at_builtin; refine wpList_append_own_at _ rfl _ _ 29 rfl w.heap.size 3 i0 _ 1 8 Tryd.underlying29 hi0 hz0 hz1 hz2 rfl (by decide) _ _ _ rfl (World.ownsRow_nil _ _ _ _) _ 1 1 [.int .i64 a] rfl rfl (news_at _ _ _ _ (by first | rfl | simp)) (by simp [Value.oneCell']) (by unfold maxLen; decide) (by decide) (by first | (simp; done) | (simp; omega)) ?_)
  intro v1 w1 hown1 hg1 _ hat1
  have hq1 := Lib.hid (((b_alloc w (.cells ⟨(⟨5, r, a, b, n, aa, acap, args⟩ : Ins).vals⟩ 31)).alloc (by simp) _).grown hg1 (by first | (simp; done) | (simp; omega)) (fun k e => by cases e) : Below w.heap.size w w1)
  replace hown1 := Lib.hid hown1
  clear hg1 hat1
  go_wp2_with fail
  go_ret
  exact ⟨_, rfl, by simpa [numCells] using hown1.out, hq1.out⟩
set_option maxHeartbeats 4000000 in
set_option maxRecDepth 100000 in
theorem rreads_o6y (r a b n : Int) (aa : Option Addr) (acap : Nat) (args : List Int) (w : World) (ha : ¬ a = -1) :
    Calls Tryd.prog 53 #[(⟨6, r, a, b, n, aa, acap, args⟩ : Ins).val] w fun e w' => ∃ v, e = .returned v ∧ w'.ownsRow w.heap.size 3 1 v (rdP ⟨6, r, a, b, n, aa, acap, args⟩).length (numCells (rdP ⟨6, r, a, b, n, aa, acap, args⟩)) ∧ Below w.heap.size w w' := by
  have hrd : rdP ⟨6, r, a, b, n, aa, acap, args⟩ = [a, b] := by simp [rdP, rdA, rdB, rdC, hasA, hasB, hasF, numK, ha]
  rw [hrd]
  clear hrd
  obtain ⟨i0, hi0, hz0, hz1, hz2⟩ := info_i
  have hae : (a != -1) = true := by simpa using ha
  go_enter Tryd.func53, Tryd.ntmps53
  go_wp2_with (at_builtin; refine wpList_append_own_at _ rfl _ _ 29 rfl w.heap.size 3 i0 _ 1 8 Tryd.underlying29 hi0 hz0 hz1 hz2 rfl (by decide) _ _ _ rfl (World.ownsRow_nil _ _ _ _) _ 1 1 [.int .i64 a] rfl rfl (news_at _ _ _ _ (by first | rfl | simp)) (by simp [Value.oneCell']) (by unfold maxLen; decide) (by decide) (by first | (simp; done) | (simp; omega)) ?_)
  intro v1 w1 hown1 hg1 _ hat1
  have hq1 := Lib.hid (((b_alloc w (.cells ⟨(⟨6, r, a, b, n, aa, acap, args⟩ : Ins).vals⟩ 31)).alloc (by simp) _).grown hg1 (by first | (simp; done) | (simp; omega)) (fun k e => by cases e) : Below w.heap.size w w1)
  replace hown1 := Lib.hid hown1
  obtain ⟨cb0, cb1, cb2, cb3, cb4, cb5⟩ := ins_cells (W := w1) (bx := w.heap.size) (i := (⟨6, r, a, b, n, aa, acap, args⟩ : Ins)) (fun j u hj => by
    have h1 := box_new w (⟨6, r, a, b, n, aa, acap, args⟩ : Ins).vals 31 j u hj
    have h2 := below_in (b_alloc _ (.cells ⟨[.int .i64 a]⟩ 3)) h1
    exact (World.cell?_of_block (hg1.block w.heap.size (by simp; try omega) (fun e => by cases e))).trans h2)
  clear hg1 hat1
  have hsq := hq1.out.size
  go_wp2_with (at_builtin; refine wpList_append_own_at _ rfl _ _ 29 rfl w.heap.size 3 i0 _ 1 8 Tryd.underlying29 hi0 hz0 hz1 hz2 rfl (by decide) _ _ _ rfl (own_below hown1.out (b_alloc _ _)) _ 1 1 [.int .i64 b] rfl rfl (news_at _ _ _ _ (by first | rfl | simp)) (by simp [Value.oneCell']) (by unfold maxLen; decide) (by decide) (by first | (simp; done) | (simp; omega)) ?_)
  intro v2 w2 hown2 hg2 _ hat2
  have hq2 := Lib.hid (((hq1.out).alloc (by have := hq1.out.size; omega) _).grown hg2 (by have := hq1.out.size; simp; omega) (fun k e => (hown1.out.lt k e).1) : Below w.heap.size w w2)
  replace hown2 := Lib.hid hown2
  clear hg2 hat2
  go_wp2_with fail
  go_ret
  exact ⟨_, rfl, by simpa [numCells] using hown2.out, hq2.out⟩
set_option maxHeartbeats 4000000 in
set_option maxRecDepth 100000 in
theorem rreads_o5n (r b n : Int) (aa : Option Addr) (acap : Nat) (args : List Int) (w : World) :
    Calls Tryd.prog 53 #[(⟨5, r, (-1), b, n, aa, acap, args⟩ : Ins).val] w fun e w' => ∃ v, e = .returned v ∧ w'.ownsRow w.heap.size 3 1 v (rdP ⟨5, r, (-1), b, n, aa, acap, args⟩).length (numCells (rdP ⟨5, r, (-1), b, n, aa, acap, args⟩)) ∧ Below w.heap.size w w' := by
  have hrd : rdP ⟨5, r, (-1), b, n, aa, acap, args⟩ = [] := by simp [rdP, rdA, rdB, rdC, hasA, hasB, hasF, numK]
  rw [hrd]
  clear hrd
  obtain ⟨i0, hi0, hz0, hz1, hz2⟩ := info_i
  go_enter Tryd.func53, Tryd.ntmps53
  go_wp2_with fail
  go_ret
  exact ⟨_, rfl, World.ownsRow_nil _ _ _ _, b_alloc _ _⟩
set_option maxHeartbeats 4000000 in
set_option maxRecDepth 100000 in
theorem rreads_o6n (r b n : Int) (aa : Option Addr) (acap : Nat) (args : List Int) (w : World) :
    Calls Tryd.prog 53 #[(⟨6, r, (-1), b, n, aa, acap, args⟩ : Ins).val] w fun e w' => ∃ v, e = .returned v ∧ w'.ownsRow w.heap.size 3 1 v (rdP ⟨6, r, (-1), b, n, aa, acap, args⟩).length (numCells (rdP ⟨6, r, (-1), b, n, aa, acap, args⟩)) ∧ Below w.heap.size w w' := by
  have hrd : rdP ⟨6, r, (-1), b, n, aa, acap, args⟩ = [b] := by simp [rdP, rdA, rdB, rdC, hasA, hasB, hasF, numK]
  rw [hrd]
  clear hrd
  obtain ⟨i0, hi0, hz0, hz1, hz2⟩ := info_i
  go_enter Tryd.func53, Tryd.ntmps53
  go_wp2_with (at_builtin; refine wpList_append_own_at _ rfl _ _ 29 rfl w.heap.size 3 i0 _ 1 8 Tryd.underlying29 hi0 hz0 hz1 hz2 rfl (by decide) _ _ _ rfl (World.ownsRow_nil _ _ _ _) _ 1 1 [.int .i64 b] rfl rfl (news_at _ _ _ _ (by first | rfl | simp)) (by simp [Value.oneCell']) (by unfold maxLen; decide) (by decide) (by first | (simp; done) | (simp; omega)) ?_)
  intro v1 w1 hown1 hg1 _ hat1
  have hq1 := Lib.hid (((b_alloc w (.cells ⟨(⟨6, r, (-1), b, n, aa, acap, args⟩ : Ins).vals⟩ 31)).alloc (by simp) _).grown hg1 (by first | (simp; done) | (simp; omega)) (fun k e => by cases e) : Below w.heap.size w w1)
  replace hown1 := Lib.hid hown1
  clear hg1 hat1
  go_wp2_with fail
  go_ret
  exact ⟨_, rfl, by simpa [numCells] using hown1.out, hq1.out⟩
set_option maxHeartbeats 4000000 in
set_option maxRecDepth 100000 in
theorem rreads_oc (r a b n : Int) (aa : Option Addr) (acap : Nat) (args : List Int) (w : World) (hrow : RowAt w (fun _ => True) aa acap args.length (numCells args)) (hl : args.length ≤ 17592186044416) :
    Calls Tryd.prog 53 #[(⟨10, r, a, b, n, aa, acap, args⟩ : Ins).val] w fun e w' => ∃ v, e = .returned v ∧ w'.ownsRow w.heap.size 3 1 v (rdP ⟨10, r, a, b, n, aa, acap, args⟩).length (numCells (rdP ⟨10, r, a, b, n, aa, acap, args⟩)) ∧ Below w.heap.size w w' := by
  have hrd : rdP ⟨10, r, a, b, n, aa, acap, args⟩ = args := by simp [rdP, rdA, rdB, rdC, hasA, hasB, hasF, numK]
  rw [hrd]
  clear hrd
  obtain ⟨i0, hi0, hz0, hz1, hz2⟩ := info_i
  have hrow1 := hrow.below (Kps.of_below (b_alloc w (.cells ⟨(⟨10, r, a, b, n, aa, acap, args⟩ : Ins).vals⟩ 31)))
  obtain ⟨hc1, hc2⟩ := len_i hrow
  clear hrow
  cases aa with
  | none =>
    have hz : acap = 0 := hrow1.nil rfl
    have hz2 : args = [] := List.eq_nil_of_length_eq_zero (by omega)
    subst hz hz2
    have hap := run_append_owned_none (P := Tryd.prog) (w := w.alloc (.cells ⟨(⟨10, r, a, b, n, none, 0, []⟩ : Ins).vals⟩ 31)) w.heap.size 29 29 3 i0 1 Tryd.underlying29 hi0 (.slice none 0 0) 0 [] (World.ownsRow_nil _ _ _ _)
    clear hrow1 hi0
    go_enter Tryd.func53, Tryd.ntmps53
    go_wp2_with fail
    go_ret
    exact ⟨_, rfl, World.ownsRow_nil _ _ _ _, b_alloc _ _⟩
  | some ad =>
    have hnews : ∀ j u, (numCells args)[j]? = some u → (w.alloc (.cells ⟨(⟨10, r, a, b, n, some ad, acap, args⟩ : Ins).vals⟩ 31)).cell? (ad.add j) = some u := fun j u hj => by
      obtain ⟨b', off, ha, _, hc⟩ := hrow1.at_ j u hj
      cases ha
      rw [Go.WideShapes.add_plain]; exact hc
    replace hnews := Lib.hid hnews
    clear hrow1
    go_enter Tryd.func53, Tryd.ntmps53
    go_wp2_with (at_builtin; refine wpList_append_own_at _ rfl _ _ 29 rfl w.heap.size 3 i0 _ 1 8 Tryd.underlying29 hi0 hz0 hz1 hz2 rfl (by decide) _ _ _ rfl (World.ownsRow_nil _ _ _ _) ad args.length acap (numCells args) rfl (by simp [numCells]) hnews.out (num_one args) (by unfold maxLen; omega) (by omega) (by first | (simp; done) | (simp; omega)) ?_)
    intro v1 w1 hown1 hg1 _ hat1
    have hq1 := Lib.hid ((b_alloc w (.cells ⟨(⟨10, r, a, b, n, some ad, acap, args⟩ : Ins).vals⟩ 31)).grown hg1 (by first | (simp; done) | (simp; omega)) (fun k e => by cases e) : Below w.heap.size w w1)
    replace hown1 := Lib.hid hown1
    clear hg1 hat1
    go_wp2_with fail
    go_ret
    exact ⟨_, rfl, by simpa [numCells] using hown1.out, hq1.out⟩
set_option maxHeartbeats 4000000 in
set_option maxRecDepth 100000 in
theorem rreads_none (op r a b n : Int) (aa : Option Addr) (acap : Nat) (args : List Int) (w : World) (h : ¬ op = 2 ∧ ¬ op = 3 ∧ ¬ op = 9 ∧ ¬ op = 12 ∧ ¬ op = 13 ∧ ¬ op = 4 ∧ ¬ op = 5 ∧ ¬ op = 6 ∧ ¬ op = 10) :
    Calls Tryd.prog 53 #[(⟨op, r, a, b, n, aa, acap, args⟩ : Ins).val] w fun e w' => ∃ v, e = .returned v ∧ w'.ownsRow w.heap.size 3 1 v (rdP ⟨op, r, a, b, n, aa, acap, args⟩).length (numCells (rdP ⟨op, r, a, b, n, aa, acap, args⟩)) ∧ Below w.heap.size w w' := by
  obtain ⟨h2, h3, h9, h12, h13, h4, h5, h6, h10⟩ := h
  have hn6 : ¬ numK op = 6 := by unfold numK; repeat' split
                                 all_goals first | omega | simp
  have hrd : rdP ⟨op, r, a, b, n, aa, acap, args⟩ = [] := by simp [rdP, rdA, rdB, rdC, hasA, hasB, h2, h3, h9, h12, h13, h4, h5, h6, hn6]
  rw [hrd]
  clear hrd hn6
  have e2 := ne_b h2; have e3 := ne_b h3; have e9 := ne_b h9; have e12 := ne_b h12; have e13 := ne_b h13; have e4 := ne_b h4; have e5 := ne_b h5; have e6 := ne_b h6; have e10 := ne_b h10
  clear h2 h3 h9 h12 h13 h4 h5 h6 h10
  go_enter Tryd.func53, Tryd.ntmps53
  go_wp2_with fail
  go_ret
  exact ⟨_, rfl, World.ownsRow_nil _ _ _ _, b_alloc _ _⟩
theorem rreads_any (i : Ins) (w : World) (hrow : RowAt w (fun _ => True) i.aa i.acap i.args.length (numCells i.args)) (hl : i.args.length ≤ 17592186044416) :
    Calls Tryd.prog 53 #[i.val] w fun e w' => ∃ v, e = .returned v ∧ w'.ownsRow w.heap.size 3 1 v (rdP i).length (numCells (rdP i)) ∧ Below w.heap.size w w' := by
  obtain ⟨op, r, a, b, n, aa, acap, args⟩ := i
  by_cases h : ¬ op = 2 ∧ ¬ op = 3 ∧ ¬ op = 9 ∧ ¬ op = 12 ∧ ¬ op = 13 ∧ ¬ op = 4 ∧ ¬ op = 5 ∧ ¬ op = 6 ∧ ¬ op = 10
  · exact rreads_none op r a b n aa acap args w h
  · have h' : op = 2 ∨ op = 3 ∨ op = 9 ∨ op = 12 ∨ op = 13 ∨ op = 4 ∨ op = 5 ∨ op = 6 ∨ op = 10 := by omega
    rcases h' with rfl | rfl | rfl | rfl | rfl | rfl | rfl | rfl | rfl
    · exact rreads_o2 r a b n aa acap args w
    · exact rreads_o3 r a b n aa acap args w
    · exact rreads_o9 r a b n aa acap args w
    · exact rreads_o12 r a b n aa acap args w
    · exact rreads_o13 r a b n aa acap args w
    · exact rreads_o4 r a b n aa acap args w
    · by_cases ha : a = -1
      · subst ha; exact rreads_o5n r b n aa acap args w
      · exact rreads_o5y r a b n aa acap args w ha
    · by_cases ha : a = -1
      · subst ha; exact rreads_o6n r b n aa acap args w
      · exact rreads_o6y r a b n aa acap args w ha
    · exact rreads_oc r a b n aa acap args w hrow hl
end Go.Proofs.YtiicjbnocpphdaaDoor.Cd
