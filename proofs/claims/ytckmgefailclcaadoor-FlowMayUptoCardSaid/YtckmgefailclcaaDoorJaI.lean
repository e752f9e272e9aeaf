/- A block's cells, one by one. Conditions: none. Append of a whole row that may be nil; a store into a row of one's own. Conditions: none. Walk of CodeThreads. Conditions: the arguments lie in memory; the packages' tables hold their lists. Walks of the document's Reads, Writes, Goal, within. Conditions: the instruction lies in memory. Walks of the document's Writes, Goal, within, SameIns, kept. Conditions: the instructions lie in memory. Walk of the document's kept. Conditions: the instruction's operation is one. -/
import Derived.Test.YtckmgefailclcaaDoorJaB
import Derived.Test.YtckmgefailclcaaDoorJaH
import Derived.Laws.OwnMore
import Derived.Maps.AppendAt
import Derived.Deep.QuietTactic
import Derived.Test.YtckmgefailclcaaDoorJaG
namespace Go.Proofs.YtckmgefailclcaaDoor.Cd
open Go Go.RowKit
theorem blk_cell {W : World} {b : Nat} {vs : Array Value} {t : TypeId} {fr : Nat × Nat} (h : W.heap[b]? = some (.cells vs t fr)) {j : Nat} {u : Value} (hu : vs[j]? = some u) : W.cell? ⟨b, j, none⟩ = some u := by
  simp only [World.cell?, h]
  simpa using hu
theorem blk_free {W : World} {b : Nat} {vs : Array Value} {t : TypeId} (h : W.heap[b]? = some (.cells vs t (0, 0))) (j : Nat) : W.frozen? ⟨b, j, none⟩ = false := by
  simp [World.frozen?, h]
end Go.Proofs.YtckmgefailclcaaDoor.Cd
namespace Go.Proofs.YtckmgefailclcaaDoor.Cd
open Go Go.RowKit
open Go.Proofs.YtckmgefailclcaaDoor.Lx Go.Proofs.YtckmgefailclcaaDoor.Tr

theorem wpList_append_row {P : Program} (w : World) {ops : Array Oper} {rest : List Oper} {o : Oper} {a : Act} {Q : Exit → Act → World → Prop} (hgd : o.guard = none) (s x : Operand) (t : TypeId)
    (ho : o.op = .call { callee := .builtin .append, args := #[s, x], argTypes := #[t, t] })
    (base : Nat) (e : TypeId) (i : TypeInfo) (z : Value) (bytes : Nat) (ht : P.underlying t = some (.slice e)) (hi : P.info? e = some i) (hz : i.zero = some z) (hsize : i.size = 1) (hby : i.bytes = bytes) (hzs : z.cells.size = 1)
    (v : Value) (n : Nat) (xs : List Value) (hs : a.eval s = v) (hown : w.ownsRow base e 1 v n xs) (base2 : Nat) (xv : Value) (m : Nat) (news : List Value) (hx : a.eval x = xv) (hownx : w.ownsRow base2 e 1 xv m news) (h1 : ∀ u ∈ news, u.oneCell' = true)
    (h63 : n + m ≤ maxLen) (hbytes : (n + m) * bytes ≤ 140737488355328) (hbase : base ≤ w.heap.size)
    (h : ∀ v' w', w'.ownsRow base e 1 v' (n + m) (xs ++ news) → w.grownBy w' v.ownBlock → (v'.ownBlock = v.ownBlock ∨ v'.ownBlock = some w.heap.size) → wpList P ops Q rest (a.put o.dst v') w') :
    wpList P ops Q (o :: rest) a w := by
  have hlen := hownx.1
  rcases hownx.2 with ⟨rfl, rfl⟩ | ⟨g, cap, cur, rfl, _, hg, _, _, _, htk⟩
  · have hn : news = [] := List.eq_nil_of_length_eq_zero (by simpa using hlen)
    subst hn
    refine wpList_plain hgd fun K' hK' => ?_
    have hr := run_append_owned_none (P := P) (w := w) base t o.type e i 1 ht hi v n xs hown
    unfold Oper.wp
    simp [execOp, ho, resolve, invoke, builtin, hs, hx, hr, Result.andThen]
    exact hK' _ _ (h v w (by simpa using hown) ⟨rfl, rfl, rfl, Nat.le_refl _, fun _ _ _ => rfl⟩ (.inl rfl))
  · refine wpList_append_own_at w hgd s x t ho base e i z 1 bytes ht hi hz hsize hby hzs (by decide) v n xs hs hown ⟨g, 0, none⟩ m cap news hx (by simpa using hlen) (fun j u hu => ?_) h1 h63 hbytes hbase (fun v' w' r1 r2 _ r3 => h v' w' r1 r2 r3)
    rw [Go.WideShapes.add_plain, Nat.zero_add]
    have hj : j < m := by have := (List.getElem?_eq_some_iff.1 hu).1; rw [hlen] at this; simpa using this
    rw [← htk, List.getElem?_take, if_pos (by simpa using hj)] at hu
    simp only [World.cell?, hg]
    simpa using hu
theorem num_one (l : List Int) : ∀ u ∈ numCells l, u.oneCell' = true := fun u hu => by
  obtain ⟨x, _, rfl⟩ := List.mem_map.1 hu
  rfl
end Go.Proofs.YtckmgefailclcaaDoor.Cd
namespace Go.Proofs.YtckmgefailclcaaDoor.Cd
open Go Go.RowKit
open Go.Proofs.YtckmgefailclcaaDoor.Lx Go.Proofs.YtckmgefailclcaaDoor.Tr

theorem pg_cells {W : World} {bx : Nat} {p : Pg} (h : ∀ j u, p.vals[j]? = some u → W.cell? ⟨bx, j, none⟩ = some u) : W.cell? ⟨bx, 0, none⟩ = some (.slice p.ma p.mems.length p.mcap) ∧ W.cell? ⟨bx, 1, none⟩ = some (.slice p.la p.locks.length p.lcap) ∧ W.cell? ⟨bx, 2, none⟩ = some (.slice p.fa p.funs.length p.fcap) := ⟨h _ _ rfl, h _ _ rfl, h _ _ rfl⟩
/-- two boxes: a program and an instruction -/
structure Bx2 (w W : World) (p : Pg) (i : Ins) : Prop where
  pc : ∀ j u, p.vals[j]? = some u → W.cell? ⟨w.heap.size, j, none⟩ = some u
  ic : ∀ j u, i.vals[j]? = some u → W.cell? ⟨w.heap.size + 1, j, none⟩ = some u
theorem Bx2.new (w : World) (p : Pg) (i : Ins) : Bx2 w ((w.alloc (.cells ⟨p.vals⟩ 26)).alloc (.cells ⟨i.vals⟩ 44)) p i :=
  ⟨fun j u hj => below_in (b_alloc _ _) (box_new w p.vals 26 j u hj), cells_of (t := 44) (blk_new _ _ (by simp))⟩
theorem Bx2.below {w W V : World} {p : Pg} {i : Ins} (h : Bx2 w W p i) (hb : Below W.heap.size W V) : Bx2 w V p i := ⟨fun j u hj => below_in hb (h.pc j u hj), fun j u hj => below_in hb (h.ic j u hj)⟩
end Go.Proofs.YtckmgefailclcaaDoor.Cd
namespace Go.Proofs.YtckmgefailclcaaDoor.Cd
open Go Go.RowKit
open Go.Proofs.YtckmgefailclcaaDoor.Lx Go.Proofs.YtckmgefailclcaaDoor.Tr

theorem news_at (W : World) (vs : List Value) (t : TypeId) (B : Nat) (hB : W.heap.size = B) : ∀ j u, vs[j]? = some u → (W.alloc (.cells ⟨vs⟩ t)).cell? ((⟨B, 0, none⟩ : Addr).add j) = some u := fun j u hu => by
  subst hB
  rw [Go.WideShapes.add_plain, Nat.zero_add]
  exact box_new W vs t j u hu

set_option maxHeartbeats 4000000 in
set_option maxRecDepth 100000 in
theorem rreads_o2 (r a b n : Int) (aa : Option Addr) (acap : Nat) (args : List Int) (w : World) :
    Calls Tryd.prog 89 #[(⟨2, r, a, b, n, aa, acap, args⟩ : Ins).val] w fun e w' => ∃ v, e = .returned v ∧ w'.ownsRow w.heap.size 3 1 v (rdP ⟨2, r, a, b, n, aa, acap, args⟩).length (numCells (rdP ⟨2, r, a, b, n, aa, acap, args⟩)) ∧ Below w.heap.size w w' := by
  have hrd : rdP ⟨2, r, a, b, n, aa, acap, args⟩ = [a] := by simp [rdP, rdA, rdB, rdC, hasA, hasB, hasF, numK]
  rw [hrd]
  clear hrd
  obtain ⟨i0, hi0, hz0, hz1, hz2⟩ := info_i
  go_enter Tryd.func89, Tryd.ntmps89
  go_wp2_with (at_builtin; refine wpList_append_own_at _ rfl _ _ 40 rfl w.heap.size 3 i0 _ 1 8 Tryd.underlying40 hi0 hz0 hz1 hz2 rfl (by decide) _ _ _ rfl (World.ownsRow_nil _ _ _ _) _ 1 1 [.int .i64 a] rfl rfl (news_at _ _ _ _ (by first | rfl | simp)) (by simp [Value.oneCell']) (by unfold maxLen; decide) (by decide) (by first | (simp; done) | (simp; omega)) ?_)
  intro v1 w1 hown1 hg1 _ hat1
  have hq1 := Lib.hid (((b_alloc w (.cells ⟨(⟨2, r, a, b, n, aa, acap, args⟩ : Ins).vals⟩ 44)).alloc (by simp) _).grown hg1 (by first | (simp; done) | (simp; omega)) (fun k e => by cases e) : Below w.heap.size w w1)
  replace hown1 := Lib.hid hown1
  clear hg1 hat1
  go_wp2_with fail
  go_ret
  exact ⟨_, rfl, by simpa [numCells] using hown1.out, hq1.out⟩
set_option maxHeartbeats 4000000 in
set_option maxRecDepth 100000 in
theorem rreads_o3 (r a b n : Int) (aa : Option Addr) (acap : Nat) (args : List Int) (w : World) :
    Calls Tryd.prog 89 #[(⟨3, r, a, b, n, aa, acap, args⟩ : Ins).val] w fun e w' => ∃ v, e = .returned v ∧ w'.ownsRow w.heap.size 3 1 v (rdP ⟨3, r, a, b, n, aa, acap, args⟩).length (numCells (rdP ⟨3, r, a, b, n, aa, acap, args⟩)) ∧ Below w.heap.size w w' := by
  have hrd : rdP ⟨3, r, a, b, n, aa, acap, args⟩ = [a] := by simp [rdP, rdA, rdB, rdC, hasA, hasB, hasF, numK]
  rw [hrd]
  clear hrd
  obtain ⟨i0, hi0, hz0, hz1, hz2⟩ := info_i
  go_enter Tryd.func89, Tryd.ntmps89
  go_wp2_with (at_builtin; refine wpList_append_own_at _ rfl _ _ 40 rfl w.heap.size 3 i0 _ 1 8 Tryd.underlying40 hi0 hz0 hz1 hz2 rfl (by decide) _ _ _ rfl (World.ownsRow_nil _ _ _ _) _ 1 1 [.int .i64 a] rfl rfl (news_at _ _ _ _ (by first | rfl | simp)) (by simp [Value.oneCell']) (by unfold maxLen; decide) (by decide) (by first | (simp; done) | (simp; omega)) ?_)
  intro v1 w1 hown1 hg1 _ hat1
  have hq1 := Lib.hid (((b_alloc w (.cells ⟨(⟨3, r, a, b, n, aa, acap, args⟩ : Ins).vals⟩ 44)).alloc (by simp) _).grown hg1 (by first | (simp; done) | (simp; omega)) (fun k e => by cases e) : Below w.heap.size w w1)
  replace hown1 := Lib.hid hown1
  clear hg1 hat1
  go_wp2_with fail
  go_ret
  exact ⟨_, rfl, by simpa [numCells] using hown1.out, hq1.out⟩
set_option maxHeartbeats 4000000 in
set_option maxRecDepth 100000 in
theorem rreads_o9 (r a b n : Int) (aa : Option Addr) (acap : Nat) (args : List Int) (w : World) :
    Calls Tryd.prog 89 #[(⟨9, r, a, b, n, aa, acap, args⟩ : Ins).val] w fun e w' => ∃ v, e = .returned v ∧ w'.ownsRow w.heap.size 3 1 v (rdP ⟨9, r, a, b, n, aa, acap, args⟩).length (numCells (rdP ⟨9, r, a, b, n, aa, acap, args⟩)) ∧ Below w.heap.size w w' := by
  have hrd : rdP ⟨9, r, a, b, n, aa, acap, args⟩ = [a] := by simp [rdP, rdA, rdB, rdC, hasA, hasB, hasF, numK]
  rw [hrd]
  clear hrd
  obtain ⟨i0, hi0, hz0, hz1, hz2⟩ := info_i
  go_enter Tryd.func89, Tryd.ntmps89
  go_wp2_with (at_builtin; refine wpList_append_own_at _ rfl _ _ 40 rfl w.heap.size 3 i0 _ 1 8 Tryd.underlying40 hi0 hz0 hz1 hz2 rfl (by decide) _ _ _ rfl (World.ownsRow_nil _ _ _ _) _ 1 1 [.int .i64 a] rfl rfl (news_at _ _ _ _ (by first | rfl | simp)) (by simp [Value.oneCell']) (by unfold maxLen; decide) (by decide) (by first | (simp; done) | (simp; omega)) ?_)
  intro v1 w1 hown1 hg1 _ hat1
  have hq1 := Lib.hid (((b_alloc w (.cells ⟨(⟨9, r, a, b, n, aa, acap, args⟩ : Ins).vals⟩ 44)).alloc (by simp) _).grown hg1 (by first | (simp; done) | (simp; omega)) (fun k e => by cases e) : Below w.heap.size w w1)
  replace hown1 := Lib.hid hown1
  clear hg1 hat1
  go_wp2_with fail
  go_ret
  exact ⟨_, rfl, by simpa [numCells] using hown1.out, hq1.out⟩
set_option maxHeartbeats 4000000 in
set_option maxRecDepth 100000 in
theorem rreads_o12 (r a b n : Int) (aa : Option Addr) (acap : Nat) (args : List Int) (w : World) :
    Calls Tryd.prog 89 #[(⟨12, r, a, b, n, aa, acap, args⟩ : Ins).val] w fun e w' => ∃ v, e = .returned v ∧ w'.ownsRow w.heap.size 3 1 v (rdP ⟨12, r, a, b, n, aa, acap, args⟩).length (numCells (rdP ⟨12, r, a, b, n, aa, acap, args⟩)) ∧ Below w.heap.size w w' := by
  have hrd : rdP ⟨12, r, a, b, n, aa, acap, args⟩ = [a] := by simp [rdP, rdA, rdB, rdC, hasA, hasB, hasF, numK]
  rw [hrd]
  clear hrd
  obtain ⟨i0, hi0, hz0, hz1, hz2⟩ := info_i
  go_enter Tryd.func89, Tryd.ntmps89
  go_wp2_with (at_builtin; refine wpList_append_own_at _ rfl _ _ 40 rfl w.heap.size 3 i0 _ 1 8 Tryd.underlying40 hi0 hz0 hz1 hz2 rfl (by decide) _ _ _ rfl (World.ownsRow_nil _ _ _ _) _ 1 1 [.int .i64 a] rfl rfl (news_at _ _ _ _ (by first | rfl | simp)) (by simp [Value.oneCell']) (by unfold maxLen; decide) (by decide) (by first | (simp; done) | (simp; omega)) ?_)
  intro v1 w1 hown1 hg1 _ hat1
  have hq1 := Lib.hid (((b_alloc w (.cells ⟨(⟨12, r, a, b, n, aa, acap, args⟩ : Ins).vals⟩ 44)).alloc (by simp) _).grown hg1 (by first | (simp; done) | (simp; omega)) (fun k e => by cases e) : Below w.heap.size w w1)
  replace hown1 := Lib.hid hown1
  clear hg1 hat1
  go_wp2_with fail
  go_ret
  exact ⟨_, rfl, by simpa [numCells] using hown1.out, hq1.out⟩
set_option maxHeartbeats 4000000 in
set_option maxRecDepth 100000 in
theorem rreads_o13 (r a b n : Int) (aa : Option Addr) (acap : Nat) (args : List Int) (w : World) :
    Calls Tryd.prog 89 #[(⟨13, r, a, b, n, aa, acap, args⟩ : Ins).val] w fun e w' => ∃ v, e = .returned v ∧ w'.ownsRow w.heap.size 3 1 v (rdP ⟨13, r, a, b, n, aa, acap, args⟩).length (numCells (rdP ⟨13, r, a, b, n, aa, acap, args⟩)) ∧ Below w.heap.size w w' := by
  have hrd : rdP ⟨13, r, a, b, n, aa, acap, args⟩ = [a] := by simp [rdP, rdA, rdB, rdC, hasA, hasB, hasF, numK]
  rw [hrd]
  clear hrd
  obtain ⟨i0, hi0, hz0, hz1, hz2⟩ := info_i
  go_enter Tryd.func89, Tryd.ntmps89
  go_wp2_with (at_builtin; refine wpList_append_own_at _ rfl _ _ 40 rfl w.heap.size 3 i0 _ 1 8 Tryd.underlying40 hi0 hz0 hz1 hz2 rfl (by decide) _ _ _ rfl (World.ownsRow_nil _ _ _ _) _ 1 1 [.int .i64 a] rfl rfl (news_at _ _ _ _ (by first | rfl | simp)) (by simp [Value.oneCell']) (by unfold maxLen; decide) (by decide) (by first | (simp; done) | (simp; omega)) ?_)
  intro v1 w1 hown1 hg1 _ hat1
  have hq1 := Lib.hid (((b_alloc w (.cells ⟨(⟨13, r, a, b, n, aa, acap, args⟩ : Ins).vals⟩ 44)).alloc (by simp) _).grown hg1 (by first | (simp; done) | (simp; omega)) (fun k e => by cases e) : Below w.heap.size w w1)
  replace hown1 := Lib.hid hown1
  clear hg1 hat1
  go_wp2_with fail
  go_ret
  exact ⟨_, rfl, by simpa [numCells] using hown1.out, hq1.out⟩
set_option maxHeartbeats 4000000 in
set_option maxRecDepth 100000 in
theorem rreads_o4 (r a b n : Int) (aa : Option Addr) (acap : Nat) (args : List Int) (w : World) :
    Calls Tryd.prog 89 #[(⟨4, r, a, b, n, aa, acap, args⟩ : Ins).val] w fun e w' => ∃ v, e = .returned v ∧ w'.ownsRow w.heap.size 3 1 v (rdP ⟨4, r, a, b, n, aa, acap, args⟩).length (numCells (rdP ⟨4, r, a, b, n, aa, acap, args⟩)) ∧ Below w.heap.size w w' := by
  have hrd : rdP ⟨4, r, a, b, n, aa, acap, args⟩ = [a, b] := by simp [rdP, rdA, rdB, rdC, hasA, hasB, hasF, numK]
  rw [hrd]
  clear hrd
  obtain ⟨i0, hi0, hz0, hz1, hz2⟩ := info_i
  go_enter Tryd.func89, Tryd.ntmps89
  go_wp2_with (at_builtin; refine wpList_append_own_at _ rfl _ _ 40 rfl w.heap.size 3 i0 _ 1 8 Tryd.underlying40 hi0 hz0 hz1 hz2 rfl (by decide) _ _ _ rfl (World.ownsRow_nil _ _ _ _) _ 2 2 [.int .i64 a, .int .i64 b] rfl rfl (news_at _ _ _ _ (by first | rfl | simp)) (by simp [Value.oneCell']) (by unfold maxLen; decide) (by decide) (by first | (simp; done) | (simp; omega)) ?_)
  intro v1 w1 hown1 hg1 _ hat1
  have hq1 := Lib.hid (((b_alloc w (.cells ⟨(⟨4, r, a, b, n, aa, acap, args⟩ : Ins).vals⟩ 44)).alloc (by simp) _).grown hg1 (by first | (simp; done) | (simp; omega)) (fun k e => by cases e) : Below w.heap.size w w1)
  replace hown1 := Lib.hid hown1
  clear hg1 hat1
  go_wp2_with fail
  go_ret
  exact ⟨_, rfl, by simpa [numCells] using hown1.out, hq1.out⟩
set_option maxHeartbeats 4000000 in
set_option maxRecDepth 100000 in
theorem rreads_o5y (r a b n : Int) (aa : Option Addr) (acap : Nat) (args : List Int) (w : World) (ha : ¬ a = -1) :
    Calls Tryd.prog 89 #[(⟨5, r, a, b, n, aa, acap, args⟩ : Ins).val] w fun e w' => ∃ v, e = .returned v ∧ w'.ownsRow w.heap.size 3 1 v (rdP ⟨5, r, a, b, n, aa, acap, args⟩).length (numCells (rdP ⟨5, r, a, b, n, aa, acap, args⟩)) ∧ Below w.heap.size w w' := by
  have hrd : rdP ⟨5, r, a, b, n, aa, acap, args⟩ = [a] := by simp [rdP, rdA, rdB, rdC, hasA, hasB, hasF, numK, ha]
  rw [hrd]
  clear hrd
  obtain ⟨i0, hi0, hz0, hz1, hz2⟩ := info_i
  have hae : (a != -1) = true := by simpa using ha
  go_enter Tryd.func89, Tryd.ntmps89
  go_wp2_with (at_builtin; refine wpList_append_own_at _ rfl _ _ 40 rfl w.heap.size 3 i0 _ 1 8 Tryd.underlying40 hi0 hz0 hz1 hz2 rfl (by decide) _ _ _ rfl (World.ownsRow_nil _ _ _ _) _ 1 1 [.int .i64 a] rfl rfl (news_at _ _ _ _ (by first | rfl | simp)) (by simp [Value.oneCell']) (by unfold maxLen; decide) (by decide) (by first | (simp; done) | (simp; omega)) ?_)
  intro v1 w1 hown1 hg1 _ hat1
  have hq1 := Lib.hid (((b_alloc w (.cells ⟨(⟨5, r, a, b, n, aa, acap, args⟩ : Ins).vals⟩ 44)).alloc (by simp) _).grown hg1 (by first | (simp; done) | (simp; omega)) (fun k e => by cases e) : Below w.heap.size w w1)
  replace hown1 := Lib.hid hown1
  clear hg1 hat1
  go_wp2_with fail
  go_ret
  exact ⟨_, rfl, by simpa [numCells] using hown1.out, hq1.out⟩
set_option maxHeartbeats 4000000 in
set_option maxRecDepth 100000 in
theorem rreads_o6y (r a b n : Int) (aa : Option Addr) (acap : Nat) (args : List Int) (w : World) (ha : ¬ a = -1) :
    Calls Tryd.prog 89 #[(⟨6, r, a, b, n, aa, acap, args⟩ : Ins).val] w fun e w' => ∃ v, e = .returned v ∧ w'.ownsRow w.heap.size 3 1 v (rdP ⟨6, r, a, b, n, aa, acap, args⟩).length (numCells (rdP ⟨6, r, a, b, n, aa, acap, args⟩)) ∧ Below w.heap.size w w' := by
  have hrd : rdP ⟨6, r, a, b, n, aa, acap, args⟩ = [a, b] := by simp [rdP, rdA, rdB, rdC, hasA, hasB, hasF, numK, ha]
  rw [hrd]
  clear hrd
  obtain ⟨i0, hi0, hz0, hz1, hz2⟩ := info_i
  have hae : (a != -1) = true := by simpa using ha
  go_enter Tryd.func89, Tryd.ntmps89
  go_wp2_with (at_builtin; refine wpList_append_own_at _ rfl _ _ 40 rfl w.heap.size 3 i0 _ 1 8 Tryd.underlying40 hi0 hz0 hz1 hz2 rfl (by decide) _ _ _ rfl (World.ownsRow_nil _ _ _ _) _ 1 1 [.int .i64 a] rfl rfl (news_at _ _ _ _ (by first | rfl | simp)) (by simp [Value.oneCell']) (by unfold maxLen; decide) (by decide) (by first | (simp; done) | (simp; omega)) ?_)
  intro v1 w1 hown1 hg1 _ hat1
  have hq1 := Lib.hid (((b_alloc w (.cells ⟨(⟨6, r, a, b, n, aa, acap, args⟩ : Ins).vals⟩ 44)).alloc (by simp) _).grown hg1 (by first | (simp; done) | (simp; omega)) (fun k e => by cases e) : Below w.heap.size w w1)
  replace hown1 := Lib.hid hown1
  obtain ⟨cb0, cb1, cb2, cb3, cb4, cb5⟩ := ins_cells (W := w1) (bx := w.heap.size) (i := (⟨6, r, a, b, n, aa, acap, args⟩ : Ins)) (fun j u hj => by
    have h1 := box_new w (⟨6, r, a, b, n, aa, acap, args⟩ : Ins).vals 44 j u hj
    have h2 := below_in (b_alloc _ (.cells ⟨[.int .i64 a]⟩ 3)) h1
    exact (World.cell?_of_block (hg1.block w.heap.size (by simp; try omega) (fun e => by cases e))).trans h2)
  clear hg1 hat1
  have hsq := hq1.out.size
  go_wp2_with (at_builtin; refine wpList_append_own_at _ rfl _ _ 40 rfl w.heap.size 3 i0 _ 1 8 Tryd.underlying40 hi0 hz0 hz1 hz2 rfl (by decide) _ _ _ rfl (own_below hown1.out (b_alloc _ _)) _ 1 1 [.int .i64 b] rfl rfl (news_at _ _ _ _ (by first | rfl | simp)) (by simp [Value.oneCell']) (by unfold maxLen; decide) (by decide) (by first | (simp; done) | (simp; omega)) ?_)
  intro v2 w2 hown2 hg2 _ hat2
  have hq2 := Lib.hid (((hq1.out).alloc (by have := hq1.out.size; omega) _).grown hg2 (by have := hq1.out.size; simp; omega) (fun k e => (hown1.out.lt k e).1) : Below w.heap.size w w2)
  replace hown2 := Lib.hid hown2
  clear hg2 hat2
  go_wp2_with fail
  go_ret
  exact ⟨_, rfl, by simpa [numCells] using hown2.out, hq2.out⟩
set_option maxHeartbeats 4000000 in
set_option maxRecDepth 100000 in
theorem rreads_o5n (r b n : Int) (aa : Option Addr) (acap : Nat) (args : List Int) (w : World) :
    Calls Tryd.prog 89 #[(⟨5, r, (-1), b, n, aa, acap, args⟩ : Ins).val] w fun e w' => ∃ v, e = .returned v ∧ w'.ownsRow w.heap.size 3 1 v (rdP ⟨5, r, (-1), b, n, aa, acap, args⟩).length (numCells (rdP ⟨5, r, (-1), b, n, aa, acap, args⟩)) ∧ Below w.heap.size w w' := by
  have hrd : rdP ⟨5, r, (-1), b, n, aa, acap, args⟩ = [] := by simp [rdP, rdA, rdB, rdC, hasA, hasB, hasF, numK]
  rw [hrd]
  clear hrd
  obtain ⟨i0, hi0, hz0, hz1, hz2⟩ := info_i
  go_enter Tryd.func89, Tryd.ntmps89
  go_wp2_with fail
  go_ret
  exact ⟨_, rfl, World.ownsRow_nil _ _ _ _, b_alloc _ _⟩
set_option maxHeartbeats 4000000 in
set_option maxRecDepth 100000 in
theorem rreads_o6n (r b n : Int) (aa : Option Addr) (acap : Nat) (args : List Int) (w : World) :
    Calls Tryd.prog 89 #[(⟨6, r, (-1), b, n, aa, acap, args⟩ : Ins).val] w fun e w' => ∃ v, e = .returned v ∧ w'.ownsRow w.heap.size 3 1 v (rdP ⟨6, r, (-1), b, n, aa, acap, args⟩).length (numCells (rdP ⟨6, r, (-1), b, n, aa, acap, args⟩)) ∧ Below w.heap.size w w' := by
  have hrd : rdP ⟨6, r, (-1), b, n, aa, acap, args⟩ = [b] := by simp [rdP, rdA, rdB, rdC, hasA, hasB, hasF, numK]
  rw [hrd]
  clear hrd
  obtain ⟨i0, hi0, hz0, hz1, hz2⟩ := info_i
  go_enter Tryd.func89, Tryd.ntmps89
  go_wp2_with (at_builtin; refine wpList_append_own_at _ rfl _ _ 40 rfl w.heap.size 3 i0 _ 1 8 Tryd.underlying40 hi0 hz0 hz1 hz2 rfl (by decide) _ _ _ rfl (World.ownsRow_nil _ _ _ _) _ 1 1 [.int .i64 b] rfl rfl (news_at _ _ _ _ (by first | rfl | simp)) (by simp [Value.oneCell']) (by unfold maxLen; decide) (by decide) (by first | (simp; done) | (simp; omega)) ?_)
  intro v1 w1 hown1 hg1 _ hat1
  have hq1 := Lib.hid (((b_alloc w (.cells ⟨(⟨6, r, (-1), b, n, aa, acap, args⟩ : Ins).vals⟩ 44)).alloc (by simp) _).grown hg1 (by first | (simp; done) | (simp; omega)) (fun k e => by cases e) : Below w.heap.size w w1)
  replace hown1 := Lib.hid hown1
  clear hg1 hat1
  go_wp2_with fail
  go_ret
  exact ⟨_, rfl, by simpa [numCells] using hown1.out, hq1.out⟩
set_option maxHeartbeats 4000000 in
set_option maxRecDepth 100000 in
theorem rreads_oc (r a b n : Int) (aa : Option Addr) (acap : Nat) (args : List Int) (w : World) (hrow : RowAt w (fun _ => True) aa acap args.length (numCells args)) (hl : args.length ≤ 17592186044416) :
    Calls Tryd.prog 89 #[(⟨10, r, a, b, n, aa, acap, args⟩ : Ins).val] w fun e w' => ∃ v, e = .returned v ∧ w'.ownsRow w.heap.size 3 1 v (rdP ⟨10, r, a, b, n, aa, acap, args⟩).length (numCells (rdP ⟨10, r, a, b, n, aa, acap, args⟩)) ∧ Below w.heap.size w w' := by
  have hrd : rdP ⟨10, r, a, b, n, aa, acap, args⟩ = args := by simp [rdP, rdA, rdB, rdC, hasA, hasB, hasF, numK]
  rw [hrd]
  clear hrd
  obtain ⟨i0, hi0, hz0, hz1, hz2⟩ := info_i
  have hrow1 := hrow.below (Kps.of_below (b_alloc w (.cells ⟨(⟨10, r, a, b, n, aa, acap, args⟩ : Ins).vals⟩ 44)))
  obtain ⟨hc1, hc2⟩ := len_i hrow
  clear hrow
  cases aa with
  | none =>
    have hz : acap = 0 := hrow1.nil rfl
    have hz2 : args = [] := List.eq_nil_of_length_eq_zero (by omega)
    subst hz hz2
    have hap := run_append_owned_none (P := Tryd.prog) (w := w.alloc (.cells ⟨(⟨10, r, a, b, n, none, 0, []⟩ : Ins).vals⟩ 44)) w.heap.size 40 40 3 i0 1 Tryd.underlying40 hi0 (.slice none 0 0) 0 [] (World.ownsRow_nil _ _ _ _)
    clear hrow1 hi0
    go_enter Tryd.func89, Tryd.ntmps89
    go_wp2_with fail
    go_ret
    exact ⟨_, rfl, World.ownsRow_nil _ _ _ _, b_alloc _ _⟩
  | some ad =>
    have hnews : ∀ j u, (numCells args)[j]? = some u → (w.alloc (.cells ⟨(⟨10, r, a, b, n, some ad, acap, args⟩ : Ins).vals⟩ 44)).cell? (ad.add j) = some u := fun j u hj => by
      obtain ⟨b', off, ha, _, hc⟩ := hrow1.at_ j u hj
      cases ha
      rw [Go.WideShapes.add_plain]; exact hc
    replace hnews := Lib.hid hnews
    clear hrow1
    go_enter Tryd.func89, Tryd.ntmps89
    go_wp2_with (at_builtin; refine wpList_append_own_at _ rfl _ _ 40 rfl w.heap.size 3 i0 _ 1 8 Tryd.underlying40 hi0 hz0 hz1 hz2 rfl (by decide) _ _ _ rfl (World.ownsRow_nil _ _ _ _) ad args.length acap (numCells args) rfl (by simp [numCells]) hnews.out (num_one args) (by unfold maxLen; omega) (by omega) (by first | (simp; done) | (simp; omega)) ?_)
    intro v1 w1 hown1 hg1 _ hat1
    have hq1 := Lib.hid ((b_alloc w (.cells ⟨(⟨10, r, a, b, n, some ad, acap, args⟩ : Ins).vals⟩ 44)).grown hg1 (by first | (simp; done) | (simp; omega)) (fun k e => by cases e) : Below w.heap.size w w1)
    replace hown1 := Lib.hid hown1
    clear hg1 hat1
    go_wp2_with fail
    go_ret
    exact ⟨_, rfl, by simpa [numCells] using hown1.out, hq1.out⟩
set_option maxHeartbeats 4000000 in
set_option maxRecDepth 100000 in
theorem rreads_none (op r a b n : Int) (aa : Option Addr) (acap : Nat) (args : List Int) (w : World) (h : ¬ op = 2 ∧ ¬ op = 3 ∧ ¬ op = 9 ∧ ¬ op = 12 ∧ ¬ op = 13 ∧ ¬ op = 4 ∧ ¬ op = 5 ∧ ¬ op = 6 ∧ ¬ op = 10) :
    Calls Tryd.prog 89 #[(⟨op, r, a, b, n, aa, acap, args⟩ : Ins).val] w fun e w' => ∃ v, e = .returned v ∧ w'.ownsRow w.heap.size 3 1 v (rdP ⟨op, r, a, b, n, aa, acap, args⟩).length (numCells (rdP ⟨op, r, a, b, n, aa, acap, args⟩)) ∧ Below w.heap.size w w' := by
  obtain ⟨h2, h3, h9, h12, h13, h4, h5, h6, h10⟩ := h
  have hn6 : ¬ numK op = 6 := by unfold numK; repeat' split
                                 all_goals first | omega | simp
  have hrd : rdP ⟨op, r, a, b, n, aa, acap, args⟩ = [] := by simp [rdP, rdA, rdB, rdC, hasA, hasB, h2, h3, h9, h12, h13, h4, h5, h6, hn6]
  rw [hrd]
  clear hrd hn6
  have e2 := ne_b h2; have e3 := ne_b h3; have e9 := ne_b h9; have e12 := ne_b h12; have e13 := ne_b h13; have e4 := ne_b h4; have e5 := ne_b h5; have e6 := ne_b h6; have e10 := ne_b h10
  clear h2 h3 h9 h12 h13 h4 h5 h6 h10
  go_enter Tryd.func89, Tryd.ntmps89
  go_wp2_with fail
  go_ret
  exact ⟨_, rfl, World.ownsRow_nil _ _ _ _, b_alloc _ _⟩
theorem rreads_any (i : Ins) (w : World) (hrow : RowAt w (fun _ => True) i.aa i.acap i.args.length (numCells i.args)) (hl : i.args.length ≤ 17592186044416) :
    Calls Tryd.prog 89 #[i.val] w fun e w' => ∃ v, e = .returned v ∧ w'.ownsRow w.heap.size 3 1 v (rdP i).length (numCells (rdP i)) ∧ Below w.heap.size w w' := by
  obtain ⟨op, r, a, b, n, aa, acap, args⟩ := i
  by_cases h : ¬ op = 2 ∧ ¬ op = 3 ∧ ¬ op = 9 ∧ ¬ op = 12 ∧ ¬ op = 13 ∧ ¬ op = 4 ∧ ¬ op = 5 ∧ ¬ op = 6 ∧ ¬ op = 10
  · exact rreads_none op r a b n aa acap args w h
  · have h' : op = 2 ∨ op = 3 ∨ op = 9 ∨ op = 12 ∨ op = 13 ∨ op = 4 ∨ op = 5 ∨ op = 6 ∨ op = 10 := by omega
    rcases h' with rfl | rfl | rfl | rfl | rfl | rfl | rfl | rfl | rfl
    · exact rreads_o2 r a b n aa acap args w
    · exact rreads_o3 r a b n aa acap args w
    · exact rreads_o9 r a b n aa acap args w
    · exact rreads_o12 r a b n aa acap args w
    · exact rreads_o13 r a b n aa acap args w
    · exact rreads_o4 r a b n aa acap args w
    · by_cases ha : a = -1
      · subst ha; exact rreads_o5n r b n aa acap args w
      · exact rreads_o5y r a b n aa acap args w ha
    · by_cases ha : a = -1
      · subst ha; exact rreads_o6n r b n aa acap args w
      · exact rreads_o6y r a b n aa acap args w ha
    · exact rreads_oc r a b n aa acap args w hrow hl
end Go.Proofs.YtckmgefailclcaaDoor.Cd
namespace Go.Proofs.YtckmgefailclcaaDoor.Cd
open Go Go.RowKit
open Go.Proofs.YtckmgefailclcaaDoor.Lx Go.Proofs.YtckmgefailclcaaDoor.Tr

set_option maxHeartbeats 800000 in
theorem rwithin_any (n m : Int) (w : World) : Calls Tryd.prog 86 #[.int .i64 n, .int .i64 m] w fun e w' => e = .returned (.bool (inP n m)) ∧ Below w.heap.size w w' := by
  by_cases h1 : 0 ≤ n
  · by_cases h2 : n < m
    · go_enter Tryd.func86, Tryd.ntmps86
      go_wp2_with fail
      go_ret
      exact ⟨ret_bool (by simp [inP, h1, h2]), Below.refl _ _⟩
    · go_enter Tryd.func86, Tryd.ntmps86
      go_wp2_with fail
      go_ret
      exact ⟨ret_bool (by simp [inP, h2]), Below.refl _ _⟩
  · go_enter Tryd.func86, Tryd.ntmps86
    go_wp2_with fail
    go_ret
    exact ⟨ret_bool (by rw [inP, decide_eq_false (by omega : ¬ 0 ≤ n)]; rfl), Below.refl _ _⟩

set_option maxHeartbeats 2000000 in
set_option maxRecDepth 100000 in
theorem rwrites_o1 (r a b n : Int) (aa : Option Addr) (acap : Nat) (args : List Int) (w : World) :
    Calls Tryd.prog 90 #[(⟨1, r, a, b, n, aa, acap, args⟩ : Ins).val] w fun e w' => e = .returned (.tuple #[.int .i64 (wrP ⟨1, r, a, b, n, aa, acap, args⟩).1, .bool (wrP ⟨1, r, a, b, n, aa, acap, args⟩).2]) ∧ Below w.heap.size w w' := by
  go_enter Tryd.func90, Tryd.ntmps90
  go_wp2_with fail
  go_ret2
  exact ⟨rfl, b_alloc _ _⟩
set_option maxHeartbeats 2000000 in
set_option maxRecDepth 100000 in
theorem rwrites_o2 (r a b n : Int) (aa : Option Addr) (acap : Nat) (args : List Int) (w : World) :
    Calls Tryd.prog 90 #[(⟨2, r, a, b, n, aa, acap, args⟩ : Ins).val] w fun e w' => e = .returned (.tuple #[.int .i64 (wrP ⟨2, r, a, b, n, aa, acap, args⟩).1, .bool (wrP ⟨2, r, a, b, n, aa, acap, args⟩).2]) ∧ Below w.heap.size w w' := by
  go_enter Tryd.func90, Tryd.ntmps90
  go_wp2_with fail
  go_ret2
  exact ⟨rfl, b_alloc _ _⟩
set_option maxHeartbeats 2000000 in
set_option maxRecDepth 100000 in
theorem rwrites_o3 (r a b n : Int) (aa : Option Addr) (acap : Nat) (args : List Int) (w : World) :
    Calls Tryd.prog 90 #[(⟨3, r, a, b, n, aa, acap, args⟩ : Ins).val] w fun e w' => e = .returned (.tuple #[.int .i64 (wrP ⟨3, r, a, b, n, aa, acap, args⟩).1, .bool (wrP ⟨3, r, a, b, n, aa, acap, args⟩).2]) ∧ Below w.heap.size w w' := by
  go_enter Tryd.func90, Tryd.ntmps90
  go_wp2_with fail
  go_ret2
  exact ⟨rfl, b_alloc _ _⟩
set_option maxHeartbeats 2000000 in
set_option maxRecDepth 100000 in
theorem rwrites_o4 (r a b n : Int) (aa : Option Addr) (acap : Nat) (args : List Int) (w : World) :
    Calls Tryd.prog 90 #[(⟨4, r, a, b, n, aa, acap, args⟩ : Ins).val] w fun e w' => e = .returned (.tuple #[.int .i64 (wrP ⟨4, r, a, b, n, aa, acap, args⟩).1, .bool (wrP ⟨4, r, a, b, n, aa, acap, args⟩).2]) ∧ Below w.heap.size w w' := by
  go_enter Tryd.func90, Tryd.ntmps90
  go_wp2_with fail
  go_ret2
  exact ⟨rfl, b_alloc _ _⟩
set_option maxHeartbeats 2000000 in
set_option maxRecDepth 100000 in
theorem rwrites_o5 (r a b n : Int) (aa : Option Addr) (acap : Nat) (args : List Int) (w : World) :
    Calls Tryd.prog 90 #[(⟨5, r, a, b, n, aa, acap, args⟩ : Ins).val] w fun e w' => e = .returned (.tuple #[.int .i64 (wrP ⟨5, r, a, b, n, aa, acap, args⟩).1, .bool (wrP ⟨5, r, a, b, n, aa, acap, args⟩).2]) ∧ Below w.heap.size w w' := by
  go_enter Tryd.func90, Tryd.ntmps90
  go_wp2_with fail
  go_ret2
  exact ⟨rfl, b_alloc _ _⟩
set_option maxHeartbeats 2000000 in
set_option maxRecDepth 100000 in
theorem rwrites_o10 (r a b n : Int) (aa : Option Addr) (acap : Nat) (args : List Int) (w : World) :
    Calls Tryd.prog 90 #[(⟨10, r, a, b, n, aa, acap, args⟩ : Ins).val] w fun e w' => e = .returned (.tuple #[.int .i64 (wrP ⟨10, r, a, b, n, aa, acap, args⟩).1, .bool (wrP ⟨10, r, a, b, n, aa, acap, args⟩).2]) ∧ Below w.heap.size w w' := by
  go_enter Tryd.func90, Tryd.ntmps90
  go_wp2_with fail
  go_ret2
  exact ⟨rfl, b_alloc _ _⟩
set_option maxHeartbeats 2000000 in
set_option maxRecDepth 100000 in
theorem rwrites_no (op r a b n : Int) (aa : Option Addr) (acap : Nat) (args : List Int) (w : World) (h : ¬ op = 1 ∧ ¬ op = 2 ∧ ¬ op = 3 ∧ ¬ op = 4 ∧ ¬ op = 5 ∧ ¬ op = 10) :
    Calls Tryd.prog 90 #[(⟨op, r, a, b, n, aa, acap, args⟩ : Ins).val] w fun e w' => e = .returned (.tuple #[.int .i64 (wrP ⟨op, r, a, b, n, aa, acap, args⟩).1, .bool (wrP ⟨op, r, a, b, n, aa, acap, args⟩).2]) ∧ Below w.heap.size w w' := by
  obtain ⟨h1, h2, h3, h4, h5, h10⟩ := h
  have hp : wrP ⟨op, r, a, b, n, aa, acap, args⟩ = (0, false) := by simp [wrP, hasR, h1, h2, h3, h4, h5, h10]
  rw [hp]
  clear hp
  have e1 := ne_b h1
  have e2 := ne_b h2
  have e3 := ne_b h3
  have e4 := ne_b h4
  have e5 := ne_b h5
  have e10 := ne_b h10
  clear h1 h2 h3 h4 h5 h10
  go_enter Tryd.func90, Tryd.ntmps90
  go_wp2_with fail
  go_ret2
  exact ⟨rfl, b_alloc _ _⟩
set_option maxHeartbeats 2000000 in
set_option maxRecDepth 100000 in
theorem rwrites_any (i : Ins) (w : World) :
    Calls Tryd.prog 90 #[i.val] w fun e w' => e = .returned (.tuple #[.int .i64 (wrP i).1, .bool (wrP i).2]) ∧ Below w.heap.size w w' := by
  obtain ⟨op, r, a, b, n, aa, acap, args⟩ := i
  by_cases h : ¬ op = 1 ∧ ¬ op = 2 ∧ ¬ op = 3 ∧ ¬ op = 4 ∧ ¬ op = 5 ∧ ¬ op = 10
  · exact rwrites_no op r a b n aa acap args w h
  · have h' : op = 1 ∨ op = 2 ∨ op = 3 ∨ op = 4 ∨ op = 5 ∨ op = 10 := by omega
    rcases h' with rfl | rfl | rfl | rfl | rfl | rfl
    · exact rwrites_o1 r a b n aa acap args w
    · exact rwrites_o2 r a b n aa acap args w
    · exact rwrites_o3 r a b n aa acap args w
    · exact rwrites_o4 r a b n aa acap args w
    · exact rwrites_o5 r a b n aa acap args w
    · exact rwrites_o10 r a b n aa acap args w
theorem box2 (w : World) (i k : Ins) : ((w.alloc (.cells ⟨i.vals⟩ 44)).alloc (.cells ⟨k.vals⟩ 44)).cell? ⟨w.heap.size, 5, none⟩ = some (.slice i.aa i.args.length i.acap) ∧ ((w.alloc (.cells ⟨i.vals⟩ 44)).alloc (.cells ⟨k.vals⟩ 44)).cell? ⟨w.heap.size + 1, 5, none⟩ = some (.slice k.aa k.args.length k.acap) :=
  ⟨below_in (b_alloc _ _) (box_new w i.vals 44 5 _ rfl), cells_of (t := 44) (vs := k.vals) (blk_new _ _ (by simp)) 5 _ rfl⟩
set_option maxHeartbeats 4000000 in
set_option maxRecDepth 100000 in
theorem rsameIns_any (i k : Ins) (w : World) (hi : RowAt w (fun _ => True) i.aa i.acap i.args.length (numCells i.args)) (hk : RowAt w (fun _ => True) k.aa k.acap k.args.length (numCells k.args)) :
    Calls Tryd.prog 36 #[i.val, k.val] w fun x w' => x = .returned (.bool (sameI i k)) ∧ Below w.heap.size w w' := by
  obtain ⟨op, r, a, b, n, aa, acap, args⟩ := i
  obtain ⟨op', r', a', b', n', aa', acap', args'⟩ := k
  unfold sameI
  simp only at hi hk ⊢
  obtain ⟨hc11, hc12⟩ := len_i hi
  obtain ⟨hc21, hc22⟩ := len_i hk
  have hbx := Lib.hid (box2 w ⟨op, r, a, b, n, aa, acap, args⟩ ⟨op', r', a', b', n', aa', acap', args'⟩)
  by_cases h0 : op = op'
  · subst h0
    by_cases h1 : r = r'
    · subst h1
      by_cases h2 : a = a'
      · subst h2
        by_cases h3 : b = b'
        · subst h3
          by_cases h4 : n = n'
          · subst h4
            by_cases hle : args.length = args'.length
            · have hne : ((args.length : Int) != (args'.length : Int)) = false := by rw [hle]; simp
              have hle' := Lib.hid hle
              have hst := Lib.hid (b_alloc2 w (.cells ⟨(⟨op, r, a, b, n, aa, acap, args⟩ : Ins).vals⟩ 44) (.cells ⟨(⟨op, r, a, b, n, aa', acap', args'⟩ : Ins).vals⟩ 44))
              have hri := hi.below (Kps.of_below hst.out)
              have hrk := hk.below (Kps.of_below hst.out)
              clear hle hi hk
              go_enter Tryd.func36, Tryd.ntmps36
              go_wp2
              generalize hW0 : (w.alloc (.cells ⟨(⟨op, r, a, b, n, aa, acap, args⟩ : Ins).vals⟩ 44)).alloc (.cells ⟨(⟨op, r, a, b, n, aa', acap', args'⟩ : Ins).vals⟩ 44) = W0 at hst hri hrk hbx
              obtain ⟨q1, q2⟩ := hbx.out
              go_loopw [5] (fun i wr => ∃ k : Nat, k ≤ args.length ∧ i = .int .i64 k ∧ args.take k = args'.take k ∧ ∃ m, wr = W0.drewN m) (fun i _ => args.length - (intOf i).toNat)
              case atStart => exact ⟨0, Nat.zero_le _, rfl, rfl, 0, hW0⟩
              case round =>
                obtain ⟨k, hk, rfl, htk, m, rfl⟩ := hrel
                replace htk := Lib.hid htk
                by_cases hlt : k < args.length
                · have hlt' : k < args'.length := by rw [← hle'.out]; exact hlt
                  obtain ⟨x, hx⟩ : ∃ e, args[k]? = some e := ⟨args[k], by simp [hlt]⟩
                  obtain ⟨y, hy⟩ : ∃ e, args'[k]? = some e := ⟨args'[k], by simp [hlt']⟩
                  obtain ⟨b1, off, rfl, _, hcell⟩ := num_row hri k x hx
                  obtain ⟨b2, off', rfl, _, hcell'⟩ := num_row hrk k y hy
                  replace hx := Lib.hid hx
                  replace hy := Lib.hid hy
                  clear hri hrk hW0
                  by_cases hxy : x = y
                  · have HT : Hid (args.take (k + 1) = args'.take (k + 1)) := Lib.hid (by rw [List.take_add_one, List.take_add_one, htk.out, hx.out, hy.out, hxy])
                    subst hxy
                    go_wp2
                    go_quiet (fail)
                    go_wp2
                    go_roundw
                    case rel => exact ⟨k + 1, by omega, by go_num, HT.out, _, rfl⟩
                    case measure => simp [intOf]; omega
                  · have HN : Hid (decide (args = args') = false) := Lib.hid (by
                      rw [decide_eq_false_iff_not]; intro e; apply hxy
                      have h3 := hx.out; rw [e, hy.out] at h3
                      exact (Option.some.inj h3).symm)
                    have hs1 := ne_n hxy
                    clear hxy
                    go_wp2
                    go_quiet (fail)
                    go_wp2
                    go_ret
                    exact ⟨ret_bool (by rw [HN.out]; simp), hst.out.trans ⟨rfl, rfl, rfl, Nat.le_refl _, fun _ _ => rfl⟩⟩
                · have HE : Hid (decide (args = args') = true) := Lib.hid (by
                    have h3 := htk.out
                    have h4 := hle'.out
                    rw [List.take_of_length_le (by omega), List.take_of_length_le (by omega)] at h3
                    simpa using h3)
                  clear htk hri hrk hW0
                  go_wp2
                  go_ret
                  exact ⟨ret_bool (by rw [HE.out]; simp), hst.out.trans ⟨rfl, rfl, rfl, Nat.le_refl _, fun _ _ => rfl⟩⟩
            · have hne : ((args.length : Int) != (args'.length : Int)) = true := by simp; omega
              have hF : Hid (decide (args = args') = false) := Lib.hid (by rw [decide_eq_false_iff_not]; intro h; exact hle (by rw [h]))
              clear hbx
              go_enter Tryd.func36, Tryd.ntmps36
              go_wp2_with fail
              go_ret
              exact ⟨ret_bool (by rw [hF.out]; simp), b_alloc2 _ _ _⟩
          · have e4 := ne_n h4
            clear hbx
            go_enter Tryd.func36, Tryd.ntmps36
            go_wp2_with fail
            go_ret
            exact ⟨ret_bool (by simp [*]), b_alloc2 _ _ _⟩
        · have e3 := ne_n h3
          clear hbx
          go_enter Tryd.func36, Tryd.ntmps36
          go_wp2_with fail
          go_ret
          exact ⟨ret_bool (by simp [*]), b_alloc2 _ _ _⟩
      · have e2 := ne_n h2
        clear hbx
        go_enter Tryd.func36, Tryd.ntmps36
        go_wp2_with fail
        go_ret
        exact ⟨ret_bool (by simp [*]), b_alloc2 _ _ _⟩
    · have e1 := ne_n h1
      clear hbx
      go_enter Tryd.func36, Tryd.ntmps36
      go_wp2_with fail
      go_ret
      exact ⟨ret_bool (by simp [*]), b_alloc2 _ _ _⟩
  · have e0 := ne_n h0
    clear hbx
    go_enter Tryd.func36, Tryd.ntmps36
    go_wp2_with fail
    go_ret
    exact ⟨ret_bool (by simp [*]), b_alloc2 _ _ _⟩
end Go.Proofs.YtckmgefailclcaaDoor.Cd
namespace Go.Proofs.YtckmgefailclcaaDoor.Cd
open Go Go.RowKit
open Go.Proofs.YtckmgefailclcaaDoor.Lx Go.Proofs.YtckmgefailclcaaDoor.Tr

theorem heap_oth {W : World} {b k j : Nat} {u : Value} (h : k ≠ b) : (W.setCell ⟨b, j, none⟩ u).heap[k]? = W.heap[k]? := by
  simp [World.setCell, Array.getElem?_modify, Ne.symm h]
theorem heap_set6 {W : World} {g : Nat} {a0 b0 c0 d0 e0 f0 : Value} {T : TypeId} {fr : Nat × Nat} (h : W.heap[g]? = some (.cells #[a0, b0, c0, d0, e0, f0] T fr)) (a b c d e f : Value) :
    ((((((W.setCell ⟨g, 0, none⟩ a).setCell ⟨g, 1, none⟩ b).setCell ⟨g, 2, none⟩ c).setCell ⟨g, 3, none⟩ d).setCell ⟨g, 4, none⟩ e).setCell ⟨g, 5, none⟩ f).heap[g]? = some (.cells #[a, b, c, d, e, f] T fr) := by
  have := heap_set1 (heap_set1 (heap_set1 (heap_set1 (heap_set1 (heap_set1 h 0 a) 1 b) 2 c) 3 d) 4 e) 5 f
  simpa using this
theorem below_set6 {B g : Nat} {w W : World} (h : Below B w W) (hg : B ≤ g) (a b c d e f : Value) : Below B w ((((((W.setCell ⟨g, 0, none⟩ a).setCell ⟨g, 1, none⟩ b).setCell ⟨g, 2, none⟩ c).setCell ⟨g, 3, none⟩ d).setCell ⟨g, 4, none⟩ e).setCell ⟨g, 5, none⟩ f) :=
  (((((h.setCell (p := ⟨g, 0, none⟩) hg a).setCell (p := ⟨g, 1, none⟩) hg b).setCell (p := ⟨g, 2, none⟩) hg c).setCell (p := ⟨g, 3, none⟩) hg d).setCell (p := ⟨g, 4, none⟩) hg e).setCell (p := ⟨g, 5, none⟩) hg f
theorem ins3 (w : World) (o0 o1 o2 : Obj) : (((w.alloc o0).alloc o1).alloc o2).heap[w.heap.size]? = some o0 ∧ (((w.alloc o0).alloc o1).alloc o2).heap[w.heap.size + 1]? = some o1 ∧ (((w.alloc o0).alloc o1).alloc o2).heap[w.heap.size + 1 + 1]? = some o2 :=
  ⟨(Below.heap_alloc _ _ _ (by simp; omega)).trans ((Below.heap_alloc _ _ _ (by simp)).trans (blk_new _ _ rfl)), (Below.heap_alloc _ _ _ (by simp)).trans (blk_new _ _ (by simp)), blk_new _ _ (by simp)⟩

set_option maxHeartbeats 2000000 in
set_option maxRecDepth 100000 in
theorem kept_o1 (r a b n : Int) (aa : Option Addr) (acap : Nat) (args : List Int) (w : World) :
    Calls Tryd.prog 88 #[(⟨1, r, a, b, n, aa, acap, args⟩ : Ins).val] w fun e w' => e = .returned (.agg ⟨(keptP (⟨1, r, a, b, n, aa, acap, args⟩ : Ins)).vals⟩) ∧ Below w.heap.size w w' := by
  have hk : keptP (⟨1, r, a, b, n, aa, acap, args⟩ : Ins) = ⟨1, r, 0, 0, n, none, 0, []⟩ := rfl
  rw [hk]
  clear hk
  have hw := Lib.hid (fun V => rwrites_any (⟨1, r, a, b, n, aa, acap, args⟩ : Ins) V)
  obtain ⟨g0, g1, g2⟩ := ins3 w (.cells ⟨(⟨1, r, a, b, n, aa, acap, args⟩ : Ins).vals⟩ 44) (.cells #[.int .u8 0, .int .i64 0, .int .i64 0, .int .i64 0, .int .i64 0, .slice none 0 0] 44) (.cells #[.int .u8 1, .int .i64 0, .int .i64 0, .int .i64 0, .int .i64 0, .slice none 0 0] 44)
  have hst := Lib.hid (b_alloc3 w (.cells ⟨(⟨1, r, a, b, n, aa, acap, args⟩ : Ins).vals⟩ 44) (.cells #[.int .u8 0, .int .i64 0, .int .i64 0, .int .i64 0, .int .i64 0, .slice none 0 0] 44) (.cells #[.int .u8 1, .int .i64 0, .int .i64 0, .int .i64 0, .int .i64 0, .slice none 0 0] 44))
  replace g0 := Lib.hid g0
  replace g1 := Lib.hid g1
  replace g2 := Lib.hid g2
  go_enter Tryd.func88, Tryd.ntmps88
  go_wp2_with fail
  refine (hw.out _).mono ?_
  rintro e w1 ⟨rfl, hb⟩
  have hs1 : w.heap.size + 3 ≤ w1.heap.size := by have := hb.size; simp at this; omega
  have hl0 : w.heap.size < w1.heap.size := by omega
  have hl1 : w.heap.size + 1 < w1.heap.size := by omega
  have hl2 : w.heap.size + 1 + 1 < w1.heap.size := by omega
  have k0 : w1.heap[w.heap.size]? = _ := (hb.block _ (by first | (simp; done) | (simp; omega))).trans g0.out
  have k1 : w1.heap[w.heap.size + 1]? = _ := (hb.block _ (by first | (simp; done) | (simp; omega))).trans g1.out
  have k2 : w1.heap[w.heap.size + 1 + 1]? = _ := (hb.block _ (by first | (simp; done) | (simp; omega))).trans g2.out
  obtain ⟨q0, q1, q2, q3, q4, q5⟩ := ins_cells (i := (⟨1, r, a, b, n, aa, acap, args⟩ : Ins)) (cells_of (t := 44) k0)
  obtain ⟨z0, z1, z2, z3, z4, z5⟩ := ins_cells (i := ⟨1, 0, 0, 0, 0, none, 0, []⟩) (cells_of (t := 44) k2)
  have x0 := blk_free k2 0
  have x1 := blk_free k2 1
  have x2 := blk_free k2 2
  have x3 := blk_free k2 3
  have x4 := blk_free k2 4
  have x5 := blk_free k2 5
  obtain ⟨y0, y1, y2, y3, y4, y5⟩ := ins_cells (i := ⟨0, 0, 0, 0, 0, none, 0, []⟩) (cells_of (t := 44) k1)
  have u0 := blk_free k1 0
  have u1 := blk_free k1 1
  have u2 := blk_free k1 2
  have u3 := blk_free k1 3
  have u4 := blk_free k1 4
  have u5 := blk_free k1 5
  have hq := Lib.hid (hst.out.trans (hb.mono hst.out.size))
  replace k1 := Lib.hid k1
  clear hb k0 k2 g0 g1 g2
  go_wp2_with fail
  exact bodyPost_ret (v := .agg #[.int .u8 1, .int .i64 r, .int .i64 0, .int .i64 0, .int .i64 n, .slice none 0 0]) (results_cell_row Tryd.results88 _ _ (w.heap.size + 1) _ _ _ _ rfl (heap_set6 ((heap_oth (by omega)).trans ((heap_oth (by omega)).trans k1.out)) _ _ _ _ _ _) Tryd.underlying44 rfl (by kernel_rfl)) rfl ⟨rfl, below_set6 ((hq.out.setCell (p := ⟨w.heap.size + 1 + 1, 1, none⟩) (by show w.heap.size ≤ w.heap.size + 1 + 1; omega) _).setCell (p := ⟨w.heap.size + 1 + 1, 4, none⟩) (by show w.heap.size ≤ w.heap.size + 1 + 1; omega) _) (by omega) _ _ _ _ _ _⟩
set_option maxHeartbeats 2000000 in
set_option maxRecDepth 100000 in
theorem kept_o2 (r a b n : Int) (aa : Option Addr) (acap : Nat) (args : List Int) (w : World) :
    Calls Tryd.prog 88 #[(⟨2, r, a, b, n, aa, acap, args⟩ : Ins).val] w fun e w' => e = .returned (.agg ⟨(keptP (⟨2, r, a, b, n, aa, acap, args⟩ : Ins)).vals⟩) ∧ Below w.heap.size w w' := by
  have hk : keptP (⟨2, r, a, b, n, aa, acap, args⟩ : Ins) = ⟨2, r, a, 0, 0, none, 0, []⟩ := rfl
  rw [hk]
  clear hk
  have hw := Lib.hid (fun V => rwrites_any (⟨2, r, a, b, n, aa, acap, args⟩ : Ins) V)
  obtain ⟨g0, g1, g2⟩ := ins3 w (.cells ⟨(⟨2, r, a, b, n, aa, acap, args⟩ : Ins).vals⟩ 44) (.cells #[.int .u8 0, .int .i64 0, .int .i64 0, .int .i64 0, .int .i64 0, .slice none 0 0] 44) (.cells #[.int .u8 2, .int .i64 0, .int .i64 0, .int .i64 0, .int .i64 0, .slice none 0 0] 44)
  have hst := Lib.hid (b_alloc3 w (.cells ⟨(⟨2, r, a, b, n, aa, acap, args⟩ : Ins).vals⟩ 44) (.cells #[.int .u8 0, .int .i64 0, .int .i64 0, .int .i64 0, .int .i64 0, .slice none 0 0] 44) (.cells #[.int .u8 2, .int .i64 0, .int .i64 0, .int .i64 0, .int .i64 0, .slice none 0 0] 44))
  replace g0 := Lib.hid g0
  replace g1 := Lib.hid g1
  replace g2 := Lib.hid g2
  go_enter Tryd.func88, Tryd.ntmps88
  go_wp2_with fail
  refine (hw.out _).mono ?_
  rintro e w1 ⟨rfl, hb⟩
  have hs1 : w.heap.size + 3 ≤ w1.heap.size := by have := hb.size; simp at this; omega
  have hl0 : w.heap.size < w1.heap.size := by omega
  have hl1 : w.heap.size + 1 < w1.heap.size := by omega
  have hl2 : w.heap.size + 1 + 1 < w1.heap.size := by omega
  have k0 : w1.heap[w.heap.size]? = _ := (hb.block _ (by first | (simp; done) | (simp; omega))).trans g0.out
  have k1 : w1.heap[w.heap.size + 1]? = _ := (hb.block _ (by first | (simp; done) | (simp; omega))).trans g1.out
  have k2 : w1.heap[w.heap.size + 1 + 1]? = _ := (hb.block _ (by first | (simp; done) | (simp; omega))).trans g2.out
  obtain ⟨q0, q1, q2, q3, q4, q5⟩ := ins_cells (i := (⟨2, r, a, b, n, aa, acap, args⟩ : Ins)) (cells_of (t := 44) k0)
  obtain ⟨z0, z1, z2, z3, z4, z5⟩ := ins_cells (i := ⟨2, 0, 0, 0, 0, none, 0, []⟩) (cells_of (t := 44) k2)
  have x0 := blk_free k2 0
  have x1 := blk_free k2 1
  have x2 := blk_free k2 2
  have x3 := blk_free k2 3
  have x4 := blk_free k2 4
  have x5 := blk_free k2 5
  obtain ⟨y0, y1, y2, y3, y4, y5⟩ := ins_cells (i := ⟨0, 0, 0, 0, 0, none, 0, []⟩) (cells_of (t := 44) k1)
  have u0 := blk_free k1 0
  have u1 := blk_free k1 1
  have u2 := blk_free k1 2
  have u3 := blk_free k1 3
  have u4 := blk_free k1 4
  have u5 := blk_free k1 5
  have hq := Lib.hid (hst.out.trans (hb.mono hst.out.size))
  replace k1 := Lib.hid k1
  clear hb k0 k2 g0 g1 g2
  go_wp2_with fail
  exact bodyPost_ret (v := .agg #[.int .u8 2, .int .i64 r, .int .i64 a, .int .i64 0, .int .i64 0, .slice none 0 0]) (results_cell_row Tryd.results88 _ _ (w.heap.size + 1) _ _ _ _ rfl (heap_set6 ((heap_oth (by omega)).trans ((heap_oth (by omega)).trans k1.out)) _ _ _ _ _ _) Tryd.underlying44 rfl (by kernel_rfl)) rfl ⟨rfl, below_set6 ((hq.out.setCell (p := ⟨w.heap.size + 1 + 1, 1, none⟩) (by show w.heap.size ≤ w.heap.size + 1 + 1; omega) _).setCell (p := ⟨w.heap.size + 1 + 1, 2, none⟩) (by show w.heap.size ≤ w.heap.size + 1 + 1; omega) _) (by omega) _ _ _ _ _ _⟩
set_option maxHeartbeats 2000000 in
set_option maxRecDepth 100000 in
theorem kept_o3 (r a b n : Int) (aa : Option Addr) (acap : Nat) (args : List Int) (w : World) :
    Calls Tryd.prog 88 #[(⟨3, r, a, b, n, aa, acap, args⟩ : Ins).val] w fun e w' => e = .returned (.agg ⟨(keptP (⟨3, r, a, b, n, aa, acap, args⟩ : Ins)).vals⟩) ∧ Below w.heap.size w w' := by
  have hk : keptP (⟨3, r, a, b, n, aa, acap, args⟩ : Ins) = ⟨3, r, a, 0, n, none, 0, []⟩ := rfl
  rw [hk]
  clear hk
  have hw := Lib.hid (fun V => rwrites_any (⟨3, r, a, b, n, aa, acap, args⟩ : Ins) V)
  obtain ⟨g0, g1, g2⟩ := ins3 w (.cells ⟨(⟨3, r, a, b, n, aa, acap, args⟩ : Ins).vals⟩ 44) (.cells #[.int .u8 0, .int .i64 0, .int .i64 0, .int .i64 0, .int .i64 0, .slice none 0 0] 44) (.cells #[.int .u8 3, .int .i64 0, .int .i64 0, .int .i64 0, .int .i64 0, .slice none 0 0] 44)
  have hst := Lib.hid (b_alloc3 w (.cells ⟨(⟨3, r, a, b, n, aa, acap, args⟩ : Ins).vals⟩ 44) (.cells #[.int .u8 0, .int .i64 0, .int .i64 0, .int .i64 0, .int .i64 0, .slice none 0 0] 44) (.cells #[.int .u8 3, .int .i64 0, .int .i64 0, .int .i64 0, .int .i64 0, .slice none 0 0] 44))
  replace g0 := Lib.hid g0
  replace g1 := Lib.hid g1
  replace g2 := Lib.hid g2
  go_enter Tryd.func88, Tryd.ntmps88
  go_wp2_with fail
  refine (hw.out _).mono ?_
  rintro e w1 ⟨rfl, hb⟩
  have hs1 : w.heap.size + 3 ≤ w1.heap.size := by have := hb.size; simp at this; omega
  have hl0 : w.heap.size < w1.heap.size := by omega
  have hl1 : w.heap.size + 1 < w1.heap.size := by omega
  have hl2 : w.heap.size + 1 + 1 < w1.heap.size := by omega
  have k0 : w1.heap[w.heap.size]? = _ := (hb.block _ (by first | (simp; done) | (simp; omega))).trans g0.out
  have k1 : w1.heap[w.heap.size + 1]? = _ := (hb.block _ (by first | (simp; done) | (simp; omega))).trans g1.out
  have k2 : w1.heap[w.heap.size + 1 + 1]? = _ := (hb.block _ (by first | (simp; done) | (simp; omega))).trans g2.out
  obtain ⟨q0, q1, q2, q3, q4, q5⟩ := ins_cells (i := (⟨3, r, a, b, n, aa, acap, args⟩ : Ins)) (cells_of (t := 44) k0)
  obtain ⟨z0, z1, z2, z3, z4, z5⟩ := ins_cells (i := ⟨3, 0, 0, 0, 0, none, 0, []⟩) (cells_of (t := 44) k2)
  have x0 := blk_free k2 0
  have x1 := blk_free k2 1
  have x2 := blk_free k2 2
  have x3 := blk_free k2 3
  have x4 := blk_free k2 4
  have x5 := blk_free k2 5
  obtain ⟨y0, y1, y2, y3, y4, y5⟩ := ins_cells (i := ⟨0, 0, 0, 0, 0, none, 0, []⟩) (cells_of (t := 44) k1)
  have u0 := blk_free k1 0
  have u1 := blk_free k1 1
  have u2 := blk_free k1 2
  have u3 := blk_free k1 3
  have u4 := blk_free k1 4
  have u5 := blk_free k1 5
  have hq := Lib.hid (hst.out.trans (hb.mono hst.out.size))
  replace k1 := Lib.hid k1
  clear hb k0 k2 g0 g1 g2
  go_wp2_with fail
  exact bodyPost_ret (v := .agg #[.int .u8 3, .int .i64 r, .int .i64 a, .int .i64 0, .int .i64 n, .slice none 0 0]) (results_cell_row Tryd.results88 _ _ (w.heap.size + 1) _ _ _ _ rfl (heap_set6 ((heap_oth (by omega)).trans ((heap_oth (by omega)).trans ((heap_oth (by omega)).trans k1.out))) _ _ _ _ _ _) Tryd.underlying44 rfl (by kernel_rfl)) rfl ⟨rfl, below_set6 (((hq.out.setCell (p := ⟨w.heap.size + 1 + 1, 1, none⟩) (by show w.heap.size ≤ w.heap.size + 1 + 1; omega) _).setCell (p := ⟨w.heap.size + 1 + 1, 2, none⟩) (by show w.heap.size ≤ w.heap.size + 1 + 1; omega) _).setCell (p := ⟨w.heap.size + 1 + 1, 4, none⟩) (by show w.heap.size ≤ w.heap.size + 1 + 1; omega) _) (by omega) _ _ _ _ _ _⟩
set_option maxHeartbeats 2000000 in
set_option maxRecDepth 100000 in
theorem kept_o4 (r a b n : Int) (aa : Option Addr) (acap : Nat) (args : List Int) (w : World) :
    Calls Tryd.prog 88 #[(⟨4, r, a, b, n, aa, acap, args⟩ : Ins).val] w fun e w' => e = .returned (.agg ⟨(keptP (⟨4, r, a, b, n, aa, acap, args⟩ : Ins)).vals⟩) ∧ Below w.heap.size w w' := by
  have hk : keptP (⟨4, r, a, b, n, aa, acap, args⟩ : Ins) = ⟨4, r, a, b, n, none, 0, []⟩ := rfl
  rw [hk]
  clear hk
  have hw := Lib.hid (fun V => rwrites_any (⟨4, r, a, b, n, aa, acap, args⟩ : Ins) V)
  obtain ⟨g0, g1, g2⟩ := ins3 w (.cells ⟨(⟨4, r, a, b, n, aa, acap, args⟩ : Ins).vals⟩ 44) (.cells #[.int .u8 0, .int .i64 0, .int .i64 0, .int .i64 0, .int .i64 0, .slice none 0 0] 44) (.cells #[.int .u8 4, .int .i64 0, .int .i64 0, .int .i64 0, .int .i64 0, .slice none 0 0] 44)
  have hst := Lib.hid (b_alloc3 w (.cells ⟨(⟨4, r, a, b, n, aa, acap, args⟩ : Ins).vals⟩ 44) (.cells #[.int .u8 0, .int .i64 0, .int .i64 0, .int .i64 0, .int .i64 0, .slice none 0 0] 44) (.cells #[.int .u8 4, .int .i64 0, .int .i64 0, .int .i64 0, .int .i64 0, .slice none 0 0] 44))
  replace g0 := Lib.hid g0
  replace g1 := Lib.hid g1
  replace g2 := Lib.hid g2
  go_enter Tryd.func88, Tryd.ntmps88
  go_wp2_with fail
  refine (hw.out _).mono ?_
  rintro e w1 ⟨rfl, hb⟩
  have hs1 : w.heap.size + 3 ≤ w1.heap.size := by have := hb.size; simp at this; omega
  have hl0 : w.heap.size < w1.heap.size := by omega
  have hl1 : w.heap.size + 1 < w1.heap.size := by omega
  have hl2 : w.heap.size + 1 + 1 < w1.heap.size := by omega
  have k0 : w1.heap[w.heap.size]? = _ := (hb.block _ (by first | (simp; done) | (simp; omega))).trans g0.out
  have k1 : w1.heap[w.heap.size + 1]? = _ := (hb.block _ (by first | (simp; done) | (simp; omega))).trans g1.out
  have k2 : w1.heap[w.heap.size + 1 + 1]? = _ := (hb.block _ (by first | (simp; done) | (simp; omega))).trans g2.out
  obtain ⟨q0, q1, q2, q3, q4, q5⟩ := ins_cells (i := (⟨4, r, a, b, n, aa, acap, args⟩ : Ins)) (cells_of (t := 44) k0)
  obtain ⟨z0, z1, z2, z3, z4, z5⟩ := ins_cells (i := ⟨4, 0, 0, 0, 0, none, 0, []⟩) (cells_of (t := 44) k2)
  have x0 := blk_free k2 0
  have x1 := blk_free k2 1
  have x2 := blk_free k2 2
  have x3 := blk_free k2 3
  have x4 := blk_free k2 4
  have x5 := blk_free k2 5
  obtain ⟨y0, y1, y2, y3, y4, y5⟩ := ins_cells (i := ⟨0, 0, 0, 0, 0, none, 0, []⟩) (cells_of (t := 44) k1)
  have u0 := blk_free k1 0
  have u1 := blk_free k1 1
  have u2 := blk_free k1 2
  have u3 := blk_free k1 3
  have u4 := blk_free k1 4
  have u5 := blk_free k1 5
  have hq := Lib.hid (hst.out.trans (hb.mono hst.out.size))
  replace k1 := Lib.hid k1
  clear hb k0 k2 g0 g1 g2
  go_wp2_with fail
  exact bodyPost_ret (v := .agg #[.int .u8 4, .int .i64 r, .int .i64 a, .int .i64 b, .int .i64 n, .slice none 0 0]) (results_cell_row Tryd.results88 _ _ (w.heap.size + 1) _ _ _ _ rfl (heap_set6 ((heap_oth (by omega)).trans ((heap_oth (by omega)).trans ((heap_oth (by omega)).trans ((heap_oth (by omega)).trans k1.out)))) _ _ _ _ _ _) Tryd.underlying44 rfl (by kernel_rfl)) rfl ⟨rfl, below_set6 ((((hq.out.setCell (p := ⟨w.heap.size + 1 + 1, 1, none⟩) (by show w.heap.size ≤ w.heap.size + 1 + 1; omega) _).setCell (p := ⟨w.heap.size + 1 + 1, 2, none⟩) (by show w.heap.size ≤ w.heap.size + 1 + 1; omega) _).setCell (p := ⟨w.heap.size + 1 + 1, 3, none⟩) (by show w.heap.size ≤ w.heap.size + 1 + 1; omega) _).setCell (p := ⟨w.heap.size + 1 + 1, 4, none⟩) (by show w.heap.size ≤ w.heap.size + 1 + 1; omega) _) (by omega) _ _ _ _ _ _⟩
set_option maxHeartbeats 2000000 in
set_option maxRecDepth 100000 in
theorem kept_o5 (r a b n : Int) (aa : Option Addr) (acap : Nat) (args : List Int) (w : World) :
    Calls Tryd.prog 88 #[(⟨5, r, a, b, n, aa, acap, args⟩ : Ins).val] w fun e w' => e = .returned (.agg ⟨(keptP (⟨5, r, a, b, n, aa, acap, args⟩ : Ins)).vals⟩) ∧ Below w.heap.size w w' := by
  have hk : keptP (⟨5, r, a, b, n, aa, acap, args⟩ : Ins) = ⟨5, r, a, 0, n, none, 0, []⟩ := rfl
  rw [hk]
  clear hk
  have hw := Lib.hid (fun V => rwrites_any (⟨5, r, a, b, n, aa, acap, args⟩ : Ins) V)
  obtain ⟨g0, g1, g2⟩ := ins3 w (.cells ⟨(⟨5, r, a, b, n, aa, acap, args⟩ : Ins).vals⟩ 44) (.cells #[.int .u8 0, .int .i64 0, .int .i64 0, .int .i64 0, .int .i64 0, .slice none 0 0] 44) (.cells #[.int .u8 5, .int .i64 0, .int .i64 0, .int .i64 0, .int .i64 0, .slice none 0 0] 44)
  have hst := Lib.hid (b_alloc3 w (.cells ⟨(⟨5, r, a, b, n, aa, acap, args⟩ : Ins).vals⟩ 44) (.cells #[.int .u8 0, .int .i64 0, .int .i64 0, .int .i64 0, .int .i64 0, .slice none 0 0] 44) (.cells #[.int .u8 5, .int .i64 0, .int .i64 0, .int .i64 0, .int .i64 0, .slice none 0 0] 44))
  replace g0 := Lib.hid g0
  replace g1 := Lib.hid g1
  replace g2 := Lib.hid g2
  go_enter Tryd.func88, Tryd.ntmps88
  go_wp2_with fail
  refine (hw.out _).mono ?_
  rintro e w1 ⟨rfl, hb⟩
  have hs1 : w.heap.size + 3 ≤ w1.heap.size := by have := hb.size; simp at this; omega
  have hl0 : w.heap.size < w1.heap.size := by omega
  have hl1 : w.heap.size + 1 < w1.heap.size := by omega
  have hl2 : w.heap.size + 1 + 1 < w1.heap.size := by omega
  have k0 : w1.heap[w.heap.size]? = _ := (hb.block _ (by first | (simp; done) | (simp; omega))).trans g0.out
  have k1 : w1.heap[w.heap.size + 1]? = _ := (hb.block _ (by first | (simp; done) | (simp; omega))).trans g1.out
  have k2 : w1.heap[w.heap.size + 1 + 1]? = _ := (hb.block _ (by first | (simp; done) | (simp; omega))).trans g2.out
  obtain ⟨q0, q1, q2, q3, q4, q5⟩ := ins_cells (i := (⟨5, r, a, b, n, aa, acap, args⟩ : Ins)) (cells_of (t := 44) k0)
  obtain ⟨z0, z1, z2, z3, z4, z5⟩ := ins_cells (i := ⟨5, 0, 0, 0, 0, none, 0, []⟩) (cells_of (t := 44) k2)
  have x0 := blk_free k2 0
  have x1 := blk_free k2 1
  have x2 := blk_free k2 2
  have x3 := blk_free k2 3
  have x4 := blk_free k2 4
  have x5 := blk_free k2 5
  obtain ⟨y0, y1, y2, y3, y4, y5⟩ := ins_cells (i := ⟨0, 0, 0, 0, 0, none, 0, []⟩) (cells_of (t := 44) k1)
  have u0 := blk_free k1 0
  have u1 := blk_free k1 1
  have u2 := blk_free k1 2
  have u3 := blk_free k1 3
  have u4 := blk_free k1 4
  have u5 := blk_free k1 5
  have hq := Lib.hid (hst.out.trans (hb.mono hst.out.size))
  replace k1 := Lib.hid k1
  clear hb k0 k2 g0 g1 g2
  go_wp2_with fail
  exact bodyPost_ret (v := .agg #[.int .u8 5, .int .i64 r, .int .i64 a, .int .i64 0, .int .i64 n, .slice none 0 0]) (results_cell_row Tryd.results88 _ _ (w.heap.size + 1) _ _ _ _ rfl (heap_set6 ((heap_oth (by omega)).trans ((heap_oth (by omega)).trans ((heap_oth (by omega)).trans k1.out))) _ _ _ _ _ _) Tryd.underlying44 rfl (by kernel_rfl)) rfl ⟨rfl, below_set6 (((hq.out.setCell (p := ⟨w.heap.size + 1 + 1, 1, none⟩) (by show w.heap.size ≤ w.heap.size + 1 + 1; omega) _).setCell (p := ⟨w.heap.size + 1 + 1, 2, none⟩) (by show w.heap.size ≤ w.heap.size + 1 + 1; omega) _).setCell (p := ⟨w.heap.size + 1 + 1, 4, none⟩) (by show w.heap.size ≤ w.heap.size + 1 + 1; omega) _) (by omega) _ _ _ _ _ _⟩
set_option maxHeartbeats 2000000 in
set_option maxRecDepth 100000 in
theorem kept_o6 (r a b n : Int) (aa : Option Addr) (acap : Nat) (args : List Int) (w : World) :
    Calls Tryd.prog 88 #[(⟨6, r, a, b, n, aa, acap, args⟩ : Ins).val] w fun e w' => e = .returned (.agg ⟨(keptP (⟨6, r, a, b, n, aa, acap, args⟩ : Ins)).vals⟩) ∧ Below w.heap.size w w' := by
  have hk : keptP (⟨6, r, a, b, n, aa, acap, args⟩ : Ins) = ⟨6, 0, a, b, n, none, 0, []⟩ := rfl
  rw [hk]
  clear hk
  have hw := Lib.hid (fun V => rwrites_any (⟨6, r, a, b, n, aa, acap, args⟩ : Ins) V)
  obtain ⟨g0, g1, g2⟩ := ins3 w (.cells ⟨(⟨6, r, a, b, n, aa, acap, args⟩ : Ins).vals⟩ 44) (.cells #[.int .u8 0, .int .i64 0, .int .i64 0, .int .i64 0, .int .i64 0, .slice none 0 0] 44) (.cells #[.int .u8 6, .int .i64 0, .int .i64 0, .int .i64 0, .int .i64 0, .slice none 0 0] 44)
  have hst := Lib.hid (b_alloc3 w (.cells ⟨(⟨6, r, a, b, n, aa, acap, args⟩ : Ins).vals⟩ 44) (.cells #[.int .u8 0, .int .i64 0, .int .i64 0, .int .i64 0, .int .i64 0, .slice none 0 0] 44) (.cells #[.int .u8 6, .int .i64 0, .int .i64 0, .int .i64 0, .int .i64 0, .slice none 0 0] 44))
  replace g0 := Lib.hid g0
  replace g1 := Lib.hid g1
  replace g2 := Lib.hid g2
  go_enter Tryd.func88, Tryd.ntmps88
  go_wp2_with fail
  refine (hw.out _).mono ?_
  rintro e w1 ⟨rfl, hb⟩
  have hs1 : w.heap.size + 3 ≤ w1.heap.size := by have := hb.size; simp at this; omega
  have hl0 : w.heap.size < w1.heap.size := by omega
  have hl1 : w.heap.size + 1 < w1.heap.size := by omega
  have hl2 : w.heap.size + 1 + 1 < w1.heap.size := by omega
  have k0 : w1.heap[w.heap.size]? = _ := (hb.block _ (by first | (simp; done) | (simp; omega))).trans g0.out
  have k1 : w1.heap[w.heap.size + 1]? = _ := (hb.block _ (by first | (simp; done) | (simp; omega))).trans g1.out
  have k2 : w1.heap[w.heap.size + 1 + 1]? = _ := (hb.block _ (by first | (simp; done) | (simp; omega))).trans g2.out
  obtain ⟨q0, q1, q2, q3, q4, q5⟩ := ins_cells (i := (⟨6, r, a, b, n, aa, acap, args⟩ : Ins)) (cells_of (t := 44) k0)
  obtain ⟨z0, z1, z2, z3, z4, z5⟩ := ins_cells (i := ⟨6, 0, 0, 0, 0, none, 0, []⟩) (cells_of (t := 44) k2)
  have x0 := blk_free k2 0
  have x1 := blk_free k2 1
  have x2 := blk_free k2 2
  have x3 := blk_free k2 3
  have x4 := blk_free k2 4
  have x5 := blk_free k2 5
  obtain ⟨y0, y1, y2, y3, y4, y5⟩ := ins_cells (i := ⟨0, 0, 0, 0, 0, none, 0, []⟩) (cells_of (t := 44) k1)
  have u0 := blk_free k1 0
  have u1 := blk_free k1 1
  have u2 := blk_free k1 2
  have u3 := blk_free k1 3
  have u4 := blk_free k1 4
  have u5 := blk_free k1 5
  have hq := Lib.hid (hst.out.trans (hb.mono hst.out.size))
  replace k1 := Lib.hid k1
  clear hb k0 k2 g0 g1 g2
  go_wp2_with fail
  exact bodyPost_ret (v := .agg #[.int .u8 6, .int .i64 0, .int .i64 a, .int .i64 b, .int .i64 n, .slice none 0 0]) (results_cell_row Tryd.results88 _ _ (w.heap.size + 1) _ _ _ _ rfl (heap_set6 ((heap_oth (by omega)).trans ((heap_oth (by omega)).trans ((heap_oth (by omega)).trans k1.out))) _ _ _ _ _ _) Tryd.underlying44 rfl (by kernel_rfl)) rfl ⟨rfl, below_set6 (((hq.out.setCell (p := ⟨w.heap.size + 1 + 1, 2, none⟩) (by show w.heap.size ≤ w.heap.size + 1 + 1; omega) _).setCell (p := ⟨w.heap.size + 1 + 1, 3, none⟩) (by show w.heap.size ≤ w.heap.size + 1 + 1; omega) _).setCell (p := ⟨w.heap.size + 1 + 1, 4, none⟩) (by show w.heap.size ≤ w.heap.size + 1 + 1; omega) _) (by omega) _ _ _ _ _ _⟩
set_option maxHeartbeats 2000000 in
set_option maxRecDepth 100000 in
theorem kept_o7 (r a b n : Int) (aa : Option Addr) (acap : Nat) (args : List Int) (w : World) :
    Calls Tryd.prog 88 #[(⟨7, r, a, b, n, aa, acap, args⟩ : Ins).val] w fun e w' => e = .returned (.agg ⟨(keptP (⟨7, r, a, b, n, aa, acap, args⟩ : Ins)).vals⟩) ∧ Below w.heap.size w w' := by
  have hk : keptP (⟨7, r, a, b, n, aa, acap, args⟩ : Ins) = ⟨7, 0, 0, 0, n, none, 0, []⟩ := rfl
  rw [hk]
  clear hk
  have hw := Lib.hid (fun V => rwrites_any (⟨7, r, a, b, n, aa, acap, args⟩ : Ins) V)
  obtain ⟨g0, g1, g2⟩ := ins3 w (.cells ⟨(⟨7, r, a, b, n, aa, acap, args⟩ : Ins).vals⟩ 44) (.cells #[.int .u8 0, .int .i64 0, .int .i64 0, .int .i64 0, .int .i64 0, .slice none 0 0] 44) (.cells #[.int .u8 7, .int .i64 0, .int .i64 0, .int .i64 0, .int .i64 0, .slice none 0 0] 44)
  have hst := Lib.hid (b_alloc3 w (.cells ⟨(⟨7, r, a, b, n, aa, acap, args⟩ : Ins).vals⟩ 44) (.cells #[.int .u8 0, .int .i64 0, .int .i64 0, .int .i64 0, .int .i64 0, .slice none 0 0] 44) (.cells #[.int .u8 7, .int .i64 0, .int .i64 0, .int .i64 0, .int .i64 0, .slice none 0 0] 44))
  replace g0 := Lib.hid g0
  replace g1 := Lib.hid g1
  replace g2 := Lib.hid g2
  go_enter Tryd.func88, Tryd.ntmps88
  go_wp2_with fail
  refine (hw.out _).mono ?_
  rintro e w1 ⟨rfl, hb⟩
  have hs1 : w.heap.size + 3 ≤ w1.heap.size := by have := hb.size; simp at this; omega
  have hl0 : w.heap.size < w1.heap.size := by omega
  have hl1 : w.heap.size + 1 < w1.heap.size := by omega
  have hl2 : w.heap.size + 1 + 1 < w1.heap.size := by omega
  have k0 : w1.heap[w.heap.size]? = _ := (hb.block _ (by first | (simp; done) | (simp; omega))).trans g0.out
  have k1 : w1.heap[w.heap.size + 1]? = _ := (hb.block _ (by first | (simp; done) | (simp; omega))).trans g1.out
  have k2 : w1.heap[w.heap.size + 1 + 1]? = _ := (hb.block _ (by first | (simp; done) | (simp; omega))).trans g2.out
  obtain ⟨q0, q1, q2, q3, q4, q5⟩ := ins_cells (i := (⟨7, r, a, b, n, aa, acap, args⟩ : Ins)) (cells_of (t := 44) k0)
  obtain ⟨z0, z1, z2, z3, z4, z5⟩ := ins_cells (i := ⟨7, 0, 0, 0, 0, none, 0, []⟩) (cells_of (t := 44) k2)
  have x0 := blk_free k2 0
  have x1 := blk_free k2 1
  have x2 := blk_free k2 2
  have x3 := blk_free k2 3
  have x4 := blk_free k2 4
  have x5 := blk_free k2 5
  obtain ⟨y0, y1, y2, y3, y4, y5⟩ := ins_cells (i := ⟨0, 0, 0, 0, 0, none, 0, []⟩) (cells_of (t := 44) k1)
  have u0 := blk_free k1 0
  have u1 := blk_free k1 1
  have u2 := blk_free k1 2
  have u3 := blk_free k1 3
  have u4 := blk_free k1 4
  have u5 := blk_free k1 5
  have hq := Lib.hid (hst.out.trans (hb.mono hst.out.size))
  replace k1 := Lib.hid k1
  clear hb k0 k2 g0 g1 g2
  go_wp2_with fail
  exact bodyPost_ret (v := .agg #[.int .u8 7, .int .i64 0, .int .i64 0, .int .i64 0, .int .i64 n, .slice none 0 0]) (results_cell_row Tryd.results88 _ _ (w.heap.size + 1) _ _ _ _ rfl (heap_set6 ((heap_oth (by omega)).trans k1.out) _ _ _ _ _ _) Tryd.underlying44 rfl (by kernel_rfl)) rfl ⟨rfl, below_set6 (hq.out.setCell (p := ⟨w.heap.size + 1 + 1, 4, none⟩) (by show w.heap.size ≤ w.heap.size + 1 + 1; omega) _) (by omega) _ _ _ _ _ _⟩
set_option maxHeartbeats 2000000 in
set_option maxRecDepth 100000 in
theorem kept_o8 (r a b n : Int) (aa : Option Addr) (acap : Nat) (args : List Int) (w : World) :
    Calls Tryd.prog 88 #[(⟨8, r, a, b, n, aa, acap, args⟩ : Ins).val] w fun e w' => e = .returned (.agg ⟨(keptP (⟨8, r, a, b, n, aa, acap, args⟩ : Ins)).vals⟩) ∧ Below w.heap.size w w' := by
  have hk : keptP (⟨8, r, a, b, n, aa, acap, args⟩ : Ins) = ⟨8, 0, 0, 0, n, none, 0, []⟩ := rfl
  rw [hk]
  clear hk
  have hw := Lib.hid (fun V => rwrites_any (⟨8, r, a, b, n, aa, acap, args⟩ : Ins) V)
  obtain ⟨g0, g1, g2⟩ := ins3 w (.cells ⟨(⟨8, r, a, b, n, aa, acap, args⟩ : Ins).vals⟩ 44) (.cells #[.int .u8 0, .int .i64 0, .int .i64 0, .int .i64 0, .int .i64 0, .slice none 0 0] 44) (.cells #[.int .u8 8, .int .i64 0, .int .i64 0, .int .i64 0, .int .i64 0, .slice none 0 0] 44)
  have hst := Lib.hid (b_alloc3 w (.cells ⟨(⟨8, r, a, b, n, aa, acap, args⟩ : Ins).vals⟩ 44) (.cells #[.int .u8 0, .int .i64 0, .int .i64 0, .int .i64 0, .int .i64 0, .slice none 0 0] 44) (.cells #[.int .u8 8, .int .i64 0, .int .i64 0, .int .i64 0, .int .i64 0, .slice none 0 0] 44))
  replace g0 := Lib.hid g0
  replace g1 := Lib.hid g1
  replace g2 := Lib.hid g2
  go_enter Tryd.func88, Tryd.ntmps88
  go_wp2_with fail
  refine (hw.out _).mono ?_
  rintro e w1 ⟨rfl, hb⟩
  have hs1 : w.heap.size + 3 ≤ w1.heap.size := by have := hb.size; simp at this; omega
  have hl0 : w.heap.size < w1.heap.size := by omega
  have hl1 : w.heap.size + 1 < w1.heap.size := by omega
  have hl2 : w.heap.size + 1 + 1 < w1.heap.size := by omega
  have k0 : w1.heap[w.heap.size]? = _ := (hb.block _ (by first | (simp; done) | (simp; omega))).trans g0.out
  have k1 : w1.heap[w.heap.size + 1]? = _ := (hb.block _ (by first | (simp; done) | (simp; omega))).trans g1.out
  have k2 : w1.heap[w.heap.size + 1 + 1]? = _ := (hb.block _ (by first | (simp; done) | (simp; omega))).trans g2.out
  obtain ⟨q0, q1, q2, q3, q4, q5⟩ := ins_cells (i := (⟨8, r, a, b, n, aa, acap, args⟩ : Ins)) (cells_of (t := 44) k0)
  obtain ⟨z0, z1, z2, z3, z4, z5⟩ := ins_cells (i := ⟨8, 0, 0, 0, 0, none, 0, []⟩) (cells_of (t := 44) k2)
  have x0 := blk_free k2 0
  have x1 := blk_free k2 1
  have x2 := blk_free k2 2
  have x3 := blk_free k2 3
  have x4 := blk_free k2 4
  have x5 := blk_free k2 5
  obtain ⟨y0, y1, y2, y3, y4, y5⟩ := ins_cells (i := ⟨0, 0, 0, 0, 0, none, 0, []⟩) (cells_of (t := 44) k1)
  have u0 := blk_free k1 0
  have u1 := blk_free k1 1
  have u2 := blk_free k1 2
  have u3 := blk_free k1 3
  have u4 := blk_free k1 4
  have u5 := blk_free k1 5
  have hq := Lib.hid (hst.out.trans (hb.mono hst.out.size))
  replace k1 := Lib.hid k1
  clear hb k0 k2 g0 g1 g2
  go_wp2_with fail
  exact bodyPost_ret (v := .agg #[.int .u8 8, .int .i64 0, .int .i64 0, .int .i64 0, .int .i64 n, .slice none 0 0]) (results_cell_row Tryd.results88 _ _ (w.heap.size + 1) _ _ _ _ rfl (heap_set6 ((heap_oth (by omega)).trans k1.out) _ _ _ _ _ _) Tryd.underlying44 rfl (by kernel_rfl)) rfl ⟨rfl, below_set6 (hq.out.setCell (p := ⟨w.heap.size + 1 + 1, 4, none⟩) (by show w.heap.size ≤ w.heap.size + 1 + 1; omega) _) (by omega) _ _ _ _ _ _⟩
set_option maxHeartbeats 2000000 in
set_option maxRecDepth 100000 in
theorem kept_o9 (r a b n : Int) (aa : Option Addr) (acap : Nat) (args : List Int) (w : World) :
    Calls Tryd.prog 88 #[(⟨9, r, a, b, n, aa, acap, args⟩ : Ins).val] w fun e w' => e = .returned (.agg ⟨(keptP (⟨9, r, a, b, n, aa, acap, args⟩ : Ins)).vals⟩) ∧ Below w.heap.size w w' := by
  have hk : keptP (⟨9, r, a, b, n, aa, acap, args⟩ : Ins) = ⟨9, 0, a, 0, 0, none, 0, []⟩ := rfl
  rw [hk]
  clear hk
  have hw := Lib.hid (fun V => rwrites_any (⟨9, r, a, b, n, aa, acap, args⟩ : Ins) V)
  obtain ⟨g0, g1, g2⟩ := ins3 w (.cells ⟨(⟨9, r, a, b, n, aa, acap, args⟩ : Ins).vals⟩ 44) (.cells #[.int .u8 0, .int .i64 0, .int .i64 0, .int .i64 0, .int .i64 0, .slice none 0 0] 44) (.cells #[.int .u8 9, .int .i64 0, .int .i64 0, .int .i64 0, .int .i64 0, .slice none 0 0] 44)
  have hst := Lib.hid (b_alloc3 w (.cells ⟨(⟨9, r, a, b, n, aa, acap, args⟩ : Ins).vals⟩ 44) (.cells #[.int .u8 0, .int .i64 0, .int .i64 0, .int .i64 0, .int .i64 0, .slice none 0 0] 44) (.cells #[.int .u8 9, .int .i64 0, .int .i64 0, .int .i64 0, .int .i64 0, .slice none 0 0] 44))
  replace g0 := Lib.hid g0
  replace g1 := Lib.hid g1
  replace g2 := Lib.hid g2
  go_enter Tryd.func88, Tryd.ntmps88
  go_wp2_with fail
  refine (hw.out _).mono ?_
  rintro e w1 ⟨rfl, hb⟩
  have hs1 : w.heap.size + 3 ≤ w1.heap.size := by have := hb.size; simp at this; omega
  have hl0 : w.heap.size < w1.heap.size := by omega
  have hl1 : w.heap.size + 1 < w1.heap.size := by omega
  have hl2 : w.heap.size + 1 + 1 < w1.heap.size := by omega
  have k0 : w1.heap[w.heap.size]? = _ := (hb.block _ (by first | (simp; done) | (simp; omega))).trans g0.out
  have k1 : w1.heap[w.heap.size + 1]? = _ := (hb.block _ (by first | (simp; done) | (simp; omega))).trans g1.out
  have k2 : w1.heap[w.heap.size + 1 + 1]? = _ := (hb.block _ (by first | (simp; done) | (simp; omega))).trans g2.out
  obtain ⟨q0, q1, q2, q3, q4, q5⟩ := ins_cells (i := (⟨9, r, a, b, n, aa, acap, args⟩ : Ins)) (cells_of (t := 44) k0)
  obtain ⟨z0, z1, z2, z3, z4, z5⟩ := ins_cells (i := ⟨9, 0, 0, 0, 0, none, 0, []⟩) (cells_of (t := 44) k2)
  have x0 := blk_free k2 0
  have x1 := blk_free k2 1
  have x2 := blk_free k2 2
  have x3 := blk_free k2 3
  have x4 := blk_free k2 4
  have x5 := blk_free k2 5
  obtain ⟨y0, y1, y2, y3, y4, y5⟩ := ins_cells (i := ⟨0, 0, 0, 0, 0, none, 0, []⟩) (cells_of (t := 44) k1)
  have u0 := blk_free k1 0
  have u1 := blk_free k1 1
  have u2 := blk_free k1 2
  have u3 := blk_free k1 3
  have u4 := blk_free k1 4
  have u5 := blk_free k1 5
  have hq := Lib.hid (hst.out.trans (hb.mono hst.out.size))
  replace k1 := Lib.hid k1
  clear hb k0 k2 g0 g1 g2
  go_wp2_with fail
  exact bodyPost_ret (v := .agg #[.int .u8 9, .int .i64 0, .int .i64 a, .int .i64 0, .int .i64 0, .slice none 0 0]) (results_cell_row Tryd.results88 _ _ (w.heap.size + 1) _ _ _ _ rfl (heap_set6 ((heap_oth (by omega)).trans k1.out) _ _ _ _ _ _) Tryd.underlying44 rfl (by kernel_rfl)) rfl ⟨rfl, below_set6 (hq.out.setCell (p := ⟨w.heap.size + 1 + 1, 2, none⟩) (by show w.heap.size ≤ w.heap.size + 1 + 1; omega) _) (by omega) _ _ _ _ _ _⟩
set_option maxHeartbeats 2000000 in
set_option maxRecDepth 100000 in
theorem kept_o10 (r a b n : Int) (aa : Option Addr) (acap : Nat) (args : List Int) (w : World) :
    Calls Tryd.prog 88 #[(⟨10, r, a, b, n, aa, acap, args⟩ : Ins).val] w fun e w' => e = .returned (.agg ⟨(keptP (⟨10, r, a, b, n, aa, acap, args⟩ : Ins)).vals⟩) ∧ Below w.heap.size w w' := by
  have hk : keptP (⟨10, r, a, b, n, aa, acap, args⟩ : Ins) = ⟨10, r, 0, 0, n, aa, acap, args⟩ := rfl
  rw [hk]
  clear hk
  have hw := Lib.hid (fun V => rwrites_any (⟨10, r, a, b, n, aa, acap, args⟩ : Ins) V)
  obtain ⟨g0, g1, g2⟩ := ins3 w (.cells ⟨(⟨10, r, a, b, n, aa, acap, args⟩ : Ins).vals⟩ 44) (.cells #[.int .u8 0, .int .i64 0, .int .i64 0, .int .i64 0, .int .i64 0, .slice none 0 0] 44) (.cells #[.int .u8 10, .int .i64 0, .int .i64 0, .int .i64 0, .int .i64 0, .slice none 0 0] 44)
  have hst := Lib.hid (b_alloc3 w (.cells ⟨(⟨10, r, a, b, n, aa, acap, args⟩ : Ins).vals⟩ 44) (.cells #[.int .u8 0, .int .i64 0, .int .i64 0, .int .i64 0, .int .i64 0, .slice none 0 0] 44) (.cells #[.int .u8 10, .int .i64 0, .int .i64 0, .int .i64 0, .int .i64 0, .slice none 0 0] 44))
  replace g0 := Lib.hid g0
  replace g1 := Lib.hid g1
  replace g2 := Lib.hid g2
  go_enter Tryd.func88, Tryd.ntmps88
  go_wp2_with fail
  refine (hw.out _).mono ?_
  rintro e w1 ⟨rfl, hb⟩
  have hs1 : w.heap.size + 3 ≤ w1.heap.size := by have := hb.size; simp at this; omega
  have hl0 : w.heap.size < w1.heap.size := by omega
  have hl1 : w.heap.size + 1 < w1.heap.size := by omega
  have hl2 : w.heap.size + 1 + 1 < w1.heap.size := by omega
  have k0 : w1.heap[w.heap.size]? = _ := (hb.block _ (by first | (simp; done) | (simp; omega))).trans g0.out
  have k1 : w1.heap[w.heap.size + 1]? = _ := (hb.block _ (by first | (simp; done) | (simp; omega))).trans g1.out
  have k2 : w1.heap[w.heap.size + 1 + 1]? = _ := (hb.block _ (by first | (simp; done) | (simp; omega))).trans g2.out
  obtain ⟨q0, q1, q2, q3, q4, q5⟩ := ins_cells (i := (⟨10, r, a, b, n, aa, acap, args⟩ : Ins)) (cells_of (t := 44) k0)
  obtain ⟨z0, z1, z2, z3, z4, z5⟩ := ins_cells (i := ⟨10, 0, 0, 0, 0, none, 0, []⟩) (cells_of (t := 44) k2)
  have x0 := blk_free k2 0
  have x1 := blk_free k2 1
  have x2 := blk_free k2 2
  have x3 := blk_free k2 3
  have x4 := blk_free k2 4
  have x5 := blk_free k2 5
  obtain ⟨y0, y1, y2, y3, y4, y5⟩ := ins_cells (i := ⟨0, 0, 0, 0, 0, none, 0, []⟩) (cells_of (t := 44) k1)
  have u0 := blk_free k1 0
  have u1 := blk_free k1 1
  have u2 := blk_free k1 2
  have u3 := blk_free k1 3
  have u4 := blk_free k1 4
  have u5 := blk_free k1 5
  have hq := Lib.hid (hst.out.trans (hb.mono hst.out.size))
  replace k1 := Lib.hid k1
  clear hb k0 k2 g0 g1 g2
  go_wp2_with fail
  exact bodyPost_ret (v := .agg #[.int .u8 10, .int .i64 r, .int .i64 0, .int .i64 0, .int .i64 n, .slice aa args.length acap]) (results_cell_row Tryd.results88 _ _ (w.heap.size + 1) _ _ _ _ rfl (heap_set6 ((heap_oth (by omega)).trans ((heap_oth (by omega)).trans ((heap_oth (by omega)).trans k1.out))) _ _ _ _ _ _) Tryd.underlying44 rfl (by kernel_rfl)) rfl ⟨rfl, below_set6 (((hq.out.setCell (p := ⟨w.heap.size + 1 + 1, 1, none⟩) (by show w.heap.size ≤ w.heap.size + 1 + 1; omega) _).setCell (p := ⟨w.heap.size + 1 + 1, 4, none⟩) (by show w.heap.size ≤ w.heap.size + 1 + 1; omega) _).setCell (p := ⟨w.heap.size + 1 + 1, 5, none⟩) (by show w.heap.size ≤ w.heap.size + 1 + 1; omega) _) (by omega) _ _ _ _ _ _⟩
set_option maxHeartbeats 2000000 in
set_option maxRecDepth 100000 in
theorem kept_o11 (r a b n : Int) (aa : Option Addr) (acap : Nat) (args : List Int) (w : World) :
    Calls Tryd.prog 88 #[(⟨11, r, a, b, n, aa, acap, args⟩ : Ins).val] w fun e w' => e = .returned (.agg ⟨(keptP (⟨11, r, a, b, n, aa, acap, args⟩ : Ins)).vals⟩) ∧ Below w.heap.size w w' := by
  have hk : keptP (⟨11, r, a, b, n, aa, acap, args⟩ : Ins) = ⟨11, 0, 0, 0, n, none, 0, []⟩ := rfl
  rw [hk]
  clear hk
  have hw := Lib.hid (fun V => rwrites_any (⟨11, r, a, b, n, aa, acap, args⟩ : Ins) V)
  obtain ⟨g0, g1, g2⟩ := ins3 w (.cells ⟨(⟨11, r, a, b, n, aa, acap, args⟩ : Ins).vals⟩ 44) (.cells #[.int .u8 0, .int .i64 0, .int .i64 0, .int .i64 0, .int .i64 0, .slice none 0 0] 44) (.cells #[.int .u8 11, .int .i64 0, .int .i64 0, .int .i64 0, .int .i64 0, .slice none 0 0] 44)
  have hst := Lib.hid (b_alloc3 w (.cells ⟨(⟨11, r, a, b, n, aa, acap, args⟩ : Ins).vals⟩ 44) (.cells #[.int .u8 0, .int .i64 0, .int .i64 0, .int .i64 0, .int .i64 0, .slice none 0 0] 44) (.cells #[.int .u8 11, .int .i64 0, .int .i64 0, .int .i64 0, .int .i64 0, .slice none 0 0] 44))
  replace g0 := Lib.hid g0
  replace g1 := Lib.hid g1
  replace g2 := Lib.hid g2
  go_enter Tryd.func88, Tryd.ntmps88
  go_wp2_with fail
  refine (hw.out _).mono ?_
  rintro e w1 ⟨rfl, hb⟩
  have hs1 : w.heap.size + 3 ≤ w1.heap.size := by have := hb.size; simp at this; omega
  have hl0 : w.heap.size < w1.heap.size := by omega
  have hl1 : w.heap.size + 1 < w1.heap.size := by omega
  have hl2 : w.heap.size + 1 + 1 < w1.heap.size := by omega
  have k0 : w1.heap[w.heap.size]? = _ := (hb.block _ (by first | (simp; done) | (simp; omega))).trans g0.out
  have k1 : w1.heap[w.heap.size + 1]? = _ := (hb.block _ (by first | (simp; done) | (simp; omega))).trans g1.out
  have k2 : w1.heap[w.heap.size + 1 + 1]? = _ := (hb.block _ (by first | (simp; done) | (simp; omega))).trans g2.out
  obtain ⟨q0, q1, q2, q3, q4, q5⟩ := ins_cells (i := (⟨11, r, a, b, n, aa, acap, args⟩ : Ins)) (cells_of (t := 44) k0)
  obtain ⟨z0, z1, z2, z3, z4, z5⟩ := ins_cells (i := ⟨11, 0, 0, 0, 0, none, 0, []⟩) (cells_of (t := 44) k2)
  have x0 := blk_free k2 0
  have x1 := blk_free k2 1
  have x2 := blk_free k2 2
  have x3 := blk_free k2 3
  have x4 := blk_free k2 4
  have x5 := blk_free k2 5
  obtain ⟨y0, y1, y2, y3, y4, y5⟩ := ins_cells (i := ⟨0, 0, 0, 0, 0, none, 0, []⟩) (cells_of (t := 44) k1)
  have u0 := blk_free k1 0
  have u1 := blk_free k1 1
  have u2 := blk_free k1 2
  have u3 := blk_free k1 3
  have u4 := blk_free k1 4
  have u5 := blk_free k1 5
  have hq := Lib.hid (hst.out.trans (hb.mono hst.out.size))
  replace k1 := Lib.hid k1
  clear hb k0 k2 g0 g1 g2
  go_wp2_with fail
  exact bodyPost_ret (v := .agg #[.int .u8 11, .int .i64 0, .int .i64 0, .int .i64 0, .int .i64 n, .slice none 0 0]) (results_cell_row Tryd.results88 _ _ (w.heap.size + 1) _ _ _ _ rfl (heap_set6 ((heap_oth (by omega)).trans k1.out) _ _ _ _ _ _) Tryd.underlying44 rfl (by kernel_rfl)) rfl ⟨rfl, below_set6 (hq.out.setCell (p := ⟨w.heap.size + 1 + 1, 4, none⟩) (by show w.heap.size ≤ w.heap.size + 1 + 1; omega) _) (by omega) _ _ _ _ _ _⟩
set_option maxHeartbeats 2000000 in
set_option maxRecDepth 100000 in
theorem kept_o12 (r a b n : Int) (aa : Option Addr) (acap : Nat) (args : List Int) (w : World) :
    Calls Tryd.prog 88 #[(⟨12, r, a, b, n, aa, acap, args⟩ : Ins).val] w fun e w' => e = .returned (.agg ⟨(keptP (⟨12, r, a, b, n, aa, acap, args⟩ : Ins)).vals⟩) ∧ Below w.heap.size w w' := by
  have hk : keptP (⟨12, r, a, b, n, aa, acap, args⟩ : Ins) = ⟨12, 0, a, 0, n, none, 0, []⟩ := rfl
  rw [hk]
  clear hk
  have hw := Lib.hid (fun V => rwrites_any (⟨12, r, a, b, n, aa, acap, args⟩ : Ins) V)
  obtain ⟨g0, g1, g2⟩ := ins3 w (.cells ⟨(⟨12, r, a, b, n, aa, acap, args⟩ : Ins).vals⟩ 44) (.cells #[.int .u8 0, .int .i64 0, .int .i64 0, .int .i64 0, .int .i64 0, .slice none 0 0] 44) (.cells #[.int .u8 12, .int .i64 0, .int .i64 0, .int .i64 0, .int .i64 0, .slice none 0 0] 44)
  have hst := Lib.hid (b_alloc3 w (.cells ⟨(⟨12, r, a, b, n, aa, acap, args⟩ : Ins).vals⟩ 44) (.cells #[.int .u8 0, .int .i64 0, .int .i64 0, .int .i64 0, .int .i64 0, .slice none 0 0] 44) (.cells #[.int .u8 12, .int .i64 0, .int .i64 0, .int .i64 0, .int .i64 0, .slice none 0 0] 44))
  replace g0 := Lib.hid g0
  replace g1 := Lib.hid g1
  replace g2 := Lib.hid g2
  go_enter Tryd.func88, Tryd.ntmps88
  go_wp2_with fail
  refine (hw.out _).mono ?_
  rintro e w1 ⟨rfl, hb⟩
  have hs1 : w.heap.size + 3 ≤ w1.heap.size := by have := hb.size; simp at this; omega
  have hl0 : w.heap.size < w1.heap.size := by omega
  have hl1 : w.heap.size + 1 < w1.heap.size := by omega
  have hl2 : w.heap.size + 1 + 1 < w1.heap.size := by omega
  have k0 : w1.heap[w.heap.size]? = _ := (hb.block _ (by first | (simp; done) | (simp; omega))).trans g0.out
  have k1 : w1.heap[w.heap.size + 1]? = _ := (hb.block _ (by first | (simp; done) | (simp; omega))).trans g1.out
  have k2 : w1.heap[w.heap.size + 1 + 1]? = _ := (hb.block _ (by first | (simp; done) | (simp; omega))).trans g2.out
  obtain ⟨q0, q1, q2, q3, q4, q5⟩ := ins_cells (i := (⟨12, r, a, b, n, aa, acap, args⟩ : Ins)) (cells_of (t := 44) k0)
  obtain ⟨z0, z1, z2, z3, z4, z5⟩ := ins_cells (i := ⟨12, 0, 0, 0, 0, none, 0, []⟩) (cells_of (t := 44) k2)
  have x0 := blk_free k2 0
  have x1 := blk_free k2 1
  have x2 := blk_free k2 2
  have x3 := blk_free k2 3
  have x4 := blk_free k2 4
  have x5 := blk_free k2 5
  obtain ⟨y0, y1, y2, y3, y4, y5⟩ := ins_cells (i := ⟨0, 0, 0, 0, 0, none, 0, []⟩) (cells_of (t := 44) k1)
  have u0 := blk_free k1 0
  have u1 := blk_free k1 1
  have u2 := blk_free k1 2
  have u3 := blk_free k1 3
  have u4 := blk_free k1 4
  have u5 := blk_free k1 5
  have hq := Lib.hid (hst.out.trans (hb.mono hst.out.size))
  replace k1 := Lib.hid k1
  clear hb k0 k2 g0 g1 g2
  go_wp2_with fail
  exact bodyPost_ret (v := .agg #[.int .u8 12, .int .i64 0, .int .i64 a, .int .i64 0, .int .i64 n, .slice none 0 0]) (results_cell_row Tryd.results88 _ _ (w.heap.size + 1) _ _ _ _ rfl (heap_set6 ((heap_oth (by omega)).trans ((heap_oth (by omega)).trans k1.out)) _ _ _ _ _ _) Tryd.underlying44 rfl (by kernel_rfl)) rfl ⟨rfl, below_set6 ((hq.out.setCell (p := ⟨w.heap.size + 1 + 1, 2, none⟩) (by show w.heap.size ≤ w.heap.size + 1 + 1; omega) _).setCell (p := ⟨w.heap.size + 1 + 1, 4, none⟩) (by show w.heap.size ≤ w.heap.size + 1 + 1; omega) _) (by omega) _ _ _ _ _ _⟩
set_option maxHeartbeats 2000000 in
set_option maxRecDepth 100000 in
theorem kept_o13 (r a b n : Int) (aa : Option Addr) (acap : Nat) (args : List Int) (w : World) :
    Calls Tryd.prog 88 #[(⟨13, r, a, b, n, aa, acap, args⟩ : Ins).val] w fun e w' => e = .returned (.agg ⟨(keptP (⟨13, r, a, b, n, aa, acap, args⟩ : Ins)).vals⟩) ∧ Below w.heap.size w w' := by
  have hk : keptP (⟨13, r, a, b, n, aa, acap, args⟩ : Ins) = ⟨13, 0, a, 0, 0, none, 0, []⟩ := rfl
  rw [hk]
  clear hk
  have hw := Lib.hid (fun V => rwrites_any (⟨13, r, a, b, n, aa, acap, args⟩ : Ins) V)
  obtain ⟨g0, g1, g2⟩ := ins3 w (.cells ⟨(⟨13, r, a, b, n, aa, acap, args⟩ : Ins).vals⟩ 44) (.cells #[.int .u8 0, .int .i64 0, .int .i64 0, .int .i64 0, .int .i64 0, .slice none 0 0] 44) (.cells #[.int .u8 13, .int .i64 0, .int .i64 0, .int .i64 0, .int .i64 0, .slice none 0 0] 44)
  have hst := Lib.hid (b_alloc3 w (.cells ⟨(⟨13, r, a, b, n, aa, acap, args⟩ : Ins).vals⟩ 44) (.cells #[.int .u8 0, .int .i64 0, .int .i64 0, .int .i64 0, .int .i64 0, .slice none 0 0] 44) (.cells #[.int .u8 13, .int .i64 0, .int .i64 0, .int .i64 0, .int .i64 0, .slice none 0 0] 44))
  replace g0 := Lib.hid g0
  replace g1 := Lib.hid g1
  replace g2 := Lib.hid g2
  go_enter Tryd.func88, Tryd.ntmps88
  go_wp2_with fail
  refine (hw.out _).mono ?_
  rintro e w1 ⟨rfl, hb⟩
  have hs1 : w.heap.size + 3 ≤ w1.heap.size := by have := hb.size; simp at this; omega
  have hl0 : w.heap.size < w1.heap.size := by omega
  have hl1 : w.heap.size + 1 < w1.heap.size := by omega
  have hl2 : w.heap.size + 1 + 1 < w1.heap.size := by omega
  have k0 : w1.heap[w.heap.size]? = _ := (hb.block _ (by first | (simp; done) | (simp; omega))).trans g0.out
  have k1 : w1.heap[w.heap.size + 1]? = _ := (hb.block _ (by first | (simp; done) | (simp; omega))).trans g1.out
  have k2 : w1.heap[w.heap.size + 1 + 1]? = _ := (hb.block _ (by first | (simp; done) | (simp; omega))).trans g2.out
  obtain ⟨q0, q1, q2, q3, q4, q5⟩ := ins_cells (i := (⟨13, r, a, b, n, aa, acap, args⟩ : Ins)) (cells_of (t := 44) k0)
  obtain ⟨z0, z1, z2, z3, z4, z5⟩ := ins_cells (i := ⟨13, 0, 0, 0, 0, none, 0, []⟩) (cells_of (t := 44) k2)
  have x0 := blk_free k2 0
  have x1 := blk_free k2 1
  have x2 := blk_free k2 2
  have x3 := blk_free k2 3
  have x4 := blk_free k2 4
  have x5 := blk_free k2 5
  obtain ⟨y0, y1, y2, y3, y4, y5⟩ := ins_cells (i := ⟨0, 0, 0, 0, 0, none, 0, []⟩) (cells_of (t := 44) k1)
  have u0 := blk_free k1 0
  have u1 := blk_free k1 1
  have u2 := blk_free k1 2
  have u3 := blk_free k1 3
  have u4 := blk_free k1 4
  have u5 := blk_free k1 5
  have hq := Lib.hid (hst.out.trans (hb.mono hst.out.size))
  replace k1 := Lib.hid k1
  clear hb k0 k2 g0 g1 g2
  go_wp2_with fail
  exact bodyPost_ret (v := .agg #[.int .u8 13, .int .i64 0, .int .i64 a, .int .i64 0, .int .i64 0, .slice none 0 0]) (results_cell_row Tryd.results88 _ _ (w.heap.size + 1) _ _ _ _ rfl (heap_set6 ((heap_oth (by omega)).trans k1.out) _ _ _ _ _ _) Tryd.underlying44 rfl (by kernel_rfl)) rfl ⟨rfl, below_set6 (hq.out.setCell (p := ⟨w.heap.size + 1 + 1, 2, none⟩) (by show w.heap.size ≤ w.heap.size + 1 + 1; omega) _) (by omega) _ _ _ _ _ _⟩
theorem kept_any (i : Ins) (w : World) (h : knownP i.op = true) :
    Calls Tryd.prog 88 #[i.val] w fun e w' => e = .returned (.agg ⟨(keptP i).vals⟩) ∧ Below w.heap.size w w' := by
  obtain ⟨op, r, a, b, n, aa, acap, args⟩ := i
  simp only [knownP, Bool.and_eq_true, decide_eq_true_eq] at h
  have h' : op = 1 ∨ op = 2 ∨ op = 3 ∨ op = 4 ∨ op = 5 ∨ op = 6 ∨ op = 7 ∨ op = 8 ∨ op = 9 ∨ op = 10 ∨ op = 11 ∨ op = 12 ∨ op = 13 := by omega
  rcases h' with rfl | rfl | rfl | rfl | rfl | rfl | rfl | rfl | rfl | rfl | rfl | rfl | rfl
  · exact kept_o1 r a b n aa acap args w
  · exact kept_o2 r a b n aa acap args w
  · exact kept_o3 r a b n aa acap args w
  · exact kept_o4 r a b n aa acap args w
  · exact kept_o5 r a b n aa acap args w
  · exact kept_o6 r a b n aa acap args w
  · exact kept_o7 r a b n aa acap args w
  · exact kept_o8 r a b n aa acap args w
  · exact kept_o9 r a b n aa acap args w
  · exact kept_o10 r a b n aa acap args w
  · exact kept_o11 r a b n aa acap args w
  · exact kept_o12 r a b n aa acap args w
  · exact kept_o13 r a b n aa acap args w
end Go.Proofs.YtckmgefailclcaaDoor.Cd
