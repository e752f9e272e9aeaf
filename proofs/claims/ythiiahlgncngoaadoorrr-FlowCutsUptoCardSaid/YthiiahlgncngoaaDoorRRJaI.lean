/- A block's cells, one by one. Conditions: none. -/
import Derived.Test.YthiiahlgncngoaaDoorRRJaH
import Derived.Laws.OwnMore
set_option maxHeartbeats 16000000
set_option maxRecDepth 100000
namespace Go.Proofs.YthiiahlgncngoaaDoorRR.Cd
open Go Go.RowKit
theorem Qk {W : World} {b : Nat} {vs : Array Value} {t : TypeId} {fr : Nat × Nat} (h : W.heap[b]? = some (.cells vs t fr)) {j : Nat} {u : Value} (hu : vs[j]? = some u) : W.cell? ⟨b, j, none⟩ = some u := by
 simp only [World.cell?, h]
 simpa using hu
theorem Qd {W : World} {b : Nat} {vs : Array Value} {t : TypeId} (h : W.heap[b]? = some (.cells vs t (0, 0))) (j : Nat) : W.frozen? ⟨b, j, none⟩ = false := by
 simp [World.frozen?, h]
end Go.Proofs.YthiiahlgncngoaaDoorRR.Cd
namespace Go.Proofs.YthiiahlgncngoaaDoorRR.Cd
open Go Go.RowKit
open Go.Proofs.YthiiahlgncngoaaDoorRR.Lx Go.Proofs.YthiiahlgncngoaaDoorRR.Tr
theorem Xe {P : Program} (w : World) {ops : Array Oper} {rest : List Oper} {o : Oper} {a : Act} {Q : Exit → Act → World → Prop} (hgd : o.guard = none) (s x : Operand) (t : TypeId)
 (ho : o.op = .call { callee := .builtin .append, args := #[s, x], argTypes := #[t, t] })
 (base : Nat) (e : TypeId) (i : TypeInfo) (z : Value) (bytes : Nat) (ht : P.underlying t = some (.slice e)) (hi : P.info? e = some i) (hz : i.zero = some z) (hsize : i.size = 1) (hby : i.bytes = bytes) (hzs : z.cells.size = 1)
 (v : Value) (n : Nat) (xs : List Value) (hs : a.eval s = v) (hown : w.ownsRow base e 1 v n xs) (base2 : Nat) (xv : Value) (m : Nat) (news : List Value) (hx : a.eval x = xv) (hownx : w.ownsRow base2 e 1 xv m news) (h1 : ∀ u ∈ news, u.oneCell' = true)
 (h63 : n + m ≤ maxLen) (hbytes : (n + m) * bytes ≤ 140737488355328) (hbase : base ≤ w.heap.size)
 (h : ∀ v' w', w'.ownsRow base e 1 v' (n + m) (xs ++ news) → w.grownBy w' v.ownBlock → (v'.ownBlock = v.ownBlock ∨ v'.ownBlock = some w.heap.size) → wpList P ops Q rest (a.put o.dst v') w') :
 wpList P ops Q (o :: rest) a w := by
 have hlen := hownx.1
 rcases hownx.2 with ⟨rfl, rfl⟩ | ⟨g, cap, cur, rfl, _, hg, _, _, _, htk⟩
 · have hn : news = [] := List.eq_nil_of_length_eq_zero (by simpa using hlen)
   subst hn
   refine wpList_plain hgd fun K' hK' => ?_
   have hr := run_append_owned_none (P := P) (w := w) base t o.type e i 1 ht hi v n xs hown
   unfold Oper.wp
   simp [execOp, ho, resolve, invoke, builtin, hs, hx, hr, Result.andThen]
   exact hK' _ _ (h v w (by simpa using hown) ⟨rfl, rfl, rfl, Nat.le_refl _, fun _ _ _ => rfl⟩ (.inl rfl))
 · refine wpList_append_own_at w hgd s x t ho base e i z 1 bytes ht hi hz hsize hby hzs (by decide) v n xs hs hown ⟨g, 0, none⟩ m cap news hx (by simpa using hlen) (fun j u hu => ?_) h1 h63 hbytes hbase (fun v' w' r1 r2 _ r3 => h v' w' r1 r2 r3)
   rw [Go.WideShapes.add_plain, Nat.zero_add]
   have hj : j < m := by have := (List.getElem?_eq_some_iff.1 hu).1; rw [hlen] at this; simpa using this
   rw [← htk, List.getElem?_take, if_pos (by simpa using hj)] at hu
   simp only [World.cell?, hg]
   simpa using hu
theorem Q9 (W : World) (g j : Nat) (u : Value) : W.grownBy (W.setCell ⟨g, j, none⟩ u) (some g) :=
 ⟨rfl, rfl, rfl, by simp, fun k _ hk => by
  have hk' : k ≠ g := fun e => hk (by rw [e])
  simp [World.setCell, Array.getElem?_modify, Ne.symm hk']⟩
theorem num_one (l : List Int) : ∀ u ∈ Qc l, u.oneCell' = true := fun u hu => by
 obtain ⟨x, _, rfl⟩ := List.mem_map.1 hu
 rfl
theorem Xm {W : World} {bx : Nat} {p : Pg} (h : ∀ j u, p.vals[j]? = some u → W.cell? ⟨bx, j, none⟩ = some u) : W.cell? ⟨bx, 0, none⟩ = some (.slice p.ma p.mems.length p.mcap) ∧ W.cell? ⟨bx, 1, none⟩ = some (.slice p.la p.locks.length p.lcap) ∧ W.cell? ⟨bx, 2, none⟩ = some (.slice p.fa p.funs.length p.fcap) := ⟨h _ _ rfl, h _ _ rfl, h _ _ rfl⟩
/-- two boxes: a program and an instruction -/
structure Bx2 (w W : World) (p : Pg) (i : Ins) : Prop where
 pc : ∀ j u, p.vals[j]? = some u → W.cell? ⟨w.heap.size, j, none⟩ = some u
 ic : ∀ j u, i.vals[j]? = some u → W.cell? ⟨w.heap.size + 1, j, none⟩ = some u
theorem Xy (W : World) (vs : List Value) (t : TypeId) (B : Nat) (hB : W.heap.size = B) : ∀ j u, vs[j]? = some u → (W.alloc (.cells ⟨vs⟩ t)).cell? ((⟨B, 0, none⟩ : Addr).add j) = some u := fun j u hu => by
 subst hB
 rw [Go.WideShapes.add_plain, Nat.zero_add]
 exact Zk W vs t j u hu
theorem rreads_o2 (r a b n : Int) (aa : Option Addr) (acap : Nat) (args : List Int) (w : World) :
 Calls Tryd.prog 76 #[(⟨2, r, a, b, n, aa, acap, args⟩ : Ins).val] w fun e w' => ∃ v, e = .returned v ∧ w'.ownsRow w.heap.size 3 1 v (rdP ⟨2, r, a, b, n, aa, acap, args⟩).length (Qc (rdP ⟨2, r, a, b, n, aa, acap, args⟩)) ∧ Below w.heap.size w w' := by
 have hrd : rdP ⟨2, r, a, b, n, aa, acap, args⟩ = [a] := by simp [rdP, rdA, rdB, rdC, hasA, hasB, hasF, numK]
 rw [hrd]
 clear hrd
 obtain ⟨i0, hi0, hz0, hz1, hz2⟩ := Xn
 go_enter Tryd.func76, Tryd.ntmps76
 go_wp2_with (at_builtin; refine wpList_append_own_at _ rfl _ _ 40 rfl w.heap.size 3 i0 _ 1 8 Tryd.underlying40 hi0 hz0 hz1 hz2 rfl (by decide) _ _ _ rfl (World.ownsRow_nil _ _ _ _) _ 1 1 [.int .i64 a] rfl rfl (Xy _ _ _ _ (by first | rfl | simp)) (by simp [Value.oneCell']) (by unfold maxLen; decide) (by decide) (by first | (simp; done) | (simp; omega)) ?_)
 intro v1 w1 hown1 hg1 _ hat1
 have hq1 := Lh (((Qh w (.cells ⟨(⟨2, r, a, b, n, aa, acap, args⟩ : Ins).vals⟩ 44)).alloc (by simp) _).grown hg1 (by first | (simp; done) | (simp; omega)) (fun k e => by cases e) : Below w.heap.size w w1)
 replace hown1 := Lh hown1
 clear hg1 hat1
 go_wp2_with fail
 go_ret
 exact ⟨_, rfl, by simpa [Qc] using hown1.out, hq1.out⟩
theorem rreads_o3 (r a b n : Int) (aa : Option Addr) (acap : Nat) (args : List Int) (w : World) :
 Calls Tryd.prog 76 #[(⟨3, r, a, b, n, aa, acap, args⟩ : Ins).val] w fun e w' => ∃ v, e = .returned v ∧ w'.ownsRow w.heap.size 3 1 v (rdP ⟨3, r, a, b, n, aa, acap, args⟩).length (Qc (rdP ⟨3, r, a, b, n, aa, acap, args⟩)) ∧ Below w.heap.size w w' := by
 have hrd : rdP ⟨3, r, a, b, n, aa, acap, args⟩ = [a] := by simp [rdP, rdA, rdB, rdC, hasA, hasB, hasF, numK]
 rw [hrd]
 clear hrd
 obtain ⟨i0, hi0, hz0, hz1, hz2⟩ := Xn
 go_enter Tryd.func76, Tryd.ntmps76
 go_wp2_with (at_builtin; refine wpList_append_own_at _ rfl _ _ 40 rfl w.heap.size 3 i0 _ 1 8 Tryd.underlying40 hi0 hz0 hz1 hz2 rfl (by decide) _ _ _ rfl (World.ownsRow_nil _ _ _ _) _ 1 1 [.int .i64 a] rfl rfl (Xy _ _ _ _ (by first | rfl | simp)) (by simp [Value.oneCell']) (by unfold maxLen; decide) (by decide) (by first | (simp; done) | (simp; omega)) ?_)
 intro v1 w1 hown1 hg1 _ hat1
 have hq1 := Lh (((Qh w (.cells ⟨(⟨3, r, a, b, n, aa, acap, args⟩ : Ins).vals⟩ 44)).alloc (by simp) _).grown hg1 (by first | (simp; done) | (simp; omega)) (fun k e => by cases e) : Below w.heap.size w w1)
 replace hown1 := Lh hown1
 clear hg1 hat1
 go_wp2_with fail
 go_ret
 exact ⟨_, rfl, by simpa [Qc] using hown1.out, hq1.out⟩
theorem rreads_o9 (r a b n : Int) (aa : Option Addr) (acap : Nat) (args : List Int) (w : World) :
 Calls Tryd.prog 76 #[(⟨9, r, a, b, n, aa, acap, args⟩ : Ins).val] w fun e w' => ∃ v, e = .returned v ∧ w'.ownsRow w.heap.size 3 1 v (rdP ⟨9, r, a, b, n, aa, acap, args⟩).length (Qc (rdP ⟨9, r, a, b, n, aa, acap, args⟩)) ∧ Below w.heap.size w w' := by
 have hrd : rdP ⟨9, r, a, b, n, aa, acap, args⟩ = [a] := by simp [rdP, rdA, rdB, rdC, hasA, hasB, hasF, numK]
 rw [hrd]
 clear hrd
 obtain ⟨i0, hi0, hz0, hz1, hz2⟩ := Xn
 go_enter Tryd.func76, Tryd.ntmps76
 go_wp2_with (at_builtin; refine wpList_append_own_at _ rfl _ _ 40 rfl w.heap.size 3 i0 _ 1 8 Tryd.underlying40 hi0 hz0 hz1 hz2 rfl (by decide) _ _ _ rfl (World.ownsRow_nil _ _ _ _) _ 1 1 [.int .i64 a] rfl rfl (Xy _ _ _ _ (by first | rfl | simp)) (by simp [Value.oneCell']) (by unfold maxLen; decide) (by decide) (by first | (simp; done) | (simp; omega)) ?_)
 intro v1 w1 hown1 hg1 _ hat1
 have hq1 := Lh (((Qh w (.cells ⟨(⟨9, r, a, b, n, aa, acap, args⟩ : Ins).vals⟩ 44)).alloc (by simp) _).grown hg1 (by first | (simp; done) | (simp; omega)) (fun k e => by cases e) : Below w.heap.size w w1)
 replace hown1 := Lh hown1
 clear hg1 hat1
 go_wp2_with fail
 go_ret
 exact ⟨_, rfl, by simpa [Qc] using hown1.out, hq1.out⟩
theorem rreads_o12 (r a b n : Int) (aa : Option Addr) (acap : Nat) (args : List Int) (w : World) :
 Calls Tryd.prog 76 #[(⟨12, r, a, b, n, aa, acap, args⟩ : Ins).val] w fun e w' => ∃ v, e = .returned v ∧ w'.ownsRow w.heap.size 3 1 v (rdP ⟨12, r, a, b, n, aa, acap, args⟩).length (Qc (rdP ⟨12, r, a, b, n, aa, acap, args⟩)) ∧ Below w.heap.size w w' := by
 have hrd : rdP ⟨12, r, a, b, n, aa, acap, args⟩ = [a] := by simp [rdP, rdA, rdB, rdC, hasA, hasB, hasF, numK]
 rw [hrd]
 clear hrd
 obtain ⟨i0, hi0, hz0, hz1, hz2⟩ := Xn
 go_enter Tryd.func76, Tryd.ntmps76
 go_wp2_with (at_builtin; refine wpList_append_own_at _ rfl _ _ 40 rfl w.heap.size 3 i0 _ 1 8 Tryd.underlying40 hi0 hz0 hz1 hz2 rfl (by decide) _ _ _ rfl (World.ownsRow_nil _ _ _ _) _ 1 1 [.int .i64 a] rfl rfl (Xy _ _ _ _ (by first | rfl | simp)) (by simp [Value.oneCell']) (by unfold maxLen; decide) (by decide) (by first | (simp; done) | (simp; omega)) ?_)
 intro v1 w1 hown1 hg1 _ hat1
 have hq1 := Lh (((Qh w (.cells ⟨(⟨12, r, a, b, n, aa, acap, args⟩ : Ins).vals⟩ 44)).alloc (by simp) _).grown hg1 (by first | (simp; done) | (simp; omega)) (fun k e => by cases e) : Below w.heap.size w w1)
 replace hown1 := Lh hown1
 clear hg1 hat1
 go_wp2_with fail
 go_ret
 exact ⟨_, rfl, by simpa [Qc] using hown1.out, hq1.out⟩
theorem rreads_o13 (r a b n : Int) (aa : Option Addr) (acap : Nat) (args : List Int) (w : World) :
 Calls Tryd.prog 76 #[(⟨13, r, a, b, n, aa, acap, args⟩ : Ins).val] w fun e w' => ∃ v, e = .returned v ∧ w'.ownsRow w.heap.size 3 1 v (rdP ⟨13, r, a, b, n, aa, acap, args⟩).length (Qc (rdP ⟨13, r, a, b, n, aa, acap, args⟩)) ∧ Below w.heap.size w w' := by
 have hrd : rdP ⟨13, r, a, b, n, aa, acap, args⟩ = [a] := by simp [rdP, rdA, rdB, rdC, hasA, hasB, hasF, numK]
 rw [hrd]
 clear hrd
 obtain ⟨i0, hi0, hz0, hz1, hz2⟩ := Xn
 go_enter Tryd.func76, Tryd.ntmps76
 go_wp2_with (at_builtin; refine wpList_append_own_at _ rfl _ _ 40 rfl w.heap.size 3 i0 _ 1 8 Tryd.underlying40 hi0 hz0 hz1 hz2 rfl (by decide) _ _ _ rfl (World.ownsRow_nil _ _ _ _) _ 1 1 [.int .i64 a] rfl rfl (Xy _ _ _ _ (by first | rfl | simp)) (by simp [Value.oneCell']) (by unfold maxLen; decide) (by decide) (by first | (simp; done) | (simp; omega)) ?_)
 intro v1 w1 hown1 hg1 _ hat1
 have hq1 := Lh (((Qh w (.cells ⟨(⟨13, r, a, b, n, aa, acap, args⟩ : Ins).vals⟩ 44)).alloc (by simp) _).grown hg1 (by first | (simp; done) | (simp; omega)) (fun k e => by cases e) : Below w.heap.size w w1)
 replace hown1 := Lh hown1
 clear hg1 hat1
 go_wp2_with fail
 go_ret
 exact ⟨_, rfl, by simpa [Qc] using hown1.out, hq1.out⟩
theorem rreads_o4 (r a b n : Int) (aa : Option Addr) (acap : Nat) (args : List Int) (w : World) :
 Calls Tryd.prog 76 #[(⟨4, r, a, b, n, aa, acap, args⟩ : Ins).val] w fun e w' => ∃ v, e = .returned v ∧ w'.ownsRow w.heap.size 3 1 v (rdP ⟨4, r, a, b, n, aa, acap, args⟩).length (Qc (rdP ⟨4, r, a, b, n, aa, acap, args⟩)) ∧ Below w.heap.size w w' := by
 have hrd : rdP ⟨4, r, a, b, n, aa, acap, args⟩ = [a, b] := by simp [rdP, rdA, rdB, rdC, hasA, hasB, hasF, numK]
 rw [hrd]
 clear hrd
 obtain ⟨i0, hi0, hz0, hz1, hz2⟩ := Xn
 go_enter Tryd.func76, Tryd.ntmps76
 go_wp2_with (at_builtin; refine wpList_append_own_at _ rfl _ _ 40 rfl w.heap.size 3 i0 _ 1 8 Tryd.underlying40 hi0 hz0 hz1 hz2 rfl (by decide) _ _ _ rfl (World.ownsRow_nil _ _ _ _) _ 2 2 [.int .i64 a, .int .i64 b] rfl rfl (Xy _ _ _ _ (by first | rfl | simp)) (by simp [Value.oneCell']) (by unfold maxLen; decide) (by decide) (by first | (simp; done) | (simp; omega)) ?_)
 intro v1 w1 hown1 hg1 _ hat1
 have hq1 := Lh (((Qh w (.cells ⟨(⟨4, r, a, b, n, aa, acap, args⟩ : Ins).vals⟩ 44)).alloc (by simp) _).grown hg1 (by first | (simp; done) | (simp; omega)) (fun k e => by cases e) : Below w.heap.size w w1)
 replace hown1 := Lh hown1
 clear hg1 hat1
 go_wp2_with fail
 go_ret
 exact ⟨_, rfl, by simpa [Qc] using hown1.out, hq1.out⟩
theorem rreads_o5y (r a b n : Int) (aa : Option Addr) (acap : Nat) (args : List Int) (w : World) (ha : ¬ a = -1) :
 Calls Tryd.prog 76 #[(⟨5, r, a, b, n, aa, acap, args⟩ : Ins).val] w fun e w' => ∃ v, e = .returned v ∧ w'.ownsRow w.heap.size 3 1 v (rdP ⟨5, r, a, b, n, aa, acap, args⟩).length (Qc (rdP ⟨5, r, a, b, n, aa, acap, args⟩)) ∧ Below w.heap.size w w' := by
 have hrd : rdP ⟨5, r, a, b, n, aa, acap, args⟩ = [a] := by simp [rdP, rdA, rdB, rdC, hasA, hasB, hasF, numK, ha]
 rw [hrd]
 clear hrd
 obtain ⟨i0, hi0, hz0, hz1, hz2⟩ := Xn
 have hae : (a != -1) = true := by simpa using ha
 go_enter Tryd.func76, Tryd.ntmps76
 go_wp2_with (at_builtin; refine wpList_append_own_at _ rfl _ _ 40 rfl w.heap.size 3 i0 _ 1 8 Tryd.underlying40 hi0 hz0 hz1 hz2 rfl (by decide) _ _ _ rfl (World.ownsRow_nil _ _ _ _) _ 1 1 [.int .i64 a] rfl rfl (Xy _ _ _ _ (by first | rfl | simp)) (by simp [Value.oneCell']) (by unfold maxLen; decide) (by decide) (by first | (simp; done) | (simp; omega)) ?_)
 intro v1 w1 hown1 hg1 _ hat1
 have hq1 := Lh (((Qh w (.cells ⟨(⟨5, r, a, b, n, aa, acap, args⟩ : Ins).vals⟩ 44)).alloc (by simp) _).grown hg1 (by first | (simp; done) | (simp; omega)) (fun k e => by cases e) : Below w.heap.size w w1)
 replace hown1 := Lh hown1
 clear hg1 hat1
 go_wp2_with fail
 go_ret
 exact ⟨_, rfl, by simpa [Qc] using hown1.out, hq1.out⟩
theorem rreads_o6y (r a b n : Int) (aa : Option Addr) (acap : Nat) (args : List Int) (w : World) (ha : ¬ a = -1) :
 Calls Tryd.prog 76 #[(⟨6, r, a, b, n, aa, acap, args⟩ : Ins).val] w fun e w' => ∃ v, e = .returned v ∧ w'.ownsRow w.heap.size 3 1 v (rdP ⟨6, r, a, b, n, aa, acap, args⟩).length (Qc (rdP ⟨6, r, a, b, n, aa, acap, args⟩)) ∧ Below w.heap.size w w' := by
 have hrd : rdP ⟨6, r, a, b, n, aa, acap, args⟩ = [a, b] := by simp [rdP, rdA, rdB, rdC, hasA, hasB, hasF, numK, ha]
 rw [hrd]
 clear hrd
 obtain ⟨i0, hi0, hz0, hz1, hz2⟩ := Xn
 have hae : (a != -1) = true := by simpa using ha
 go_enter Tryd.func76, Tryd.ntmps76
 go_wp2_with (at_builtin; refine wpList_append_own_at _ rfl _ _ 40 rfl w.heap.size 3 i0 _ 1 8 Tryd.underlying40 hi0 hz0 hz1 hz2 rfl (by decide) _ _ _ rfl (World.ownsRow_nil _ _ _ _) _ 1 1 [.int .i64 a] rfl rfl (Xy _ _ _ _ (by first | rfl | simp)) (by simp [Value.oneCell']) (by unfold maxLen; decide) (by decide) (by first | (simp; done) | (simp; omega)) ?_)
 intro v1 w1 hown1 hg1 _ hat1
 have hq1 := Lh (((Qh w (.cells ⟨(⟨6, r, a, b, n, aa, acap, args⟩ : Ins).vals⟩ 44)).alloc (by simp) _).grown hg1 (by first | (simp; done) | (simp; omega)) (fun k e => by cases e) : Below w.heap.size w w1)
 replace hown1 := Lh hown1
 obtain ⟨cb0, cb1, cb2, cb3, cb4, cb5⟩ := Qm (W := w1) (bx := w.heap.size) (i := (⟨6, r, a, b, n, aa, acap, args⟩ : Ins)) (fun j u hj => by
  have h1 := Zk w (⟨6, r, a, b, n, aa, acap, args⟩ : Ins).vals 44 j u hj
  have h2 := Qe (Qh _ (.cells ⟨[.int .i64 a]⟩ 3)) h1
  exact (World.cell?_of_block (hg1.block w.heap.size (by simp; try omega) (fun e => by cases e))).trans h2)
 clear hg1 hat1
 have hsq := hq1.out.size
 go_wp2_with (at_builtin; refine wpList_append_own_at _ rfl _ _ 40 rfl w.heap.size 3 i0 _ 1 8 Tryd.underlying40 hi0 hz0 hz1 hz2 rfl (by decide) _ _ _ rfl (Qn hown1.out (Qh _ _)) _ 1 1 [.int .i64 b] rfl rfl (Xy _ _ _ _ (by first | rfl | simp)) (by simp [Value.oneCell']) (by unfold maxLen; decide) (by decide) (by first | (simp; done) | (simp; omega)) ?_)
 intro v2 w2 hown2 hg2 _ hat2
 have hq2 := Lh (((hq1.out).alloc (by have := hq1.out.size; omega) _).grown hg2 (by have := hq1.out.size; simp; omega) (fun k e => (hown1.out.lt k e).1) : Below w.heap.size w w2)
 replace hown2 := Lh hown2
 clear hg2 hat2
 go_wp2_with fail
 go_ret
 exact ⟨_, rfl, by simpa [Qc] using hown2.out, hq2.out⟩
theorem rreads_o5n (r b n : Int) (aa : Option Addr) (acap : Nat) (args : List Int) (w : World) :
 Calls Tryd.prog 76 #[(⟨5, r, (-1), b, n, aa, acap, args⟩ : Ins).val] w fun e w' => ∃ v, e = .returned v ∧ w'.ownsRow w.heap.size 3 1 v (rdP ⟨5, r, (-1), b, n, aa, acap, args⟩).length (Qc (rdP ⟨5, r, (-1), b, n, aa, acap, args⟩)) ∧ Below w.heap.size w w' := by
 have hrd : rdP ⟨5, r, (-1), b, n, aa, acap, args⟩ = [] := by simp [rdP, rdA, rdB, rdC, hasA, hasB, hasF, numK]
 rw [hrd]
 clear hrd
 obtain ⟨i0, hi0, hz0, hz1, hz2⟩ := Xn
 go_enter Tryd.func76, Tryd.ntmps76
 go_wp2_with fail
 go_ret
 exact ⟨_, rfl, World.ownsRow_nil _ _ _ _, Qh _ _⟩
theorem rreads_o6n (r b n : Int) (aa : Option Addr) (acap : Nat) (args : List Int) (w : World) :
 Calls Tryd.prog 76 #[(⟨6, r, (-1), b, n, aa, acap, args⟩ : Ins).val] w fun e w' => ∃ v, e = .returned v ∧ w'.ownsRow w.heap.size 3 1 v (rdP ⟨6, r, (-1), b, n, aa, acap, args⟩).length (Qc (rdP ⟨6, r, (-1), b, n, aa, acap, args⟩)) ∧ Below w.heap.size w w' := by
 have hrd : rdP ⟨6, r, (-1), b, n, aa, acap, args⟩ = [b] := by simp [rdP, rdA, rdB, rdC, hasA, hasB, hasF, numK]
 rw [hrd]
 clear hrd
 obtain ⟨i0, hi0, hz0, hz1, hz2⟩ := Xn
 go_enter Tryd.func76, Tryd.ntmps76
 go_wp2_with (at_builtin; refine wpList_append_own_at _ rfl _ _ 40 rfl w.heap.size 3 i0 _ 1 8 Tryd.underlying40 hi0 hz0 hz1 hz2 rfl (by decide) _ _ _ rfl (World.ownsRow_nil _ _ _ _) _ 1 1 [.int .i64 b] rfl rfl (Xy _ _ _ _ (by first | rfl | simp)) (by simp [Value.oneCell']) (by unfold maxLen; decide) (by decide) (by first | (simp; done) | (simp; omega)) ?_)
 intro v1 w1 hown1 hg1 _ hat1
 have hq1 := Lh (((Qh w (.cells ⟨(⟨6, r, (-1), b, n, aa, acap, args⟩ : Ins).vals⟩ 44)).alloc (by simp) _).grown hg1 (by first | (simp; done) | (simp; omega)) (fun k e => by cases e) : Below w.heap.size w w1)
 replace hown1 := Lh hown1
 clear hg1 hat1
 go_wp2_with fail
 go_ret
 exact ⟨_, rfl, by simpa [Qc] using hown1.out, hq1.out⟩
theorem rreads_oc (r a b n : Int) (aa : Option Addr) (acap : Nat) (args : List Int) (w : World) (hrow : RowAt w (fun _ => True) aa acap args.length (Qc args)) (hl : args.length ≤ 17592186044416) :
 Calls Tryd.prog 76 #[(⟨10, r, a, b, n, aa, acap, args⟩ : Ins).val] w fun e w' => ∃ v, e = .returned v ∧ w'.ownsRow w.heap.size 3 1 v (rdP ⟨10, r, a, b, n, aa, acap, args⟩).length (Qc (rdP ⟨10, r, a, b, n, aa, acap, args⟩)) ∧ Below w.heap.size w w' := by
 have hrd : rdP ⟨10, r, a, b, n, aa, acap, args⟩ = args := by simp [rdP, rdA, rdB, rdC, hasA, hasB, hasF, numK]
 rw [hrd]
 clear hrd
 obtain ⟨i0, hi0, hz0, hz1, hz2⟩ := Xn
 have hrow1 := hrow.below (Kps.of_below (Qh w (.cells ⟨(⟨10, r, a, b, n, aa, acap, args⟩ : Ins).vals⟩ 44)))
 obtain ⟨hc1, hc2⟩ := Q2 hrow
 clear hrow
 cases aa with
 | none =>
   have hz : acap = 0 := hrow1.nil rfl
   have hz2 : args = [] := List.eq_nil_of_length_eq_zero (by omega)
   subst hz hz2
   have hap := run_append_owned_none (P := Tryd.prog) (w := w.alloc (.cells ⟨(⟨10, r, a, b, n, none, 0, []⟩ : Ins).vals⟩ 44)) w.heap.size 40 40 3 i0 1 Tryd.underlying40 hi0 (.slice none 0 0) 0 [] (World.ownsRow_nil _ _ _ _)
   clear hrow1 hi0
   go_enter Tryd.func76, Tryd.ntmps76
   go_wp2_with fail
   go_ret
   exact ⟨_, rfl, World.ownsRow_nil _ _ _ _, Qh _ _⟩
 | some ad =>
   have hnews : ∀ j u, (Qc args)[j]? = some u → (w.alloc (.cells ⟨(⟨10, r, a, b, n, some ad, acap, args⟩ : Ins).vals⟩ 44)).cell? (ad.add j) = some u := fun j u hj => by
    obtain ⟨b', off, ha, _, hc⟩ := hrow1.at_ j u hj
    cases ha
    rw [Go.WideShapes.add_plain]; exact hc
   replace hnews := Lh hnews
   clear hrow1
   go_enter Tryd.func76, Tryd.ntmps76
   go_wp2_with (at_builtin; refine wpList_append_own_at _ rfl _ _ 40 rfl w.heap.size 3 i0 _ 1 8 Tryd.underlying40 hi0 hz0 hz1 hz2 rfl (by decide) _ _ _ rfl (World.ownsRow_nil _ _ _ _) ad args.length acap (Qc args) rfl (by simp [Qc]) hnews.out (num_one args) (by unfold maxLen; omega) (by omega) (by first | (simp; done) | (simp; omega)) ?_)
   intro v1 w1 hown1 hg1 _ hat1
   have hq1 := Lh ((Qh w (.cells ⟨(⟨10, r, a, b, n, some ad, acap, args⟩ : Ins).vals⟩ 44)).grown hg1 (by first | (simp; done) | (simp; omega)) (fun k e => by cases e) : Below w.heap.size w w1)
   replace hown1 := Lh hown1
   clear hg1 hat1
   go_wp2_with fail
   go_ret
   exact ⟨_, rfl, by simpa [Qc] using hown1.out, hq1.out⟩
theorem rreads_none (op r a b n : Int) (aa : Option Addr) (acap : Nat) (args : List Int) (w : World) (h : ¬ op = 2 ∧ ¬ op = 3 ∧ ¬ op = 9 ∧ ¬ op = 12 ∧ ¬ op = 13 ∧ ¬ op = 4 ∧ ¬ op = 5 ∧ ¬ op = 6 ∧ ¬ op = 10) :
 Calls Tryd.prog 76 #[(⟨op, r, a, b, n, aa, acap, args⟩ : Ins).val] w fun e w' => ∃ v, e = .returned v ∧ w'.ownsRow w.heap.size 3 1 v (rdP ⟨op, r, a, b, n, aa, acap, args⟩).length (Qc (rdP ⟨op, r, a, b, n, aa, acap, args⟩)) ∧ Below w.heap.size w w' := by
 obtain ⟨h2, h3, h9, h12, h13, h4, h5, h6, h10⟩ := h
 have hn6 : ¬ numK op = 6 := by unfold numK; repeat' split
                                all_goals first | omega | simp
 have hrd : rdP ⟨op, r, a, b, n, aa, acap, args⟩ = [] := by simp [rdP, rdA, rdB, rdC, hasA, hasB, h2, h3, h9, h12, h13, h4, h5, h6, hn6]
 rw [hrd]
 clear hrd hn6
 have e2 := ne_b h2; have e3 := ne_b h3; have e9 := ne_b h9; have e12 := ne_b h12; have e13 := ne_b h13; have e4 := ne_b h4; have e5 := ne_b h5; have e6 := ne_b h6; have e10 := ne_b h10
 clear h2 h3 h9 h12 h13 h4 h5 h6 h10
 go_enter Tryd.func76, Tryd.ntmps76
 go_wp2_with fail
 go_ret
 exact ⟨_, rfl, World.ownsRow_nil _ _ _ _, Qh _ _⟩
theorem Z6 (i : Ins) (w : World) (hrow : RowAt w (fun _ => True) i.aa i.acap i.args.length (Qc i.args)) (hl : i.args.length ≤ 17592186044416) :
 Calls Tryd.prog 76 #[i.val] w fun e w' => ∃ v, e = .returned v ∧ w'.ownsRow w.heap.size 3 1 v (rdP i).length (Qc (rdP i)) ∧ Below w.heap.size w w' := by
 obtain ⟨op, r, a, b, n, aa, acap, args⟩ := i
 by_cases h : ¬ op = 2 ∧ ¬ op = 3 ∧ ¬ op = 9 ∧ ¬ op = 12 ∧ ¬ op = 13 ∧ ¬ op = 4 ∧ ¬ op = 5 ∧ ¬ op = 6 ∧ ¬ op = 10
 · exact rreads_none op r a b n aa acap args w h
 · have h' : op = 2 ∨ op = 3 ∨ op = 9 ∨ op = 12 ∨ op = 13 ∨ op = 4 ∨ op = 5 ∨ op = 6 ∨ op = 10 := by omega
   rcases h' with rfl | rfl | rfl | rfl | rfl | rfl | rfl | rfl | rfl
   · exact rreads_o2 r a b n aa acap args w
   · exact rreads_o3 r a b n aa acap args w
   · exact rreads_o9 r a b n aa acap args w
   · exact rreads_o12 r a b n aa acap args w
   · exact rreads_o13 r a b n aa acap args w
   · exact rreads_o4 r a b n aa acap args w
   · by_cases ha : a = -1
     · subst ha; exact rreads_o5n r b n aa acap args w
     · exact rreads_o5y r a b n aa acap args w ha
   · by_cases ha : a = -1
     · subst ha; exact rreads_o6n r b n aa acap args w
     · exact rreads_o6y r a b n aa acap args w ha
   · exact rreads_oc r a b n aa acap args w hrow hl
theorem Qv (n m : Int) (w : World) : Calls Tryd.prog 78 #[.int .i64 n, .int .i64 m] w fun e w' => e = .returned (.bool (inP n m)) ∧ Below w.heap.size w w' := by
 by_cases h1 : 0 ≤ n
 · by_cases h2 : n < m
   · go_enter Tryd.func78, Tryd.ntmps78
     go_wp2_with fail
     go_ret
     exact ⟨Qi (by simp [inP, h1, h2]), Below.refl _ _⟩
   · go_enter Tryd.func78, Tryd.ntmps78
     go_wp2_with fail
     go_ret
     exact ⟨Qi (by simp [inP, h2]), Below.refl _ _⟩
 · go_enter Tryd.func78, Tryd.ntmps78
   go_wp2_with fail
   go_ret
   exact ⟨Qi (by rw [inP, decide_eq_false (by omega : ¬ 0 ≤ n)]; rfl), Below.refl _ _⟩
theorem rwrites_o1 (r a b n : Int) (aa : Option Addr) (acap : Nat) (args : List Int) (w : World) :
 Calls Tryd.prog 77 #[(⟨1, r, a, b, n, aa, acap, args⟩ : Ins).val] w fun e w' => e = .returned (.tuple #[.int .i64 (wrP ⟨1, r, a, b, n, aa, acap, args⟩).1, .bool (wrP ⟨1, r, a, b, n, aa, acap, args⟩).2]) ∧ Below w.heap.size w w' := by
 go_enter Tryd.func77, Tryd.ntmps77
 go_wp2_with fail
 go_ret2
 exact ⟨rfl, Qh _ _⟩
theorem rwrites_o2 (r a b n : Int) (aa : Option Addr) (acap : Nat) (args : List Int) (w : World) :
 Calls Tryd.prog 77 #[(⟨2, r, a, b, n, aa, acap, args⟩ : Ins).val] w fun e w' => e = .returned (.tuple #[.int .i64 (wrP ⟨2, r, a, b, n, aa, acap, args⟩).1, .bool (wrP ⟨2, r, a, b, n, aa, acap, args⟩).2]) ∧ Below w.heap.size w w' := by
 go_enter Tryd.func77, Tryd.ntmps77
 go_wp2_with fail
 go_ret2
 exact ⟨rfl, Qh _ _⟩
theorem rwrites_o3 (r a b n : Int) (aa : Option Addr) (acap : Nat) (args : List Int) (w : World) :
 Calls Tryd.prog 77 #[(⟨3, r, a, b, n, aa, acap, args⟩ : Ins).val] w fun e w' => e = .returned (.tuple #[.int .i64 (wrP ⟨3, r, a, b, n, aa, acap, args⟩).1, .bool (wrP ⟨3, r, a, b, n, aa, acap, args⟩).2]) ∧ Below w.heap.size w w' := by
 go_enter Tryd.func77, Tryd.ntmps77
 go_wp2_with fail
 go_ret2
 exact ⟨rfl, Qh _ _⟩
theorem rwrites_o4 (r a b n : Int) (aa : Option Addr) (acap : Nat) (args : List Int) (w : World) :
 Calls Tryd.prog 77 #[(⟨4, r, a, b, n, aa, acap, args⟩ : Ins).val] w fun e w' => e = .returned (.tuple #[.int .i64 (wrP ⟨4, r, a, b, n, aa, acap, args⟩).1, .bool (wrP ⟨4, r, a, b, n, aa, acap, args⟩).2]) ∧ Below w.heap.size w w' := by
 go_enter Tryd.func77, Tryd.ntmps77
 go_wp2_with fail
 go_ret2
 exact ⟨rfl, Qh _ _⟩
theorem rwrites_o5 (r a b n : Int) (aa : Option Addr) (acap : Nat) (args : List Int) (w : World) :
 Calls Tryd.prog 77 #[(⟨5, r, a, b, n, aa, acap, args⟩ : Ins).val] w fun e w' => e = .returned (.tuple #[.int .i64 (wrP ⟨5, r, a, b, n, aa, acap, args⟩).1, .bool (wrP ⟨5, r, a, b, n, aa, acap, args⟩).2]) ∧ Below w.heap.size w w' := by
 go_enter Tryd.func77, Tryd.ntmps77
 go_wp2_with fail
 go_ret2
 exact ⟨rfl, Qh _ _⟩
theorem rwrites_o10 (r a b n : Int) (aa : Option Addr) (acap : Nat) (args : List Int) (w : World) :
 Calls Tryd.prog 77 #[(⟨10, r, a, b, n, aa, acap, args⟩ : Ins).val] w fun e w' => e = .returned (.tuple #[.int .i64 (wrP ⟨10, r, a, b, n, aa, acap, args⟩).1, .bool (wrP ⟨10, r, a, b, n, aa, acap, args⟩).2]) ∧ Below w.heap.size w w' := by
 go_enter Tryd.func77, Tryd.ntmps77
 go_wp2_with fail
 go_ret2
 exact ⟨rfl, Qh _ _⟩
theorem rwrites_no (op r a b n : Int) (aa : Option Addr) (acap : Nat) (args : List Int) (w : World) (h : ¬ op = 1 ∧ ¬ op = 2 ∧ ¬ op = 3 ∧ ¬ op = 4 ∧ ¬ op = 5 ∧ ¬ op = 10) :
 Calls Tryd.prog 77 #[(⟨op, r, a, b, n, aa, acap, args⟩ : Ins).val] w fun e w' => e = .returned (.tuple #[.int .i64 (wrP ⟨op, r, a, b, n, aa, acap, args⟩).1, .bool (wrP ⟨op, r, a, b, n, aa, acap, args⟩).2]) ∧ Below w.heap.size w w' := by
 obtain ⟨h1, h2, h3, h4, h5, h10⟩ := h
 have hp : wrP ⟨op, r, a, b, n, aa, acap, args⟩ = (0, false) := by simp [wrP, hasR, h1, h2, h3, h4, h5, h10]
 rw [hp]
 clear hp
 have e1 := ne_b h1
 have e2 := ne_b h2
 have e3 := ne_b h3
 have e4 := ne_b h4
 have e5 := ne_b h5
 have e10 := ne_b h10
 clear h1 h2 h3 h4 h5 h10
 go_enter Tryd.func77, Tryd.ntmps77
 go_wp2_with fail
 go_ret2
 exact ⟨rfl, Qh _ _⟩
theorem Q5 (i : Ins) (w : World) :
 Calls Tryd.prog 77 #[i.val] w fun e w' => e = .returned (.tuple #[.int .i64 (wrP i).1, .bool (wrP i).2]) ∧ Below w.heap.size w w' := by
 obtain ⟨op, r, a, b, n, aa, acap, args⟩ := i
 by_cases h : ¬ op = 1 ∧ ¬ op = 2 ∧ ¬ op = 3 ∧ ¬ op = 4 ∧ ¬ op = 5 ∧ ¬ op = 10
 · exact rwrites_no op r a b n aa acap args w h
 · have h' : op = 1 ∨ op = 2 ∨ op = 3 ∨ op = 4 ∨ op = 5 ∨ op = 10 := by omega
   rcases h' with rfl | rfl | rfl | rfl | rfl | rfl
   · exact rwrites_o1 r a b n aa acap args w
   · exact rwrites_o2 r a b n aa acap args w
   · exact rwrites_o3 r a b n aa acap args w
   · exact rwrites_o4 r a b n aa acap args w
   · exact rwrites_o5 r a b n aa acap args w
   · exact rwrites_o10 r a b n aa acap args w
theorem box2 (w : World) (i k : Ins) : ((w.alloc (.cells ⟨i.vals⟩ 44)).alloc (.cells ⟨k.vals⟩ 44)).cell? ⟨w.heap.size, 5, none⟩ = some (.slice i.aa i.args.length i.acap) ∧ ((w.alloc (.cells ⟨i.vals⟩ 44)).alloc (.cells ⟨k.vals⟩ 44)).cell? ⟨w.heap.size + 1, 5, none⟩ = some (.slice k.aa k.args.length k.acap) :=
 ⟨Qe (Qh _ _) (Zk w i.vals 44 5 _ rfl), Q0 (t := 44) (vs := k.vals) (Qt _ _ (by simp)) 5 _ rfl⟩
theorem Zj (i k : Ins) (w : World) (hi : RowAt w (fun _ => True) i.aa i.acap i.args.length (Qc i.args)) (hk : RowAt w (fun _ => True) k.aa k.acap k.args.length (Qc k.args)) :
 Calls Tryd.prog 41 #[i.val, k.val] w fun x w' => x = .returned (.bool (Zi i k)) ∧ Below w.heap.size w w' := by
 obtain ⟨op, r, a, b, n, aa, acap, args⟩ := i
 obtain ⟨op', r', a', b', n', aa', acap', args'⟩ := k
 unfold Zi
 simp only at hi hk ⊢
 obtain ⟨hc11, hc12⟩ := Q2 hi
 obtain ⟨hc21, hc22⟩ := Q2 hk
 have hbx := Lh (box2 w ⟨op, r, a, b, n, aa, acap, args⟩ ⟨op', r', a', b', n', aa', acap', args'⟩)
 by_cases h0 : op = op'
 · subst h0
   by_cases h1 : r = r'
   · subst h1
     by_cases h2 : a = a'
     · subst h2
       by_cases h3 : b = b'
       · subst h3
         by_cases h4 : n = n'
         · subst h4
           by_cases hle : args.length = args'.length
           · have hne : ((args.length : Int) != (args'.length : Int)) = false := by rw [hle]; simp
             have hle' := Lh hle
             have hst := Lh (Zc w (.cells ⟨(⟨op, r, a, b, n, aa, acap, args⟩ : Ins).vals⟩ 44) (.cells ⟨(⟨op, r, a, b, n, aa', acap', args'⟩ : Ins).vals⟩ 44))
             have hri := hi.below (Kps.of_below hst.out)
             have hrk := hk.below (Kps.of_below hst.out)
             clear hle hi hk
             go_enter Tryd.func41, Tryd.ntmps41
             go_wp2
             generalize hW0 : (w.alloc (.cells ⟨(⟨op, r, a, b, n, aa, acap, args⟩ : Ins).vals⟩ 44)).alloc (.cells ⟨(⟨op, r, a, b, n, aa', acap', args'⟩ : Ins).vals⟩ 44) = W0 at hst hri hrk hbx
             obtain ⟨q1, q2⟩ := hbx.out
             go_loopw [5] (fun i wr => ∃ k : Nat, k ≤ args.length ∧ i = .int .i64 k ∧ args.take k = args'.take k ∧ ∃ m, wr = W0.drewN m) (fun i _ => args.length - (intOf i).toNat)
             case atStart => exact ⟨0, Nat.zero_le _, rfl, rfl, 0, hW0⟩
             case round =>
              obtain ⟨k, hk, rfl, htk, m, rfl⟩ := hrel
              replace htk := Lh htk
              by_cases hlt : k < args.length
              · have hlt' : k < args'.length := by rw [← hle'.out]; exact hlt
                obtain ⟨x, hx⟩ : ∃ e, args[k]? = some e := ⟨args[k], by simp [hlt]⟩
                obtain ⟨y, hy⟩ : ∃ e, args'[k]? = some e := ⟨args'[k], by simp [hlt']⟩
                obtain ⟨b1, off, rfl, _, hcell⟩ := Xa hri k x hx
                obtain ⟨b2, off', rfl, _, hcell'⟩ := Xa hrk k y hy
                replace hx := Lh hx
                replace hy := Lh hy
                clear hri hrk hW0
                by_cases hxy : x = y
                · have HT : Hid (args.take (k + 1) = args'.take (k + 1)) := Lh (by rw [List.take_add_one, List.take_add_one, htk.out, hx.out, hy.out, hxy])
                  subst hxy
                  go_wp2
                  go_quiet (fail)
                  go_wp2
                  go_roundw
                  case rel => exact ⟨k + 1, by omega, by go_num, HT.out, _, rfl⟩
                  case measure => simp [intOf]; omega
                · have HN : Hid (decide (args = args') = false) := Lh (by
                   rw [decide_eq_false_iff_not]; intro e; apply hxy
                   have h3 := hx.out; rw [e, hy.out] at h3
                   exact (Option.some.inj h3).symm)
                  have hs1 := ne_n hxy
                  clear hxy
                  go_wp2
                  go_quiet (fail)
                  go_wp2
                  go_ret
                  exact ⟨Qi (by rw [HN.out]; simp), hst.out.trans ⟨rfl, rfl, rfl, Nat.le_refl _, fun _ _ => rfl⟩⟩
              · have HE : Hid (decide (args = args') = true) := Lh (by
                 have h3 := htk.out
                 have h4 := hle'.out
                 rw [List.take_of_length_le (by omega), List.take_of_length_le (by omega)] at h3
                 simpa using h3)
                clear htk hri hrk hW0
                go_wp2
                go_ret
                exact ⟨Qi (by rw [HE.out]; simp), hst.out.trans ⟨rfl, rfl, rfl, Nat.le_refl _, fun _ _ => rfl⟩⟩
           · have hne : ((args.length : Int) != (args'.length : Int)) = true := by simp; omega
             have hF : Hid (decide (args = args') = false) := Lh (by rw [decide_eq_false_iff_not]; intro h; exact hle (by rw [h]))
             clear hbx
             go_enter Tryd.func41, Tryd.ntmps41
             go_wp2_with fail
             go_ret
             exact ⟨Qi (by rw [hF.out]; simp), Zc _ _ _⟩
         · have e4 := ne_n h4
           clear hbx
           go_enter Tryd.func41, Tryd.ntmps41
           go_wp2_with fail
           go_ret
           exact ⟨Qi (by simp [*]), Zc _ _ _⟩
       · have e3 := ne_n h3
         clear hbx
         go_enter Tryd.func41, Tryd.ntmps41
         go_wp2_with fail
         go_ret
         exact ⟨Qi (by simp [*]), Zc _ _ _⟩
     · have e2 := ne_n h2
       clear hbx
       go_enter Tryd.func41, Tryd.ntmps41
       go_wp2_with fail
       go_ret
       exact ⟨Qi (by simp [*]), Zc _ _ _⟩
   · have e1 := ne_n h1
     clear hbx
     go_enter Tryd.func41, Tryd.ntmps41
     go_wp2_with fail
     go_ret
     exact ⟨Qi (by simp [*]), Zc _ _ _⟩
 · have e0 := ne_n h0
   clear hbx
   go_enter Tryd.func41, Tryd.ntmps41
   go_wp2_with fail
   go_ret
   exact ⟨Qi (by simp [*]), Zc _ _ _⟩
theorem Zh {W : World} {b k j : Nat} {u : Value} (h : k ≠ b) : (W.setCell ⟨b, j, none⟩ u).heap[k]? = W.heap[k]? := by
 simp [World.setCell, Array.getElem?_modify, Ne.symm h]
theorem Xj {W : World} {g : Nat} {a0 b0 c0 d0 e0 f0 : Value} {T : TypeId} {fr : Nat × Nat} (h : W.heap[g]? = some (.cells #[a0, b0, c0, d0, e0, f0] T fr)) (a b c d e f : Value) :
 ((((((W.setCell ⟨g, 0, none⟩ a).setCell ⟨g, 1, none⟩ b).setCell ⟨g, 2, none⟩ c).setCell ⟨g, 3, none⟩ d).setCell ⟨g, 4, none⟩ e).setCell ⟨g, 5, none⟩ f).heap[g]? = some (.cells #[a, b, c, d, e, f] T fr) := by
 have := Qy (Qy (Qy (Qy (Qy (Qy h 0 a) 1 b) 2 c) 3 d) 4 e) 5 f
 simpa using this
theorem Z7 {B g : Nat} {w W : World} (h : Below B w W) (hg : B ≤ g) (a b c d e f : Value) : Below B w ((((((W.setCell ⟨g, 0, none⟩ a).setCell ⟨g, 1, none⟩ b).setCell ⟨g, 2, none⟩ c).setCell ⟨g, 3, none⟩ d).setCell ⟨g, 4, none⟩ e).setCell ⟨g, 5, none⟩ f) :=
 (((((h.setCell (p := ⟨g, 0, none⟩) hg a).setCell (p := ⟨g, 1, none⟩) hg b).setCell (p := ⟨g, 2, none⟩) hg c).setCell (p := ⟨g, 3, none⟩) hg d).setCell (p := ⟨g, 4, none⟩) hg e).setCell (p := ⟨g, 5, none⟩) hg f
theorem ins3 (w : World) (o0 o1 o2 : Obj) : (((w.alloc o0).alloc o1).alloc o2).heap[w.heap.size]? = some o0 ∧ (((w.alloc o0).alloc o1).alloc o2).heap[w.heap.size + 1]? = some o1 ∧ (((w.alloc o0).alloc o1).alloc o2).heap[w.heap.size + 1 + 1]? = some o2 :=
 ⟨(Below.heap_alloc _ _ _ (by simp; omega)).trans ((Below.heap_alloc _ _ _ (by simp)).trans (Qt _ _ rfl)), (Below.heap_alloc _ _ _ (by simp)).trans (Qt _ _ (by simp)), Qt _ _ (by simp)⟩
theorem kept_o1 (r a b n : Int) (aa : Option Addr) (acap : Nat) (args : List Int) (w : World) :
 Calls Tryd.prog 75 #[(⟨1, r, a, b, n, aa, acap, args⟩ : Ins).val] w fun e w' => e = .returned (.agg ⟨(Q3 (⟨1, r, a, b, n, aa, acap, args⟩ : Ins)).vals⟩) ∧ Below w.heap.size w w' := by
 have hk : Q3 (⟨1, r, a, b, n, aa, acap, args⟩ : Ins) = ⟨1, r, 0, 0, n, none, 0, []⟩ := rfl
 rw [hk]
 clear hk
 have hw := Lh (fun V => Q5 (⟨1, r, a, b, n, aa, acap, args⟩ : Ins) V)
 obtain ⟨g0, g1, g2⟩ := ins3 w (.cells ⟨(⟨1, r, a, b, n, aa, acap, args⟩ : Ins).vals⟩ 44) (.cells #[.int .u8 0, .int .i64 0, .int .i64 0, .int .i64 0, .int .i64 0, .slice none 0 0] 44) (.cells #[.int .u8 1, .int .i64 0, .int .i64 0, .int .i64 0, .int .i64 0, .slice none 0 0] 44)
 have hst := Lh (Qs w (.cells ⟨(⟨1, r, a, b, n, aa, acap, args⟩ : Ins).vals⟩ 44) (.cells #[.int .u8 0, .int .i64 0, .int .i64 0, .int .i64 0, .int .i64 0, .slice none 0 0] 44) (.cells #[.int .u8 1, .int .i64 0, .int .i64 0, .int .i64 0, .int .i64 0, .slice none 0 0] 44))
 replace g0 := Lh g0
 replace g1 := Lh g1
 replace g2 := Lh g2
 go_enter Tryd.func75, Tryd.ntmps75
 go_wp2_with fail
 refine (hw.out _).mono ?_
 rintro e w1 ⟨rfl, hb⟩
 have hs1 : w.heap.size + 3 ≤ w1.heap.size := by have := hb.size; simp at this; omega
 have hl0 : w.heap.size < w1.heap.size := by omega
 have hl1 : w.heap.size + 1 < w1.heap.size := by omega
 have hl2 : w.heap.size + 1 + 1 < w1.heap.size := by omega
 have k0 : w1.heap[w.heap.size]? = _ := (hb.block _ (by first | (simp; done) | (simp; omega))).trans g0.out
 have k1 : w1.heap[w.heap.size + 1]? = _ := (hb.block _ (by first | (simp; done) | (simp; omega))).trans g1.out
 have k2 : w1.heap[w.heap.size + 1 + 1]? = _ := (hb.block _ (by first | (simp; done) | (simp; omega))).trans g2.out
 obtain ⟨q0, q1, q2, q3, q4, q5⟩ := Qm (i := (⟨1, r, a, b, n, aa, acap, args⟩ : Ins)) (Q0 (t := 44) k0)
 obtain ⟨z0, z1, z2, z3, z4, z5⟩ := Qm (i := ⟨1, 0, 0, 0, 0, none, 0, []⟩) (Q0 (t := 44) k2)
 have x0 := Qd k2 0
 have x1 := Qd k2 1
 have x2 := Qd k2 2
 have x3 := Qd k2 3
 have x4 := Qd k2 4
 have x5 := Qd k2 5
 obtain ⟨y0, y1, y2, y3, y4, y5⟩ := Qm (i := ⟨0, 0, 0, 0, 0, none, 0, []⟩) (Q0 (t := 44) k1)
 have u0 := Qd k1 0
 have u1 := Qd k1 1
 have u2 := Qd k1 2
 have u3 := Qd k1 3
 have u4 := Qd k1 4
 have u5 := Qd k1 5
 have hq := Lh (hst.out.trans (hb.mono hst.out.size))
 replace k1 := Lh k1
 clear hb k0 k2 g0 g1 g2
 go_wp2_with fail
 exact bodyPost_ret (v := .agg #[.int .u8 1, .int .i64 r, .int .i64 0, .int .i64 0, .int .i64 n, .slice none 0 0]) (results_cell_row Tryd.results75 _ _ (w.heap.size + 1) _ _ _ _ rfl (Xj ((Zh (by omega)).trans ((Zh (by omega)).trans k1.out)) _ _ _ _ _ _) Tryd.underlying44 rfl (by kernel_rfl)) rfl ⟨rfl, Z7 ((hq.out.setCell (p := ⟨w.heap.size + 1 + 1, 1, none⟩) (by show w.heap.size ≤ w.heap.size + 1 + 1; omega) _).setCell (p := ⟨w.heap.size + 1 + 1, 4, none⟩) (by show w.heap.size ≤ w.heap.size + 1 + 1; omega) _) (by omega) _ _ _ _ _ _⟩
theorem kept_o2 (r a b n : Int) (aa : Option Addr) (acap : Nat) (args : List Int) (w : World) :
 Calls Tryd.prog 75 #[(⟨2, r, a, b, n, aa, acap, args⟩ : Ins).val] w fun e w' => e = .returned (.agg ⟨(Q3 (⟨2, r, a, b, n, aa, acap, args⟩ : Ins)).vals⟩) ∧ Below w.heap.size w w' := by
 have hk : Q3 (⟨2, r, a, b, n, aa, acap, args⟩ : Ins) = ⟨2, r, a, 0, 0, none, 0, []⟩ := rfl
 rw [hk]
 clear hk
 have hw := Lh (fun V => Q5 (⟨2, r, a, b, n, aa, acap, args⟩ : Ins) V)
 obtain ⟨g0, g1, g2⟩ := ins3 w (.cells ⟨(⟨2, r, a, b, n, aa, acap, args⟩ : Ins).vals⟩ 44) (.cells #[.int .u8 0, .int .i64 0, .int .i64 0, .int .i64 0, .int .i64 0, .slice none 0 0] 44) (.cells #[.int .u8 2, .int .i64 0, .int .i64 0, .int .i64 0, .int .i64 0, .slice none 0 0] 44)
 have hst := Lh (Qs w (.cells ⟨(⟨2, r, a, b, n, aa, acap, args⟩ : Ins).vals⟩ 44) (.cells #[.int .u8 0, .int .i64 0, .int .i64 0, .int .i64 0, .int .i64 0, .slice none 0 0] 44) (.cells #[.int .u8 2, .int .i64 0, .int .i64 0, .int .i64 0, .int .i64 0, .slice none 0 0] 44))
 replace g0 := Lh g0
 replace g1 := Lh g1
 replace g2 := Lh g2
 go_enter Tryd.func75, Tryd.ntmps75
 go_wp2_with fail
 refine (hw.out _).mono ?_
 rintro e w1 ⟨rfl, hb⟩
 have hs1 : w.heap.size + 3 ≤ w1.heap.size := by have := hb.size; simp at this; omega
 have hl0 : w.heap.size < w1.heap.size := by omega
 have hl1 : w.heap.size + 1 < w1.heap.size := by omega
 have hl2 : w.heap.size + 1 + 1 < w1.heap.size := by omega
 have k0 : w1.heap[w.heap.size]? = _ := (hb.block _ (by first | (simp; done) | (simp; omega))).trans g0.out
 have k1 : w1.heap[w.heap.size + 1]? = _ := (hb.block _ (by first | (simp; done) | (simp; omega))).trans g1.out
 have k2 : w1.heap[w.heap.size + 1 + 1]? = _ := (hb.block _ (by first | (simp; done) | (simp; omega))).trans g2.out
 obtain ⟨q0, q1, q2, q3, q4, q5⟩ := Qm (i := (⟨2, r, a, b, n, aa, acap, args⟩ : Ins)) (Q0 (t := 44) k0)
 obtain ⟨z0, z1, z2, z3, z4, z5⟩ := Qm (i := ⟨2, 0, 0, 0, 0, none, 0, []⟩) (Q0 (t := 44) k2)
 have x0 := Qd k2 0
 have x1 := Qd k2 1
 have x2 := Qd k2 2
 have x3 := Qd k2 3
 have x4 := Qd k2 4
 have x5 := Qd k2 5
 obtain ⟨y0, y1, y2, y3, y4, y5⟩ := Qm (i := ⟨0, 0, 0, 0, 0, none, 0, []⟩) (Q0 (t := 44) k1)
 have u0 := Qd k1 0
 have u1 := Qd k1 1
 have u2 := Qd k1 2
 have u3 := Qd k1 3
 have u4 := Qd k1 4
 have u5 := Qd k1 5
 have hq := Lh (hst.out.trans (hb.mono hst.out.size))
 replace k1 := Lh k1
 clear hb k0 k2 g0 g1 g2
 go_wp2_with fail
 exact bodyPost_ret (v := .agg #[.int .u8 2, .int .i64 r, .int .i64 a, .int .i64 0, .int .i64 0, .slice none 0 0]) (results_cell_row Tryd.results75 _ _ (w.heap.size + 1) _ _ _ _ rfl (Xj ((Zh (by omega)).trans ((Zh (by omega)).trans k1.out)) _ _ _ _ _ _) Tryd.underlying44 rfl (by kernel_rfl)) rfl ⟨rfl, Z7 ((hq.out.setCell (p := ⟨w.heap.size + 1 + 1, 1, none⟩) (by show w.heap.size ≤ w.heap.size + 1 + 1; omega) _).setCell (p := ⟨w.heap.size + 1 + 1, 2, none⟩) (by show w.heap.size ≤ w.heap.size + 1 + 1; omega) _) (by omega) _ _ _ _ _ _⟩
theorem kept_o3 (r a b n : Int) (aa : Option Addr) (acap : Nat) (args : List Int) (w : World) :
 Calls Tryd.prog 75 #[(⟨3, r, a, b, n, aa, acap, args⟩ : Ins).val] w fun e w' => e = .returned (.agg ⟨(Q3 (⟨3, r, a, b, n, aa, acap, args⟩ : Ins)).vals⟩) ∧ Below w.heap.size w w' := by
 have hk : Q3 (⟨3, r, a, b, n, aa, acap, args⟩ : Ins) = ⟨3, r, a, 0, n, none, 0, []⟩ := rfl
 rw [hk]
 clear hk
 have hw := Lh (fun V => Q5 (⟨3, r, a, b, n, aa, acap, args⟩ : Ins) V)
 obtain ⟨g0, g1, g2⟩ := ins3 w (.cells ⟨(⟨3, r, a, b, n, aa, acap, args⟩ : Ins).vals⟩ 44) (.cells #[.int .u8 0, .int .i64 0, .int .i64 0, .int .i64 0, .int .i64 0, .slice none 0 0] 44) (.cells #[.int .u8 3, .int .i64 0, .int .i64 0, .int .i64 0, .int .i64 0, .slice none 0 0] 44)
 have hst := Lh (Qs w (.cells ⟨(⟨3, r, a, b, n, aa, acap, args⟩ : Ins).vals⟩ 44) (.cells #[.int .u8 0, .int .i64 0, .int .i64 0, .int .i64 0, .int .i64 0, .slice none 0 0] 44) (.cells #[.int .u8 3, .int .i64 0, .int .i64 0, .int .i64 0, .int .i64 0, .slice none 0 0] 44))
 replace g0 := Lh g0
 replace g1 := Lh g1
 replace g2 := Lh g2
 go_enter Tryd.func75, Tryd.ntmps75
 go_wp2_with fail
 refine (hw.out _).mono ?_
 rintro e w1 ⟨rfl, hb⟩
 have hs1 : w.heap.size + 3 ≤ w1.heap.size := by have := hb.size; simp at this; omega
 have hl0 : w.heap.size < w1.heap.size := by omega
 have hl1 : w.heap.size + 1 < w1.heap.size := by omega
 have hl2 : w.heap.size + 1 + 1 < w1.heap.size := by omega
 have k0 : w1.heap[w.heap.size]? = _ := (hb.block _ (by first | (simp; done) | (simp; omega))).trans g0.out
 have k1 : w1.heap[w.heap.size + 1]? = _ := (hb.block _ (by first | (simp; done) | (simp; omega))).trans g1.out
 have k2 : w1.heap[w.heap.size + 1 + 1]? = _ := (hb.block _ (by first | (simp; done) | (simp; omega))).trans g2.out
 obtain ⟨q0, q1, q2, q3, q4, q5⟩ := Qm (i := (⟨3, r, a, b, n, aa, acap, args⟩ : Ins)) (Q0 (t := 44) k0)
 obtain ⟨z0, z1, z2, z3, z4, z5⟩ := Qm (i := ⟨3, 0, 0, 0, 0, none, 0, []⟩) (Q0 (t := 44) k2)
 have x0 := Qd k2 0
 have x1 := Qd k2 1
 have x2 := Qd k2 2
 have x3 := Qd k2 3
 have x4 := Qd k2 4
 have x5 := Qd k2 5
 obtain ⟨y0, y1, y2, y3, y4, y5⟩ := Qm (i := ⟨0, 0, 0, 0, 0, none, 0, []⟩) (Q0 (t := 44) k1)
 have u0 := Qd k1 0
 have u1 := Qd k1 1
 have u2 := Qd k1 2
 have u3 := Qd k1 3
 have u4 := Qd k1 4
 have u5 := Qd k1 5
 have hq := Lh (hst.out.trans (hb.mono hst.out.size))
 replace k1 := Lh k1
 clear hb k0 k2 g0 g1 g2
 go_wp2_with fail
 exact bodyPost_ret (v := .agg #[.int .u8 3, .int .i64 r, .int .i64 a, .int .i64 0, .int .i64 n, .slice none 0 0]) (results_cell_row Tryd.results75 _ _ (w.heap.size + 1) _ _ _ _ rfl (Xj ((Zh (by omega)).trans ((Zh (by omega)).trans ((Zh (by omega)).trans k1.out))) _ _ _ _ _ _) Tryd.underlying44 rfl (by kernel_rfl)) rfl ⟨rfl, Z7 (((hq.out.setCell (p := ⟨w.heap.size + 1 + 1, 1, none⟩) (by show w.heap.size ≤ w.heap.size + 1 + 1; omega) _).setCell (p := ⟨w.heap.size + 1 + 1, 2, none⟩) (by show w.heap.size ≤ w.heap.size + 1 + 1; omega) _).setCell (p := ⟨w.heap.size + 1 + 1, 4, none⟩) (by show w.heap.size ≤ w.heap.size + 1 + 1; omega) _) (by omega) _ _ _ _ _ _⟩
theorem kept_o4 (r a b n : Int) (aa : Option Addr) (acap : Nat) (args : List Int) (w : World) :
 Calls Tryd.prog 75 #[(⟨4, r, a, b, n, aa, acap, args⟩ : Ins).val] w fun e w' => e = .returned (.agg ⟨(Q3 (⟨4, r, a, b, n, aa, acap, args⟩ : Ins)).vals⟩) ∧ Below w.heap.size w w' := by
 have hk : Q3 (⟨4, r, a, b, n, aa, acap, args⟩ : Ins) = ⟨4, r, a, b, n, none, 0, []⟩ := rfl
 rw [hk]
 clear hk
 have hw := Lh (fun V => Q5 (⟨4, r, a, b, n, aa, acap, args⟩ : Ins) V)
 obtain ⟨g0, g1, g2⟩ := ins3 w (.cells ⟨(⟨4, r, a, b, n, aa, acap, args⟩ : Ins).vals⟩ 44) (.cells #[.int .u8 0, .int .i64 0, .int .i64 0, .int .i64 0, .int .i64 0, .slice none 0 0] 44) (.cells #[.int .u8 4, .int .i64 0, .int .i64 0, .int .i64 0, .int .i64 0, .slice none 0 0] 44)
 have hst := Lh (Qs w (.cells ⟨(⟨4, r, a, b, n, aa, acap, args⟩ : Ins).vals⟩ 44) (.cells #[.int .u8 0, .int .i64 0, .int .i64 0, .int .i64 0, .int .i64 0, .slice none 0 0] 44) (.cells #[.int .u8 4, .int .i64 0, .int .i64 0, .int .i64 0, .int .i64 0, .slice none 0 0] 44))
 replace g0 := Lh g0
 replace g1 := Lh g1
 replace g2 := Lh g2
 go_enter Tryd.func75, Tryd.ntmps75
 go_wp2_with fail
 refine (hw.out _).mono ?_
 rintro e w1 ⟨rfl, hb⟩
 have hs1 : w.heap.size + 3 ≤ w1.heap.size := by have := hb.size; simp at this; omega
 have hl0 : w.heap.size < w1.heap.size := by omega
 have hl1 : w.heap.size + 1 < w1.heap.size := by omega
 have hl2 : w.heap.size + 1 + 1 < w1.heap.size := by omega
 have k0 : w1.heap[w.heap.size]? = _ := (hb.block _ (by first | (simp; done) | (simp; omega))).trans g0.out
 have k1 : w1.heap[w.heap.size + 1]? = _ := (hb.block _ (by first | (simp; done) | (simp; omega))).trans g1.out
 have k2 : w1.heap[w.heap.size + 1 + 1]? = _ := (hb.block _ (by first | (simp; done) | (simp; omega))).trans g2.out
 obtain ⟨q0, q1, q2, q3, q4, q5⟩ := Qm (i := (⟨4, r, a, b, n, aa, acap, args⟩ : Ins)) (Q0 (t := 44) k0)
 obtain ⟨z0, z1, z2, z3, z4, z5⟩ := Qm (i := ⟨4, 0, 0, 0, 0, none, 0, []⟩) (Q0 (t := 44) k2)
 have x0 := Qd k2 0
 have x1 := Qd k2 1
 have x2 := Qd k2 2
 have x3 := Qd k2 3
 have x4 := Qd k2 4
 have x5 := Qd k2 5
 obtain ⟨y0, y1, y2, y3, y4, y5⟩ := Qm (i := ⟨0, 0, 0, 0, 0, none, 0, []⟩) (Q0 (t := 44) k1)
 have u0 := Qd k1 0
 have u1 := Qd k1 1
 have u2 := Qd k1 2
 have u3 := Qd k1 3
 have u4 := Qd k1 4
 have u5 := Qd k1 5
 have hq := Lh (hst.out.trans (hb.mono hst.out.size))
 replace k1 := Lh k1
 clear hb k0 k2 g0 g1 g2
 go_wp2_with fail
 exact bodyPost_ret (v := .agg #[.int .u8 4, .int .i64 r, .int .i64 a, .int .i64 b, .int .i64 n, .slice none 0 0]) (results_cell_row Tryd.results75 _ _ (w.heap.size + 1) _ _ _ _ rfl (Xj ((Zh (by omega)).trans ((Zh (by omega)).trans ((Zh (by omega)).trans ((Zh (by omega)).trans k1.out)))) _ _ _ _ _ _) Tryd.underlying44 rfl (by kernel_rfl)) rfl ⟨rfl, Z7 ((((hq.out.setCell (p := ⟨w.heap.size + 1 + 1, 1, none⟩) (by show w.heap.size ≤ w.heap.size + 1 + 1; omega) _).setCell (p := ⟨w.heap.size + 1 + 1, 2, none⟩) (by show w.heap.size ≤ w.heap.size + 1 + 1; omega) _).setCell (p := ⟨w.heap.size + 1 + 1, 3, none⟩) (by show w.heap.size ≤ w.heap.size + 1 + 1; omega) _).setCell (p := ⟨w.heap.size + 1 + 1, 4, none⟩) (by show w.heap.size ≤ w.heap.size + 1 + 1; omega) _) (by omega) _ _ _ _ _ _⟩
theorem kept_o5 (r a b n : Int) (aa : Option Addr) (acap : Nat) (args : List Int) (w : World) :
 Calls Tryd.prog 75 #[(⟨5, r, a, b, n, aa, acap, args⟩ : Ins).val] w fun e w' => e = .returned (.agg ⟨(Q3 (⟨5, r, a, b, n, aa, acap, args⟩ : Ins)).vals⟩) ∧ Below w.heap.size w w' := by
 have hk : Q3 (⟨5, r, a, b, n, aa, acap, args⟩ : Ins) = ⟨5, r, a, 0, n, none, 0, []⟩ := rfl
 rw [hk]
 clear hk
 have hw := Lh (fun V => Q5 (⟨5, r, a, b, n, aa, acap, args⟩ : Ins) V)
 obtain ⟨g0, g1, g2⟩ := ins3 w (.cells ⟨(⟨5, r, a, b, n, aa, acap, args⟩ : Ins).vals⟩ 44) (.cells #[.int .u8 0, .int .i64 0, .int .i64 0, .int .i64 0, .int .i64 0, .slice none 0 0] 44) (.cells #[.int .u8 5, .int .i64 0, .int .i64 0, .int .i64 0, .int .i64 0, .slice none 0 0] 44)
 have hst := Lh (Qs w (.cells ⟨(⟨5, r, a, b, n, aa, acap, args⟩ : Ins).vals⟩ 44) (.cells #[.int .u8 0, .int .i64 0, .int .i64 0, .int .i64 0, .int .i64 0, .slice none 0 0] 44) (.cells #[.int .u8 5, .int .i64 0, .int .i64 0, .int .i64 0, .int .i64 0, .slice none 0 0] 44))
 replace g0 := Lh g0
 replace g1 := Lh g1
 replace g2 := Lh g2
 go_enter Tryd.func75, Tryd.ntmps75
 go_wp2_with fail
 refine (hw.out _).mono ?_
 rintro e w1 ⟨rfl, hb⟩
 have hs1 : w.heap.size + 3 ≤ w1.heap.size := by have := hb.size; simp at this; omega
 have hl0 : w.heap.size < w1.heap.size := by omega
 have hl1 : w.heap.size + 1 < w1.heap.size := by omega
 have hl2 : w.heap.size + 1 + 1 < w1.heap.size := by omega
 have k0 : w1.heap[w.heap.size]? = _ := (hb.block _ (by first | (simp; done) | (simp; omega))).trans g0.out
 have k1 : w1.heap[w.heap.size + 1]? = _ := (hb.block _ (by first | (simp; done) | (simp; omega))).trans g1.out
 have k2 : w1.heap[w.heap.size + 1 + 1]? = _ := (hb.block _ (by first | (simp; done) | (simp; omega))).trans g2.out
 obtain ⟨q0, q1, q2, q3, q4, q5⟩ := Qm (i := (⟨5, r, a, b, n, aa, acap, args⟩ : Ins)) (Q0 (t := 44) k0)
 obtain ⟨z0, z1, z2, z3, z4, z5⟩ := Qm (i := ⟨5, 0, 0, 0, 0, none, 0, []⟩) (Q0 (t := 44) k2)
 have x0 := Qd k2 0
 have x1 := Qd k2 1
 have x2 := Qd k2 2
 have x3 := Qd k2 3
 have x4 := Qd k2 4
 have x5 := Qd k2 5
 obtain ⟨y0, y1, y2, y3, y4, y5⟩ := Qm (i := ⟨0, 0, 0, 0, 0, none, 0, []⟩) (Q0 (t := 44) k1)
 have u0 := Qd k1 0
 have u1 := Qd k1 1
 have u2 := Qd k1 2
 have u3 := Qd k1 3
 have u4 := Qd k1 4
 have u5 := Qd k1 5
 have hq := Lh (hst.out.trans (hb.mono hst.out.size))
 replace k1 := Lh k1
 clear hb k0 k2 g0 g1 g2
 go_wp2_with fail
 exact bodyPost_ret (v := .agg #[.int .u8 5, .int .i64 r, .int .i64 a, .int .i64 0, .int .i64 n, .slice none 0 0]) (results_cell_row Tryd.results75 _ _ (w.heap.size + 1) _ _ _ _ rfl (Xj ((Zh (by omega)).trans ((Zh (by omega)).trans ((Zh (by omega)).trans k1.out))) _ _ _ _ _ _) Tryd.underlying44 rfl (by kernel_rfl)) rfl ⟨rfl, Z7 (((hq.out.setCell (p := ⟨w.heap.size + 1 + 1, 1, none⟩) (by show w.heap.size ≤ w.heap.size + 1 + 1; omega) _).setCell (p := ⟨w.heap.size + 1 + 1, 2, none⟩) (by show w.heap.size ≤ w.heap.size + 1 + 1; omega) _).setCell (p := ⟨w.heap.size + 1 + 1, 4, none⟩) (by show w.heap.size ≤ w.heap.size + 1 + 1; omega) _) (by omega) _ _ _ _ _ _⟩
theorem kept_o6 (r a b n : Int) (aa : Option Addr) (acap : Nat) (args : List Int) (w : World) :
 Calls Tryd.prog 75 #[(⟨6, r, a, b, n, aa, acap, args⟩ : Ins).val] w fun e w' => e = .returned (.agg ⟨(Q3 (⟨6, r, a, b, n, aa, acap, args⟩ : Ins)).vals⟩) ∧ Below w.heap.size w w' := by
 have hk : Q3 (⟨6, r, a, b, n, aa, acap, args⟩ : Ins) = ⟨6, 0, a, b, n, none, 0, []⟩ := rfl
 rw [hk]
 clear hk
 have hw := Lh (fun V => Q5 (⟨6, r, a, b, n, aa, acap, args⟩ : Ins) V)
 obtain ⟨g0, g1, g2⟩ := ins3 w (.cells ⟨(⟨6, r, a, b, n, aa, acap, args⟩ : Ins).vals⟩ 44) (.cells #[.int .u8 0, .int .i64 0, .int .i64 0, .int .i64 0, .int .i64 0, .slice none 0 0] 44) (.cells #[.int .u8 6, .int .i64 0, .int .i64 0, .int .i64 0, .int .i64 0, .slice none 0 0] 44)
 have hst := Lh (Qs w (.cells ⟨(⟨6, r, a, b, n, aa, acap, args⟩ : Ins).vals⟩ 44) (.cells #[.int .u8 0, .int .i64 0, .int .i64 0, .int .i64 0, .int .i64 0, .slice none 0 0] 44) (.cells #[.int .u8 6, .int .i64 0, .int .i64 0, .int .i64 0, .int .i64 0, .slice none 0 0] 44))
 replace g0 := Lh g0
 replace g1 := Lh g1
 replace g2 := Lh g2
 go_enter Tryd.func75, Tryd.ntmps75
 go_wp2_with fail
 refine (hw.out _).mono ?_
 rintro e w1 ⟨rfl, hb⟩
 have hs1 : w.heap.size + 3 ≤ w1.heap.size := by have := hb.size; simp at this; omega
 have hl0 : w.heap.size < w1.heap.size := by omega
 have hl1 : w.heap.size + 1 < w1.heap.size := by omega
 have hl2 : w.heap.size + 1 + 1 < w1.heap.size := by omega
 have k0 : w1.heap[w.heap.size]? = _ := (hb.block _ (by first | (simp; done) | (simp; omega))).trans g0.out
 have k1 : w1.heap[w.heap.size + 1]? = _ := (hb.block _ (by first | (simp; done) | (simp; omega))).trans g1.out
 have k2 : w1.heap[w.heap.size + 1 + 1]? = _ := (hb.block _ (by first | (simp; done) | (simp; omega))).trans g2.out
 obtain ⟨q0, q1, q2, q3, q4, q5⟩ := Qm (i := (⟨6, r, a, b, n, aa, acap, args⟩ : Ins)) (Q0 (t := 44) k0)
 obtain ⟨z0, z1, z2, z3, z4, z5⟩ := Qm (i := ⟨6, 0, 0, 0, 0, none, 0, []⟩) (Q0 (t := 44) k2)
 have x0 := Qd k2 0
 have x1 := Qd k2 1
 have x2 := Qd k2 2
 have x3 := Qd k2 3
 have x4 := Qd k2 4
 have x5 := Qd k2 5
 obtain ⟨y0, y1, y2, y3, y4, y5⟩ := Qm (i := ⟨0, 0, 0, 0, 0, none, 0, []⟩) (Q0 (t := 44) k1)
 have u0 := Qd k1 0
 have u1 := Qd k1 1
 have u2 := Qd k1 2
 have u3 := Qd k1 3
 have u4 := Qd k1 4
 have u5 := Qd k1 5
 have hq := Lh (hst.out.trans (hb.mono hst.out.size))
 replace k1 := Lh k1
 clear hb k0 k2 g0 g1 g2
 go_wp2_with fail
 exact bodyPost_ret (v := .agg #[.int .u8 6, .int .i64 0, .int .i64 a, .int .i64 b, .int .i64 n, .slice none 0 0]) (results_cell_row Tryd.results75 _ _ (w.heap.size + 1) _ _ _ _ rfl (Xj ((Zh (by omega)).trans ((Zh (by omega)).trans ((Zh (by omega)).trans k1.out))) _ _ _ _ _ _) Tryd.underlying44 rfl (by kernel_rfl)) rfl ⟨rfl, Z7 (((hq.out.setCell (p := ⟨w.heap.size + 1 + 1, 2, none⟩) (by show w.heap.size ≤ w.heap.size + 1 + 1; omega) _).setCell (p := ⟨w.heap.size + 1 + 1, 3, none⟩) (by show w.heap.size ≤ w.heap.size + 1 + 1; omega) _).setCell (p := ⟨w.heap.size + 1 + 1, 4, none⟩) (by show w.heap.size ≤ w.heap.size + 1 + 1; omega) _) (by omega) _ _ _ _ _ _⟩
theorem kept_o7 (r a b n : Int) (aa : Option Addr) (acap : Nat) (args : List Int) (w : World) :
 Calls Tryd.prog 75 #[(⟨7, r, a, b, n, aa, acap, args⟩ : Ins).val] w fun e w' => e = .returned (.agg ⟨(Q3 (⟨7, r, a, b, n, aa, acap, args⟩ : Ins)).vals⟩) ∧ Below w.heap.size w w' := by
 have hk : Q3 (⟨7, r, a, b, n, aa, acap, args⟩ : Ins) = ⟨7, 0, 0, 0, n, none, 0, []⟩ := rfl
 rw [hk]
 clear hk
 have hw := Lh (fun V => Q5 (⟨7, r, a, b, n, aa, acap, args⟩ : Ins) V)
 obtain ⟨g0, g1, g2⟩ := ins3 w (.cells ⟨(⟨7, r, a, b, n, aa, acap, args⟩ : Ins).vals⟩ 44) (.cells #[.int .u8 0, .int .i64 0, .int .i64 0, .int .i64 0, .int .i64 0, .slice none 0 0] 44) (.cells #[.int .u8 7, .int .i64 0, .int .i64 0, .int .i64 0, .int .i64 0, .slice none 0 0] 44)
 have hst := Lh (Qs w (.cells ⟨(⟨7, r, a, b, n, aa, acap, args⟩ : Ins).vals⟩ 44) (.cells #[.int .u8 0, .int .i64 0, .int .i64 0, .int .i64 0, .int .i64 0, .slice none 0 0] 44) (.cells #[.int .u8 7, .int .i64 0, .int .i64 0, .int .i64 0, .int .i64 0, .slice none 0 0] 44))
 replace g0 := Lh g0
 replace g1 := Lh g1
 replace g2 := Lh g2
 go_enter Tryd.func75, Tryd.ntmps75
 go_wp2_with fail
 refine (hw.out _).mono ?_
 rintro e w1 ⟨rfl, hb⟩
 have hs1 : w.heap.size + 3 ≤ w1.heap.size := by have := hb.size; simp at this; omega
 have hl0 : w.heap.size < w1.heap.size := by omega
 have hl1 : w.heap.size + 1 < w1.heap.size := by omega
 have hl2 : w.heap.size + 1 + 1 < w1.heap.size := by omega
 have k0 : w1.heap[w.heap.size]? = _ := (hb.block _ (by first | (simp; done) | (simp; omega))).trans g0.out
 have k1 : w1.heap[w.heap.size + 1]? = _ := (hb.block _ (by first | (simp; done) | (simp; omega))).trans g1.out
 have k2 : w1.heap[w.heap.size + 1 + 1]? = _ := (hb.block _ (by first | (simp; done) | (simp; omega))).trans g2.out
 obtain ⟨q0, q1, q2, q3, q4, q5⟩ := Qm (i := (⟨7, r, a, b, n, aa, acap, args⟩ : Ins)) (Q0 (t := 44) k0)
 obtain ⟨z0, z1, z2, z3, z4, z5⟩ := Qm (i := ⟨7, 0, 0, 0, 0, none, 0, []⟩) (Q0 (t := 44) k2)
 have x0 := Qd k2 0
 have x1 := Qd k2 1
 have x2 := Qd k2 2
 have x3 := Qd k2 3
 have x4 := Qd k2 4
 have x5 := Qd k2 5
 obtain ⟨y0, y1, y2, y3, y4, y5⟩ := Qm (i := ⟨0, 0, 0, 0, 0, none, 0, []⟩) (Q0 (t := 44) k1)
 have u0 := Qd k1 0
 have u1 := Qd k1 1
 have u2 := Qd k1 2
 have u3 := Qd k1 3
 have u4 := Qd k1 4
 have u5 := Qd k1 5
 have hq := Lh (hst.out.trans (hb.mono hst.out.size))
 replace k1 := Lh k1
 clear hb k0 k2 g0 g1 g2
 go_wp2_with fail
 exact bodyPost_ret (v := .agg #[.int .u8 7, .int .i64 0, .int .i64 0, .int .i64 0, .int .i64 n, .slice none 0 0]) (results_cell_row Tryd.results75 _ _ (w.heap.size + 1) _ _ _ _ rfl (Xj ((Zh (by omega)).trans k1.out) _ _ _ _ _ _) Tryd.underlying44 rfl (by kernel_rfl)) rfl ⟨rfl, Z7 (hq.out.setCell (p := ⟨w.heap.size + 1 + 1, 4, none⟩) (by show w.heap.size ≤ w.heap.size + 1 + 1; omega) _) (by omega) _ _ _ _ _ _⟩
theorem kept_o8 (r a b n : Int) (aa : Option Addr) (acap : Nat) (args : List Int) (w : World) :
 Calls Tryd.prog 75 #[(⟨8, r, a, b, n, aa, acap, args⟩ : Ins).val] w fun e w' => e = .returned (.agg ⟨(Q3 (⟨8, r, a, b, n, aa, acap, args⟩ : Ins)).vals⟩) ∧ Below w.heap.size w w' := by
 have hk : Q3 (⟨8, r, a, b, n, aa, acap, args⟩ : Ins) = ⟨8, 0, 0, 0, n, none, 0, []⟩ := rfl
 rw [hk]
 clear hk
 have hw := Lh (fun V => Q5 (⟨8, r, a, b, n, aa, acap, args⟩ : Ins) V)
 obtain ⟨g0, g1, g2⟩ := ins3 w (.cells ⟨(⟨8, r, a, b, n, aa, acap, args⟩ : Ins).vals⟩ 44) (.cells #[.int .u8 0, .int .i64 0, .int .i64 0, .int .i64 0, .int .i64 0, .slice none 0 0] 44) (.cells #[.int .u8 8, .int .i64 0, .int .i64 0, .int .i64 0, .int .i64 0, .slice none 0 0] 44)
 have hst := Lh (Qs w (.cells ⟨(⟨8, r, a, b, n, aa, acap, args⟩ : Ins).vals⟩ 44) (.cells #[.int .u8 0, .int .i64 0, .int .i64 0, .int .i64 0, .int .i64 0, .slice none 0 0] 44) (.cells #[.int .u8 8, .int .i64 0, .int .i64 0, .int .i64 0, .int .i64 0, .slice none 0 0] 44))
 replace g0 := Lh g0
 replace g1 := Lh g1
 replace g2 := Lh g2
 go_enter Tryd.func75, Tryd.ntmps75
 go_wp2_with fail
 refine (hw.out _).mono ?_
 rintro e w1 ⟨rfl, hb⟩
 have hs1 : w.heap.size + 3 ≤ w1.heap.size := by have := hb.size; simp at this; omega
 have hl0 : w.heap.size < w1.heap.size := by omega
 have hl1 : w.heap.size + 1 < w1.heap.size := by omega
 have hl2 : w.heap.size + 1 + 1 < w1.heap.size := by omega
 have k0 : w1.heap[w.heap.size]? = _ := (hb.block _ (by first | (simp; done) | (simp; omega))).trans g0.out
 have k1 : w1.heap[w.heap.size + 1]? = _ := (hb.block _ (by first | (simp; done) | (simp; omega))).trans g1.out
 have k2 : w1.heap[w.heap.size + 1 + 1]? = _ := (hb.block _ (by first | (simp; done) | (simp; omega))).trans g2.out
 obtain ⟨q0, q1, q2, q3, q4, q5⟩ := Qm (i := (⟨8, r, a, b, n, aa, acap, args⟩ : Ins)) (Q0 (t := 44) k0)
 obtain ⟨z0, z1, z2, z3, z4, z5⟩ := Qm (i := ⟨8, 0, 0, 0, 0, none, 0, []⟩) (Q0 (t := 44) k2)
 have x0 := Qd k2 0
 have x1 := Qd k2 1
 have x2 := Qd k2 2
 have x3 := Qd k2 3
 have x4 := Qd k2 4
 have x5 := Qd k2 5
 obtain ⟨y0, y1, y2, y3, y4, y5⟩ := Qm (i := ⟨0, 0, 0, 0, 0, none, 0, []⟩) (Q0 (t := 44) k1)
 have u0 := Qd k1 0
 have u1 := Qd k1 1
 have u2 := Qd k1 2
 have u3 := Qd k1 3
 have u4 := Qd k1 4
 have u5 := Qd k1 5
 have hq := Lh (hst.out.trans (hb.mono hst.out.size))
 replace k1 := Lh k1
 clear hb k0 k2 g0 g1 g2
 go_wp2_with fail
 exact bodyPost_ret (v := .agg #[.int .u8 8, .int .i64 0, .int .i64 0, .int .i64 0, .int .i64 n, .slice none 0 0]) (results_cell_row Tryd.results75 _ _ (w.heap.size + 1) _ _ _ _ rfl (Xj ((Zh (by omega)).trans k1.out) _ _ _ _ _ _) Tryd.underlying44 rfl (by kernel_rfl)) rfl ⟨rfl, Z7 (hq.out.setCell (p := ⟨w.heap.size + 1 + 1, 4, none⟩) (by show w.heap.size ≤ w.heap.size + 1 + 1; omega) _) (by omega) _ _ _ _ _ _⟩
theorem kept_o9 (r a b n : Int) (aa : Option Addr) (acap : Nat) (args : List Int) (w : World) :
 Calls Tryd.prog 75 #[(⟨9, r, a, b, n, aa, acap, args⟩ : Ins).val] w fun e w' => e = .returned (.agg ⟨(Q3 (⟨9, r, a, b, n, aa, acap, args⟩ : Ins)).vals⟩) ∧ Below w.heap.size w w' := by
 have hk : Q3 (⟨9, r, a, b, n, aa, acap, args⟩ : Ins) = ⟨9, 0, a, 0, 0, none, 0, []⟩ := rfl
 rw [hk]
 clear hk
 have hw := Lh (fun V => Q5 (⟨9, r, a, b, n, aa, acap, args⟩ : Ins) V)
 obtain ⟨g0, g1, g2⟩ := ins3 w (.cells ⟨(⟨9, r, a, b, n, aa, acap, args⟩ : Ins).vals⟩ 44) (.cells #[.int .u8 0, .int .i64 0, .int .i64 0, .int .i64 0, .int .i64 0, .slice none 0 0] 44) (.cells #[.int .u8 9, .int .i64 0, .int .i64 0, .int .i64 0, .int .i64 0, .slice none 0 0] 44)
 have hst := Lh (Qs w (.cells ⟨(⟨9, r, a, b, n, aa, acap, args⟩ : Ins).vals⟩ 44) (.cells #[.int .u8 0, .int .i64 0, .int .i64 0, .int .i64 0, .int .i64 0, .slice none 0 0] 44) (.cells #[.int .u8 9, .int .i64 0, .int .i64 0, .int .i64 0, .int .i64 0, .slice none 0 0] 44))
 replace g0 := Lh g0
 replace g1 := Lh g1
 replace g2 := Lh g2
 go_enter Tryd.func75, Tryd.ntmps75
 go_wp2_with fail
 refine (hw.out _).mono ?_
 rintro e w1 ⟨rfl, hb⟩
 have hs1 : w.heap.size + 3 ≤ w1.heap.size := by have := hb.size; simp at this; omega
 have hl0 : w.heap.size < w1.heap.size := by omega
 have hl1 : w.heap.size + 1 < w1.heap.size := by omega
 have hl2 : w.heap.size + 1 + 1 < w1.heap.size := by omega
 have k0 : w1.heap[w.heap.size]? = _ := (hb.block _ (by first | (simp; done) | (simp; omega))).trans g0.out
 have k1 : w1.heap[w.heap.size + 1]? = _ := (hb.block _ (by first | (simp; done) | (simp; omega))).trans g1.out
 have k2 : w1.heap[w.heap.size + 1 + 1]? = _ := (hb.block _ (by first | (simp; done) | (simp; omega))).trans g2.out
 obtain ⟨q0, q1, q2, q3, q4, q5⟩ := Qm (i := (⟨9, r, a, b, n, aa, acap, args⟩ : Ins)) (Q0 (t := 44) k0)
 obtain ⟨z0, z1, z2, z3, z4, z5⟩ := Qm (i := ⟨9, 0, 0, 0, 0, none, 0, []⟩) (Q0 (t := 44) k2)
 have x0 := Qd k2 0
 have x1 := Qd k2 1
 have x2 := Qd k2 2
 have x3 := Qd k2 3
 have x4 := Qd k2 4
 have x5 := Qd k2 5
 obtain ⟨y0, y1, y2, y3, y4, y5⟩ := Qm (i := ⟨0, 0, 0, 0, 0, none, 0, []⟩) (Q0 (t := 44) k1)
 have u0 := Qd k1 0
 have u1 := Qd k1 1
 have u2 := Qd k1 2
 have u3 := Qd k1 3
 have u4 := Qd k1 4
 have u5 := Qd k1 5
 have hq := Lh (hst.out.trans (hb.mono hst.out.size))
 replace k1 := Lh k1
 clear hb k0 k2 g0 g1 g2
 go_wp2_with fail
 exact bodyPost_ret (v := .agg #[.int .u8 9, .int .i64 0, .int .i64 a, .int .i64 0, .int .i64 0, .slice none 0 0]) (results_cell_row Tryd.results75 _ _ (w.heap.size + 1) _ _ _ _ rfl (Xj ((Zh (by omega)).trans k1.out) _ _ _ _ _ _) Tryd.underlying44 rfl (by kernel_rfl)) rfl ⟨rfl, Z7 (hq.out.setCell (p := ⟨w.heap.size + 1 + 1, 2, none⟩) (by show w.heap.size ≤ w.heap.size + 1 + 1; omega) _) (by omega) _ _ _ _ _ _⟩
theorem kept_o10 (r a b n : Int) (aa : Option Addr) (acap : Nat) (args : List Int) (w : World) :
 Calls Tryd.prog 75 #[(⟨10, r, a, b, n, aa, acap, args⟩ : Ins).val] w fun e w' => e = .returned (.agg ⟨(Q3 (⟨10, r, a, b, n, aa, acap, args⟩ : Ins)).vals⟩) ∧ Below w.heap.size w w' := by
 have hk : Q3 (⟨10, r, a, b, n, aa, acap, args⟩ : Ins) = ⟨10, r, 0, 0, n, aa, acap, args⟩ := rfl
 rw [hk]
 clear hk
 have hw := Lh (fun V => Q5 (⟨10, r, a, b, n, aa, acap, args⟩ : Ins) V)
 obtain ⟨g0, g1, g2⟩ := ins3 w (.cells ⟨(⟨10, r, a, b, n, aa, acap, args⟩ : Ins).vals⟩ 44) (.cells #[.int .u8 0, .int .i64 0, .int .i64 0, .int .i64 0, .int .i64 0, .slice none 0 0] 44) (.cells #[.int .u8 10, .int .i64 0, .int .i64 0, .int .i64 0, .int .i64 0, .slice none 0 0] 44)
 have hst := Lh (Qs w (.cells ⟨(⟨10, r, a, b, n, aa, acap, args⟩ : Ins).vals⟩ 44) (.cells #[.int .u8 0, .int .i64 0, .int .i64 0, .int .i64 0, .int .i64 0, .slice none 0 0] 44) (.cells #[.int .u8 10, .int .i64 0, .int .i64 0, .int .i64 0, .int .i64 0, .slice none 0 0] 44))
 replace g0 := Lh g0
 replace g1 := Lh g1
 replace g2 := Lh g2
 go_enter Tryd.func75, Tryd.ntmps75
 go_wp2_with fail
 refine (hw.out _).mono ?_
 rintro e w1 ⟨rfl, hb⟩
 have hs1 : w.heap.size + 3 ≤ w1.heap.size := by have := hb.size; simp at this; omega
 have hl0 : w.heap.size < w1.heap.size := by omega
 have hl1 : w.heap.size + 1 < w1.heap.size := by omega
 have hl2 : w.heap.size + 1 + 1 < w1.heap.size := by omega
 have k0 : w1.heap[w.heap.size]? = _ := (hb.block _ (by first | (simp; done) | (simp; omega))).trans g0.out
 have k1 : w1.heap[w.heap.size + 1]? = _ := (hb.block _ (by first | (simp; done) | (simp; omega))).trans g1.out
 have k2 : w1.heap[w.heap.size + 1 + 1]? = _ := (hb.block _ (by first | (simp; done) | (simp; omega))).trans g2.out
 obtain ⟨q0, q1, q2, q3, q4, q5⟩ := Qm (i := (⟨10, r, a, b, n, aa, acap, args⟩ : Ins)) (Q0 (t := 44) k0)
 obtain ⟨z0, z1, z2, z3, z4, z5⟩ := Qm (i := ⟨10, 0, 0, 0, 0, none, 0, []⟩) (Q0 (t := 44) k2)
 have x0 := Qd k2 0
 have x1 := Qd k2 1
 have x2 := Qd k2 2
 have x3 := Qd k2 3
 have x4 := Qd k2 4
 have x5 := Qd k2 5
 obtain ⟨y0, y1, y2, y3, y4, y5⟩ := Qm (i := ⟨0, 0, 0, 0, 0, none, 0, []⟩) (Q0 (t := 44) k1)
 have u0 := Qd k1 0
 have u1 := Qd k1 1
 have u2 := Qd k1 2
 have u3 := Qd k1 3
 have u4 := Qd k1 4
 have u5 := Qd k1 5
 have hq := Lh (hst.out.trans (hb.mono hst.out.size))
 replace k1 := Lh k1
 clear hb k0 k2 g0 g1 g2
 go_wp2_with fail
 exact bodyPost_ret (v := .agg #[.int .u8 10, .int .i64 r, .int .i64 0, .int .i64 0, .int .i64 n, .slice aa args.length acap]) (results_cell_row Tryd.results75 _ _ (w.heap.size + 1) _ _ _ _ rfl (Xj ((Zh (by omega)).trans ((Zh (by omega)).trans ((Zh (by omega)).trans k1.out))) _ _ _ _ _ _) Tryd.underlying44 rfl (by kernel_rfl)) rfl ⟨rfl, Z7 (((hq.out.setCell (p := ⟨w.heap.size + 1 + 1, 1, none⟩) (by show w.heap.size ≤ w.heap.size + 1 + 1; omega) _).setCell (p := ⟨w.heap.size + 1 + 1, 4, none⟩) (by show w.heap.size ≤ w.heap.size + 1 + 1; omega) _).setCell (p := ⟨w.heap.size + 1 + 1, 5, none⟩) (by show w.heap.size ≤ w.heap.size + 1 + 1; omega) _) (by omega) _ _ _ _ _ _⟩
theorem kept_o11 (r a b n : Int) (aa : Option Addr) (acap : Nat) (args : List Int) (w : World) :
 Calls Tryd.prog 75 #[(⟨11, r, a, b, n, aa, acap, args⟩ : Ins).val] w fun e w' => e = .returned (.agg ⟨(Q3 (⟨11, r, a, b, n, aa, acap, args⟩ : Ins)).vals⟩) ∧ Below w.heap.size w w' := by
 have hk : Q3 (⟨11, r, a, b, n, aa, acap, args⟩ : Ins) = ⟨11, 0, 0, 0, n, none, 0, []⟩ := rfl
 rw [hk]
 clear hk
 have hw := Lh (fun V => Q5 (⟨11, r, a, b, n, aa, acap, args⟩ : Ins) V)
 obtain ⟨g0, g1, g2⟩ := ins3 w (.cells ⟨(⟨11, r, a, b, n, aa, acap, args⟩ : Ins).vals⟩ 44) (.cells #[.int .u8 0, .int .i64 0, .int .i64 0, .int .i64 0, .int .i64 0, .slice none 0 0] 44) (.cells #[.int .u8 11, .int .i64 0, .int .i64 0, .int .i64 0, .int .i64 0, .slice none 0 0] 44)
 have hst := Lh (Qs w (.cells ⟨(⟨11, r, a, b, n, aa, acap, args⟩ : Ins).vals⟩ 44) (.cells #[.int .u8 0, .int .i64 0, .int .i64 0, .int .i64 0, .int .i64 0, .slice none 0 0] 44) (.cells #[.int .u8 11, .int .i64 0, .int .i64 0, .int .i64 0, .int .i64 0, .slice none 0 0] 44))
 replace g0 := Lh g0
 replace g1 := Lh g1
 replace g2 := Lh g2
 go_enter Tryd.func75, Tryd.ntmps75
 go_wp2_with fail
 refine (hw.out _).mono ?_
 rintro e w1 ⟨rfl, hb⟩
 have hs1 : w.heap.size + 3 ≤ w1.heap.size := by have := hb.size; simp at this; omega
 have hl0 : w.heap.size < w1.heap.size := by omega
 have hl1 : w.heap.size + 1 < w1.heap.size := by omega
 have hl2 : w.heap.size + 1 + 1 < w1.heap.size := by omega
 have k0 : w1.heap[w.heap.size]? = _ := (hb.block _ (by first | (simp; done) | (simp; omega))).trans g0.out
 have k1 : w1.heap[w.heap.size + 1]? = _ := (hb.block _ (by first | (simp; done) | (simp; omega))).trans g1.out
 have k2 : w1.heap[w.heap.size + 1 + 1]? = _ := (hb.block _ (by first | (simp; done) | (simp; omega))).trans g2.out
 obtain ⟨q0, q1, q2, q3, q4, q5⟩ := Qm (i := (⟨11, r, a, b, n, aa, acap, args⟩ : Ins)) (Q0 (t := 44) k0)
 obtain ⟨z0, z1, z2, z3, z4, z5⟩ := Qm (i := ⟨11, 0, 0, 0, 0, none, 0, []⟩) (Q0 (t := 44) k2)
 have x0 := Qd k2 0
 have x1 := Qd k2 1
 have x2 := Qd k2 2
 have x3 := Qd k2 3
 have x4 := Qd k2 4
 have x5 := Qd k2 5
 obtain ⟨y0, y1, y2, y3, y4, y5⟩ := Qm (i := ⟨0, 0, 0, 0, 0, none, 0, []⟩) (Q0 (t := 44) k1)
 have u0 := Qd k1 0
 have u1 := Qd k1 1
 have u2 := Qd k1 2
 have u3 := Qd k1 3
 have u4 := Qd k1 4
 have u5 := Qd k1 5
 have hq := Lh (hst.out.trans (hb.mono hst.out.size))
 replace k1 := Lh k1
 clear hb k0 k2 g0 g1 g2
 go_wp2_with fail
 exact bodyPost_ret (v := .agg #[.int .u8 11, .int .i64 0, .int .i64 0, .int .i64 0, .int .i64 n, .slice none 0 0]) (results_cell_row Tryd.results75 _ _ (w.heap.size + 1) _ _ _ _ rfl (Xj ((Zh (by omega)).trans k1.out) _ _ _ _ _ _) Tryd.underlying44 rfl (by kernel_rfl)) rfl ⟨rfl, Z7 (hq.out.setCell (p := ⟨w.heap.size + 1 + 1, 4, none⟩) (by show w.heap.size ≤ w.heap.size + 1 + 1; omega) _) (by omega) _ _ _ _ _ _⟩
theorem kept_o12 (r a b n : Int) (aa : Option Addr) (acap : Nat) (args : List Int) (w : World) :
 Calls Tryd.prog 75 #[(⟨12, r, a, b, n, aa, acap, args⟩ : Ins).val] w fun e w' => e = .returned (.agg ⟨(Q3 (⟨12, r, a, b, n, aa, acap, args⟩ : Ins)).vals⟩) ∧ Below w.heap.size w w' := by
 have hk : Q3 (⟨12, r, a, b, n, aa, acap, args⟩ : Ins) = ⟨12, 0, a, 0, n, none, 0, []⟩ := rfl
 rw [hk]
 clear hk
 have hw := Lh (fun V => Q5 (⟨12, r, a, b, n, aa, acap, args⟩ : Ins) V)
 obtain ⟨g0, g1, g2⟩ := ins3 w (.cells ⟨(⟨12, r, a, b, n, aa, acap, args⟩ : Ins).vals⟩ 44) (.cells #[.int .u8 0, .int .i64 0, .int .i64 0, .int .i64 0, .int .i64 0, .slice none 0 0] 44) (.cells #[.int .u8 12, .int .i64 0, .int .i64 0, .int .i64 0, .int .i64 0, .slice none 0 0] 44)
 have hst := Lh (Qs w (.cells ⟨(⟨12, r, a, b, n, aa, acap, args⟩ : Ins).vals⟩ 44) (.cells #[.int .u8 0, .int .i64 0, .int .i64 0, .int .i64 0, .int .i64 0, .slice none 0 0] 44) (.cells #[.int .u8 12, .int .i64 0, .int .i64 0, .int .i64 0, .int .i64 0, .slice none 0 0] 44))
 replace g0 := Lh g0
 replace g1 := Lh g1
 replace g2 := Lh g2
 go_enter Tryd.func75, Tryd.ntmps75
 go_wp2_with fail
 refine (hw.out _).mono ?_
 rintro e w1 ⟨rfl, hb⟩
 have hs1 : w.heap.size + 3 ≤ w1.heap.size := by have := hb.size; simp at this; omega
 have hl0 : w.heap.size < w1.heap.size := by omega
 have hl1 : w.heap.size + 1 < w1.heap.size := by omega
 have hl2 : w.heap.size + 1 + 1 < w1.heap.size := by omega
 have k0 : w1.heap[w.heap.size]? = _ := (hb.block _ (by first | (simp; done) | (simp; omega))).trans g0.out
 have k1 : w1.heap[w.heap.size + 1]? = _ := (hb.block _ (by first | (simp; done) | (simp; omega))).trans g1.out
 have k2 : w1.heap[w.heap.size + 1 + 1]? = _ := (hb.block _ (by first | (simp; done) | (simp; omega))).trans g2.out
 obtain ⟨q0, q1, q2, q3, q4, q5⟩ := Qm (i := (⟨12, r, a, b, n, aa, acap, args⟩ : Ins)) (Q0 (t := 44) k0)
 obtain ⟨z0, z1, z2, z3, z4, z5⟩ := Qm (i := ⟨12, 0, 0, 0, 0, none, 0, []⟩) (Q0 (t := 44) k2)
 have x0 := Qd k2 0
 have x1 := Qd k2 1
 have x2 := Qd k2 2
 have x3 := Qd k2 3
 have x4 := Qd k2 4
 have x5 := Qd k2 5
 obtain ⟨y0, y1, y2, y3, y4, y5⟩ := Qm (i := ⟨0, 0, 0, 0, 0, none, 0, []⟩) (Q0 (t := 44) k1)
 have u0 := Qd k1 0
 have u1 := Qd k1 1
 have u2 := Qd k1 2
 have u3 := Qd k1 3
 have u4 := Qd k1 4
 have u5 := Qd k1 5
 have hq := Lh (hst.out.trans (hb.mono hst.out.size))
 replace k1 := Lh k1
 clear hb k0 k2 g0 g1 g2
 go_wp2_with fail
 exact bodyPost_ret (v := .agg #[.int .u8 12, .int .i64 0, .int .i64 a, .int .i64 0, .int .i64 n, .slice none 0 0]) (results_cell_row Tryd.results75 _ _ (w.heap.size + 1) _ _ _ _ rfl (Xj ((Zh (by omega)).trans ((Zh (by omega)).trans k1.out)) _ _ _ _ _ _) Tryd.underlying44 rfl (by kernel_rfl)) rfl ⟨rfl, Z7 ((hq.out.setCell (p := ⟨w.heap.size + 1 + 1, 2, none⟩) (by show w.heap.size ≤ w.heap.size + 1 + 1; omega) _).setCell (p := ⟨w.heap.size + 1 + 1, 4, none⟩) (by show w.heap.size ≤ w.heap.size + 1 + 1; omega) _) (by omega) _ _ _ _ _ _⟩
theorem kept_o13 (r a b n : Int) (aa : Option Addr) (acap : Nat) (args : List Int) (w : World) :
 Calls Tryd.prog 75 #[(⟨13, r, a, b, n, aa, acap, args⟩ : Ins).val] w fun e w' => e = .returned (.agg ⟨(Q3 (⟨13, r, a, b, n, aa, acap, args⟩ : Ins)).vals⟩) ∧ Below w.heap.size w w' := by
 have hk : Q3 (⟨13, r, a, b, n, aa, acap, args⟩ : Ins) = ⟨13, 0, a, 0, 0, none, 0, []⟩ := rfl
 rw [hk]
 clear hk
 have hw := Lh (fun V => Q5 (⟨13, r, a, b, n, aa, acap, args⟩ : Ins) V)
 obtain ⟨g0, g1, g2⟩ := ins3 w (.cells ⟨(⟨13, r, a, b, n, aa, acap, args⟩ : Ins).vals⟩ 44) (.cells #[.int .u8 0, .int .i64 0, .int .i64 0, .int .i64 0, .int .i64 0, .slice none 0 0] 44) (.cells #[.int .u8 13, .int .i64 0, .int .i64 0, .int .i64 0, .int .i64 0, .slice none 0 0] 44)
 have hst := Lh (Qs w (.cells ⟨(⟨13, r, a, b, n, aa, acap, args⟩ : Ins).vals⟩ 44) (.cells #[.int .u8 0, .int .i64 0, .int .i64 0, .int .i64 0, .int .i64 0, .slice none 0 0] 44) (.cells #[.int .u8 13, .int .i64 0, .int .i64 0, .int .i64 0, .int .i64 0, .slice none 0 0] 44))
 replace g0 := Lh g0
 replace g1 := Lh g1
 replace g2 := Lh g2
 go_enter Tryd.func75, Tryd.ntmps75
 go_wp2_with fail
 refine (hw.out _).mono ?_
 rintro e w1 ⟨rfl, hb⟩
 have hs1 : w.heap.size + 3 ≤ w1.heap.size := by have := hb.size; simp at this; omega
 have hl0 : w.heap.size < w1.heap.size := by omega
 have hl1 : w.heap.size + 1 < w1.heap.size := by omega
 have hl2 : w.heap.size + 1 + 1 < w1.heap.size := by omega
 have k0 : w1.heap[w.heap.size]? = _ := (hb.block _ (by first | (simp; done) | (simp; omega))).trans g0.out
 have k1 : w1.heap[w.heap.size + 1]? = _ := (hb.block _ (by first | (simp; done) | (simp; omega))).trans g1.out
 have k2 : w1.heap[w.heap.size + 1 + 1]? = _ := (hb.block _ (by first | (simp; done) | (simp; omega))).trans g2.out
 obtain ⟨q0, q1, q2, q3, q4, q5⟩ := Qm (i := (⟨13, r, a, b, n, aa, acap, args⟩ : Ins)) (Q0 (t := 44) k0)
 obtain ⟨z0, z1, z2, z3, z4, z5⟩ := Qm (i := ⟨13, 0, 0, 0, 0, none, 0, []⟩) (Q0 (t := 44) k2)
 have x0 := Qd k2 0
 have x1 := Qd k2 1
 have x2 := Qd k2 2
 have x3 := Qd k2 3
 have x4 := Qd k2 4
 have x5 := Qd k2 5
 obtain ⟨y0, y1, y2, y3, y4, y5⟩ := Qm (i := ⟨0, 0, 0, 0, 0, none, 0, []⟩) (Q0 (t := 44) k1)
 have u0 := Qd k1 0
 have u1 := Qd k1 1
 have u2 := Qd k1 2
 have u3 := Qd k1 3
 have u4 := Qd k1 4
 have u5 := Qd k1 5
 have hq := Lh (hst.out.trans (hb.mono hst.out.size))
 replace k1 := Lh k1
 clear hb k0 k2 g0 g1 g2
 go_wp2_with fail
 exact bodyPost_ret (v := .agg #[.int .u8 13, .int .i64 0, .int .i64 a, .int .i64 0, .int .i64 0, .slice none 0 0]) (results_cell_row Tryd.results75 _ _ (w.heap.size + 1) _ _ _ _ rfl (Xj ((Zh (by omega)).trans k1.out) _ _ _ _ _ _) Tryd.underlying44 rfl (by kernel_rfl)) rfl ⟨rfl, Z7 (hq.out.setCell (p := ⟨w.heap.size + 1 + 1, 2, none⟩) (by show w.heap.size ≤ w.heap.size + 1 + 1; omega) _) (by omega) _ _ _ _ _ _⟩
theorem Xu (i : Ins) (w : World) (h : Zf i.op = true) :
 Calls Tryd.prog 75 #[i.val] w fun e w' => e = .returned (.agg ⟨(Q3 i).vals⟩) ∧ Below w.heap.size w w' := by
 obtain ⟨op, r, a, b, n, aa, acap, args⟩ := i
 simp only [Zf, Bool.and_eq_true, decide_eq_true_eq] at h
 have h' : op = 1 ∨ op = 2 ∨ op = 3 ∨ op = 4 ∨ op = 5 ∨ op = 6 ∨ op = 7 ∨ op = 8 ∨ op = 9 ∨ op = 10 ∨ op = 11 ∨ op = 12 ∨ op = 13 := by omega
 rcases h' with rfl | rfl | rfl | rfl | rfl | rfl | rfl | rfl | rfl | rfl | rfl | rfl | rfl
 · exact kept_o1 r a b n aa acap args w
 · exact kept_o2 r a b n aa acap args w
 · exact kept_o3 r a b n aa acap args w
 · exact kept_o4 r a b n aa acap args w
 · exact kept_o5 r a b n aa acap args w
 · exact kept_o6 r a b n aa acap args w
 · exact kept_o7 r a b n aa acap args w
 · exact kept_o8 r a b n aa acap args w
 · exact kept_o9 r a b n aa acap args w
 · exact kept_o10 r a b n aa acap args w
 · exact kept_o11 r a b n aa acap args w
 · exact kept_o12 r a b n aa acap args w
 · exact kept_o13 r a b n aa acap args w
end Go.Proofs.YthiiahlgncngoaaDoorRR.Cd
