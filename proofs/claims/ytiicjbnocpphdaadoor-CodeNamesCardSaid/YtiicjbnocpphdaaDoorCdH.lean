/- Walk of the iterator of code.registers, and of code.MayIns. Conditions: the package's table holds its list; the program lies in memory. -/
import Derived.Test.YtiicjbnocpphdaaDoorCdF
namespace Go.Proofs.YtiicjbnocpphdaaDoor.Cd
open Go Go.RowKit Go.Shelf
open Go.Proofs.YtiicjbnocpphdaaDoor.Lx Go.Proofs.YtiicjbnocpphdaaDoor.Tr Go.Proofs.YtiicjbnocpphdaaDoor.Rg
attribute [local go_sem] Oper.semAt_some

theorem kall_of {A B : World} (h : Below A.heap.size A B) : Kps (fun _ => True) A B := Kps.of_below h
theorem box_new (W : World) (vs : List Value) (t : TypeId) : ∀ j u, vs[j]? = some u → (W.alloc (.cells ⟨vs⟩ t)).cell? ⟨W.heap.size, j, none⟩ = some u := by
  intro j u hu
  have h : (W.alloc (.cells ⟨vs⟩ t)).heap[W.heap.size]? = some (.cells ⟨vs⟩ t (0, 0)) := World.alloc_heap_new W _
  simp only [World.cell?, h]
  simpa using hu
theorem ins_cells {W : World} {bx : Nat} {i : Ins} (h : ∀ j u, i.vals[j]? = some u → W.cell? ⟨bx, j, none⟩ = some u) : W.cell? ⟨bx, 0, none⟩ = some (.int .u8 i.op) ∧ W.cell? ⟨bx, 1, none⟩ = some (.int .i64 i.r) ∧ W.cell? ⟨bx, 2, none⟩ = some (.int .i64 i.a) ∧ W.cell? ⟨bx, 3, none⟩ = some (.int .i64 i.b) ∧ W.cell? ⟨bx, 4, none⟩ = some (.int .i64 i.n) ∧ W.cell? ⟨bx, 5, none⟩ = some (.slice i.aa i.args.length i.acap) := ⟨h _ _ rfl, h _ _ rfl, h _ _ rfl, h _ _ rfl, h _ _ rfl, h _ _ rfl⟩
/-- the second half: the registers that are read, behind those that were told -/
theorem rest_in (l n : Nat) (i : Ins) (q : List Int) (J Jx : List Int → World → Prop) (W : World) (hrow : RowAt W (fun _ => True) i.aa i.acap i.args.length (numCells i.args)) (hi : U8 i.op) (hT : OpTab W)
    (hY : Yld l (fun x : Int => #[.int .i64 x]) J Jx (Kps (fun _ => True)) (q ++ rdP i).length) (hJb : ∀ pre W1 W2, J pre W1 → Below W1.heap.size W1 W2 → J pre W2) (hJ0 : J q W) :
    CallsIn Fence.wide n Tryd.prog 59 #[.func (.yield l) #[] #[], .pointer (some ⟨W.heap.size, 0, none⟩)] (W.alloc (.cells ⟨i.vals⟩ 31)) fun e' W' => (∃ v, e' = .returned v) ∧
      (J (q ++ rdP i) W' ∨ (∃ pre, pre <+: q ++ rdP i ∧ Jx pre W')) := by
  have hb := b_alloc W (.cells ⟨i.vals⟩ 31)
  refine (read1_any l n W.heap.size i (Kps (fun _ => True)) (fun _ _ => True) (fun pre => J (q ++ pre)) (fun pre => Jx (q ++ pre)) _ ⟨trivial, box_new W i.vals _, hrow.below (kall_of hb)⟩ hi (hT.keep hb) (Sfe.all _)
    (fun m pre x V hJ hl => ?_) (fun pre W1 W2 h hb => hJb _ _ _ h hb) (by rw [List.append_nil]; exact hJb _ _ _ hJ0 hb)).mono ?_
  · have := hY m (q ++ pre) x V hJ (by rw [List.length_append, List.length_append]; omega)
    rwa [List.append_assoc] at this
  · rintro e W' ⟨hv, ⟨xs, rfl, hJ⟩ | ⟨pre, hp, hx⟩⟩
    · exact ⟨hv, .inl hJ⟩
    · exact ⟨hv, .inr ⟨q ++ pre, (List.prefix_append_right_inj q).2 hp, hx⟩⟩

set_option maxRecDepth 100000 in
set_option maxHeartbeats 4000000 in
theorem registers1_in (l n bx : Nat) (i : Ins) (J Jx : List Int → World → Prop) (W : World) (hbx : ∀ j u, i.vals[j]? = some u → W.cell? ⟨bx, j, none⟩ = some u) (hrow : RowAt W (fun _ => True) i.aa i.acap i.args.length (numCells i.args)) (hi : U8 i.op) (hT : OpTab W)
    (hY : Yld l (fun x : Int => #[.int .i64 x]) J Jx (Kps (fun _ => True)) (regsP i).length) (hJb : ∀ pre W1 W2, J pre W1 → Below W1.heap.size W1 W2 → J pre W2) (hJ0 : J [] W) :
    CallsIn Fence.wide n Tryd.prog 48 #[.func (.yield l) #[] #[], .pointer (some ⟨bx, 0, none⟩)] W fun e' W' => (∃ v, e' = .returned v) ∧
      ((∃ xs, xs = regsP i ∧ J xs W') ∨ (∃ pre, pre <+: regsP i ∧ Jx pre W')) := by
  obtain ⟨c0, c1, c2, c3, c4, c5⟩ := ins_cells hbx
  have hw := Lib.hid (writes_any i W hi hT)
  have hread := Lib.hid (fun V => read_any i V)
  unfold regsP at hY ⊢
  unfold wrP at hw
  have hkp := Lib.hid (fun V (k : Kps (fun _ => True) W V) => (⟨fun j u hu => k _ _ _ trivial (hbx j u hu), hrow.below k, hT.kps (S := fun _ => True) trivial k⟩ : (∀ j u, i.vals[j]? = some u → V.cell? ⟨bx, j, none⟩ = some u) ∧ RowAt V (fun _ => True) i.aa i.acap i.args.length (numCells i.args) ∧ OpTab V))
  clear hbx
  generalize hasR i.op = xR at *
  have hrest := Lib.hid (fun (V : World) (q : List Int) (k : Kps (fun _ => True) W V) (hq : q = if xR then [i.r] else []) (hJ : J q V) => rest_in l (n - 1) i q J Jx V (hkp.out V k).2.1 hi (hkp.out V k).2.2 (by rw [hq]; exact hY) hJb hJ)
  clear hrow hT hi
  cases xR
  · simp only [Bool.false_eq_true, if_false, List.nil_append] at hY hrest ⊢
    clear hY
    refine callsIn_of_wp Tryd.func48 rfl trivial ?_ rfl
    simp only [Tryd.ntmps48, List.size_toArray, List.length_cons, List.length_nil, Nat.reduceAdd, Nat.reduceSub, Array.replicate_succ, Array.replicate_zero, List.push_toArray, List.append_toArray, List.nil_append, List.cons_append]
    gi_wp2_with fail
    refine ⟨trivial, fun h => (by cases h), (callsIn_wide.2 hw.out).mono ?_⟩
    rintro e w1 ⟨rfl, hb1⟩
    obtain ⟨hc, hf⟩ := bcell hb1
    have hbl : bx < W.heap.size := World.block_lt_of_cell? _ _ c0
    have hbb := Lib.hid hb1
    have hJ1 := Lib.hid (hJb _ _ _ hJ0 hb1)
    clear hJ0 hb1
    gi_wp2_with fail
    refine ⟨fun f h => (by cases h), ?_⟩
    gi_wp2_with fail
    refine ⟨trivial, fun h => (by cases h), (callsIn_wide.2 (hread.out _)).mono ?_⟩
    rintro e w2 ⟨rfl, rfl⟩
    have hr := Lib.hid (hrest.out w1 [] (kall_of hbb.out) rfl hJ1.out)
    clear hrest hread hkp hw
    gi_wp2_with fail
    refine ⟨trivial, fun h => (by cases h), hr.out.mono ?_⟩
    rintro e w3 ⟨⟨v, rfl⟩, hJ3⟩
    replace hJ3 := Lib.hid hJ3
    gi_wp2_with fail
    go_end0
    refine ⟨⟨_, rfl⟩, ?_⟩
    rcases hJ3.out with h | h
    · exact .inl ⟨_, rfl, h⟩
    · exact .inr h
  · simp only [if_true] at hY hrest hw ⊢
    refine callsIn_of_wp Tryd.func48 rfl trivial ?_ rfl
    simp only [Tryd.ntmps48, List.size_toArray, List.length_cons, List.length_nil, Nat.reduceAdd, Nat.reduceSub, Array.replicate_succ, Array.replicate_zero, List.push_toArray, List.append_toArray, List.nil_append, List.cons_append]
    gi_wp2_with fail
    refine ⟨trivial, fun h => (by cases h), (callsIn_wide.2 hw.out).mono ?_⟩
    rintro e w1 ⟨rfl, hb1⟩
    obtain ⟨hc, hf⟩ := bcell hb1
    have hbl : bx < W.heap.size := World.block_lt_of_cell? _ _ c0
    have hbb := Lib.hid hb1
    have hJ1 := Lib.hid (hJb _ _ _ hJ0 hb1)
    obtain ⟨fn, tmps, assign, body, hy, hR⟩ := hY (n - 1) [] i.r _ hJ1.out (by simp)
    clear hJ0 hb1 hY
    gi_wp2_with fail
    refine ⟨fun h => (by cases h), hR.mono ?_⟩
    clear hR hy
    rintro e W2 (⟨rfl, hJ2, hk2⟩ | ⟨rfl, hx2⟩)
    rotate_left
    · replace hx2 := Lib.hid hx2
      gi_wp2_with fail
      try (refine ⟨fun f h => (by cases h), ?_⟩; gi_wp2_with fail)
      go_end0
      exact ⟨⟨_, rfl⟩, .inr ⟨_, ⟨_, by rfl⟩, hx2.out⟩⟩
    have hk := (kall_of hbb.out).trans hk2
    obtain ⟨d0, d1, d2, d3, d4, d5⟩ := ins_cells (hkp.out _ hk).1
    have hr := Lib.hid (hrest.out W2 [i.r] hk rfl hJ2)
    clear hrest hkp hw hJ2 hk2 hk
    gi_wp2_with fail
    refine ⟨trivial, fun h => (by cases h), (callsIn_wide.2 (hread.out _)).mono ?_⟩
    rintro e w2 ⟨rfl, rfl⟩
    gi_wp2_with fail
    refine ⟨trivial, fun h => (by cases h), hr.out.mono ?_⟩
    rintro e w3 ⟨⟨v, rfl⟩, hJ3⟩
    replace hJ3 := Lib.hid hJ3
    gi_wp2_with fail
    go_end0
    refine ⟨⟨_, rfl⟩, ?_⟩
    rcases hJ3.out with h | h
    · exact .inl ⟨_, rfl, h⟩
    · exact .inr h
end Go.Proofs.YtiicjbnocpphdaaDoor.Cd
