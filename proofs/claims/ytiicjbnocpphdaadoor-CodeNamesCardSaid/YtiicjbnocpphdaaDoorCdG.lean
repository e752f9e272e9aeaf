/- Walk of slices.AppendSeq, slices.Collect and code.Reads. Conditions: the iterator tells a list. -/
import Derived.Test.YtiicjbnocpphdaaDoorCdF
import Derived.Maps.OwnIn
import Derived.Maps.AppendAt
namespace Go.Proofs.YtiicjbnocpphdaaDoor.Cd
open Go Go.RowKit Go.Shelf
open Go.Proofs.YtiicjbnocpphdaaDoor.Lx Go.Proofs.YtiicjbnocpphdaaDoor.Tr Go.Proofs.YtiicjbnocpphdaaDoor.Rg
attribute [local go_sem] Oper.semAt_some

/-- the block of a row that lies in a cell of its own -/
def rowb (B : Nat) (W : World) : Option Nat := (W.cell? ⟨B, 0, none⟩).bind Value.ownBlock
/-- all blocks read on, but the cell's and its row's -/
def Kap (B : Nat) (A C : World) : Prop :=
  A.heap.size ≤ C.heap.size ∧ (∀ b o v, b ≠ B → rowb B A ≠ some b → A.cell? ⟨b, o, none⟩ = some v → C.cell? ⟨b, o, none⟩ = some v) ∧ (∀ k, rowb B C = some k → rowb B A = some k ∨ A.heap.size ≤ k)
theorem Kap.trans {B : Nat} {A C D : World} (h : Kap B A C) (k : Kap B C D) : Kap B A D :=
  ⟨Nat.le_trans h.1 k.1, fun b o v hb hr hc => by
    have hl : b < A.heap.size := World.block_lt_of_cell? _ _ hc
    exact k.2.1 b o v hb (fun e => by
      rcases h.2.2 b e with h2 | h2
      · exact hr h2
      · omega) (h.2.1 b o v hb hr hc),
   fun j hj => by
    rcases k.2.2 j hj with h2 | h2
    · exact h.2.2 j h2
    · exact .inr (Nat.le_trans h.1 h2)⟩
theorem Kap.ceq {B : Nat} {A C : World} (h : Ceq A C) : Kap B A C :=
  ⟨by rw [h.size]; exact Nat.le_refl _, fun b o v _ _ hc => (h.cell _).trans hc, fun k hk => .inl (by unfold rowb at hk ⊢; rwa [h.cell] at hk)⟩
/-- between two rounds: the box holds a slice that owns what has come so far -/
structure Apn (B : Nat) (pre : List Int) (W : World) : Prop where
  lt : B < W.heap.size
  own : ∃ v, W.heap[B]? = some (.cells #[v] 29 (0, 0)) ∧ W.ownsRow (B + 1) 3 1 v pre.length (numCells pre)
def SfA (B : Nat) (W : World) (b : Nat) : Prop := b ≠ B ∧ b < W.heap.size ∧ B < W.heap.size ∧ rowb B W ≠ some b
theorem rowb_of {B : Nat} {W : World} {v : Value} {t : TypeId} (h : W.heap[B]? = some (.cells #[v] t (0, 0))) : rowb B W = v.ownBlock := by
  unfold rowb
  simp [World.cell?, h]
theorem rowb_below {B : Nat} {W W' : World} (hB : B < W.heap.size) (hb : Below W.heap.size W W') : rowb B W' = rowb B W := by
  unfold rowb; rw [hb.cell (p := ⟨B, 0, none⟩) hB]
theorem sfe_app {B : Nat} (J : List Int → World → Prop) (hJ : ∀ pre W, J pre W → Apn B pre W) : Sfe J (Kap B) (SfA B) := by
  have hlt : ∀ pre W k, J pre W → rowb B W = some k → k < W.heap.size := fun pre W k h hk => by
    obtain ⟨_, v, hc, hn⟩ := hJ _ _ h
    rw [rowb_of hc] at hk
    exact (hn.lt k hk).2
  refine ⟨fun W W' b h k => ⟨h.1, Nat.lt_of_lt_of_le h.2.1 k.1, Nat.lt_of_lt_of_le h.2.2.1 k.1, fun e => ?_⟩, fun W W' b o v h k hc => k.2.1 b o v h.1 h.2.2.2 hc, fun pre W W' b h hb hl hl2 => ⟨fun e => ?_, hl2, Nat.lt_of_lt_of_le (hJ _ _ h).lt hb.size, fun e => ?_⟩, fun W W' b h hl hb => ⟨h.1, Nat.lt_of_lt_of_le h.2.1 hb.size, Nat.lt_of_lt_of_le h.2.2.1 hb.size, fun e => ?_⟩⟩
  · rcases k.2.2 b e with h2 | h2
    · exact h.2.2.2 h2
    · have := h.2.1; omega
  · have := (hJ _ _ h).lt; omega
  · rw [rowb_below (hJ _ _ h).lt hb] at e
    have := hlt _ _ _ h e; omega
  · rw [rowb_below h.2.2.1 hb] at e
    exact h.2.2.2 e
theorem Apn.ceb {B : Nat} {pre : List Int} {W W' : World} (h : Apn B pre W) (hc : Ceb W W') : Apn B pre W' := by
  obtain ⟨v, hv, hn⟩ := h.own
  refine ⟨by rw [hc.size]; exact h.lt, v, hc.blk _ _ _ _ hv, hn.1, ?_⟩
  exact hn.2.imp id fun ⟨g, cap, cur, hv, hB, hg, hr⟩ => ⟨g, cap, cur, hv, hB, hc.blk _ _ _ _ hg, hr⟩
theorem Apn.below {B : Nat} {pre : List Int} {W W' : World} (h : Apn B pre W) (hb : Below W.heap.size W W') : Apn B pre W' := by
  obtain ⟨v, hv, hn⟩ := h.own
  refine ⟨Nat.lt_of_lt_of_le h.lt hb.size, v, (hb.block B h.lt).trans hv, hn.1, ?_⟩
  exact hn.2.imp id fun ⟨g, cap, cur, hv, hB, hg, hr⟩ => ⟨g, cap, cur, hv, hB, (hb.block g (Array.getElem?_eq_some_iff.1 hg).1).trans hg, hr⟩

theorem blk_cell {W : World} {b : Nat} {vs : Array Value} {t : TypeId} {fr : Nat × Nat} (h : W.heap[b]? = some (.cells vs t fr)) {j : Nat} {u : Value} (hu : vs[j]? = some u) : W.cell? ⟨b, j, none⟩ = some u := by
  simp only [World.cell?, h]
  simpa using hu
theorem blk_free {W : World} {b : Nat} {vs : Array Value} {t : TypeId} (h : W.heap[b]? = some (.cells vs t (0, 0))) (j : Nat) : W.frozen? ⟨b, j, none⟩ = false := by
  simp [World.frozen?, h]
theorem one_new (W : World) (v : Value) (t : TypeId) : ∀ j u, [v][j]? = some u → (W.alloc (.cells #[v] t)).cell? ((⟨W.heap.size, 0, none⟩ : Addr).add j) = some u := fun j u h => by
  have hj : j = 0 := by have := (List.getElem?_eq_some_iff.1 h).1; simpa using this
  subst hj
  have he : v = u := by simpa using h
  subst he
  exact (Cel.new W W v t).cell
theorem info_int : ∃ i, Tryd.prog.info? 3 = some i ∧ i.zero = some (.int .i64 0) ∧ i.size = 1 ∧ i.bytes = 8 := ⟨_, rfl, rfl, rfl, rfl⟩
theorem box_set {W : World} {b : Nat} {v u : Value} {t : TypeId} {fr : Nat × Nat} (h : W.heap[b]? = some (.cells #[v] t fr)) : (W.setCell ⟨b, 0, none⟩ u).heap[b]? = some (.cells #[u] t fr) := by
  simp [World.setCell, Array.getElem?_modify, h]
theorem set_oth {W : World} {b k : Nat} {u : Value} (h : k ≠ b) : (W.setCell ⟨b, 0, none⟩ u).heap[k]? = W.heap[k]? := by
  simp [World.setCell, Array.getElem?_modify, Ne.symm h]
theorem apn_round {B n2 : Nat} {w W2 w3 : World} {v v' : Value} {pre : List Int} {x : Int} (hlt2 : B < W2.heap.size) (hsz2 : n2 ≤ W2.heap.size) (hs2 : n2 = B + 1) (hbW2 : Below B w W2)
    (hv2 : W2.heap[B]? = some (.cells #[v] 29 (0, 0))) (hv3 : w3.heap[B]? = some (.cells #[v] 29 (0, 0))) (hown2 : W2.ownsRow (B + 1) 3 1 v pre.length (numCells pre)) (hown3 : w3.ownsRow (B + 1) 3 1 v' (pre.length + 1) (numCells pre ++ [.int .i64 x]))
    (hg : (W2.alloc (.cells #[.int .i64 x] 3)).grownBy w3 v.ownBlock) (hat : v'.ownBlock = v.ownBlock ∨ v'.ownBlock = some (W2.alloc (.cells #[.int .i64 x] 3)).heap.size) :
    KeepsFrom n2 W2 (w3.setCell ⟨B, 0, none⟩ v') ∧ Kap B W2 (w3.setCell ⟨B, 0, none⟩ v') ∧ Apn B (pre ++ [x]) (w3.setCell ⟨B, 0, none⟩ v') ∧ Below B w (w3.setCell ⟨B, 0, none⟩ v') ∧ n2 ≤ (w3.setCell ⟨B, 0, none⟩ v').heap.size := by
  have hs3 : W2.heap.size + 1 ≤ w3.heap.size := by have := hg.size; simpa using this
  have hsz : (w3.setCell ⟨B, 0, none⟩ v').heap.size = w3.heap.size := by simp
  have hne : ∀ k, v.ownBlock = some k → B + 1 ≤ k ∧ k < W2.heap.size := fun k hk => hown2.lt k hk
  have hold : ∀ k, k < W2.heap.size → v.ownBlock ≠ some k → w3.heap[k]? = W2.heap[k]? := fun k hk hn => (hg.block k (by simp; omega) (fun e => hn e.symm)).trans (Below.heap_alloc _ _ _ hk)
  have hbB : Below B w w3 := (hbW2.alloc (by omega) _).grown hg (by simp; omega) (fun k e => by have := (hne k e).1; omega)
  refine ⟨?_, ⟨by omega, fun b o u hb hr hc => ?_, fun k hk => ?_⟩, ⟨by omega, v', box_set hv3, ?_⟩, hbB.setCell (p := ⟨B, 0, none⟩) (Nat.le_refl _) _, by omega⟩
  · refine ⟨by omega, fun k o hB hk ho => ?_⟩
    have hlt : k < W2.heap.size := (Array.getElem?_eq_some_iff.1 hk).1
    have h1 : k ≠ B := fun e => by subst e; rw [hv2] at hk; cases hk; cases ho
    have h2 : v.ownBlock ≠ some k := fun e => by
      rcases hown2.2 with ⟨rfl, _⟩ | ⟨g, cap, cur, rfl, _, hgb, _⟩
      · simp [Value.ownBlock] at e
      · have : g = k := by simpa [Value.ownBlock] using e
        subst this; rw [hgb] at hk; cases hk; cases ho
    rw [set_oth h1, hold k hlt h2]
    exact hk
  · have hlt : b < W2.heap.size := World.block_lt_of_cell? _ _ hc
    rw [rowb_of hv2] at hr
    exact (World.cell?_of_block ((set_oth hb).trans (hold b hlt hr))).trans hc
  · rw [rowb_of (box_set hv3)] at hk
    rw [rowb_of hv2]
    rcases hat with h | h
    · exact .inl (h.symm.trans hk)
    · have := Option.some.inj (h.symm.trans hk); exact .inr (by simp at this; omega)
  · rw [List.length_append]
    have he : numCells (pre ++ [x]) = numCells pre ++ [.int .i64 x] := by unfold numCells; rw [List.map_append]; rfl
    rw [he]
    refine ⟨by simpa using hown3.1, hown3.2.imp (fun h => ⟨h.1, by simpa using h.2⟩) fun ⟨g, cap, cur, hv, hB, hg, hr⟩ => ⟨g, cap, cur, by simpa using hv, hB, (set_oth (by omega)).trans hg, by simpa using hr⟩⟩

set_option maxRecDepth 100000 in
set_option maxHeartbeats 4000000 in
theorem appendSeq_in (n gf : Nat) (lb : Array Value) (eg : ∀ args w, (callFunc gf args).run Tryd.prog w = .ok (.enter gf args) w) (w : World) (T : List Int) (hT : T.length ≤ 17592186044416)
    (hseq : ∀ (l : Nat) (J Jx : List Int → World → Prop) (Kp : World → World → Prop) (Sf : World → Nat → Prop) (W : World), Below w.heap.size w W → Sfe J Kp Sf → (∀ b, b < w.heap.size → Sf W b) →
      Yld l (fun x : Int => #[.int .i64 x]) J Jx Kp T.length → (∀ pre W1 W2, J pre W1 → Below W1.heap.size W1 W2 → J pre W2) → J [] W →
      CallsIn Fence.wide (n - 1) Tryd.prog gf (#[.func (.yield l) #[] #[]] ++ lb) W fun e' W' => (∃ v, e' = .returned v) ∧ ((∃ xs, xs = T ∧ J xs W') ∨ (∃ pre, pre <+: T ∧ Jx pre W'))) :
    CallsIn Fence.wide n Tryd.prog 58 #[.slice none 0 0, .func (.func gf) #[] lb] w fun e w' => ∃ v, e = .returned v ∧ w'.ownsRow w.heap.size 3 1 v T.length (numCells T) ∧ Below w.heap.size w w' := by
  refine callsIn_of_wp_marks Tryd.func58 rfl trivial ?_ rfl
  simp only [Tryd.ntmps58, List.size_toArray, List.length_cons, List.length_nil, Nat.reduceAdd, Nat.reduceSub, Array.replicate_succ, Array.replicate_zero, List.push_toArray, List.append_toArray, List.nil_append, List.cons_append]
  gi_wp2
  obtain ⟨w2, hw2⟩ : ∃ w2, w.alloc (.cells #[.slice none 0 0] 29) = w2 := ⟨_, rfl⟩
  have hs2 : w2.heap.size = w.heap.size + 1 := by rw [← hw2]; simp
  have hb2 : Below w.heap.size w w2 := by rw [← hw2]; exact b_alloc _ _
  have hbx : w2.heap[w.heap.size]? = some (.cells #[.slice none 0 0] 29 (0, 0)) := by rw [← hw2]; exact World.alloc_heap_new _ _
  rw [hw2]
  have hap0 : Apn w.heap.size [] w2 := ⟨by omega, _, hbx, World.ownsRow_nil _ _ _ _⟩
  refine range_lawB (α := Int) rfl rfl (gf := gf) (lb := lb) rfl trivial eg (encs := fun x => #[.int .i64 x]) (fun _ => rfl) (fun _ _ => True) (Kap w.heap.size) (fun xs => xs = T) (fun pre => pre <+: T) T.length (fun pre W => Apn w.heap.size pre W ∧ Below w.heap.size w W ∧ w2.heap.size ≤ W.heap.size) (fun _ _ => False)
    (fun l J Jx W hsz hb hY hJb hJI hJ0 => ?seq) (fun h k => h.trans k) (fun h => Kap.ceq h.toCeq)
    ⟨fun pre W W' h hq hb => ⟨h.1.ceb hq, h.2.1.trans (hb.mono (by omega)), by have := h.2.2; rw [hq.size]; exact this⟩, fun pre W W' h hs hb => ⟨h.1.below hb, h.2.1.trans (hb.mono h.2.1.size), Nat.le_trans h.2.2 hb.size⟩⟩
    ⟨fun _ _ _ h _ _ => h, fun _ _ _ h _ _ => h⟩ (fun _ _ h => h.2.2) ⟨hap0, hb2, Nat.le_refl _⟩ ?round ?done ?stop
  case seq =>
    have hI0 := (hJI _ _ hJ0).1
    have hbW : Below w.heap.size w W := hb2.trans (hb.mono (by omega))
    refine hseq l J Jx (Kap w.heap.size) (SfA w.heap.size) W hbW (sfe_app J fun pre W h => (hJI _ _ h).1) (fun b hlt => ⟨by omega, Nat.lt_of_lt_of_le hlt hbW.size, hI0.lt, fun e => ?_⟩) (fun m pre x W1 h hl => hY m pre x W1 h trivial hl) hJb hJ0
    obtain ⟨v, hv, hn⟩ := hI0.own
    rw [rowb_of hv] at e
    have := (hn.lt b e).1
    omega
  case round =>
    rintro l m pre x W ⟨hap, hbW, hsz⟩ _ hlen
    obtain ⟨hlt, v, hv, hown⟩ := hap
    gi_wp2
    refine ⟨keeps_below (Below.refl _ _), ⟨Nat.le_refl _, fun _ _ _ _ _ h => h, fun _ h => .inl h⟩, fun W2 hq hb => ?_⟩
    have hv2 := hq.blk _ _ _ _ hv
    have hown2 : W2.ownsRow (w.heap.size + 1) 3 1 v pre.length (numCells pre) := ⟨hown.1, hown.2.imp id fun ⟨g, cap, cur, hv, hB, hg, hr⟩ => ⟨g, cap, cur, hv, hB, hq.blk _ _ _ _ hg, hr⟩⟩
    have hbW2 : Below w.heap.size w W2 := hbW.trans (hb.mono (by omega))
    have hsz2 : w2.heap.size ≤ W2.heap.size := by rw [hq.size]; exact hsz
    have hcv := blk_cell hv2 (j := 0) (u := v) rfl
    have hfv := blk_free hv2 0
    have hlt2 : w.heap.size < W2.heap.size := by omega
    have hne : ∀ k, v.ownBlock = some k → w.heap.size + 1 ≤ k ∧ k < W2.heap.size := fun k hk => hown2.lt k hk
    obtain ⟨i0, hi0, hz0, hz1, hz2⟩ := info_int
    have hrb := rowb_of hv2
    replace hown2 := Lib.hid hown2
    replace hne := Lib.hid hne
    replace hbW2 := Lib.hid hbW2
    replace hrb := Lib.hid hrb
    replace hv2 := Lib.hid hv2
    clear hq hb hv hown hw2 hap0 hbx hseq
    gi_wp2_with (first
      | (gi_at_builtin
         refine wpListIn_append_own_at _ rfl _ _ 29 rfl (w.heap.size + 1) 3 i0 _ 1 8 Tryd.underlying29 hi0 hz0 hz1 hz2 rfl (by decide) _ _ _ rfl (hown2.out.alloc _) ⟨W2.heap.size, 0, none⟩ 1 1 [.int .i64 x] rfl rfl (one_new W2 _ _) (by simp [Value.oneCell']) (by unfold maxLen; omega) (by omega) (by simp; omega) ?_
         intro v' w3 hown3 hg3 _ hat3
         have hv3 : w3.heap[w.heap.size]? = some (.cells #[v] 29 (0, 0)) := (hg3.block w.heap.size (by simp; omega) (fun e => by have := (hne.out _ e.symm).1; omega)).trans ((Below.heap_alloc _ _ _ hlt2).trans hv2.out)
         have hcv3 := blk_cell hv3 (j := 0) (u := v) rfl
         have hfv3 := blk_free hv3 0
         have hs3 : W2.heap.size + 1 ≤ w3.heap.size := by have := hg3.size; simpa using this
         have hg3' : (W2.alloc (.cells #[.int .i64 x] 3)).grownBy w3 v.ownBlock := hg3
         have hat3' : v'.ownBlock = v.ownBlock ∨ v'.ownBlock = some (W2.alloc (.cells #[.int .i64 x] 3)).heap.size := hat3
         obtain ⟨g', cap', rfl⟩ : ∃ g' cap', v' = .slice (some ⟨g', 0, none⟩) (pre.length + 1) cap' := by
           rcases hown3.2 with ⟨_, h0⟩ | ⟨g', cap', _, hv', _⟩
           · exact absurd h0 (by omega)
           · exact ⟨g', cap', hv'⟩
         clear hg3 hat3
         replace hown3 := Lib.hid hown3
         replace hg3' := Lib.hid hg3'
         replace hat3' := Lib.hid hat3'
         replace hv3 := Lib.hid hv3
         go_frame)
      | gi_in)
    refine apn_round hlt2 hsz2 hs2 hbW2.out hv2.out hv3.out hown2.out hown3.out hg3'.out hat3'.out
  case done =>
    rintro D xs W hD rfl ⟨hap, hbW, hsz⟩ hK
    obtain ⟨hlt, v, hv, hown⟩ := hap
    have hcv := blk_cell hv (j := 0) (u := v) rfl
    replace hown := Lib.hid hown
    gi_wp2
    refine ⟨by simp, .inl ⟨_, _, rfl, run_takeDeferred hK, ?_⟩⟩
    have hq := ceb_deferred (d' := none) hK
    exact ⟨_, results_tmp rfl _ _ _, v, rfl, ⟨hown.out.1, hown.out.2.imp id fun ⟨g, cap, cur, hv, hB, hg, hr⟩ => ⟨g, cap, cur, hv, by omega, hq.blk _ _ _ _ hg, hr⟩⟩, hbW.trans (below_put _ _ (by omega))⟩
  case stop =>
    rintro D pre W _ _ h _
    exact h.elim
set_option maxRecDepth 100000 in
set_option maxHeartbeats 4000000 in
theorem collect_in (n gf : Nat) (lb : Array Value) (eg : ∀ args w, (callFunc gf args).run Tryd.prog w = .ok (.enter gf args) w) (w : World) (T : List Int) (hT : T.length ≤ 17592186044416)
    (hseq : ∀ (l : Nat) (J Jx : List Int → World → Prop) (Kp : World → World → Prop) (Sf : World → Nat → Prop) (W : World), Below w.heap.size w W → Sfe J Kp Sf → (∀ b, b < w.heap.size → Sf W b) →
      Yld l (fun x : Int => #[.int .i64 x]) J Jx Kp T.length → (∀ pre W1 W2, J pre W1 → Below W1.heap.size W1 W2 → J pre W2) → J [] W →
      CallsIn Fence.wide (n - 1 - 1) Tryd.prog gf (#[.func (.yield l) #[] #[]] ++ lb) W fun e' W' => (∃ v, e' = .returned v) ∧ ((∃ xs, xs = T ∧ J xs W') ∨ (∃ pre, pre <+: T ∧ Jx pre W'))) :
    CallsIn Fence.wide n Tryd.prog 44 #[.func (.func gf) #[] lb] w fun e w' => ∃ v, e = .returned v ∧ w'.ownsRow w.heap.size 3 1 v T.length (numCells T) ∧ Below w.heap.size w w' := by
  have hc := Lib.hid (appendSeq_in (n - 1) gf lb eg w T hT hseq)
  clear hseq
  refine callsIn_of_wp Tryd.func44 rfl trivial ?_ rfl
  simp only [Tryd.ntmps44, List.size_toArray, List.length_cons, List.length_nil, Nat.reduceAdd, Nat.reduceSub, Array.replicate_succ, Array.replicate_zero, List.push_toArray, List.append_toArray, List.nil_append, List.cons_append]
  gi_wp2_with fail
  refine ⟨trivial, fun h => (by cases h), hc.out.mono ?_⟩
  rintro e w' ⟨v, rfl, ho, hb⟩
  gi_wp2_with fail
  go_ret
  exact ⟨v, rfl, ho, hb⟩

set_option maxRecDepth 100000 in
set_option maxHeartbeats 4000000 in
theorem reads_any (i : Ins) (w : World) (hi : Ins.In w (fun _ => True) i) (hT : OpTab w) (hl : (rdP i).length ≤ 17592186044416) :
    Calls Tryd.prog 22 #[i.val] w fun e w' => ∃ v, e = .returned v ∧ w'.ownsRow w.heap.size 3 1 v (rdP i).length (numCells (rdP i)) ∧ Below w.heap.size w w' := by
  obtain ⟨wa, hwa⟩ : ∃ wa, w.alloc (.cells ⟨i.vals⟩ 31) = wa := ⟨_, rfl⟩
  obtain ⟨wb, hwb⟩ : ∃ wb, wa.alloc (.cells ⟨i.vals⟩ 31) = wb := ⟨_, rfl⟩
  have hba : Below w.heap.size w wa := by rw [← hwa]; exact b_alloc _ _
  have hsa : wa.heap.size = w.heap.size + 1 := by rw [← hwa]; simp
  have hbb : Below wa.heap.size wa wb := by rw [← hwb]; exact b_alloc _ _
  have hsb : wb.heap.size = w.heap.size + 2 := by rw [← hwb]; simp; omega
  have hbw : Below w.heap.size w wb := hba.trans (hbb.mono (by omega))
  have hbx : ∀ j u, i.vals[j]? = some u → wb.cell? ⟨w.heap.size + 1, j, none⟩ = some u := by
    intro j u hu
    have h : wb.heap[w.heap.size + 1]? = some (.cells ⟨i.vals⟩ 31 (0, 0)) := by rw [← hwb, ← hsa]; exact World.alloc_heap_new wa _
    simp only [World.cell?, h]
    simpa using hu
  have hrow : RowAt wb (fun b => b < wb.heap.size) i.aa i.acap i.args.length (numCells i.args) := ((hi.row.below (Kps.of_below hbw)).bds).mono (fun b hb => hb.2)
  have hc := callsIn_wide.1 (collect_in 3 59 #[.pointer (some ⟨w.heap.size + 1, 0, none⟩)] (enters_of Tryd.func59 (by kernel_rfl) rfl) wb (rdP i) hl
    (fun l J Jx Kp Sf W hb hs hsf hY hJb hJ0 => read1_any l (3 - 1 - 1) (w.heap.size + 1) i Kp Sf J Jx W
      ⟨hsf _ (by omega), fun j u hu => below_in hb (hbx j u hu), (hrow.below (Kps.of_below hb)).mono (fun b hb => hsf b hb)⟩ hi.op ((hT.keep hbw).keep hb) hs hY hJb hJ0))
  replace hc := Lib.hid hc
  have hra := Lib.hid (fun V => read_any i V)
  have hbw2 := Lib.hid hbw
  replace hsb := Lib.hid hsb
  rw [← hwb, ← hwa] at hc hbw2 hsb
  clear hi hT hl hrow hbx hba hbb hsa hbw hwa hwb
  go_enter Tryd.func22, Tryd.ntmps22
  go_wp2_with fail
  refine (hra.out _).mono ?_
  rintro e w' ⟨rfl, rfl⟩
  have hx := hc.out
  simp only [World.size_alloc] at hx ⊢
  replace hx := Lib.hid hx
  clear hc
  go_wp2_with fail
  refine hx.out.mono ?_
  rintro e w' ⟨v, rfl, ho, hb⟩
  replace ho := Lib.hid ho
  replace hb := Lib.hid hb
  go_wp2_with fail
  go_ret
  have hbw3 := hbw2.out
  exact ⟨v, rfl, ⟨ho.out.1, ho.out.2.imp id fun ⟨g, cap, cur, hv, hB, hg, hr⟩ => ⟨g, cap, cur, hv, by omega, hg, hr⟩⟩, hbw3.trans (hb.out.mono (by omega))⟩
end Go.Proofs.YtiicjbnocpphdaaDoor.Cd
