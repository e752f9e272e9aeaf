/- Regions that draw their order, where the last operations store; rows of the call's own, cell by cell, and what a store leaves of them; numbers within a list. Conditions: none. -/
import Derived.Test.YtiicjbnocpphdaaDoorCgB
import Derived.Test.YtiicjbnocpphdaaDoorCgC
import Derived.Test.YtiicjbnocpphdaaDoorQVG
import Derived.Deep.RegionHeld3
namespace Go.Proofs.YtiicjbnocpphdaaDoor.Cd
open Go Go.RowKit
open Go.Proofs.YtiicjbnocpphdaaDoor.Lx Go.Proofs.YtiicjbnocpphdaaDoor.Tr

/-! ### a region whose operations from number k on wait for all ahead of them -/
section
variable {P : Program} {ops : Array Oper} {Q : Exit → Act → World → Prop} {md : Region.Mode} {S : World → Prop} {k : Nat}
def wpAnyL (P : Program) (md : Region.Mode) (ops : Array Oper) (Q : Exit → Act → World → Prop) (k : Nat) (S : World → Prop) : Nat → Array Bool → Act → World → Prop
  | 0, listed, a, w => Region.ready md ops listed = [] ∧ Q .normal a w
  | fuel + 1, listed, a, w =>
    (Region.ready md ops listed = [] → Q .normal a w) ∧
    ∀ i ∈ Region.ready md ops listed, wpOp P ops Q i (fun a' w' => (i < k → S w') ∧ wpAnyL P md ops Q k S fuel (listed.setIfInBounds i true) a' w') a w
theorem wpAny_of_L : ∀ (fuel : Nat) (listed : Array Bool) (a : Act) (w : World), wpAnyL P md ops Q k S fuel listed a w → wpAny P md ops Q fuel listed a w
  | 0, _, _, _, h => h
  | fuel + 1, _, _, _, h => ⟨h.1, fun i hi => wpOp_mono (fun a' w' h' => wpAny_of_L fuel _ a' w' h'.2) (h.2 i hi)⟩
/-- each operation from k on waits for each ahead of k -/
def phaseB (md : Region.Mode) (ops : Array Oper) (k : Nat) : Bool :=
  (List.range ops.size).all fun j => decide (j < k) || match ops[j]? with
    | none => true
    | some o => (List.range k).all fun i => o.after.any fun e => Region.binds md e && e.on == i
theorem phaseB_spec (h : phaseB md ops k = true) {j i : Nat} {o : Oper} (ho : ops[j]? = some o) (hj : k ≤ j) (hi : i < k) : ∃ e ∈ o.after, Region.binds md e = true ∧ e.on = i := by
  have hjs : j < ops.size := (Array.getElem?_eq_some_iff.1 ho).1
  unfold phaseB at h
  have h1 := List.all_eq_true.1 h j (List.mem_range.2 hjs)
  have hd : decide (j < k) = false := by simpa using hj
  rw [hd, Bool.false_or, ho] at h1
  have h2 := List.all_eq_true.1 h1 i (List.mem_range.2 hi)
  obtain ⟨e, he, hb⟩ := Array.any_eq_true'.1 h2
  simp only [Bool.and_eq_true, beq_iff_eq] at hb
  exact ⟨e, he, hb.1, hb.2⟩
theorem wpAnyL_first (hB : phaseB md ops k = true) {i : Nat} {oi : Oper} {v : Value} (hik : i < k) (hi : ops[i]? = some oi) (hsel : ∀ (j : Nat) (o : Oper) cs b, ops[j]? = some o → o.op ≠ .select cs b)
    (hQ : ∀ c a w, Q (.panic c) (a.put oi.dst v) w → Q (.panic c) a w) :
    ∀ (fuel : Nat) (listed : Array Bool) (a : Act) (w : World),
      (∀ j oj, ops[j]? = some oj → j ≠ i → listed.getD j true = false → (∀ e ∈ oj.after, Region.binds md e = true → e.on ≠ i) → oi.apart ops oj = true) →
      i ∈ Region.ready md ops listed → YieldsIf P ops S oi v a → S w →
      wpAnyL P md ops Q k S fuel (listed.setIfInBounds i true) (a.put oi.dst v) w → wpAnyL P md ops Q k S (fuel + 1) listed a w := by
  intro fuel
  induction fuel with
  | zero =>
    intro listed a w _ hr hy hS H
    refine ⟨fun h => (by rw [h] at hr; cases hr), fun j hj => ?_⟩
    by_cases hji : j = i
    · subst hji; exact hy.wpOp hi hS ⟨fun _ => hS, H⟩
    · have := ready_mono hj hji
      rw [H.1] at this
      cases this
  | succ fuel ih =>
    intro listed a w hfree hr hy hS H
    refine ⟨fun h => (by rw [h] at hr; cases hr), fun j hj => ?_⟩
    by_cases hji : j = i
    · subst hji; exact hy.wpOp hi hS ⟨fun _ => hS, H⟩
    · have h1 := H.2 j (ready_mono hj hji)
      obtain ⟨hjun, oj, hoj, hall⟩ := mem_ready.1 hj
      have hnot : ∀ e ∈ oj.after, Region.binds md e = true → e.on ≠ i := fun e he hb heq => by
        have h1 := hall e he hb
        have h0 := (mem_ready.1 hr).1
        rw [heq] at h1
        rcases Nat.lt_or_ge i listed.size with h' | h'
        · simp [h'] at h0 h1; rw [h0] at h1; cases h1
        · simp [Array.getElem?_eq_none h'] at h1
      have hjk : j < k := by
        rcases Nat.lt_or_ge j k with h' | h'
        · exact h'
        · obtain ⟨e, he, hb, hon⟩ := phaseB_spec hB hoj h' hik
          exact absurd hon (hnot e he hb)
      have h2 := wpOp_putIf hoj (hfree j oj hoj hji hjun hnot) (fun cs b => hsel i oi cs b hi) (fun cs b => hsel j oj cs b hoj) hQ hy h1
      have hfree' : ∀ k' ok, ops[k']? = some ok → k' ≠ i → (listed.setIfInBounds j true).getD k' true = false →
          (∀ e ∈ ok.after, Region.binds md e = true → e.on ≠ i) → oi.apart ops ok = true := fun k' ok hk hki hun hno => by
        refine hfree k' ok hk hki ?_ hno
        by_cases hjk : j = k'
        · subst hjk; exact hjun
        · rw [getD_set_ne true hjk] at hun; exact hun
      refine wpOp_mono (fun a' w' h3 => ⟨fun _ => h3.2.1 hjk, ih (listed.setIfInBounds j true) a' w' hfree' (ready_mono hr (Ne.symm hji)) h3.1 (h3.2.1 hjk) ?_⟩) h2
      rw [Array.setIfInBounds_comm _ _ hji]
      exact h3.2.2
/-- take number i first -/
theorem wpAnyL_take (hB : phaseB md ops k = true) {i : Nat} {oi : Oper} {v : Value} {fuel : Nat} {listed : Array Bool} {a : Act} {w : World} (hik : i < k) (hi : ops[i]? = some oi)
    (hs : Region.noSelect ops = true) (hf : Region.free md ops listed i = true) (hr : (Region.ready md ops listed).contains i = true)
    (hQ : ∀ c a w, Q (.panic c) (a.put oi.dst v) w → Q (.panic c) a w) (hy : YieldsIf P ops S oi v a) (hS : S w)
    (h : wpAnyL P md ops Q k S fuel (listed.setIfInBounds i true) (a.put oi.dst v) w) : wpAnyL P md ops Q k S (fuel + 1) listed a w :=
  wpAnyL_first hB hik hi (Region.noSelect_spec hs) hQ fuel listed a w (Region.free_spec hi hf) (by simpa using hr) hy hS h
/-- number i alone may come up -/
theorem wpAnyL_one {fuel : Nat} {listed : Array Bool} {a : Act} {w : World} {i : Nat} {o : Oper} (hr : Region.ready md ops listed = [i]) (ho : ops[i]? = some o)
    (h : ∀ K' : Act → World → Prop, Shut (∀ a w, (i < k → S w) → wpAnyL P md ops Q k S fuel (listed.setIfInBounds i true) a w → K' a w) → if Region.wanted o (yielded ops a.tmps) = true then Oper.wp P o a w K' Q else K' (a.put o.dst undef) w) :
    wpAnyL P md ops Q k S (fuel + 1) listed a w := by
  refine ⟨fun h0 => ?_, fun j hj => ?_⟩
  · rw [hr] at h0; cases h0
  · rw [hr] at hj
    rcases List.mem_cons.1 hj with rfl | hj
    · exact wpOp_step ho (fun K' hK => h K' (fun a w hS hW => hK a w ⟨hS, hW⟩))
    · cases hj
theorem wpAnyL_done {listed : Array Bool} {a : Act} {w : World} (hr : Region.ready md ops listed = []) (h : Q .normal a w) : ∀ fuel, wpAnyL P md ops Q k S fuel listed a w
  | 0 => ⟨hr, h⟩
  | _ + 1 => ⟨fun _ => h, by rw [hr]; simp⟩
theorem wp_region_L {id : Nat} {a : Act} {w : World} (hm : P.follows .mixedOrders = true)
    (h : wpAnyL P .any ops Q k S ops.size (Array.replicate ops.size false) a w.drew) : (Code.region id ops true).wp P Q a w :=
  wp_region_any hm (wpAny_of_L _ _ _ _ h)
end

theorem heap_set {w : World} {b : Nat} {vs : Array Value} {T : TypeId} {fr : Nat × Nat} (h : w.heap[b]? = some (.cells vs T fr)) (j : Nat) (v : Value) : (w.setCell ⟨b, j, none⟩ v).heap[b]? = some (.cells (vs.setIfInBounds j v) T fr) := by
  unfold World.setCell
  show (w.heap.modify b _)[b]? = _
  rw [Array.getElem?_modify, if_pos rfl, h]
  simp
theorem heap_set_ne {w : World} {b i : Nat} (hi : i ≠ b) (j : Nat) (v : Value) : (w.setCell ⟨b, j, none⟩ v).heap[i]? = w.heap[i]? := by
  unfold World.setCell
  show (w.heap.modify b _)[i]? = _
  rw [Array.getElem?_modify, if_neg (fun e => hi e.symm)]
theorem size_set {w : World} {b : Nat} (j : Nat) (v : Value) : (w.setCell ⟨b, j, none⟩ v).heap.size = w.heap.size := by simp [World.setCell]


/-! ### a row of one's own -/
structure OwnR (w : World) (T : TypeId) (b cap n : Nat) (xs : List Value) : Prop where
  ex : ∃ vs : Array Value, w.heap[b]? = some (.cells vs T (0, 0)) ∧ ∀ (j : Nat) (u : Value), xs[j]? = some u → vs[j]? = some u
  le : n ≤ cap
  lim : cap ≤ maxLen
theorem OwnR.lt {w : World} {T : TypeId} {b cap n : Nat} {xs : List Value} (h : OwnR w T b cap n xs) : b < w.heap.size := by
  obtain ⟨vs, h1, _⟩ := h.ex
  exact (Array.getElem?_eq_some_iff.1 h1).1
theorem OwnR.cell {w : World} {T : TypeId} {b cap n : Nat} {xs : List Value} (h : OwnR w T b cap n xs) {j : Nat} {u : Value} (hj : xs[j]? = some u) : w.cell? ⟨b, j, none⟩ = some u ∧ w.frozen? ⟨b, j, none⟩ = false := by
  obtain ⟨vs, h1, h2⟩ := h.ex
  refine ⟨blk_cell h1 (h2 j u hj), ?_⟩
  simp [World.frozen?, h1]
theorem OwnR.row {w : World} {T : TypeId} {b cap n : Nat} {xs : List Value} (h : OwnR w T b cap n xs) : RowAt w (fun _ => True) (some ⟨b, 0, none⟩) cap n xs :=
  ⟨h.le, h.lim, fun e => (by cases e), fun j u hj => ⟨b, 0, rfl, trivial, by rw [Nat.zero_add]; exact (h.cell hj).1⟩⟩
theorem OwnR.keep {w w' : World} {T : TypeId} {b cap n : Nat} {xs : List Value} (h : OwnR w T b cap n xs) (hb : w'.heap[b]? = w.heap[b]?) : OwnR w' T b cap n xs := by
  obtain ⟨vs, h1, h2⟩ := h.ex
  exact ⟨⟨vs, hb.trans h1, h2⟩, h.le, h.lim⟩
theorem OwnR.set {w : World} {T : TypeId} {b cap n : Nat} {xs : List Value} (h : OwnR w T b cap n xs) {j : Nat} {u0 : Value} (hj : xs[j]? = some u0) (u : Value) : OwnR (w.setCell ⟨b, j, none⟩ u) T b cap n (xs.set j u) := by
  obtain ⟨vs, h1, h2⟩ := h.ex
  refine ⟨⟨vs.setIfInBounds j u, heap_set h1 j u, fun i x hi => ?_⟩, h.le, h.lim⟩
  have hjs : j < vs.size := (Array.getElem?_eq_some_iff.1 (h2 j u0 hj)).1
  rw [List.getElem?_set] at hi
  rw [Array.getElem?_setIfInBounds]
  by_cases e : j = i
  · subst e
    rw [if_pos rfl] at hi ⊢
    rw [if_pos hjs]
    split at hi
    · exact hi
    · cases hi
  · rw [if_neg e] at hi ⊢
    exact h2 i x hi
theorem own_R {w : World} {B : Nat} {e : TypeId} {c n : Nat} {v : Value} {xs : List Value} (h : w.ownsRow B e c v n xs) (hn : 0 < n) : ∃ g cap, v = .slice (some ⟨g, 0, none⟩) n cap ∧ B ≤ g ∧ OwnR w e g cap n xs := by
  rcases h.2 with ⟨_, h0⟩ | ⟨g, cap, cur, rfl, hB, hg, h1, h2, _, ht⟩
  · omega
  · refine ⟨g, cap, rfl, hB, ⟨cur, hg, fun j u hj => ?_⟩, h1, h2⟩
    rw [← ht, List.getElem?_take] at hj
    split at hj
    · simpa using hj
    · cases hj
/-- a cell of one element is another -/
theorem flat_set {α : Type} (f : α → List Value) (c : Nat) (hc : ∀ x, (f x).length = c) : ∀ (l : List α) (k i : Nat) (x y : α) (u : Value), l[k]? = some x → i < c → f y = (f x).set i u → (l.flatMap f).set (k * c + i) u = (l.set k y).flatMap f
  | [], k, i, x, y, u, h, _, _ => by simp at h
  | a :: r, 0, i, x, y, u, h, hi, he => by
    simp at h
    subst h
    rw [Nat.zero_mul, Nat.zero_add, List.flatMap_cons, List.set_append_left _ _ (by rw [hc]; exact hi), List.set_cons_zero, List.flatMap_cons, he]
  | a :: r, k + 1, i, x, y, u, h, hi, he => by
    have ih := flat_set f c hc r k i x y u (by simpa using h) hi he
    rw [List.flatMap_cons, List.set_append_right _ _ (by rw [hc, Nat.succ_mul]; omega), List.set_cons_succ, List.flatMap_cons, hc, ← ih]
    congr 2
    rw [Nat.succ_mul]
    omega
theorem info_f : ∃ i, Tryd.prog.info? 42 = some i ∧ i.zero = some (.agg #[.string ⟨#[]⟩, .bool false, .int .i64 0, .int .i64 0, .slice none 0 0]) ∧ i.size = 5 ∧ i.bytes = 64 := ⟨_, rfl, rfl, rfl, rfl⟩
theorem info_n : ∃ i, Tryd.prog.info? 31 = some i ∧ i.zero = some (.agg #[.int .u8 0, .int .i64 0, .int .i64 0, .int .i64 0, .int .i64 0, .slice none 0 0]) ∧ i.size = 6 ∧ i.bytes = 64 := ⟨_, rfl, rfl, rfl, rfl⟩
theorem fn_one (l : List Fn) : ∀ u ∈ fnCells l, u.oneCell' = true := fun u hu => by
  unfold fnCells at hu
  obtain ⟨f, _, hf⟩ := List.mem_flatMap.1 hu
  unfold Fn.vals at hf
  simp at hf
  rcases hf with rfl | rfl | rfl | rfl | rfl <;> rfl
theorem in_one (l : List Ins) : ∀ u ∈ inCells l, u.oneCell' = true := fun u hu => by
  unfold inCells at hu
  obtain ⟨f, _, hf⟩ := List.mem_flatMap.1 hu
  unfold Ins.vals at hf
  simp at hf
  rcases hf with rfl | rfl | rfl | rfl | rfl | rfl <;> rfl
theorem fn_len (l : List Fn) : (fnCells l).length = l.length * 5 := by
  unfold fnCells
  induction l with
  | nil => rfl
  | cons x r ih => rw [List.flatMap_cons, List.length_append, ih, Fn.vals_len, List.length_cons]; omega
theorem in_len (l : List Ins) : (inCells l).length = l.length * 6 := by
  unfold inCells
  induction l with
  | nil => rfl
  | cons x r ih => rw [List.flatMap_cons, List.length_append, ih, Ins.vals_len, List.length_cons]; omega
/-! ### numbers within a list -/
theorem u64_bd (n : Int) : 0 ≤ IntKind.u64.wrap n ∧ IntKind.u64.wrap n < 18446744073709551616 := by
  unfold IntKind.wrap
  simp [IntKind.bits, IntKind.signed]
  omega
theorem rem_len (n : Int) (L : Nat) (h0 : ¬ L = 0) (hL : L ≤ 1048576) : ∃ m : Nat, (IntKind.u64.wrap n).tmod (L : Int) = (m : Int) ∧ m < L := by
  have h1 := (u64_bd n).1
  have h2 := Int.emod_nonneg (IntKind.u64.wrap n) (show (L : Int) ≠ 0 by omega)
  have h3 := Int.emod_lt_of_pos (IntKind.u64.wrap n) (show (0 : Int) < L by omega)
  refine ⟨((IntKind.u64.wrap n).tmod L).toNat, ?_, ?_⟩
  · rw [Int.tmod_eq_emod_of_nonneg h1]; omega
  · rw [Int.tmod_eq_emod_of_nonneg h1]; omega
theorem wanted_no {ops : Array Oper} {o : Oper} {a : Act} {j d : Nat} (hg : o.guard = some (j, false)) (hd : Go.Proofs.YtiicjbnocpphdaaDoor.Qr.dstOf ops j = some d) (h : a.tmps[d]? = some (.bool false)) : Region.wanted o (yielded ops a.tmps) = true := by
  unfold Region.wanted; rw [hg]
  have : yielded ops a.tmps j = some false := by
    unfold yielded; unfold Go.Proofs.YtiicjbnocpphdaaDoor.Qr.dstOf at hd
    rw [hd]; simp [h]
  simp [this]
theorem fn_cut (l : List Fn) (k : Nat) : fnCells l = fnCells (l.take k) ++ fnCells (l.drop k) := by
  unfold fnCells
  rw [← List.flatMap_append, List.take_append_drop]
theorem fn_take (l : List Fn) (k j : Nat) (u : Value) (h : (fnCells (l.take k))[j]? = some u) : (fnCells l)[j]? = some u := by
  rw [fn_cut l k, List.getElem?_append_left (List.getElem?_eq_some_iff.1 h).1]
  exact h
theorem fn_drop (l : List Fn) (k j : Nat) (u : Value) (hk : k ≤ l.length) (h : (fnCells (l.drop k))[j]? = some u) : (fnCells l)[k * 5 + j]? = some u := by
  have hl : (fnCells (l.take k)).length = k * 5 := by rw [fn_len, List.length_take, Nat.min_eq_left hk]
  rw [fn_cut l k, List.getElem?_append_right (by omega), hl, Nat.add_sub_cancel_left]
  exact h
theorem own_ge {w : World} {B : Nat} {e : TypeId} {c n : Nat} {v : Value} {xs : List Value} (h : w.ownsRow B e c v n xs) : ∀ q, v.ownBlock = some q → B ≤ q := by
  rcases h.2 with ⟨rfl, _⟩ | ⟨g, cap, cur, rfl, hB, _⟩
  · intro q e; cases e
  · intro q e; cases e; exact hB
/-- a row of one's own as it reads behind it, empty ones too -/
theorem own_V {w : World} {B : Nat} {e : TypeId} {c n : Nat} {v : Value} {xs : List Value} (h : w.ownsRow B e c v n xs) : ∃ fa cap, v = .slice fa n cap ∧ ∀ V, (∀ g, B ≤ g → g < w.heap.size → V.heap[g]? = w.heap[g]?) → RowAt V (fun _ => True) fa cap n xs := by
  obtain ⟨h0, h1⟩ := h
  rcases h1 with ⟨rfl, hn⟩ | ⟨g, cap, cur, rfl, hB, hg, h1, h2, _, ht⟩
  · subst hn
    refine ⟨none, 0, rfl, fun V _ => ⟨Nat.le_refl _, Nat.zero_le _, fun _ => rfl, fun j u hj => ?_⟩⟩
    rw [Nat.zero_mul] at h0
    rw [List.eq_nil_of_length_eq_zero h0] at hj
    cases hj
  · refine ⟨some ⟨g, 0, none⟩, cap, rfl, fun V hV => OwnR.row (T := e) ⟨⟨cur, (hV g hB (Array.getElem?_eq_some_iff.1 hg).1).trans hg, fun j u hj => ?_⟩, h1, h2⟩⟩
    rw [← ht, List.getElem?_take] at hj
    split at hj
    · simpa using hj
    · cases hj
end Go.Proofs.YtiicjbnocpphdaaDoor.Cd
