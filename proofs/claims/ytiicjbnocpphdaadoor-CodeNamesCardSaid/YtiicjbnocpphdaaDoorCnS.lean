/- Regions that draw their order, where the last operations store; rows of the call's own, cell by cell; plain theory of what may be; single operations. Conditions: none. -/
import Derived.Test.YtiicjbnocpphdaaDoorCdQ
import Derived.Test.YtiicjbnocpphdaaDoorCeB
import Derived.Test.YtiicjbnocpphdaaDoorCeC
import Derived.Test.YtiicjbnocpphdaaDoorCeD0
import Derived.Test.YtiicjbnocpphdaaDoorQVG
import Derived.Deep.RegionHeld3
import Derived.Deep.Cut
import Derived.BigQuiet
set_option linter.unusedSimpArgs false
set_option linter.unusedVariables false
namespace Go.Proofs.YtiicjbnocpphdaaDoor.Cd

open Go Go.RowKit
open Go.Proofs.YtiicjbnocpphdaaDoor.Lx Go.Proofs.YtiicjbnocpphdaaDoor.Tr

/-! ### a region whose operations from number k on wait for all ahead of them -/
section
variable {P : Program} {ops : Array Oper} {Q : Exit → Act → World → Prop} {md : Region.Mode} {S : World → Prop} {k : Nat}
def wpAnyL (P : Program) (md : Region.Mode) (ops : Array Oper) (Q : Exit → Act → World → Prop) (k : Nat) (S : World → Prop) : Nat → Array Bool → Act → World → Prop
  | 0, listed, a, w => Region.ready md ops listed = [] ∧ Q .normal a w
  | fuel + 1, listed, a, w =>
    (Region.ready md ops listed = [] → Q .normal a w) ∧
    ∀ i ∈ Region.ready md ops listed, wpOp P ops Q i (fun a' w' => (i < k → S w') ∧ wpAnyL P md ops Q k S fuel (listed.setIfInBounds i true) a' w') a w
theorem wpAny_of_L : ∀ (fuel : Nat) (listed : Array Bool) (a : Act) (w : World), wpAnyL P md ops Q k S fuel listed a w → wpAny P md ops Q fuel listed a w
  | 0, _, _, _, h => h
  | fuel + 1, _, _, _, h => ⟨h.1, fun i hi => wpOp_mono (fun a' w' h' => wpAny_of_L fuel _ a' w' h'.2) (h.2 i hi)⟩
/-- each operation from k on waits for each ahead of k -/
def phaseB (md : Region.Mode) (ops : Array Oper) (k : Nat) : Bool :=
  (List.range ops.size).all fun j => decide (j < k) || match ops[j]? with
    | none => true
    | some o => (List.range k).all fun i => o.after.any fun e => Region.binds md e && e.on == i
theorem phaseB_spec (h : phaseB md ops k = true) {j i : Nat} {o : Oper} (ho : ops[j]? = some o) (hj : k ≤ j) (hi : i < k) : ∃ e ∈ o.after, Region.binds md e = true ∧ e.on = i := by
  have hjs : j < ops.size := (Array.getElem?_eq_some_iff.1 ho).1
  unfold phaseB at h
  have h1 := List.all_eq_true.1 h j (List.mem_range.2 hjs)
  have hd : decide (j < k) = false := by simpa using hj
  rw [hd, Bool.false_or, ho] at h1
  have h2 := List.all_eq_true.1 h1 i (List.mem_range.2 hi)
  obtain ⟨e, he, hb⟩ := Array.any_eq_true'.1 h2
  simp only [Bool.and_eq_true, beq_iff_eq] at hb
  exact ⟨e, he, hb.1, hb.2⟩
theorem wpAnyL_first (hB : phaseB md ops k = true) {i : Nat} {oi : Oper} {v : Value} (hik : i < k) (hi : ops[i]? = some oi) (hsel : ∀ (j : Nat) (o : Oper) cs b, ops[j]? = some o → o.op ≠ .select cs b)
    (hQ : ∀ c a w, Q (.panic c) (a.put oi.dst v) w → Q (.panic c) a w) :
    ∀ (fuel : Nat) (listed : Array Bool) (a : Act) (w : World),
      (∀ j oj, ops[j]? = some oj → j ≠ i → listed.getD j true = false → (∀ e ∈ oj.after, Region.binds md e = true → e.on ≠ i) → oi.apart ops oj = true) →
      i ∈ Region.ready md ops listed → YieldsIf P ops S oi v a → S w →
      wpAnyL P md ops Q k S fuel (listed.setIfInBounds i true) (a.put oi.dst v) w → wpAnyL P md ops Q k S (fuel + 1) listed a w := by
  intro fuel
  induction fuel with
  | zero =>
    intro listed a w _ hr hy hS H
    refine ⟨fun h => (by rw [h] at hr; cases hr), fun j hj => ?_⟩
    by_cases hji : j = i
    · subst hji; exact hy.wpOp hi hS ⟨fun _ => hS, H⟩
    · have := ready_mono hj hji
      rw [H.1] at this
      cases this
  | succ fuel ih =>
    intro listed a w hfree hr hy hS H
    refine ⟨fun h => (by rw [h] at hr; cases hr), fun j hj => ?_⟩
    by_cases hji : j = i
    · subst hji; exact hy.wpOp hi hS ⟨fun _ => hS, H⟩
    · have h1 := H.2 j (ready_mono hj hji)
      obtain ⟨hjun, oj, hoj, hall⟩ := mem_ready.1 hj
      have hnot : ∀ e ∈ oj.after, Region.binds md e = true → e.on ≠ i := fun e he hb heq => by
        have h1 := hall e he hb
        have h0 := (mem_ready.1 hr).1
        rw [heq] at h1
        rcases Nat.lt_or_ge i listed.size with h' | h'
        · simp [h'] at h0 h1; rw [h0] at h1; cases h1
        · simp [Array.getElem?_eq_none h'] at h1
      have hjk : j < k := by
        rcases Nat.lt_or_ge j k with h' | h'
        · exact h'
        · obtain ⟨e, he, hb, hon⟩ := phaseB_spec hB hoj h' hik
          exact absurd hon (hnot e he hb)
      have h2 := wpOp_putIf hoj (hfree j oj hoj hji hjun hnot) (fun cs b => hsel i oi cs b hi) (fun cs b => hsel j oj cs b hoj) hQ hy h1
      have hfree' : ∀ k' ok, ops[k']? = some ok → k' ≠ i → (listed.setIfInBounds j true).getD k' true = false →
          (∀ e ∈ ok.after, Region.binds md e = true → e.on ≠ i) → oi.apart ops ok = true := fun k' ok hk hki hun hno => by
        refine hfree k' ok hk hki ?_ hno
        by_cases hjk : j = k'
        · subst hjk; exact hjun
        · rw [getD_set_ne true hjk] at hun; exact hun
      refine wpOp_mono (fun a' w' h3 => ⟨fun _ => h3.2.1 hjk, ih (listed.setIfInBounds j true) a' w' hfree' (ready_mono hr (Ne.symm hji)) h3.1 (h3.2.1 hjk) ?_⟩) h2
      rw [Array.setIfInBounds_comm _ _ hji]
      exact h3.2.2
/-- take number i first -/
theorem wpAnyL_take (hB : phaseB md ops k = true) {i : Nat} {oi : Oper} {v : Value} {fuel : Nat} {listed : Array Bool} {a : Act} {w : World} (hik : i < k) (hi : ops[i]? = some oi)
    (hs : Region.noSelect ops = true) (hf : Region.free md ops listed i = true) (hr : (Region.ready md ops listed).contains i = true)
    (hQ : ∀ c a w, Q (.panic c) (a.put oi.dst v) w → Q (.panic c) a w) (hy : YieldsIf P ops S oi v a) (hS : S w)
    (h : wpAnyL P md ops Q k S fuel (listed.setIfInBounds i true) (a.put oi.dst v) w) : wpAnyL P md ops Q k S (fuel + 1) listed a w :=
  wpAnyL_first hB hik hi (Region.noSelect_spec hs) hQ fuel listed a w (Region.free_spec hi hf) (by simpa using hr) hy hS h
/-- number i alone may come up -/
theorem wpAnyL_one {fuel : Nat} {listed : Array Bool} {a : Act} {w : World} {i : Nat} {o : Oper} (hr : Region.ready md ops listed = [i]) (ho : ops[i]? = some o)
    (h : ∀ K' : Act → World → Prop, Shut (∀ a w, (i < k → S w) → wpAnyL P md ops Q k S fuel (listed.setIfInBounds i true) a w → K' a w) → if Region.wanted o (yielded ops a.tmps) = true then Oper.wp P o a w K' Q else K' (a.put o.dst undef) w) :
    wpAnyL P md ops Q k S (fuel + 1) listed a w := by
  refine ⟨fun h0 => ?_, fun j hj => ?_⟩
  · rw [hr] at h0; cases h0
  · rw [hr] at hj
    rcases List.mem_cons.1 hj with rfl | hj
    · exact wpOp_step ho (fun K' hK => h K' (fun a w hS hW => hK a w ⟨hS, hW⟩))
    · cases hj
theorem wpAnyL_done {listed : Array Bool} {a : Act} {w : World} (hr : Region.ready md ops listed = []) (h : Q .normal a w) : ∀ fuel, wpAnyL P md ops Q k S fuel listed a w
  | 0 => ⟨hr, h⟩
  | _ + 1 => ⟨fun _ => h, by rw [hr]; simp⟩
theorem wp_region_L {id : Nat} {a : Act} {w : World} (hm : P.follows .mixedOrders = true)
    (h : wpAnyL P .any ops Q k S ops.size (Array.replicate ops.size false) a w.drew) : (Code.region id ops true).wp P Q a w :=
  wp_region_any hm (wpAny_of_L _ _ _ _ h)
end

theorem heap_set {w : World} {b : Nat} {vs : Array Value} {T : TypeId} {fr : Nat × Nat} (h : w.heap[b]? = some (.cells vs T fr)) (j : Nat) (v : Value) : (w.setCell ⟨b, j, none⟩ v).heap[b]? = some (.cells (vs.setIfInBounds j v) T fr) := by
  unfold World.setCell
  show (w.heap.modify b _)[b]? = _
  rw [Array.getElem?_modify, if_pos rfl, h]
  simp
theorem heap_set_ne {w : World} {b i : Nat} (hi : i ≠ b) (j : Nat) (v : Value) : (w.setCell ⟨b, j, none⟩ v).heap[i]? = w.heap[i]? := by
  unfold World.setCell
  show (w.heap.modify b _)[i]? = _
  rw [Array.getElem?_modify, if_neg (fun e => hi e.symm)]
theorem size_set {w : World} {b : Nat} (j : Nat) (v : Value) : (w.setCell ⟨b, j, none⟩ v).heap.size = w.heap.size := by simp [World.setCell]


/-! ### a row of one's own -/
structure OwnR (w : World) (T : TypeId) (b cap n : Nat) (xs : List Value) : Prop where
  ex : ∃ vs : Array Value, w.heap[b]? = some (.cells vs T (0, 0)) ∧ ∀ (j : Nat) (u : Value), xs[j]? = some u → vs[j]? = some u
  le : n ≤ cap
  lim : cap ≤ maxLen
theorem OwnR.lt {w : World} {T : TypeId} {b cap n : Nat} {xs : List Value} (h : OwnR w T b cap n xs) : b < w.heap.size := by
  obtain ⟨vs, h1, _⟩ := h.ex
  exact (Array.getElem?_eq_some_iff.1 h1).1
theorem OwnR.cell {w : World} {T : TypeId} {b cap n : Nat} {xs : List Value} (h : OwnR w T b cap n xs) {j : Nat} {u : Value} (hj : xs[j]? = some u) : w.cell? ⟨b, j, none⟩ = some u ∧ w.frozen? ⟨b, j, none⟩ = false := by
  obtain ⟨vs, h1, h2⟩ := h.ex
  refine ⟨blk_cell h1 (h2 j u hj), ?_⟩
  simp [World.frozen?, h1]
theorem OwnR.row {w : World} {T : TypeId} {b cap n : Nat} {xs : List Value} (h : OwnR w T b cap n xs) : RowAt w (fun _ => True) (some ⟨b, 0, none⟩) cap n xs :=
  ⟨h.le, h.lim, fun e => (by cases e), fun j u hj => ⟨b, 0, rfl, trivial, by rw [Nat.zero_add]; exact (h.cell hj).1⟩⟩
theorem OwnR.keep {w w' : World} {T : TypeId} {b cap n : Nat} {xs : List Value} (h : OwnR w T b cap n xs) (hb : w'.heap[b]? = w.heap[b]?) : OwnR w' T b cap n xs := by
  obtain ⟨vs, h1, h2⟩ := h.ex
  exact ⟨⟨vs, hb.trans h1, h2⟩, h.le, h.lim⟩
theorem OwnR.set {w : World} {T : TypeId} {b cap n : Nat} {xs : List Value} (h : OwnR w T b cap n xs) {j : Nat} {u0 : Value} (hj : xs[j]? = some u0) (u : Value) : OwnR (w.setCell ⟨b, j, none⟩ u) T b cap n (xs.set j u) := by
  obtain ⟨vs, h1, h2⟩ := h.ex
  refine ⟨⟨vs.setIfInBounds j u, heap_set h1 j u, fun i x hi => ?_⟩, h.le, h.lim⟩
  have hjs : j < vs.size := (Array.getElem?_eq_some_iff.1 (h2 j u0 hj)).1
  rw [List.getElem?_set] at hi
  rw [Array.getElem?_setIfInBounds]
  by_cases e : j = i
  · subst e
    rw [if_pos rfl] at hi ⊢
    rw [if_pos hjs]
    split at hi
    · exact hi
    · cases hi
  · rw [if_neg e] at hi ⊢
    exact h2 i x hi
theorem own_R {w : World} {B : Nat} {e : TypeId} {c n : Nat} {v : Value} {xs : List Value} (h : w.ownsRow B e c v n xs) (hn : 0 < n) : ∃ g cap, v = .slice (some ⟨g, 0, none⟩) n cap ∧ B ≤ g ∧ OwnR w e g cap n xs := by
  rcases h.2 with ⟨_, h0⟩ | ⟨g, cap, cur, rfl, hB, hg, h1, h2, _, ht⟩
  · omega
  · refine ⟨g, cap, rfl, hB, ⟨cur, hg, fun j u hj => ?_⟩, h1, h2⟩
    rw [← ht, List.getElem?_take] at hj
    split at hj
    · simpa using hj
    · cases hj
/-- a cell of one element is another -/
theorem flat_set {α : Type} (f : α → List Value) (c : Nat) (hc : ∀ x, (f x).length = c) : ∀ (l : List α) (k i : Nat) (x y : α) (u : Value), l[k]? = some x → i < c → f y = (f x).set i u → (l.flatMap f).set (k * c + i) u = (l.set k y).flatMap f
  | [], k, i, x, y, u, h, _, _ => by simp at h
  | a :: r, 0, i, x, y, u, h, hi, he => by
    simp at h
    subst h
    rw [Nat.zero_mul, Nat.zero_add, List.flatMap_cons, List.set_append_left _ _ (by rw [hc]; exact hi), List.set_cons_zero, List.flatMap_cons, he]
  | a :: r, k + 1, i, x, y, u, h, hi, he => by
    have ih := flat_set f c hc r k i x y u (by simpa using h) hi he
    rw [List.flatMap_cons, List.set_append_right _ _ (by rw [hc, Nat.succ_mul]; omega), List.set_cons_succ, List.flatMap_cons, hc, ← ih]
    congr 2
    rw [Nat.succ_mul]
    omega
theorem info_f : ∃ i, Tryd.prog.info? 42 = some i ∧ i.zero = some (.agg #[.string ⟨#[]⟩, .bool false, .int .i64 0, .int .i64 0, .slice none 0 0]) ∧ i.size = 5 ∧ i.bytes = 64 := ⟨_, rfl, rfl, rfl, rfl⟩
theorem info_n : ∃ i, Tryd.prog.info? 31 = some i ∧ i.zero = some (.agg #[.int .u8 0, .int .i64 0, .int .i64 0, .int .i64 0, .int .i64 0, .slice none 0 0]) ∧ i.size = 6 ∧ i.bytes = 64 := ⟨_, rfl, rfl, rfl, rfl⟩
theorem fn_one (l : List Fn) : ∀ u ∈ fnCells l, u.oneCell' = true := fun u hu => by
  unfold fnCells at hu
  obtain ⟨f, _, hf⟩ := List.mem_flatMap.1 hu
  unfold Fn.vals at hf
  simp at hf
  rcases hf with rfl | rfl | rfl | rfl | rfl <;> rfl
theorem in_one (l : List Ins) : ∀ u ∈ inCells l, u.oneCell' = true := fun u hu => by
  unfold inCells at hu
  obtain ⟨f, _, hf⟩ := List.mem_flatMap.1 hu
  unfold Ins.vals at hf
  simp at hf
  rcases hf with rfl | rfl | rfl | rfl | rfl | rfl <;> rfl
theorem fn_len (l : List Fn) : (fnCells l).length = l.length * 5 := by
  unfold fnCells
  induction l with
  | nil => rfl
  | cons x r ih => rw [List.flatMap_cons, List.length_append, ih, Fn.vals_len, List.length_cons]; omega
theorem in_len (l : List Ins) : (inCells l).length = l.length * 6 := by
  unfold inCells
  induction l with
  | nil => rfl
  | cons x r ih => rw [List.flatMap_cons, List.length_append, ih, Ins.vals_len, List.length_cons]; omega
/-! ### numbers within a list -/
theorem u64_bd (n : Int) : 0 ≤ IntKind.u64.wrap n ∧ IntKind.u64.wrap n < 18446744073709551616 := by
  unfold IntKind.wrap
  simp [IntKind.bits, IntKind.signed]
  omega
theorem rem_len (n : Int) (L : Nat) (h0 : ¬ L = 0) (hL : L ≤ 1048576) : ∃ m : Nat, (IntKind.u64.wrap n).tmod (L : Int) = (m : Int) ∧ m < L := by
  have h1 := (u64_bd n).1
  have h2 := Int.emod_nonneg (IntKind.u64.wrap n) (show (L : Int) ≠ 0 by omega)
  have h3 := Int.emod_lt_of_pos (IntKind.u64.wrap n) (show (0 : Int) < L by omega)
  refine ⟨((IntKind.u64.wrap n).tmod L).toNat, ?_, ?_⟩
  · rw [Int.tmod_eq_emod_of_nonneg h1]; omega
  · rw [Int.tmod_eq_emod_of_nonneg h1]; omega
theorem wanted_no {ops : Array Oper} {o : Oper} {a : Act} {j d : Nat} (hg : o.guard = some (j, false)) (hd : Go.Proofs.YtiicjbnocpphdaaDoor.Qr.dstOf ops j = some d) (h : a.tmps[d]? = some (.bool false)) : Region.wanted o (yielded ops a.tmps) = true := by
  unfold Region.wanted; rw [hg]
  have : yielded ops a.tmps j = some false := by
    unfold yielded; unfold Go.Proofs.YtiicjbnocpphdaaDoor.Qr.dstOf at hd
    rw [hd]; simp [h]
  simp [this]
theorem fn_cut (l : List Fn) (k : Nat) : fnCells l = fnCells (l.take k) ++ fnCells (l.drop k) := by
  unfold fnCells
  rw [← List.flatMap_append, List.take_append_drop]
theorem fn_take (l : List Fn) (k j : Nat) (u : Value) (h : (fnCells (l.take k))[j]? = some u) : (fnCells l)[j]? = some u := by
  rw [fn_cut l k, List.getElem?_append_left (List.getElem?_eq_some_iff.1 h).1]
  exact h
theorem fn_drop (l : List Fn) (k j : Nat) (u : Value) (hk : k ≤ l.length) (h : (fnCells (l.drop k))[j]? = some u) : (fnCells l)[k * 5 + j]? = some u := by
  have hl : (fnCells (l.take k)).length = k * 5 := by rw [fn_len, List.length_take, Nat.min_eq_left hk]
  rw [fn_cut l k, List.getElem?_append_right (by omega), hl, Nat.add_sub_cancel_left]
  exact h
theorem own_ge {w : World} {B : Nat} {e : TypeId} {c n : Nat} {v : Value} {xs : List Value} (h : w.ownsRow B e c v n xs) : ∀ q, v.ownBlock = some q → B ≤ q := by
  rcases h.2 with ⟨rfl, _⟩ | ⟨g, cap, cur, rfl, hB, _⟩
  · intro q e; cases e
  · intro q e; cases e; exact hB
/-- a row of one's own as it reads behind it, empty ones too -/
theorem own_V {w : World} {B : Nat} {e : TypeId} {c n : Nat} {v : Value} {xs : List Value} (h : w.ownsRow B e c v n xs) : ∃ fa cap, v = .slice fa n cap ∧ ∀ V, (∀ g, B ≤ g → g < w.heap.size → V.heap[g]? = w.heap[g]?) → RowAt V (fun _ => True) fa cap n xs := by
  obtain ⟨h0, h1⟩ := h
  rcases h1 with ⟨rfl, hn⟩ | ⟨g, cap, cur, rfl, hB, hg, h1, h2, _, ht⟩
  · subst hn
    refine ⟨none, 0, rfl, fun V _ => ⟨Nat.le_refl _, Nat.zero_le _, fun _ => rfl, fun j u hj => ?_⟩⟩
    rw [Nat.zero_mul] at h0
    rw [List.eq_nil_of_length_eq_zero h0] at hj
    cases hj
  · refine ⟨some ⟨g, 0, none⟩, cap, rfl, fun V hV => OwnR.row (T := e) ⟨⟨cur, (hV g hB (Array.getElem?_eq_some_iff.1 hg).1).trans hg, fun j u hj => ?_⟩, h1, h2⟩⟩
    rw [← ht, List.getElem?_take] at hj
    split at hj
    · simpa using hj
    · cases hj
theorem info_s : ∃ i, Tryd.prog.info? 9 = some i ∧ i.zero = some (.string ⟨#[]⟩) ∧ i.size = 1 ∧ i.bytes = 16 := ⟨_, rfl, rfl, rfl, rfl⟩
theorem run_neb {a : Act} {o : Oper} {t t2 : TypeId} {x y : Operand} {b : Bool} {w : World} (ht : Tryd.prog.underlying t = some .bool) (ho : o.op = .binOp .neq t x y t2) (hx : a.eval x = .bool b) (hy : a.eval y = .bool b) : (execOp a.eval o).run Tryd.prog w = .ok (.value (.bool false)) w := by
  unfold execOp
  rw [ho]
  simp only [hx, hy]
  cases b <;> simp [go_sem, ht]
theorem store6_own {w : World} {T : TypeId} {g cap L n : Nat} {l : List Ins} {y0 : Ins} (i : Ins) (h : OwnR w T g cap L (inCells l)) (hy : l[n]? = some y0) : OwnR ((((((w.setCell ⟨g, n * 6, none⟩ (.int .u8 i.op)).setCell ⟨g, n * 6 + 1, none⟩ (.int .i64 i.r)).setCell ⟨g, n * 6 + 2, none⟩ (.int .i64 i.a)).setCell ⟨g, n * 6 + 3, none⟩ (.int .i64 i.b)).setCell ⟨g, n * 6 + 4, none⟩ (.int .i64 i.n)).setCell ⟨g, n * 6 + 5, none⟩ (.slice i.aa i.args.length i.acap)) T g cap L (inCells (l.set n i)) := by
  have hn := (List.getElem?_eq_some_iff.1 hy).1
  have step : ∀ (w : World) (l' : List Ins) (a y : Ins) (j : Nat) (u0 u : Value), OwnR w T g cap L (inCells l') → l'[n]? = some a → j < 6 → a.vals[j]? = some u0 → y.vals = a.vals.set j u → OwnR (w.setCell ⟨g, n * 6 + j, none⟩ u) T g cap L (inCells (l'.set n y)) := fun w l' a y j u0 u h hl hj hu hv => by
    have hc : (inCells l')[n * 6 + j]? = some u0 := by
      have := flat_at Ins.vals 6 Ins.vals_len l' n j a hl hj
      rw [hu] at this
      exact this
    have h1 := h.set hc u
    rw [show (inCells l').set (n * 6 + j) u = inCells (l'.set n y) from flat_set Ins.vals 6 Ins.vals_len l' n j a y u hl hj hv] at h1
    exact h1
  have e : ∀ y : Ins, (l.set n y)[n]? = some y := fun y => List.getElem?_set_self hn
  have g0 := step w l y0 { y0 with op := i.op } 0 _ (.int .u8 i.op) h hy (by omega) rfl rfl
  have g1 := step _ _ _ { y0 with op := i.op, r := i.r } 1 _ (.int .i64 i.r) g0 (e _) (by omega) rfl rfl
  rw [List.set_set] at g1
  have g2 := step _ _ _ { y0 with op := i.op, r := i.r, a := i.a } 2 _ (.int .i64 i.a) g1 (e _) (by omega) rfl rfl
  rw [List.set_set] at g2
  have g3 := step _ _ _ { y0 with op := i.op, r := i.r, a := i.a, b := i.b } 3 _ (.int .i64 i.b) g2 (e _) (by omega) rfl rfl
  rw [List.set_set] at g3
  have g4 := step _ _ _ { y0 with op := i.op, r := i.r, a := i.a, b := i.b, n := i.n } 4 _ (.int .i64 i.n) g3 (e _) (by omega) rfl rfl
  rw [List.set_set] at g4
  have g5 := step _ _ _ i 5 _ (.slice i.aa i.args.length i.acap) g4 (e _) (by omega) rfl rfl
  rw [List.set_set] at g5
  exact g5
theorem store6_ne {w : World} {g b : Nat} (hb : b ≠ g) (o0 o1 o2 o3 o4 o5 : Nat) (v0 v1 v2 v3 v4 v5 : Value) : ((((((w.setCell ⟨g, o0, none⟩ v0).setCell ⟨g, o1, none⟩ v1).setCell ⟨g, o2, none⟩ v2).setCell ⟨g, o3, none⟩ v3).setCell ⟨g, o4, none⟩ v4).setCell ⟨g, o5, none⟩ v5).heap[b]? = w.heap[b]? := by
  rw [heap_set_ne hb, heap_set_ne hb, heap_set_ne hb, heap_set_ne hb, heap_set_ne hb, heap_set_ne hb]
theorem store6_below {B : Nat} {a w : World} {g : Nat} (h : Below B a w) (hg : B ≤ g) (o0 o1 o2 o3 o4 o5 : Nat) (v0 v1 v2 v3 v4 v5 : Value) : Below B a ((((((w.setCell ⟨g, o0, none⟩ v0).setCell ⟨g, o1, none⟩ v1).setCell ⟨g, o2, none⟩ v2).setCell ⟨g, o3, none⟩ v3).setCell ⟨g, o4, none⟩ v4).setCell ⟨g, o5, none⟩ v5) :=
  (((((h.setCell (p := ⟨g, o0, none⟩) hg v0).setCell (p := ⟨g, o1, none⟩) hg v1).setCell (p := ⟨g, o2, none⟩) hg v2).setCell (p := ⟨g, o3, none⟩) hg v3).setCell (p := ⟨g, o4, none⟩) hg v4).setCell (p := ⟨g, o5, none⟩) hg v5
theorem fnCells_set (l : List Fn) (k : Nat) (a b : Fn) (h : a.vals = b.vals) : fnCells (l.set k a) = fnCells (l.set k b) := by
  unfold fnCells
  rw [List.flatMap_def, List.flatMap_def, List.map_set, List.map_set, h]
theorem run_eqb {a : Act} {o : Oper} {t t2 : TypeId} {x y : Operand} {b : Bool} {w : World} (ht : Tryd.prog.underlying t = some .bool) (ho : o.op = .binOp .eql t x y t2) (hx : a.eval x = .bool b) (hy : a.eval y = .bool b) : (execOp a.eval o).run Tryd.prog w = .ok (.value (.bool true)) w := by
  unfold execOp
  rw [ho]
  simp only [hx, hy]
  cases b <;> simp [go_sem, ht]

open Go Go.RowKit
open Go.Proofs.YtiicjbnocpphdaaDoor.Lx Go.Proofs.YtiicjbnocpphdaaDoor.Tr

/-! ### what may be is told by how Funs look from outside -/
/-- a Fun as another one sees it -/
def faceP (f : Fn) : Bool × Int := (f.thread, f.params)
/-- two programs whose instructions see the same -/
structure Alike (p q : Pg) : Prop where
  mems : p.mems.length = q.mems.length
  locks : p.locks.length = q.locks.length
  funs : p.funs.map faceP = q.funs.map faceP
theorem Alike.get {p q : Pg} (h : Alike p q) (n : Nat) : (p.funs[n]?).map faceP = (q.funs[n]?).map faceP := by
  rw [← List.getElem?_map, ← List.getElem?_map, h.funs]
theorem Alike.len {p q : Pg} (h : Alike p q) : p.funs.length = q.funs.length := by
  have := congrArg List.length h.funs
  simpa using this
theorem mayF_alike {p q : Pg} {f g : Fn} (h : Alike p q) (hl : f.code.length = g.code.length) (hr : f.regs = g.regs) (i : Ins) : mayF p f i = mayF q g i := by
  have hfit : fitP p f i = fitP q g i := by
    unfold fitP
    rw [h.mems, h.locks, h.len, hl]
    have hg := h.get i.n.toNat
    cases h1 : p.funs[i.n.toNat]? with
    | none =>
      rw [h1] at hg
      cases h2 : q.funs[i.n.toNat]? with
      | none => rfl
      | some y => rw [h2] at hg; cases hg
    | some x =>
      rw [h1] at hg
      cases h2 : q.funs[i.n.toNat]? with
      | none => rw [h2] at hg; cases hg
      | some y =>
        rw [h2] at hg
        have e : faceP x = faceP y := by simpa using hg
        have e1 : x.thread = y.thread := congrArg Prod.fst e
        have e2 : x.params = y.params := congrArg Prod.snd e
        simp only [e1, e2]
  unfold mayF numP
  rw [hfit, hr]
theorem codeP_alike {p q : Pg} {f g : Fn} (h : Alike p q) (hc : f.code = g.code) (hr : f.regs = g.regs) : codeP p f = codeP q g := by
  have e : mayF p f = mayF q g := funext fun i => mayF_alike h (by rw [hc]) hr i
  unfold codeP
  rw [e, hc]
theorem thrs_map : ∀ (l m : List Fn) (k : Nat), l.map faceP = m.map faceP → thrsFrom k l = thrsFrom k m
  | [], [], _, _ => rfl
  | [], _ :: _, _, h => by simp at h
  | _ :: _, [], _, h => by simp at h
  | a :: r, b :: s, k, h => by
    simp only [List.map_cons, List.cons.injEq] at h
    unfold thrsFrom
    have e1 : a.thread = b.thread := congrArg Prod.fst h.1
    rw [e1, thrs_map r s (k + 1) h.2]
theorem all_map2 {f g : Fn → Bool} : ∀ (l m : List Fn), (∀ (k : Nat) (x y : Fn), l[k]? = some x → m[k]? = some y → f x = g y) → l.length = m.length → l.all f = m.all g
  | [], [], _, _ => rfl
  | [], _ :: _, _, h => by simp at h
  | _ :: _, [], _, h => by simp at h
  | a :: r, b :: s, h, hl => by
    rw [List.all_cons, List.all_cons, h 0 a b rfl rfl, all_map2 r s (fun k x y hx hy => h (k + 1) x y (by simpa using hx) (by simpa using hy)) (by simpa using hl)]
/-! ### names -/
theorem nms_iff (nm : ByteArray → Bool) : ∀ (l met : List ByteArray), nmsP nm met l = true ↔ (∀ s ∈ l, nm s = true) ∧ l.Nodup ∧ ∀ s ∈ l, s ∉ met
  | [], met => by simp [nmsP]
  | s :: r, met => by
    unfold nmsP
    simp only [Bool.and_eq_true, Bool.not_eq_true', nms_iff nm r (met ++ [s]), List.nodup_cons, List.any_eq_false, decide_eq_true_eq]
    constructor
    · rintro ⟨h1, h2, h3, h4, h5⟩
      refine ⟨fun x hx => ?_, ⟨fun hm => ?_, h4⟩, fun x hx hm => ?_⟩
      · rcases List.mem_cons.1 hx with rfl | hx
        · exact h2
        · exact h3 x hx
      · exact h5 s hm (by simp)
      · rcases List.mem_cons.1 hx with rfl | hx
        · exact h1 x hm rfl
        · exact h5 x hx (by simp [hm])
    · rintro ⟨h1, ⟨h2, h3⟩, h4⟩
      refine ⟨fun x hx e => ?_, h1 s (by simp), fun x hx => h1 x (by simp [hx]), h3, fun x hx hm => ?_⟩
      · exact h4 s (by simp) (e ▸ hx)
      · rcases List.mem_append.1 hm with hm | hm
        · exact h4 x (by simp [hx]) hm
        · have := List.mem_singleton.1 hm
          subst this
          exact h2 hx
theorem nms_perm {nm : ByteArray → Bool} {l m : List ByteArray} (h : l.Perm m) : nmsP nm [] l = nmsP nm [] m := by
  rw [Bool.eq_iff_iff, nms_iff, nms_iff]
  have hm := fun s => h.mem_iff (a := s)
  constructor
  · rintro ⟨h1, h2, h3⟩
    exact ⟨fun s hs => h1 s ((hm s).2 hs), h.nodup_iff.1 h2, fun s hs => by simp⟩
  · rintro ⟨h1, h2, h3⟩
    exact ⟨fun s hs => h1 s ((hm s).1 hs), h.nodup_iff.2 h2, fun s hs => by simp⟩
/-- the first one and the last one turned about -/
theorem ends_perm {α : Type} (l : List α) (a b : α) (h0 : l[0]? = some a) (h1 : l[l.length - 1]? = some b) : ((l.set 0 b).set (l.length - 1) a).Perm l := by
  cases l with
  | nil => simp at h0
  | cons x r =>
    simp at h0
    subst h0
    rcases List.eq_nil_or_concat r with rfl | ⟨m, y, rfl⟩
    · simp at h1
      subst h1
      simp
    · simp at h1
      subst h1
      rw [List.concat_eq_append]
      simp only [List.set_cons_zero, List.length_cons, List.length_append, List.length_nil, Nat.add_sub_cancel]
      rw [show m.length + (0 + 1) = m.length + 1 from rfl, List.set_cons_succ, List.set_append_right _ _ (Nat.le_refl _), Nat.sub_self, List.set_cons_zero]
      refine List.Perm.trans (List.Perm.cons y (List.perm_append_comm (l₁ := m) (l₂ := [x]))) ?_
      refine List.Perm.trans (List.Perm.swap x y m) ?_
      exact List.Perm.cons x (List.perm_append_comm (l₁ := [y]) (l₂ := m))
theorem set_get_same {α : Type} {l : List α} {k : Nat} {x : α} (h : l[k]? = some x) : l.set k x = l := by
  obtain ⟨hk, rfl⟩ := List.getElem?_eq_some_iff.1 h
  exact List.set_getElem_self hk
theorem map_set_same {α β : Type} {f : α → β} {l : List α} {k : Nat} {x y : α} (h : l[k]? = some x) (he : f y = f x) : (l.set k y).map f = l.map f := by
  rw [List.map_set, he]
  exact set_get_same (by rw [List.getElem?_map, h]; rfl)
/-! ### another instruction in the place of one -/
theorem lastOp_set {l : List Ins} {k : Nat} {i : Ins} (hk : k + 1 < l.length) : lastOp (l.set k i) = lastOp l := by
  unfold lastOp
  rw [List.getLast?_eq_getElem?, List.getLast?_eq_getElem?, List.length_set, List.getElem?_set_ne (by omega)]
theorem all_set {α : Type} {f : α → Bool} : ∀ (l : List α) (k : Nat) (y : α), l.all f = true → k < l.length → (l.set k y).all f = f y
  | [], _, _, _, h => by simp at h
  | a :: r, 0, y, h, _ => by
    rw [List.all_cons, Bool.and_eq_true] at h
    rw [List.set_cons_zero, List.all_cons, h.2, Bool.and_true]
  | a :: r, k + 1, y, h, hk => by
    rw [List.all_cons, Bool.and_eq_true] at h
    rw [List.set_cons_succ, List.all_cons, h.1, Bool.true_and]
    exact all_set r k y h.2 (by simpa using hk)
theorem mayP_parts {p : Pg} (h : mayP p = true) : mayNamesP p = true ∧ sizesP p.mems = true ∧ (thrsP p).length ≤ 16 ∧ p.funs.all headP = true ∧ p.funs.all (codeP p) = true := by
  unfold mayP at h
  simp only [Bool.and_eq_true, decide_eq_true_eq] at h
  exact ⟨h.1, h.2.1, h.2.2.1, h.2.2.2.1, h.2.2.2.2⟩
/-- with an instruction in the place of another one, but the last one -/
theorem mayP_set {p q : Pg} {n k : Nat} {f g : Fn} {i : Ins} (hm : q.mems = p.mems) (hl : q.locks = p.locks) (hf : q.funs = p.funs.set n g) (hn : p.funs[n]? = some f)
    (gn : g.name = f.name) (gt : g.thread = f.thread) (gp : g.params = f.params) (gr : g.regs = f.regs) (gc : g.code = f.code.set k i) (hk : k + 1 < f.code.length) (h : mayP p = true) : mayP q = mayI p n i := by
  obtain ⟨h1, h2, h3, h4, h5⟩ := mayP_parts h
  have hnl := (List.getElem?_eq_some_iff.1 hn).1
  have hface : faceP g = faceP f := by unfold faceP; rw [gt, gp]
  have hal : Alike q p := ⟨by rw [hm], by rw [hl], by rw [hf]; exact map_set_same hn hface⟩
  have hname : namesP q = namesP p := by
    unfold namesP
    rw [hm, hl, hf, map_set_same hn gn]
  have hthr : thrsP q = thrsP p := thrs_map _ _ 0 hal.funs
  have hhead : q.funs.all headP = true := by
    rw [hf, all_set _ _ _ h4 hnl]
    have := List.all_eq_true.1 h4 f (List.mem_of_getElem? hn)
    unfold headP at this ⊢
    rw [gp, gt, gr]
    exact this
  have hcf := List.all_eq_true.1 h5 f (List.mem_of_getElem? hn)
  have hcode : q.funs.all (codeP q) = codeP q g := by
    rw [hf]
    have h6 : ∀ x ∈ p.funs, codeP q x = true := fun x hx => by
      rw [codeP_alike hal rfl rfl]
      exact List.all_eq_true.1 h5 x hx
    exact all_set p.funs n g (List.all_eq_true.2 h6) hnl
  have hlen : g.code.length = f.code.length := by rw [gc, List.length_set]
  have hmf : mayF q g = mayF p f := funext fun j => mayF_alike hal hlen gr j
  have hcg : codeP q g = mayF p f i := by
    unfold codeP at hcf ⊢
    simp only [Bool.and_eq_true] at hcf
    obtain ⟨⟨⟨a1, a2⟩, a3⟩, a4⟩ := hcf
    rw [hmf, hlen, a1, a2, gc, lastOp_set hk, all_set _ _ _ a3 (by omega), a4]
    simp
  have hin : inP (n : Int) p.funs.length = true := by unfold inP; simp; omega
  unfold mayP mayI mayNamesP
  unfold mayNamesP at h1
  rw [hname, h1, hm, h2, hthr, hhead, hcode, hcg, hin]
  simp [h3, hn]
/-- with the names of the first Fun and the last one turned about -/
theorem mayP_turn {p q : Pg} {f g : Fn} (hm : q.mems = p.mems) (hl : q.locks = p.locks) (h0 : p.funs[0]? = some f) (h1 : p.funs[p.funs.length - 1]? = some g)
    (hlen : q.funs.length = p.funs.length) (hsame : ∀ (k : Nat) (x y : Fn), q.funs[k]? = some x → p.funs[k]? = some y → x.thread = y.thread ∧ x.params = y.params ∧ x.regs = y.regs ∧ x.code = y.code)
    (hname : q.funs.map Fn.name = ((p.funs.map Fn.name).set 0 g.name).set (p.funs.length - 1) f.name) (h : mayP p = true) : mayP q = true := by
  obtain ⟨a1, a2, a3, a4, a5⟩ := mayP_parts h
  have hface : q.funs.map faceP = p.funs.map faceP := by
    apply List.ext_getElem?
    intro k
    rw [List.getElem?_map, List.getElem?_map]
    cases hx : q.funs[k]? with
    | none =>
      rw [List.getElem?_eq_none_iff, hlen, ← List.getElem?_eq_none_iff] at hx
      rw [hx]
    | some x =>
      obtain ⟨y, hy⟩ : ∃ y, p.funs[k]? = some y := ⟨_, List.getElem?_eq_getElem (hlen ▸ (List.getElem?_eq_some_iff.1 hx).1)⟩
      rw [hy]
      obtain ⟨b1, b2, _, _⟩ := hsame k x y hx hy
      simp [faceP, b1, b2]
  have hal : Alike q p := ⟨by rw [hm], by rw [hl], hface⟩
  have hthr : thrsP q = thrsP p := thrs_map _ _ 0 hface
  have hperm : (namesP q).Perm (namesP p) := by
    unfold namesP
    rw [hm, hl, hname]
    refine List.Perm.append_left _ (List.Perm.append_left _ ?_)
    have := ends_perm (p.funs.map Fn.name) f.name g.name (by rw [List.getElem?_map, h0]; rfl) (by rw [List.length_map, List.getElem?_map, h1]; rfl)
    rwa [List.length_map] at this
  have hhead : q.funs.all headP = p.funs.all headP := all_map2 _ _ (fun k x y hx hy => by
    obtain ⟨b1, b2, b3, _⟩ := hsame k x y hx hy
    unfold headP; rw [b1, b2, b3]) hlen
  have hcode : q.funs.all (codeP q) = p.funs.all (codeP p) := all_map2 _ _ (fun k x y hx hy => by
    obtain ⟨_, _, b3, b4⟩ := hsame k x y hx hy
    exact codeP_alike hal b4 b3) hlen
  unfold mayP mayNamesP
  unfold mayNamesP at a1
  rw [hperm.length_eq, nms_perm hperm, a1, hm, a2, hthr, hhead, a4, hcode, a5]
  simp [a3]
/-- such a program is the same just where there is one Fun -/
theorem sameP_turn {p q : Pg} {f g : Fn} (hm : q.mems = p.mems) (hl : q.locks = p.locks) (h0 : p.funs[0]? = some f) (h1 : p.funs[p.funs.length - 1]? = some g)
    (hlen : q.funs.length = p.funs.length) (hsame : ∀ (k : Nat) (x y : Fn), q.funs[k]? = some x → p.funs[k]? = some y → x.thread = y.thread ∧ x.params = y.params ∧ x.regs = y.regs ∧ x.code = y.code)
    (hname : q.funs.map Fn.name = ((p.funs.map Fn.name).set 0 g.name).set (p.funs.length - 1) f.name) (h : mayP p = true) : sameP p q = decide (p.funs.length - 1 = 0) := by
  obtain ⟨a1, _⟩ := mayP_parts h
  have hpos : 0 < p.funs.length := (List.getElem?_eq_some_iff.1 h0).1
  by_cases hz : p.funs.length - 1 = 0
  · rw [decide_eq_true hz]
    have e1 : p.funs = [f] := by
      match hp : p.funs, h0, hz, hpos with
      | [x], h0, _, _ => simp at h0; subst h0; rfl
      | x :: y :: r, _, hz, _ => simp at hz
    obtain ⟨x, hx⟩ : ∃ x, q.funs = [x] := by
      rw [e1] at hlen
      match hq : q.funs, hlen with
      | [x], _ => exact ⟨x, rfl⟩
    obtain ⟨b1, b2, b3, b4⟩ := hsame 0 x f (by rw [hx]; rfl) h0
    have hg : g = f := by rw [e1] at h1; simpa using h1.symm
    have hn : x.name = f.name := by
      rw [hx, e1] at hname
      simpa using hname
    unfold sameP
    rw [hm, hl, e1, hx]
    rw [eqL_refl (fun x _ => sameM_refl x), eqL_refl (f := fun x y : ByteArray => decide (x = y)) (fun x _ => by simp)]
    have : sameF f x = true := by
      unfold sameF
      rw [hn, b1, b2, b3, b4, eqL_refl (fun x _ => sameI_refl x)]
      simp
    simp [eqL, this]
  · rw [decide_eq_false hz]
    have hne : f.name ≠ g.name := by
      unfold mayNamesP at a1
      rw [Bool.and_eq_true, nms_iff] at a1
      have hd := a1.2.2.1
      unfold namesP at hd
      have hd2 := (List.nodup_append.1 (List.nodup_append.1 hd).2.1).2.1
      intro e
      have i0 : (p.funs.map Fn.name)[0]? = some f.name := by rw [List.getElem?_map, h0]; rfl
      have i1 : (p.funs.map Fn.name)[p.funs.length - 1]? = some g.name := by rw [List.getElem?_map, h1]; rfl
      have := (List.getElem?_inj (l := p.funs.map Fn.name) (i := 0) (j := p.funs.length - 1) (by simpa using hpos) hd2).1 (by rw [i0, i1, e])
      omega
    have hfun : eqL sameF p.funs q.funs = false := by
      refine Bool.eq_false_iff.2 (fun e => ?_)
      obtain ⟨x, hx⟩ : ∃ x, q.funs[0]? = some x := ⟨_, List.getElem?_eq_getElem (by omega)⟩
      have h2 := eqL_get e 0 f x h0 hx
      have hxn : x.name = g.name := by
        have : (q.funs.map Fn.name)[0]? = some x.name := by rw [List.getElem?_map, hx]; rfl
        rw [hname, List.getElem?_set_ne (by omega), List.getElem?_set_self (by simpa using hpos)] at this
        exact (Option.some.inj this).symm
      unfold sameF at h2
      simp only [Bool.and_eq_true, decide_eq_true_eq] at h2
      exact hne (h2.1.1.1.1.trans hxn)
    unfold sameP
    rw [hfun]
    simp

open Go Go.RowKit
open Go.Proofs.YtiicjbnocpphdaaDoor.Lx Go.Proofs.YtiicjbnocpphdaaDoor.Tr
open Go.Proofs.YtiicjbnocpphdaaDoor.Vq Go.Proofs.YtiicjbnocpphdaaDoor.Qr
open Go.Proofs.YtiicjbnocpphdaaDoor.Qg (run_call1 run_call2 run_call3)

/-- what an instruction that may be reads, writes and goes to is there -/
theorem may_facts {p : Pg} {f : Fn} {e : Ins} (h : mayF p f e = true) : (∀ r ∈ rdP e ++ (if hasR e.op then [e.r] else []), 0 ≤ r ∧ r < f.regs) ∧ ((glP e).2 = true → 0 ≤ (glP e).1 ∧ (glP e).1 < f.code.length) := by
  unfold mayF at h
  simp only [Bool.and_eq_true] at h
  obtain ⟨_, ⟨_, h2⟩, h3⟩ := h
  refine ⟨fun r hr => ?_, fun hg => ?_⟩
  · have := List.all_eq_true.1 h3 r (by
      unfold regsP
      rcases List.mem_append.1 hr with hr | hr
      · exact List.mem_append_right _ hr
      · exact List.mem_append_left _ hr)
    simpa [inP] using this
  · unfold glP at hg ⊢
    by_cases h7 : numK e.op = 7
    · rw [if_pos h7] at hg ⊢
      unfold numP fitP at h2
      rw [h7] at h2
      simp [inP] at h2
      exact h2.1
    · rw [if_neg h7] at hg
      cases hg
theorem rdP_len (e : Ins) : (rdP e).length ≤ 2 + e.args.length := by
  unfold rdP rdA rdB rdC
  simp only [List.length_append]
  split <;> split <;> split <;> simp <;> omega
theorem mayP_get {p : Pg} (h : mayP p = true) {n k : Nat} {f : Fn} {e : Ins} (hf : p.funs[n]? = some f) (he : f.code[k]? = some e) : mayF p f e = true ∧ mayI p n e = true := by
  obtain ⟨_, _, _, _, h5⟩ := mayP_parts h
  have h6 := List.all_eq_true.1 h5 f (List.mem_of_getElem? hf)
  unfold codeP at h6
  simp only [Bool.and_eq_true] at h6
  have h7 := List.all_eq_true.1 h6.1.2 e (List.mem_of_getElem? he)
  refine ⟨h7, ?_⟩
  unfold mayI
  have hn := (List.getElem?_eq_some_iff.1 hf).1
  have hin : inP (n : Int) p.funs.length = true := by unfold inP; simp; omega
  rw [hin]
  simp [hf, h7]
theorem fnB_cells {W : World} {bx : Nat} {f : Fn} (h : ∀ j u, f.vals[j]? = some u → W.cell? ⟨bx, j, none⟩ = some u) : W.cell? ⟨bx, 0, none⟩ = some (.string f.name) ∧ W.cell? ⟨bx, 1, none⟩ = some (.bool f.thread) ∧ W.cell? ⟨bx, 2, none⟩ = some (.int .i64 f.params) ∧ W.cell? ⟨bx, 3, none⟩ = some (.int .i64 f.regs) ∧ W.cell? ⟨bx, 4, none⟩ = some (.slice f.ca f.code.length f.ccap) :=
  ⟨h 0 _ rfl, h 1 _ rfl, h 2 _ rfl, h 3 _ rfl, h 4 _ rfl⟩
theorem run_fa {P : Program} {a : Act} {o : Oper} {t : TypeId} {x : Operand} {u v : Value} {k : Nat} {w w' : World} (ho : o.op = .fieldAddr t x k) (hx : a.eval x = u) (hr : (Instr.fieldAt t u k).run P w = .ok v w') : (execOp a.eval o).run P w = .ok (.value v) w' := by
  subst hx
  unfold execOp
  simp [ho, hr]
theorem run_ix {P : Program} {a : Act} {o : Oper} {t : TypeId} {x y : Operand} {u v r : Value} {w w' : World} (ho : o.op = .indexAddr t x y) (hx : a.eval x = u) (hy : a.eval y = v) (hr : (Instr.indexAt t u v).run P w = .ok r w') : (execOp a.eval o).run P w = .ok (.value r) w' := by
  subst hx hy
  unfold execOp
  simp [ho, hr]
theorem ix_in {V : World} {b off n cap k : Nat} (h : (k : Int) < (n : Int)) : (Instr.indexAt 40 (.slice (some ⟨b, off, none⟩) n cap) (.int .i64 k)).run Tryd.prog V = .ok (.pointer (some ⟨b, off + k * 6, none⟩)) V := by go_simp
theorem fl_fn4 {V : World} {b : Nat} : (Instr.fieldAt 42 (.pointer (some ⟨b, 0, none⟩)) 4).run Tryd.prog V = .ok (.pointer (some ⟨b, 4, none⟩)) V := by go_simp
theorem ld_code {V : World} {b o : Nat} {a : Option Addr} {n c : Nat} (h : V.cell? ⟨b, o, none⟩ = some (.slice a n c)) : (Instr.loadAt 40 (.pointer (some ⟨b, o, none⟩))).run Tryd.prog V = .ok (.slice a n c) V := by go_simp
theorem ln_code {p : Option Addr} {n c : Nat} {w : World} : (Builtin.len_ #[40] 3 #[.slice p n c]).run Tryd.prog w = .ok (.int .i64 n) w := by go_simp
theorem load_pgB {p : Pg} {W : World} {b : Nat} (h : W.cell? ⟨b, 0, none⟩ = some (.slice p.ma p.mems.length p.mcap) ∧ W.cell? ⟨b, 1, none⟩ = some (.slice p.la p.locks.length p.lcap) ∧ W.cell? ⟨b, 2, none⟩ = some (.slice p.fa p.funs.length p.fcap)) : (Instr.loadAt 27 (.pointer (some ⟨b, 0, none⟩))).run Tryd.prog W = .ok p.val W := by
  obtain ⟨h0, h1, h2⟩ := h
  simp [go_sem, h0, h1, h2, Pg.val]
theorem load_inB {i : Ins} {W : World} {b o : Nat} (h0 : W.cell? ⟨b, o, none⟩ = some (.int .u8 i.op)) (h1 : W.cell? ⟨b, o + 1, none⟩ = some (.int .i64 i.r)) (h2 : W.cell? ⟨b, o + 2, none⟩ = some (.int .i64 i.a)) (h3 : W.cell? ⟨b, o + 3, none⟩ = some (.int .i64 i.b)) (h4 : W.cell? ⟨b, o + 4, none⟩ = some (.int .i64 i.n)) (h5 : W.cell? ⟨b, o + 5, none⟩ = some (.slice i.aa i.args.length i.acap)) : (Instr.loadAt 31 (.pointer (some ⟨b, o, none⟩))).run Tryd.prog W = .ok (.agg ⟨i.vals⟩) W := by
  simp [go_sem, h0, h1, h2, h3, h4, h5, Ins.vals]
theorem run_lss {a : Act} {o : Oper} {t t2 : TypeId} {x y : Operand} {n m : Int} {w : World} (ht : Tryd.prog.underlying t = some (.int .i64)) (ho : o.op = .binOp .lss t x y t2) (hx : a.eval x = .int .i64 n) (hy : a.eval y = .int .i64 m) : (execOp a.eval o).run Tryd.prog w = .ok (.value (.bool (decide (n < m)))) w := by
  unfold execOp
  rw [ho]
  simp only [hx, hy]
  simp [go_sem, ht]
theorem run_geq {a : Act} {o : Oper} {t t2 : TypeId} {x y : Operand} {n m : Int} {w : World} (ht : Tryd.prog.underlying t = some (.int .i64)) (ho : o.op = .binOp .geq t x y t2) (hx : a.eval x = .int .i64 n) (hy : a.eval y = .int .i64 m) : (execOp a.eval o).run Tryd.prog w = .ok (.value (.bool (decide (m ≤ n)))) w := by
  unfold execOp
  rw [ho]
  simp only [hx, hy]
  simp [go_sem, ht]
theorem run_notB {a : Act} {o : Oper} {t : TypeId} {x : Operand} {b : Bool} {w : World} (ho : o.op = .unOp .not t x) (hx : a.eval x = .bool b) : (execOp a.eval o).run Tryd.prog w = .ok (.value (.bool !b)) w := by
  unfold execOp
  rw [ho]
  simp only [hx]
  cases b <;> simp [go_sem]
theorem below_dN {B : Nat} {a w : World} (h : Below B a w) (n : Nat) : Below B a (w.drewN n) := h.trans ⟨rfl, rfl, rfl, Nat.le_refl _, fun _ _ => rfl⟩
/-- an operation that isn't wanted -/
theorem s_skip {P : Program} {ops : Array Oper} {Q : Exit → Act → World → Prop} {C : World → Prop} {R : Nat → Value → World → Prop} {a0 : Act} {j : Nat} {o : Oper} (h : ∀ a w, C w → Seen ops R a0 o a w → Region.wanted o (yielded ops a.tmps) = false) (hR : ∀ w, R j undef w) : Step P ops Q C R a0 j o := fun a w hC hs =>
  ⟨fun hn => (by rw [h a w hC hs] at hn; cases hn), fun _ => ⟨Below.refl _ _, hR w⟩⟩
theorem wanted_not {ops : Array Oper} {o : Oper} {a : Act} {j d : Nat} {b : Bool} (hg : o.guard = some (j, b)) (hd : Go.Proofs.YtiicjbnocpphdaaDoor.Qr.dstOf ops j = some d) (h : a.tmps[d]? = some (.bool !b)) : Region.wanted o (yielded ops a.tmps) = false := by
  unfold Region.wanted; rw [hg]
  have : yielded ops a.tmps j = some (!b) := by
    unfold yielded; unfold Go.Proofs.YtiicjbnocpphdaaDoor.Qr.dstOf at hd
    rw [hd]; simp [h]
  simp [this]
theorem wanted_undef {ops : Array Oper} {o : Oper} {a : Act} {j d : Nat} {b : Bool} (hg : o.guard = some (j, b)) (hd : Go.Proofs.YtiicjbnocpphdaaDoor.Qr.dstOf ops j = some d) (h : a.tmps[d]? = some undef) : Region.wanted o (yielded ops a.tmps) = false := by
  unfold Region.wanted; rw [hg]
  have : yielded ops a.tmps j = none := by
    unfold yielded; unfold Go.Proofs.YtiicjbnocpphdaaDoor.Qr.dstOf at hd
    rw [hd]; simp [h, undef]
  simp [this]
end Go.Proofs.YtiicjbnocpphdaaDoor.Cd
