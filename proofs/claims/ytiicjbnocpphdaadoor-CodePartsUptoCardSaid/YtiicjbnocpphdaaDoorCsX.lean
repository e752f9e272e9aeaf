/- Regions that draw their order, where the last operations store; rows of the call's own, cell by cell, and what a store leaves of them; numbers within a list. Conditions: none. CodeSame answers true. Conditions: both programs and the instruction lie in memory; their lists, and the names of the first one's Funs, are of bounded length; the packages' tables hold their lists. -/
import Derived.Test.YtiicjbnocpphdaaDoorCgB
import Derived.Test.YtiicjbnocpphdaaDoorCgC
import Derived.Test.YtiicjbnocpphdaaDoorQVG
import Derived.Deep.RegionHeld3
import Derived.Test.YtiicjbnocpphdaaDoorCeB
import Derived.Deep.Cut
namespace Go.Proofs.YtiicjbnocpphdaaDoor.Cd
open Go Go.RowKit
open Go.Proofs.YtiicjbnocpphdaaDoor.Lx Go.Proofs.YtiicjbnocpphdaaDoor.Tr

/-! ### a region whose operations from number k on wait for all ahead of them -/
section
variable {P : Program} {ops : Array Oper} {Q : Exit → Act → World → Prop} {md : Region.Mode} {S : World → Prop} {k : Nat}
def wpAnyL (P : Program) (md : Region.Mode) (ops : Array Oper) (Q : Exit → Act → World → Prop) (k : Nat) (S : World → Prop) : Nat → Array Bool → Act → World → Prop
  | 0, listed, a, w => Region.ready md ops listed = [] ∧ Q .normal a w
  | fuel + 1, listed, a, w =>
    (Region.ready md ops listed = [] → Q .normal a w) ∧
    ∀ i ∈ Region.ready md ops listed, wpOp P ops Q i (fun a' w' => (i < k → S w') ∧ wpAnyL P md ops Q k S fuel (listed.setIfInBounds i true) a' w') a w
theorem wpAny_of_L : ∀ (fuel : Nat) (listed : Array Bool) (a : Act) (w : World), wpAnyL P md ops Q k S fuel listed a w → wpAny P md ops Q fuel listed a w
  | 0, _, _, _, h => h
  | fuel + 1, _, _, _, h => ⟨h.1, fun i hi => wpOp_mono (fun a' w' h' => wpAny_of_L fuel _ a' w' h'.2) (h.2 i hi)⟩
/-- each operation from k on waits for each ahead of k -/
def phaseB (md : Region.Mode) (ops : Array Oper) (k : Nat) : Bool :=
  (List.range ops.size).all fun j => decide (j < k) || match ops[j]? with
    | none => true
    | some o => (List.range k).all fun i => o.after.any fun e => Region.binds md e && e.on == i
theorem phaseB_spec (h : phaseB md ops k = true) {j i : Nat} {o : Oper} (ho : ops[j]? = some o) (hj : k ≤ j) (hi : i < k) : ∃ e ∈ o.after, Region.binds md e = true ∧ e.on = i := by
  have hjs : j < ops.size := (Array.getElem?_eq_some_iff.1 ho).1
  unfold phaseB at h
  have h1 := List.all_eq_true.1 h j (List.mem_range.2 hjs)
  have hd : decide (j < k) = false := by simpa using hj
  rw [hd, Bool.false_or, ho] at h1
  have h2 := List.all_eq_true.1 h1 i (List.mem_range.2 hi)
  obtain ⟨e, he, hb⟩ := Array.any_eq_true'.1 h2
  simp only [Bool.and_eq_true, beq_iff_eq] at hb
  exact ⟨e, he, hb.1, hb.2⟩
theorem wpAnyL_first (hB : phaseB md ops k = true) {i : Nat} {oi : Oper} {v : Value} (hik : i < k) (hi : ops[i]? = some oi) (hsel : ∀ (j : Nat) (o : Oper) cs b, ops[j]? = some o → o.op ≠ .select cs b)
    (hQ : ∀ c a w, Q (.panic c) (a.put oi.dst v) w → Q (.panic c) a w) :
    ∀ (fuel : Nat) (listed : Array Bool) (a : Act) (w : World),
      (∀ j oj, ops[j]? = some oj → j ≠ i → listed.getD j true = false → (∀ e ∈ oj.after, Region.binds md e = true → e.on ≠ i) → oi.apart ops oj = true) →
      i ∈ Region.ready md ops listed → YieldsIf P ops S oi v a → S w →
      wpAnyL P md ops Q k S fuel (listed.setIfInBounds i true) (a.put oi.dst v) w → wpAnyL P md ops Q k S (fuel + 1) listed a w := by
  intro fuel
  induction fuel with
  | zero =>
    intro listed a w _ hr hy hS H
    refine ⟨fun h => (by rw [h] at hr; cases hr), fun j hj => ?_⟩
    by_cases hji : j = i
    · subst hji; exact hy.wpOp hi hS ⟨fun _ => hS, H⟩
    · have := ready_mono hj hji
      rw [H.1] at this
      cases this
  | succ fuel ih =>
    intro listed a w hfree hr hy hS H
    refine ⟨fun h => (by rw [h] at hr; cases hr), fun j hj => ?_⟩
    by_cases hji : j = i
    · subst hji; exact hy.wpOp hi hS ⟨fun _ => hS, H⟩
    · have h1 := H.2 j (ready_mono hj hji)
      obtain ⟨hjun, oj, hoj, hall⟩ := mem_ready.1 hj
      have hnot : ∀ e ∈ oj.after, Region.binds md e = true → e.on ≠ i := fun e he hb heq => by
        have h1 := hall e he hb
        have h0 := (mem_ready.1 hr).1
        rw [heq] at h1
        rcases Nat.lt_or_ge i listed.size with h' | h'
        · simp [h'] at h0 h1; rw [h0] at h1; cases h1
        · simp [Array.getElem?_eq_none h'] at h1
      have hjk : j < k := by
        rcases Nat.lt_or_ge j k with h' | h'
        · exact h'
        · obtain ⟨e, he, hb, hon⟩ := phaseB_spec hB hoj h' hik
          exact absurd hon (hnot e he hb)
      have h2 := wpOp_putIf hoj (hfree j oj hoj hji hjun hnot) (fun cs b => hsel i oi cs b hi) (fun cs b => hsel j oj cs b hoj) hQ hy h1
      have hfree' : ∀ k' ok, ops[k']? = some ok → k' ≠ i → (listed.setIfInBounds j true).getD k' true = false →
          (∀ e ∈ ok.after, Region.binds md e = true → e.on ≠ i) → oi.apart ops ok = true := fun k' ok hk hki hun hno => by
        refine hfree k' ok hk hki ?_ hno
        by_cases hjk : j = k'
        · subst hjk; exact hjun
        · rw [getD_set_ne true hjk] at hun; exact hun
      refine wpOp_mono (fun a' w' h3 => ⟨fun _ => h3.2.1 hjk, ih (listed.setIfInBounds j true) a' w' hfree' (ready_mono hr (Ne.symm hji)) h3.1 (h3.2.1 hjk) ?_⟩) h2
      rw [Array.setIfInBounds_comm _ _ hji]
      exact h3.2.2
/-- take number i first -/
theorem wpAnyL_take (hB : phaseB md ops k = true) {i : Nat} {oi : Oper} {v : Value} {fuel : Nat} {listed : Array Bool} {a : Act} {w : World} (hik : i < k) (hi : ops[i]? = some oi)
    (hs : Region.noSelect ops = true) (hf : Region.free md ops listed i = true) (hr : (Region.ready md ops listed).contains i = true)
    (hQ : ∀ c a w, Q (.panic c) (a.put oi.dst v) w → Q (.panic c) a w) (hy : YieldsIf P ops S oi v a) (hS : S w)
    (h : wpAnyL P md ops Q k S fuel (listed.setIfInBounds i true) (a.put oi.dst v) w) : wpAnyL P md ops Q k S (fuel + 1) listed a w :=
  wpAnyL_first hB hik hi (Region.noSelect_spec hs) hQ fuel listed a w (Region.free_spec hi hf) (by simpa using hr) hy hS h
/-- number i alone may come up -/
theorem wpAnyL_one {fuel : Nat} {listed : Array Bool} {a : Act} {w : World} {i : Nat} {o : Oper} (hr : Region.ready md ops listed = [i]) (ho : ops[i]? = some o)
    (h : ∀ K' : Act → World → Prop, Shut (∀ a w, (i < k → S w) → wpAnyL P md ops Q k S fuel (listed.setIfInBounds i true) a w → K' a w) → if Region.wanted o (yielded ops a.tmps) = true then Oper.wp P o a w K' Q else K' (a.put o.dst undef) w) :
    wpAnyL P md ops Q k S (fuel + 1) listed a w := by
  refine ⟨fun h0 => ?_, fun j hj => ?_⟩
  · rw [hr] at h0; cases h0
  · rw [hr] at hj
    rcases List.mem_cons.1 hj with rfl | hj
    · exact wpOp_step ho (fun K' hK => h K' (fun a w hS hW => hK a w ⟨hS, hW⟩))
    · cases hj
theorem wpAnyL_done {listed : Array Bool} {a : Act} {w : World} (hr : Region.ready md ops listed = []) (h : Q .normal a w) : ∀ fuel, wpAnyL P md ops Q k S fuel listed a w
  | 0 => ⟨hr, h⟩
  | _ + 1 => ⟨fun _ => h, by rw [hr]; simp⟩
theorem wp_region_L {id : Nat} {a : Act} {w : World} (hm : P.follows .mixedOrders = true)
    (h : wpAnyL P .any ops Q k S ops.size (Array.replicate ops.size false) a w.drew) : (Code.region id ops true).wp P Q a w :=
  wp_region_any hm (wpAny_of_L _ _ _ _ h)
end

theorem heap_set {w : World} {b : Nat} {vs : Array Value} {T : TypeId} {fr : Nat × Nat} (h : w.heap[b]? = some (.cells vs T fr)) (j : Nat) (v : Value) : (w.setCell ⟨b, j, none⟩ v).heap[b]? = some (.cells (vs.setIfInBounds j v) T fr) := by
  unfold World.setCell
  show (w.heap.modify b _)[b]? = _
  rw [Array.getElem?_modify, if_pos rfl, h]
  simp
theorem heap_set_ne {w : World} {b i : Nat} (hi : i ≠ b) (j : Nat) (v : Value) : (w.setCell ⟨b, j, none⟩ v).heap[i]? = w.heap[i]? := by
  unfold World.setCell
  show (w.heap.modify b _)[i]? = _
  rw [Array.getElem?_modify, if_neg (fun e => hi e.symm)]
theorem size_set {w : World} {b : Nat} (j : Nat) (v : Value) : (w.setCell ⟨b, j, none⟩ v).heap.size = w.heap.size := by simp [World.setCell]


/-! ### a row of one's own -/
structure OwnR (w : World) (T : TypeId) (b cap n : Nat) (xs : List Value) : Prop where
  ex : ∃ vs : Array Value, w.heap[b]? = some (.cells vs T (0, 0)) ∧ ∀ (j : Nat) (u : Value), xs[j]? = some u → vs[j]? = some u
  le : n ≤ cap
  lim : cap ≤ maxLen
theorem OwnR.lt {w : World} {T : TypeId} {b cap n : Nat} {xs : List Value} (h : OwnR w T b cap n xs) : b < w.heap.size := by
  obtain ⟨vs, h1, _⟩ := h.ex
  exact (Array.getElem?_eq_some_iff.1 h1).1
theorem OwnR.cell {w : World} {T : TypeId} {b cap n : Nat} {xs : List Value} (h : OwnR w T b cap n xs) {j : Nat} {u : Value} (hj : xs[j]? = some u) : w.cell? ⟨b, j, none⟩ = some u ∧ w.frozen? ⟨b, j, none⟩ = false := by
  obtain ⟨vs, h1, h2⟩ := h.ex
  refine ⟨blk_cell h1 (h2 j u hj), ?_⟩
  simp [World.frozen?, h1]
theorem OwnR.row {w : World} {T : TypeId} {b cap n : Nat} {xs : List Value} (h : OwnR w T b cap n xs) : RowAt w (fun _ => True) (some ⟨b, 0, none⟩) cap n xs :=
  ⟨h.le, h.lim, fun e => (by cases e), fun j u hj => ⟨b, 0, rfl, trivial, by rw [Nat.zero_add]; exact (h.cell hj).1⟩⟩
theorem OwnR.keep {w w' : World} {T : TypeId} {b cap n : Nat} {xs : List Value} (h : OwnR w T b cap n xs) (hb : w'.heap[b]? = w.heap[b]?) : OwnR w' T b cap n xs := by
  obtain ⟨vs, h1, h2⟩ := h.ex
  exact ⟨⟨vs, hb.trans h1, h2⟩, h.le, h.lim⟩
theorem OwnR.set {w : World} {T : TypeId} {b cap n : Nat} {xs : List Value} (h : OwnR w T b cap n xs) {j : Nat} {u0 : Value} (hj : xs[j]? = some u0) (u : Value) : OwnR (w.setCell ⟨b, j, none⟩ u) T b cap n (xs.set j u) := by
  obtain ⟨vs, h1, h2⟩ := h.ex
  refine ⟨⟨vs.setIfInBounds j u, heap_set h1 j u, fun i x hi => ?_⟩, h.le, h.lim⟩
  have hjs : j < vs.size := (Array.getElem?_eq_some_iff.1 (h2 j u0 hj)).1
  rw [List.getElem?_set] at hi
  rw [Array.getElem?_setIfInBounds]
  by_cases e : j = i
  · subst e
    rw [if_pos rfl] at hi ⊢
    rw [if_pos hjs]
    split at hi
    · exact hi
    · cases hi
  · rw [if_neg e] at hi ⊢
    exact h2 i x hi
theorem own_R {w : World} {B : Nat} {e : TypeId} {c n : Nat} {v : Value} {xs : List Value} (h : w.ownsRow B e c v n xs) (hn : 0 < n) : ∃ g cap, v = .slice (some ⟨g, 0, none⟩) n cap ∧ B ≤ g ∧ OwnR w e g cap n xs := by
  rcases h.2 with ⟨_, h0⟩ | ⟨g, cap, cur, rfl, hB, hg, h1, h2, _, ht⟩
  · omega
  · refine ⟨g, cap, rfl, hB, ⟨cur, hg, fun j u hj => ?_⟩, h1, h2⟩
    rw [← ht, List.getElem?_take] at hj
    split at hj
    · simpa using hj
    · cases hj
/-- a cell of one element is another -/
theorem flat_set {α : Type} (f : α → List Value) (c : Nat) (hc : ∀ x, (f x).length = c) : ∀ (l : List α) (k i : Nat) (x y : α) (u : Value), l[k]? = some x → i < c → f y = (f x).set i u → (l.flatMap f).set (k * c + i) u = (l.set k y).flatMap f
  | [], k, i, x, y, u, h, _, _ => by simp at h
  | a :: r, 0, i, x, y, u, h, hi, he => by
    simp at h
    subst h
    rw [Nat.zero_mul, Nat.zero_add, List.flatMap_cons, List.set_append_left _ _ (by rw [hc]; exact hi), List.set_cons_zero, List.flatMap_cons, he]
  | a :: r, k + 1, i, x, y, u, h, hi, he => by
    have ih := flat_set f c hc r k i x y u (by simpa using h) hi he
    rw [List.flatMap_cons, List.set_append_right _ _ (by rw [hc, Nat.succ_mul]; omega), List.set_cons_succ, List.flatMap_cons, hc, ← ih]
    congr 2
    rw [Nat.succ_mul]
    omega
theorem info_f : ∃ i, Tryd.prog.info? 42 = some i ∧ i.zero = some (.agg #[.string ⟨#[]⟩, .bool false, .int .i64 0, .int .i64 0, .slice none 0 0]) ∧ i.size = 5 ∧ i.bytes = 64 := ⟨_, rfl, rfl, rfl, rfl⟩
theorem info_n : ∃ i, Tryd.prog.info? 31 = some i ∧ i.zero = some (.agg #[.int .u8 0, .int .i64 0, .int .i64 0, .int .i64 0, .int .i64 0, .slice none 0 0]) ∧ i.size = 6 ∧ i.bytes = 64 := ⟨_, rfl, rfl, rfl, rfl⟩
theorem fn_one (l : List Fn) : ∀ u ∈ fnCells l, u.oneCell' = true := fun u hu => by
  unfold fnCells at hu
  obtain ⟨f, _, hf⟩ := List.mem_flatMap.1 hu
  unfold Fn.vals at hf
  simp at hf
  rcases hf with rfl | rfl | rfl | rfl | rfl <;> rfl
theorem in_one (l : List Ins) : ∀ u ∈ inCells l, u.oneCell' = true := fun u hu => by
  unfold inCells at hu
  obtain ⟨f, _, hf⟩ := List.mem_flatMap.1 hu
  unfold Ins.vals at hf
  simp at hf
  rcases hf with rfl | rfl | rfl | rfl | rfl | rfl <;> rfl
theorem fn_len (l : List Fn) : (fnCells l).length = l.length * 5 := by
  unfold fnCells
  induction l with
  | nil => rfl
  | cons x r ih => rw [List.flatMap_cons, List.length_append, ih, Fn.vals_len, List.length_cons]; omega
theorem in_len (l : List Ins) : (inCells l).length = l.length * 6 := by
  unfold inCells
  induction l with
  | nil => rfl
  | cons x r ih => rw [List.flatMap_cons, List.length_append, ih, Ins.vals_len, List.length_cons]; omega
/-! ### numbers within a list -/
theorem u64_bd (n : Int) : 0 ≤ IntKind.u64.wrap n ∧ IntKind.u64.wrap n < 18446744073709551616 := by
  unfold IntKind.wrap
  simp [IntKind.bits, IntKind.signed]
  omega
theorem rem_len (n : Int) (L : Nat) (h0 : ¬ L = 0) (hL : L ≤ 1048576) : ∃ m : Nat, (IntKind.u64.wrap n).tmod (L : Int) = (m : Int) ∧ m < L := by
  have h1 := (u64_bd n).1
  have h2 := Int.emod_nonneg (IntKind.u64.wrap n) (show (L : Int) ≠ 0 by omega)
  have h3 := Int.emod_lt_of_pos (IntKind.u64.wrap n) (show (0 : Int) < L by omega)
  refine ⟨((IntKind.u64.wrap n).tmod L).toNat, ?_, ?_⟩
  · rw [Int.tmod_eq_emod_of_nonneg h1]; omega
  · rw [Int.tmod_eq_emod_of_nonneg h1]; omega
theorem wanted_no {ops : Array Oper} {o : Oper} {a : Act} {j d : Nat} (hg : o.guard = some (j, false)) (hd : Go.Proofs.YtiicjbnocpphdaaDoor.Qr.dstOf ops j = some d) (h : a.tmps[d]? = some (.bool false)) : Region.wanted o (yielded ops a.tmps) = true := by
  unfold Region.wanted; rw [hg]
  have : yielded ops a.tmps j = some false := by
    unfold yielded; unfold Go.Proofs.YtiicjbnocpphdaaDoor.Qr.dstOf at hd
    rw [hd]; simp [h]
  simp [this]
theorem fn_cut (l : List Fn) (k : Nat) : fnCells l = fnCells (l.take k) ++ fnCells (l.drop k) := by
  unfold fnCells
  rw [← List.flatMap_append, List.take_append_drop]
theorem fn_take (l : List Fn) (k j : Nat) (u : Value) (h : (fnCells (l.take k))[j]? = some u) : (fnCells l)[j]? = some u := by
  rw [fn_cut l k, List.getElem?_append_left (List.getElem?_eq_some_iff.1 h).1]
  exact h
theorem fn_drop (l : List Fn) (k j : Nat) (u : Value) (hk : k ≤ l.length) (h : (fnCells (l.drop k))[j]? = some u) : (fnCells l)[k * 5 + j]? = some u := by
  have hl : (fnCells (l.take k)).length = k * 5 := by rw [fn_len, List.length_take, Nat.min_eq_left hk]
  rw [fn_cut l k, List.getElem?_append_right (by omega), hl, Nat.add_sub_cancel_left]
  exact h
theorem own_ge {w : World} {B : Nat} {e : TypeId} {c n : Nat} {v : Value} {xs : List Value} (h : w.ownsRow B e c v n xs) : ∀ q, v.ownBlock = some q → B ≤ q := by
  rcases h.2 with ⟨rfl, _⟩ | ⟨g, cap, cur, rfl, hB, _⟩
  · intro q e; cases e
  · intro q e; cases e; exact hB
/-- a row of one's own as it reads behind it, empty ones too -/
theorem own_V {w : World} {B : Nat} {e : TypeId} {c n : Nat} {v : Value} {xs : List Value} (h : w.ownsRow B e c v n xs) : ∃ fa cap, v = .slice fa n cap ∧ ∀ V, (∀ g, B ≤ g → g < w.heap.size → V.heap[g]? = w.heap[g]?) → RowAt V (fun _ => True) fa cap n xs := by
  obtain ⟨h0, h1⟩ := h
  rcases h1 with ⟨rfl, hn⟩ | ⟨g, cap, cur, rfl, hB, hg, h1, h2, _, ht⟩
  · subst hn
    refine ⟨none, 0, rfl, fun V _ => ⟨Nat.le_refl _, Nat.zero_le _, fun _ => rfl, fun j u hj => ?_⟩⟩
    rw [Nat.zero_mul] at h0
    rw [List.eq_nil_of_length_eq_zero h0] at hj
    cases hj
  · refine ⟨some ⟨g, 0, none⟩, cap, rfl, fun V hV => OwnR.row (T := e) ⟨⟨cur, (hV g hB (Array.getElem?_eq_some_iff.1 hg).1).trans hg, fun j u hj => ?_⟩, h1, h2⟩⟩
    rw [← ht, List.getElem?_take] at hj
    split at hj
    · simpa using hj
    · cases hj
end Go.Proofs.YtiicjbnocpphdaaDoor.Cd

set_option linter.unusedSimpArgs false
set_option linter.unusedVariables false
namespace Go.Proofs.YtiicjbnocpphdaaDoor.Cd
open Go Go.RowKit
open Go.Proofs.YtiicjbnocpphdaaDoor.Lx Go.Proofs.YtiicjbnocpphdaaDoor.Tr Go.Proofs.YtiicjbnocpphdaaDoor.Pa
open Go.Proofs.YtiicjbnocpphdaaDoor.Vq Go.Proofs.YtiicjbnocpphdaaDoor.Qr
open Go.Proofs.YtiicjbnocpphdaaDoor.Qg (run_call1 run_call2)

def Bs3 (B : Nat) (p q : Pg) (i : Ins) (V : World) : Prop :=
  Bp1 B p V ∧ Bp1 (B + 1) q V ∧ (V.cell? ⟨B + 1 + 1, 0, none⟩ = some (.int .u8 i.op) ∧ V.cell? ⟨B + 1 + 1, 1, none⟩ = some (.int .i64 i.r) ∧ V.cell? ⟨B + 1 + 1, 2, none⟩ = some (.int .i64 i.a) ∧ V.cell? ⟨B + 1 + 1, 3, none⟩ = some (.int .i64 i.b) ∧ V.cell? ⟨B + 1 + 1, 4, none⟩ = some (.int .i64 i.n) ∧ V.cell? ⟨B + 1 + 1, 5, none⟩ = some (.slice i.aa i.args.length i.acap))
theorem Bp1.below {B : Nat} {p : Pg} {V V' : World} (h : Bp1 B p V) (hb : Below V.heap.size V V') : Bp1 B p V' := ⟨below_in hb h.1, below_in hb h.2.1, below_in hb h.2.2⟩
theorem Bs3.below {B : Nat} {p q : Pg} {i : Ins} {V V' : World} (h : Bs3 B p q i V) (hb : Below V.heap.size V V') : Bs3 B p q i V' :=
  ⟨h.1.below hb, h.2.1.below hb, below_in hb h.2.2.1, below_in hb h.2.2.2.1, below_in hb h.2.2.2.2.1, below_in hb h.2.2.2.2.2.1, below_in hb h.2.2.2.2.2.2.1, below_in hb h.2.2.2.2.2.2.2⟩
theorem bs3_new (w : World) (p q : Pg) (i : Ins) : Bs3 w.heap.size p q i (((w.alloc (.cells ⟨p.vals⟩ 27)).alloc (.cells ⟨q.vals⟩ 27)).alloc (.cells ⟨i.vals⟩ 31)) := by
  obtain ⟨h0, h1, h2⟩ := ins3 w (.cells ⟨p.vals⟩ 27) (.cells ⟨q.vals⟩ 27) (.cells ⟨i.vals⟩ 31)
  exact ⟨pg_cells (p := p) (cells_of h0), pg_cells (p := q) (cells_of h1), ins_cells (i := i) (cells_of h2)⟩
def rs (p q : Pg) (i : Ins) : List (Value → World → Prop) :=
  [VK p.val, VK p.val, VK (.bool true), VK (.bool false), VK (.bool false), VK (.agg ⟨i.vals⟩), VK (.agg ⟨i.vals⟩), VK (.bool true), VK (.bool false), VK (.bool false), VK (.bool false), VK p.val, VK q.val, VK (.bool (sameP p q)), VK q.val, VK p.val, VK (.bool (sameP p q)), VK (.bool false), VK (.bool false)]
theorem rs_mono (p q : Pg) (i : Ins) : MonoL (rs p q i) :=
  ⟨VK.mono, VK.mono, VK.mono, VK.mono, VK.mono, VK.mono, VK.mono, VK.mono, VK.mono, VK.mono, VK.mono, VK.mono, VK.mono, VK.mono, VK.mono, VK.mono, VK.mono, VK.mono, VK.mono, trivial⟩
theorem run_neb {a : Act} {o : Oper} {t t2 : TypeId} {x y : Operand} {b : Bool} {w : World} (ht : Tryd.prog.underlying t = some .bool) (ho : o.op = .binOp .neq t x y t2) (hx : a.eval x = .bool b) (hy : a.eval y = .bool b) : (execOp a.eval o).run Tryd.prog w = .ok (.value (.bool false)) w := by
  unfold execOp
  rw [ho]
  simp only [hx, hy]
  cases b <;> simp [go_sem, ht]
theorem run_not {a : Act} {o : Oper} {t : TypeId} {x : Operand} {b : Bool} {w : World} (ho : o.op = .unOp .not t x) (hx : a.eval x = .bool b) : (execOp a.eval o).run Tryd.prog w = .ok (.value (.bool !b)) w := by
  unfold execOp
  rw [ho]
  simp only [hx]
  cases b <;> simp [go_sem]
theorem load_pg {p : Pg} {W : World} {b : Nat} (h : Bp1 b p W) : (Instr.loadAt 27 (.pointer (some ⟨b, 0, none⟩))).run Tryd.prog W = .ok p.val W := by
  obtain ⟨h0, h1, h2⟩ := h
  simp [go_sem, h0, h1, h2, Pg.val]
theorem load_in {i : Ins} {W : World} {b : Nat} (h0 : W.cell? ⟨b, 0, none⟩ = some (.int .u8 i.op)) (h1 : W.cell? ⟨b, 1, none⟩ = some (.int .i64 i.r)) (h2 : W.cell? ⟨b, 2, none⟩ = some (.int .i64 i.a)) (h3 : W.cell? ⟨b, 3, none⟩ = some (.int .i64 i.b)) (h4 : W.cell? ⟨b, 4, none⟩ = some (.int .i64 i.n)) (h5 : W.cell? ⟨b, 5, none⟩ = some (.slice i.aa i.args.length i.acap)) : (Instr.loadAt 31 (.pointer (some ⟨b, 0, none⟩))).run Tryd.prog W = .ok (.agg ⟨i.vals⟩) W := by
  simp [go_sem, h0, h1, h2, h3, h4, h5, Ins.vals]
def rs13 (p px py : Pg) : List (Value → World → Prop) :=
  [VK p.val, VK px.val, VK (.bool false), VK (.bool false), VK p.val, VK py.val, VK (.bool false), VK (.bool false)]
theorem rs13_mono (p px py : Pg) : MonoL (rs13 p px py) :=
  ⟨VK.mono, VK.mono, VK.mono, VK.mono, VK.mono, VK.mono, VK.mono, VK.mono, trivial⟩
theorem run_ix {P : Program} {a : Act} {o : Oper} {t : TypeId} {x y : Operand} {u v r : Value} {w w' : World} (ho : o.op = .indexAddr t x y) (hx : a.eval x = u) (hy : a.eval y = v) (hr : (Instr.indexAt t u v).run P w = .ok r w') : (execOp a.eval o).run P w = .ok (.value r) w' := by
  subst hx hy
  unfold execOp
  simp [ho, hr]
theorem ix_in {V : World} {b off n cap k : Nat} (h : (k : Int) < (n : Int)) : (Instr.indexAt 40 (.slice (some ⟨b, off, none⟩) n cap) (.int .i64 k)).run Tryd.prog V = .ok (.pointer (some ⟨b, off + k * 6, none⟩)) V := by go_simp
theorem store6_own {w : World} {T : TypeId} {g cap L n : Nat} {l : List Ins} {y0 : Ins} (i : Ins) (h : OwnR w T g cap L (inCells l)) (hy : l[n]? = some y0) : OwnR ((((((w.setCell ⟨g, n * 6, none⟩ (.int .u8 i.op)).setCell ⟨g, n * 6 + 1, none⟩ (.int .i64 i.r)).setCell ⟨g, n * 6 + 2, none⟩ (.int .i64 i.a)).setCell ⟨g, n * 6 + 3, none⟩ (.int .i64 i.b)).setCell ⟨g, n * 6 + 4, none⟩ (.int .i64 i.n)).setCell ⟨g, n * 6 + 5, none⟩ (.slice i.aa i.args.length i.acap)) T g cap L (inCells (l.set n i)) := by
  have hn := (List.getElem?_eq_some_iff.1 hy).1
  have step : ∀ (w : World) (l' : List Ins) (a y : Ins) (j : Nat) (u0 u : Value), OwnR w T g cap L (inCells l') → l'[n]? = some a → j < 6 → a.vals[j]? = some u0 → y.vals = a.vals.set j u → OwnR (w.setCell ⟨g, n * 6 + j, none⟩ u) T g cap L (inCells (l'.set n y)) := fun w l' a y j u0 u h hl hj hu hv => by
    have hc : (inCells l')[n * 6 + j]? = some u0 := by
      have := flat_at Ins.vals 6 Ins.vals_len l' n j a hl hj
      rw [hu] at this
      exact this
    have h1 := h.set hc u
    rw [show (inCells l').set (n * 6 + j) u = inCells (l'.set n y) from flat_set Ins.vals 6 Ins.vals_len l' n j a y u hl hj hv] at h1
    exact h1
  have e : ∀ y : Ins, (l.set n y)[n]? = some y := fun y => List.getElem?_set_self hn
  have g0 := step w l y0 { y0 with op := i.op } 0 _ (.int .u8 i.op) h hy (by omega) rfl rfl
  have g1 := step _ _ _ { y0 with op := i.op, r := i.r } 1 _ (.int .i64 i.r) g0 (e _) (by omega) rfl rfl
  rw [List.set_set] at g1
  have g2 := step _ _ _ { y0 with op := i.op, r := i.r, a := i.a } 2 _ (.int .i64 i.a) g1 (e _) (by omega) rfl rfl
  rw [List.set_set] at g2
  have g3 := step _ _ _ { y0 with op := i.op, r := i.r, a := i.a, b := i.b } 3 _ (.int .i64 i.b) g2 (e _) (by omega) rfl rfl
  rw [List.set_set] at g3
  have g4 := step _ _ _ { y0 with op := i.op, r := i.r, a := i.a, b := i.b, n := i.n } 4 _ (.int .i64 i.n) g3 (e _) (by omega) rfl rfl
  rw [List.set_set] at g4
  have g5 := step _ _ _ i 5 _ (.slice i.aa i.args.length i.acap) g4 (e _) (by omega) rfl rfl
  rw [List.set_set] at g5
  exact g5
theorem store6_ne {w : World} {g b : Nat} (hb : b ≠ g) (o0 o1 o2 o3 o4 o5 : Nat) (v0 v1 v2 v3 v4 v5 : Value) : ((((((w.setCell ⟨g, o0, none⟩ v0).setCell ⟨g, o1, none⟩ v1).setCell ⟨g, o2, none⟩ v2).setCell ⟨g, o3, none⟩ v3).setCell ⟨g, o4, none⟩ v4).setCell ⟨g, o5, none⟩ v5).heap[b]? = w.heap[b]? := by
  rw [heap_set_ne hb, heap_set_ne hb, heap_set_ne hb, heap_set_ne hb, heap_set_ne hb, heap_set_ne hb]
theorem store6_below {B : Nat} {a w : World} {g : Nat} (h : Below B a w) (hg : B ≤ g) (o0 o1 o2 o3 o4 o5 : Nat) (v0 v1 v2 v3 v4 v5 : Value) : Below B a ((((((w.setCell ⟨g, o0, none⟩ v0).setCell ⟨g, o1, none⟩ v1).setCell ⟨g, o2, none⟩ v2).setCell ⟨g, o3, none⟩ v3).setCell ⟨g, o4, none⟩ v4).setCell ⟨g, o5, none⟩ v5) :=
  (((((h.setCell (p := ⟨g, o0, none⟩) hg v0).setCell (p := ⟨g, o1, none⟩) hg v1).setCell (p := ⟨g, o2, none⟩) hg v2).setCell (p := ⟨g, o3, none⟩) hg v3).setCell (p := ⟨g, o4, none⟩) hg v4).setCell (p := ⟨g, o5, none⟩) hg v5
theorem fnCells_set (l : List Fn) (k : Nat) (a b : Fn) (h : a.vals = b.vals) : fnCells (l.set k a) = fnCells (l.set k b) := by
  unfold fnCells
  rw [List.flatMap_def, List.flatMap_def, List.map_set, List.map_set, h]
theorem run_eqb {a : Act} {o : Oper} {t t2 : TypeId} {x y : Operand} {b : Bool} {w : World} (ht : Tryd.prog.underlying t = some .bool) (ho : o.op = .binOp .eql t x y t2) (hx : a.eval x = .bool b) (hy : a.eval y = .bool b) : (execOp a.eval o).run Tryd.prog w = .ok (.value (.bool true)) w := by
  unfold execOp
  rw [ho]
  simp only [hx, hy]
  cases b <;> simp [go_sem, ht]
def rs23 (p pz : Pg) (y0 i : Ins) (bc offc n L cap : Nat) : List (Value → World → Prop) :=
  [VK p.val, VK pz.val, VK (.bool (sameI y0 i)), VK (.slice (some ⟨bc, offc, none⟩) L cap), VK (.int .i64 n), VK (.pointer (some ⟨bc, offc + n * 6, none⟩)), VK (.agg ⟨y0.vals⟩), VK (.agg ⟨i.vals⟩), VK (.bool (sameI y0 i)), VK (.bool true), VK (.bool true)]
theorem rs23_mono {p pz : Pg} {y0 i : Ins} {bc offc n L cap : Nat} : MonoL (rs23 p pz y0 i bc offc n L cap) :=
  ⟨VK.mono, VK.mono, VK.mono, VK.mono, VK.mono, VK.mono, VK.mono, VK.mono, VK.mono, VK.mono, VK.mono, trivial⟩
theorem load_at {i : Ins} {W : World} {b o : Nat} (h0 : W.cell? ⟨b, o, none⟩ = some (.int .u8 i.op)) (h1 : W.cell? ⟨b, o + 1, none⟩ = some (.int .i64 i.r)) (h2 : W.cell? ⟨b, o + 2, none⟩ = some (.int .i64 i.a)) (h3 : W.cell? ⟨b, o + 3, none⟩ = some (.int .i64 i.b)) (h4 : W.cell? ⟨b, o + 4, none⟩ = some (.int .i64 i.n)) (h5 : W.cell? ⟨b, o + 5, none⟩ = some (.slice i.aa i.args.length i.acap)) : (Instr.loadAt 31 (.pointer (some ⟨b, o, none⟩))).run Tryd.prog W = .ok (.agg ⟨i.vals⟩) W := by
  simp [go_sem, h0, h1, h2, h3, h4, h5, Ins.vals]
set_option maxHeartbeats 16000000 in
set_option maxRecDepth 100000 in
theorem codeSame_law (p q : Pg) (fn at_ : Int) (i : Ins) (w : World) (hp : Pg.In w (fun _ => True) p) (hq : Pg.In w (fun _ => True) q) (hi : Ins.In w (fun _ => True) i) (hfn : I64 fn) (hat : I64 at_) (hS : Sml p) (hS2 : Sml q) (hnm : ∀ f ∈ p.funs, f.name.size ≤ 1048576) (hT : OpTab w) (hsg : SignsIn w) :
    Calls Tryd.prog 6 #[p.val, q.val, .int .i64 fn, .int .i64 at_, i.val] w fun e w' => e = .returned (.bool true) ∧ Below w.heap.size w w' := by
  have hsum := hS.sum
  have hsum2 := hS2.sum
  obtain ⟨pm1, pm2⟩ := len_i hp.mrow
  obtain ⟨pl1, pl2⟩ := len_i hp.lrow
  obtain ⟨pf1, pf2⟩ := len_i hp.frow
  have hpV : Hid (∀ V, Below w.heap.size w V → Pg.In V (fun _ => True) p) := Lib.hid fun V hV => hp.below (Kps.of_below hV)
  have hqV : Hid (∀ V, Below w.heap.size w V → Pg.In V (fun _ => True) q) := Lib.hid fun V hV => hq.below (Kps.of_below hV)
  have hiV : Hid (∀ V, Below w.heap.size w V → Ins.In V (fun _ => True) i) := Lib.hid fun V hV => hi.below (Kps.of_below hV)
  have hwk0 := Lib.hid (fun V (hV : Below w.heap.size w V) => works_c V (hT.keep hV) (hsg.below hsg.lt hV))
  have hst : Hid (Below w.heap.size w (((w.alloc (.cells #[.slice p.ma p.mems.length p.mcap, .slice p.la p.locks.length p.lcap, .slice p.fa p.funs.length p.fcap] 27)).alloc (.cells #[.slice q.ma q.mems.length q.mcap, .slice q.la q.locks.length q.lcap, .slice q.fa q.funs.length q.fcap] 27)).alloc (.cells #[.int .u8 i.op, .int .i64 i.r, .int .i64 i.a, .int .i64 i.b, .int .i64 i.n, .slice i.aa i.args.length i.acap] 31))) := Lib.hid (b_alloc3 _ _ _ _)
  have hbx : Hid (Bs3 w.heap.size p q i (((w.alloc (.cells #[.slice p.ma p.mems.length p.mcap, .slice p.la p.locks.length p.lcap, .slice p.fa p.funs.length p.fcap] 27)).alloc (.cells #[.slice q.ma q.mems.length q.mcap, .slice q.la q.locks.length q.lcap, .slice q.fa q.funs.length q.fcap] 27)).alloc (.cells #[.int .u8 i.op, .int .i64 i.r, .int .i64 i.a, .int .i64 i.b, .int .i64 i.n, .slice i.aa i.args.length i.acap] 31))) := Lib.hid (bs3_new w p q i)
  have hargs := Lib.hid hS.args
  replace hnm := Lib.hid hnm
  clear hp hq hi hS hS2 hT hsg
  go_enter Tryd.func6, Tryd.ntmps6
  go_upto_region 1 with fail
  generalize hW0 : ((w.alloc (.cells #[.slice p.ma p.mems.length p.mcap, .slice p.la p.locks.length p.lcap, .slice p.fa p.funs.length p.fcap] 27)).alloc (.cells #[.slice q.ma q.mems.length q.mcap, .slice q.la q.locks.length q.lcap, .slice q.fa q.funs.length q.fcap] 27)).alloc (.cells #[.int .u8 i.op, .int .i64 i.r, .int .i64 i.a, .int .i64 i.b, .int .i64 i.n, .slice i.aa i.args.length i.acap] 31) = W0 at *
  clear hW0
  have hcell : Hid (∀ V, Below W0.heap.size W0 V → Bs3 w.heap.size p q i V ∧ Below w.heap.size w V) := Lib.hid fun V hV => ⟨hbx.out.below hV, hst.out.trans (hV.mono hst.out.size)⟩
  have hwk : Hid (∀ V, Hid (Below W0.heap.size W0 V) → Calls Tryd.prog 7 #[] V fun e V' => e = .returned (.bool true) ∧ Hid (Below W0.heap.size W0 V') ∧ Bp1 w.heap.size p V' ∧ Bp1 (w.heap.size + 1) q V') := Lib.hid fun V hV => (hwk0.out V (hcell.out V hV.out).2).mono fun e V' ⟨h1, h2⟩ => ⟨h1, Lib.hid (hV.out.trans (h2.mono hV.out.size)), (hcell.out V' (hV.out.trans (h2.mono hV.out.size))).1.1, (hcell.out V' (hV.out.trans (h2.mono hV.out.size))).1.2.1⟩
  have hb0 : Hid (Below W0.heap.size W0 W0) := Lib.hid (Below.refl _ _)
  clear hbx hst hwk0
  have s1 : IntKind.i64.wrap ((p.mems.length : Int) + (q.mems.length : Int)) = (p.mems.length : Int) + (q.mems.length : Int) := IntWalk.i64_in _ (by omega)
  have s2 : IntKind.i64.wrap ((p.mems.length : Int) + (q.mems.length : Int) + (p.locks.length : Int)) = (p.mems.length : Int) + (q.mems.length : Int) + (p.locks.length : Int) := IntWalk.i64_in _ (by omega)
  have s3 : IntKind.i64.wrap ((p.mems.length : Int) + (q.mems.length : Int) + (p.locks.length : Int) + (q.locks.length : Int)) = (p.mems.length : Int) + (q.mems.length : Int) + (p.locks.length : Int) + (q.locks.length : Int) := IntWalk.i64_in _ (by omega)
  by_cases g1 : (20 : Int) < (p.funs.length : Int)
  · go_wp2_with (go_at_call 7; refine (hwk.out _ (by assumption)).mono ?_; rintro e V ⟨rfl, hbV, ⟨x0, x1, x2⟩, y0, y1, y2⟩)
    go_ret
    exact ⟨rfl, (hcell.out _ hbV.out).2⟩
  by_cases g2 : (20 : Int) < (q.funs.length : Int)
  · go_wp2_with (go_at_call 7; refine (hwk.out _ (by assumption)).mono ?_; rintro e V ⟨rfl, hbV, ⟨x0, x1, x2⟩, y0, y1, y2⟩)
    go_ret
    exact ⟨rfl, (hcell.out _ hbV.out).2⟩
  by_cases g3 : (200 : Int) < (p.mems.length : Int) + (q.mems.length : Int) + (p.locks.length : Int) + (q.locks.length : Int)
  · go_wp2_with (go_at_call 7; refine (hwk.out _ (by assumption)).mono ?_; rintro e V ⟨rfl, hbV, ⟨x0, x1, x2⟩, y0, y1, y2⟩)
    go_ret
    exact ⟨rfl, (hcell.out _ hbV.out).2⟩
  go_upto_region 3 with (go_at_call 7; refine (hwk.out _ (by assumption)).mono ?_; rintro e V1 ⟨rfl, hbV, ⟨x0, x1, x2⟩, y0, y1, y2⟩)
  clear x0 x1 x2 y0 y1 y2 hb0 s1 s2 s3 hwk
  refine wp_region_rel (C := fun V => Below W0.heap.size W0 V) (E := Ext) (R := fun j => (rs p q i).getD j VT) (by kernel_rfl) hbV.out.drew (by kernel_rfl) (fun j v w' w'' _ hE h => mono_get _ j (rs_mono _ _ _) v w' w'' hE h) (steps_all ?hs) ?hend
  case hs =>
    refine stepsL_cons (s_val fun a W hC hs => ?_) ?_
    · have hB := (hcell.out W hC).1
      have ho := old_of hs 5 (by kernel_rfl) (by rfl)
      exact ⟨wanted_none rfl, _, run_ld rfl (ev ho) (load_pg hB.1), rfl⟩
    refine stepsL_cons (s_val fun a W hC hs => ?_) ?_
    · have hB := (hcell.out W hC).1
      have ho := old_of hs 5 (by kernel_rfl) (by rfl)
      exact ⟨wanted_none rfl, _, run_ld rfl (ev ho) (load_pg hB.1), rfl⟩
    refine stepsL_cons (s_call fun a W hC hs => ?_) ?_
    · obtain ⟨v0, hv0, hR0⟩ := got_of hs 0 50 (by kernel_rfl) (by rfl)
      have hR0' : v0 = _ := hR0
      subst hR0'
      obtain ⟨v1, hv1, hR1⟩ := got_of hs 1 51 (by kernel_rfl) (by rfl)
      have hR1' : v1 = _ := hR1
      subst hR1'
      have hbw := (hcell.out W hC).2
      refine ⟨wanted_none rfl, 15, _, run_call2 rfl (ev hv0) (ev hv1) (fun _ _ => rfl), (same_any p p W (hpV.out W hbw) (hpV.out W hbw)).mono ?_⟩
      rintro e W' ⟨rfl, hb⟩
      exact ⟨_, rfl, hC.trans (hb.mono hC.size), hb, by show Value.bool _ = _; rw [sameP_refl]⟩
    refine stepsL_cons (s_val fun a W hC hs => ?_) ?_
    · obtain ⟨v0, hv0, hR0⟩ := got_of hs 2 52 (by kernel_rfl) (by rfl)
      have hR0' : v0 = _ := hR0
      subst hR0'
      exact ⟨wanted_none rfl, _, run_not rfl (ev hv0), rfl⟩
    refine stepsL_cons (s_val fun a W hC hs => ?_) ?_
    · obtain ⟨v0, hv0, hR0⟩ := got_of hs 3 53 (by kernel_rfl) (by rfl)
      have hR0' : v0 = _ := hR0
      subst hR0'
      exact ⟨wanted_none rfl, _, run_mv (Or.inl rfl) (ev hv0), rfl⟩
    refine stepsL_cons (s_val fun a W hC hs => ?_) ?_
    · obtain ⟨v9, hv9, hR9⟩ := got_of hs 4 54 (by kernel_rfl) (by rfl)
      have hR9' : v9 = _ := hR9
      subst hR9'
      have hB := (hcell.out W hC).1
      have ho := old_of hs 9 (by kernel_rfl) (by rfl)
      exact ⟨wanted_no (j := 4) (d := 54) rfl (by rfl) hv9, _, run_ld rfl (ev ho) (load_in hB.2.2.1 hB.2.2.2.1 hB.2.2.2.2.1 hB.2.2.2.2.2.1 hB.2.2.2.2.2.2.1 hB.2.2.2.2.2.2.2), rfl⟩
    refine stepsL_cons (s_val fun a W hC hs => ?_) ?_
    · obtain ⟨v9, hv9, hR9⟩ := got_of hs 4 54 (by kernel_rfl) (by rfl)
      have hR9' : v9 = _ := hR9
      subst hR9'
      have hB := (hcell.out W hC).1
      have ho := old_of hs 9 (by kernel_rfl) (by rfl)
      exact ⟨wanted_no (j := 4) (d := 54) rfl (by rfl) hv9, _, run_ld rfl (ev ho) (load_in hB.2.2.1 hB.2.2.2.1 hB.2.2.2.2.1 hB.2.2.2.2.2.1 hB.2.2.2.2.2.2.1 hB.2.2.2.2.2.2.2), rfl⟩
    refine stepsL_cons (s_call fun a W hC hs => ?_) ?_
    · obtain ⟨v9, hv9, hR9⟩ := got_of hs 4 54 (by kernel_rfl) (by rfl)
      have hR9' : v9 = _ := hR9
      subst hR9'
      obtain ⟨v0, hv0, hR0⟩ := got_of hs 5 55 (by kernel_rfl) (by rfl)
      have hR0' : v0 = _ := hR0
      subst hR0'
      obtain ⟨v1, hv1, hR1⟩ := got_of hs 6 56 (by kernel_rfl) (by rfl)
      have hR1' : v1 = _ := hR1
      subst hR1'
      have hbw := (hcell.out W hC).2
      refine ⟨wanted_no (j := 4) (d := 54) rfl (by rfl) hv9, 21, _, run_call2 rfl (ev hv0) (ev hv1) (fun _ _ => rfl), (sameIns_any i i W (hiV.out W hbw).row (hiV.out W hbw).row).mono ?_⟩
      rintro e W' ⟨rfl, hb⟩
      exact ⟨_, rfl, hC.trans (hb.mono hC.size), hb, by show Value.bool _ = _; rw [sameI_refl]⟩
    refine stepsL_cons (s_val fun a W hC hs => ?_) ?_
    · obtain ⟨v9, hv9, hR9⟩ := got_of hs 4 54 (by kernel_rfl) (by rfl)
      have hR9' : v9 = _ := hR9
      subst hR9'
      obtain ⟨v0, hv0, hR0⟩ := got_of hs 7 57 (by kernel_rfl) (by rfl)
      have hR0' : v0 = _ := hR0
      subst hR0'
      exact ⟨wanted_no (j := 4) (d := 54) rfl (by rfl) hv9, _, run_not rfl (ev hv0), rfl⟩
    refine stepsL_cons (s_val fun a W hC hs => ?_) ?_
    · obtain ⟨v0, hv0, hR0⟩ := got_of hs 4 54 (by kernel_rfl) (by rfl)
      have hR0' : v0 = _ := hR0
      subst hR0'
      obtain ⟨v1, hv1, hR1⟩ := got_of hs 8 58 (by kernel_rfl) (by rfl)
      have hR1' : v1 = _ := hR1
      subst hR1'
      exact ⟨wanted_none rfl, _, run_pk rfl (ev hv0) (by rw [if_neg (by simp)]; exact ev hv1), rfl⟩
    refine stepsL_cons (s_val fun a W hC hs => ?_) ?_
    · obtain ⟨v0, hv0, hR0⟩ := got_of hs 9 59 (by kernel_rfl) (by rfl)
      have hR0' : v0 = _ := hR0
      subst hR0'
      exact ⟨wanted_none rfl, _, run_mv (Or.inl rfl) (ev hv0), rfl⟩
    refine stepsL_cons (s_val fun a W hC hs => ?_) ?_
    · obtain ⟨v9, hv9, hR9⟩ := got_of hs 10 60 (by kernel_rfl) (by rfl)
      have hR9' : v9 = _ := hR9
      subst hR9'
      have hB := (hcell.out W hC).1
      have ho := old_of hs 5 (by kernel_rfl) (by rfl)
      exact ⟨wanted_no (j := 10) (d := 60) rfl (by rfl) hv9, _, run_ld rfl (ev ho) (load_pg hB.1), rfl⟩
    refine stepsL_cons (s_val fun a W hC hs => ?_) ?_
    · obtain ⟨v9, hv9, hR9⟩ := got_of hs 10 60 (by kernel_rfl) (by rfl)
      have hR9' : v9 = _ := hR9
      subst hR9'
      have hB := (hcell.out W hC).1
      have ho := old_of hs 6 (by kernel_rfl) (by rfl)
      exact ⟨wanted_no (j := 10) (d := 60) rfl (by rfl) hv9, _, run_ld rfl (ev ho) (load_pg hB.2.1), rfl⟩
    refine stepsL_cons (s_call fun a W hC hs => ?_) ?_
    · obtain ⟨v9, hv9, hR9⟩ := got_of hs 10 60 (by kernel_rfl) (by rfl)
      have hR9' : v9 = _ := hR9
      subst hR9'
      obtain ⟨v0, hv0, hR0⟩ := got_of hs 11 61 (by kernel_rfl) (by rfl)
      have hR0' : v0 = _ := hR0
      subst hR0'
      obtain ⟨v1, hv1, hR1⟩ := got_of hs 12 62 (by kernel_rfl) (by rfl)
      have hR1' : v1 = _ := hR1
      subst hR1'
      have hbw := (hcell.out W hC).2
      refine ⟨wanted_no (j := 10) (d := 60) rfl (by rfl) hv9, 15, _, run_call2 rfl (ev hv0) (ev hv1) (fun _ _ => rfl), (same_any p q W (hpV.out W hbw) (hqV.out W hbw)).mono ?_⟩
      rintro e W' ⟨rfl, hb⟩
      exact ⟨_, rfl, hC.trans (hb.mono hC.size), hb, rfl⟩
    refine stepsL_cons (s_val fun a W hC hs => ?_) ?_
    · obtain ⟨v9, hv9, hR9⟩ := got_of hs 10 60 (by kernel_rfl) (by rfl)
      have hR9' : v9 = _ := hR9
      subst hR9'
      have hB := (hcell.out W hC).1
      have ho := old_of hs 6 (by kernel_rfl) (by rfl)
      exact ⟨wanted_no (j := 10) (d := 60) rfl (by rfl) hv9, _, run_ld rfl (ev ho) (load_pg hB.2.1), rfl⟩
    refine stepsL_cons (s_val fun a W hC hs => ?_) ?_
    · obtain ⟨v9, hv9, hR9⟩ := got_of hs 10 60 (by kernel_rfl) (by rfl)
      have hR9' : v9 = _ := hR9
      subst hR9'
      have hB := (hcell.out W hC).1
      have ho := old_of hs 5 (by kernel_rfl) (by rfl)
      exact ⟨wanted_no (j := 10) (d := 60) rfl (by rfl) hv9, _, run_ld rfl (ev ho) (load_pg hB.1), rfl⟩
    refine stepsL_cons (s_call fun a W hC hs => ?_) ?_
    · obtain ⟨v9, hv9, hR9⟩ := got_of hs 10 60 (by kernel_rfl) (by rfl)
      have hR9' : v9 = _ := hR9
      subst hR9'
      obtain ⟨v0, hv0, hR0⟩ := got_of hs 14 64 (by kernel_rfl) (by rfl)
      have hR0' : v0 = _ := hR0
      subst hR0'
      obtain ⟨v1, hv1, hR1⟩ := got_of hs 15 65 (by kernel_rfl) (by rfl)
      have hR1' : v1 = _ := hR1
      subst hR1'
      have hbw := (hcell.out W hC).2
      refine ⟨wanted_no (j := 10) (d := 60) rfl (by rfl) hv9, 15, _, run_call2 rfl (ev hv0) (ev hv1) (fun _ _ => rfl), (same_any q p W (hqV.out W hbw) (hpV.out W hbw)).mono ?_⟩
      rintro e W' ⟨rfl, hb⟩
      exact ⟨_, rfl, hC.trans (hb.mono hC.size), hb, by show Value.bool _ = _; rw [sameP_symm]⟩
    refine stepsL_cons (s_val fun a W hC hs => ?_) ?_
    · obtain ⟨v9, hv9, hR9⟩ := got_of hs 10 60 (by kernel_rfl) (by rfl)
      have hR9' : v9 = _ := hR9
      subst hR9'
      obtain ⟨v0, hv0, hR0⟩ := got_of hs 13 63 (by kernel_rfl) (by rfl)
      have hR0' : v0 = _ := hR0
      subst hR0'
      obtain ⟨v1, hv1, hR1⟩ := got_of hs 16 66 (by kernel_rfl) (by rfl)
      have hR1' : v1 = _ := hR1
      subst hR1'
      exact ⟨wanted_no (j := 10) (d := 60) rfl (by rfl) hv9, _, run_neb Tryd.underlying4 rfl (ev hv0) (ev hv1), rfl⟩
    refine stepsL_cons (s_val fun a W hC hs => ?_) ?_
    · obtain ⟨v0, hv0, hR0⟩ := got_of hs 10 60 (by kernel_rfl) (by rfl)
      have hR0' : v0 = _ := hR0
      subst hR0'
      obtain ⟨v1, hv1, hR1⟩ := got_of hs 17 67 (by kernel_rfl) (by rfl)
      have hR1' : v1 = _ := hR1
      subst hR1'
      exact ⟨wanted_none rfl, _, run_pk rfl (ev hv0) (by rw [if_neg (by simp)]; exact ev hv1), rfl⟩
    exact stepsL_nil
  case hend =>
    intro σ V2 hC hR
    generalize hF : fillL _ _ _ _ _ = F
    simp [fillL, dstOf, List.range, List.range.loop, Act.put] at hF
    subst hF
    have h18 : σ 18 = .bool false := hR 18 (by simp)
    rw [h18]
    clear hR hbV h18
    obtain ⟨⟨⟨x0, x1, x2⟩, _⟩, hbw2⟩ := hcell.out V2 hC
    by_cases h0 : p.funs.length = 0
    · have h0' : (p.funs.length : Int) = 0 := by omega
      clear hcell hpV hqV hiV hargs hnm
      rw [h0] at x2
      go_wp2_with fail
      go_ret
      exact ⟨rfl, hbw2⟩
    have h0' : ¬ (p.funs.length : Int) = 0 := by omega
    obtain ⟨k, hkk, hkl⟩ := rem_len fn p.funs.length h0 (by omega)
    have hlw : IntKind.u64.wrap (p.funs.length : Int) = (p.funs.length : Int) := IntWalk.u64_in _ (by omega)
    have hkw : IntKind.i64.wrap (k : Int) = (k : Int) := IntWalk.i64_in _ (by omega)
    go_upto_region 8 with fail
    clear hkk hlw hkw h0'
    obtain ⟨x, hx⟩ : ∃ x, p.funs[k]? = some x := ⟨_, List.getElem?_eq_getElem hkl⟩
    have hxn := hnm.out x (List.mem_of_getElem? hx)
    have hk0 : (0 : Int) ≤ (k : Int) := by omega
    have hk1 : (k : Int) < (p.funs.length : Int) := by omega
    obtain ⟨i0, hi0, hz0, hz1, hz2⟩ := info_f
    obtain ⟨b, off, ha, _, c0, _, _, _, _⟩ := fn_row (hpV.out _ hbw2).frow k x hx
    have hrowp := (hpV.out _ hbw2).frow
    rw [ha] at hrowp
    have hnews : Hid (∀ o o' j u, (fnCells p.funs)[j]? = some u → ((V2.alloc o).alloc o').cell? ((⟨b, off, none⟩ : Addr).add j) = some u) := Lib.hid fun o o' j u hj => by
      obtain ⟨b', off', ha', _, hc⟩ := hrowp.at_ j u hj
      cases ha'
      rw [Go.WideShapes.add_plain]
      exact below_in (b_alloc _ _) (below_in (b_alloc _ _) hc)
    have hlit : Hid (∀ o, ((V2.alloc o).alloc (.cells #[] 42)).ownsRow (V2.heap.size + 1) 42 5 (.slice (some ⟨V2.heap.size + 1, 0, none⟩) 0 0) 0 []) := Lib.hid fun o => by
      have := World.ownsRow_lit (base := (V2.alloc o).heap.size) (e := 42) (size := 5) (V2.alloc o) #[] 0 (Nat.le_refl _) (Nat.zero_le _) rfl
      simpa using this
    have hV2s := hbw2.size
    have hC' := Lib.hid hC
    have hbw2' := Lib.hid hbw2
    have hbxk : Hid (∀ w3, ((V2.alloc (.cells #[.slice p.ma p.mems.length p.mcap, .slice p.la p.locks.length p.lcap, .slice (some ⟨b, off, none⟩) p.funs.length p.fcap] 27)).alloc (.cells #[] 42)).grownBy w3 (some (V2.heap.size + 1)) → w3.heap[V2.heap.size]? = some (.cells #[.slice p.ma p.mems.length p.mcap, .slice p.la p.locks.length p.lcap, .slice (some ⟨b, off, none⟩) p.funs.length p.fcap] 27 (0, 0)) ∧ w3.cell? ⟨V2.heap.size, 2, none⟩ = some (.slice (some ⟨b, off, none⟩) p.funs.length p.fcap) ∧ w3.frozen? ⟨V2.heap.size, 2, none⟩ = false ∧ Below V2.heap.size V2 w3) := Lib.hid fun w3 hg => by
      have h1 : w3.heap[V2.heap.size]? = some (.cells #[.slice p.ma p.mems.length p.mcap, .slice p.la p.locks.length p.lcap, .slice (some ⟨b, off, none⟩) p.funs.length p.fcap] 27 (0, 0)) := (hg.block V2.heap.size (by simp; omega) (by simp)).trans ((Below.heap_alloc _ _ _ (by simp)).trans (MapKept.heap_alloc V2 _).1)
      exact ⟨h1, blk_cell h1 rfl, by simp [World.frozen?, h1], (((Below.refl _ V2).alloc (Nat.le_refl _) _).alloc (by simp) _).grown hg (by simp; omega) (fun q e => by cases e; omega)⟩
    rw [ha] at x2
    have x2a := fun o => below_in (b_alloc V2 o) x2
    have x2b := fun o o' => below_in (b_alloc (V2.alloc o) o') (x2a o)
    have hpl : p.funs.length ≤ 1048576 := by omega
    clear hbw2 hC c0 hrowp
    go_upto_region 10 with (at_builtin; refine wpList_append_own_at _ rfl _ _ 25 rfl (V2.heap.size + 1) 42 i0 _ 5 64 Tryd.underlying25 hi0 hz0 hz1 hz2 rfl (by decide) _ 0 [] rfl (hlit.out _) ⟨b, off, none⟩ p.funs.length p.fcap (fnCells p.funs) rfl (fn_len _) (hnews.out _ _) (fn_one _) (by unfold maxLen; omega) (by omega) (by simp) ?_; intro v' w3 hown3 hg3 _ _; obtain ⟨g, cap, rfl, hgB, hR⟩ := own_R hown3 (by omega); obtain ⟨hbk, s0, s1, hb3⟩ := hbxk.out w3 hg3)
    rw [Nat.zero_add] at hR
    rw [List.nil_append] at hR
    have hgne : ¬ g = V2.heap.size := by omega
    have hR2 := hR.keep (w' := w3.setCell ⟨V2.heap.size, 2, none⟩ (.slice (some ⟨g, 0, none⟩) (0 + p.funs.length) cap)) (heap_set_ne hgne _ _)
    have hbk2 := heap_set hbk 2 (.slice (some ⟨g, 0, none⟩) (0 + p.funs.length) cap)
    have hbs : Below V2.heap.size V2 (w3.setCell ⟨V2.heap.size, 2, none⟩ (.slice (some ⟨g, 0, none⟩) (0 + p.funs.length) cap)) := hb3.setCell (Nat.le_refl _) _
    rw [Nat.zero_add] at hR2 hbk2 hbs
    generalize hWx : w3.setCell ⟨V2.heap.size, 2, none⟩ (.slice (some ⟨g, 0, none⟩) p.funs.length cap) = Wx at *
    have hcx : (fnCells p.funs)[k * 5]? = some (.string x.name) := by
      have := flat_at Fn.vals 5 Fn.vals_len p.funs k 0 x hx (by omega)
      rw [Nat.add_zero] at this
      exact this
    have hs0 : Wx.cell? ⟨V2.heap.size, 2, none⟩ = some (.slice (some ⟨g, 0, none⟩) p.funs.length cap) := blk_cell hbk2 rfl
    obtain ⟨hs1, hs1f⟩ := hR2.cell hcx
    have hS0 : (fun X : World => X.cell? ⟨V2.heap.size, 2, none⟩ = some (.slice (some ⟨g, 0, none⟩) p.funs.length cap) ∧ X.cell? ⟨g, k * 5, none⟩ = some (.string x.name) ∧ X.frozen? ⟨g, k * 5, none⟩ = false) Wx.drew := ⟨hs0, hs1, hs1f⟩
    have hadd : x.name.size + (⟨#[120]⟩ : ByteArray).size ≤ 9223372036854775807 := by have : (⟨#[120]⟩ : ByteArray).size = 1 := rfl; omega
    have hcap := hR2.le
    obtain ⟨nx, hnx⟩ : ∃ nx, x.name ++ (⟨#[120]⟩ : ByteArray) = nx := ⟨_, rfl⟩
    have hnxs : nx.size = x.name.size + 1 := by rw [← hnx, ByteArray.size_append]; rfl
    have hsa := fun V => run_string_add_sum (P := Tryd.prog) V x.name (⟨#[120]⟩ : ByteArray) hadd
    rw [hnx] at hsa
    refine wp_region_noPanic ?_
    refine wp_region_L (k := 10) (S := (fun X : World => X.cell? ⟨V2.heap.size, 2, none⟩ = some (.slice (some ⟨g, 0, none⟩) p.funs.length cap) ∧ X.cell? ⟨g, k * 5, none⟩ = some (.string x.name) ∧ X.frozen? ⟨g, k * 5, none⟩ = false)) (by kernel_rfl) ?_
    refine' wpAnyL_take (by kernel_rfl) (i := 0) (oi := _) (v := _) (by decide) rfl (by kernel_rfl) (by kernel_rfl) (by kernel_rfl) (fun _ _ _ h => h) (Or.inl ⟨by rfl, ?hyp0⟩) (by assumption) ?restp0
    case hyp0 => (intro w hSw; obtain ⟨s0, s1, s2⟩ := hSw; go_simp; all_goals (with_reducible rfl))
    try simp only [Act.put, List.getElem_toArray, List.getElem_cons_zero, List.getElem_cons_succ, List.setIfInBounds_toArray, List.set_cons_zero, List.set_cons_succ]
    refine' wpAnyL_take (by kernel_rfl) (i := 1) (oi := _) (v := _) (by decide) rfl (by kernel_rfl) (by kernel_rfl) (by kernel_rfl) (fun _ _ _ h => h) (Or.inl ⟨by rfl, ?hyp1⟩) (by assumption) ?restp1
    case hyp1 => (intro w hSw; obtain ⟨s0, s1, s2⟩ := hSw; go_simp; all_goals (with_reducible rfl))
    try simp only [Act.put, List.getElem_toArray, List.getElem_cons_zero, List.getElem_cons_succ, List.setIfInBounds_toArray, List.set_cons_zero, List.set_cons_succ]
    refine' wpAnyL_take (by kernel_rfl) (i := 2) (oi := _) (v := _) (by decide) rfl (by kernel_rfl) (by kernel_rfl) (by kernel_rfl) (fun _ _ _ h => h) (Or.inl ⟨by rfl, ?hyp2⟩) (by assumption) ?restp2
    case hyp2 => (intro w hSw; obtain ⟨s0, s1, s2⟩ := hSw; go_simp; all_goals (with_reducible rfl))
    try simp only [Act.put, List.getElem_toArray, List.getElem_cons_zero, List.getElem_cons_succ, List.setIfInBounds_toArray, List.set_cons_zero, List.set_cons_succ]
    refine' wpAnyL_take (by kernel_rfl) (i := 3) (oi := _) (v := _) (by decide) rfl (by kernel_rfl) (by kernel_rfl) (by kernel_rfl) (fun _ _ _ h => h) (Or.inl ⟨by rfl, ?hyp3⟩) (by assumption) ?restp3
    case hyp3 => (intro w hSw; obtain ⟨s0, s1, s2⟩ := hSw; go_simp; all_goals (with_reducible rfl))
    try simp only [Act.put, List.getElem_toArray, List.getElem_cons_zero, List.getElem_cons_succ, List.setIfInBounds_toArray, List.set_cons_zero, List.set_cons_succ]
    refine' wpAnyL_take (by kernel_rfl) (i := 4) (oi := _) (v := _) (by decide) rfl (by kernel_rfl) (by kernel_rfl) (by kernel_rfl) (fun _ _ _ h => h) (Or.inl ⟨by rfl, ?hyp4⟩) (by assumption) ?restp4
    case hyp4 => (intro w hSw; obtain ⟨s0, s1, s2⟩ := hSw; go_simp; all_goals (with_reducible rfl))
    try simp only [Act.put, List.getElem_toArray, List.getElem_cons_zero, List.getElem_cons_succ, List.setIfInBounds_toArray, List.set_cons_zero, List.set_cons_succ]
    refine' wpAnyL_take (by kernel_rfl) (i := 5) (oi := _) (v := _) (by decide) rfl (by kernel_rfl) (by kernel_rfl) (by kernel_rfl) (fun _ _ _ h => h) (Or.inl ⟨by rfl, ?hyp5⟩) (by assumption) ?restp5
    case hyp5 => (intro w hSw; obtain ⟨s0, s1, s2⟩ := hSw; go_simp; all_goals (with_reducible rfl))
    try simp only [Act.put, List.getElem_toArray, List.getElem_cons_zero, List.getElem_cons_succ, List.setIfInBounds_toArray, List.set_cons_zero, List.set_cons_succ]
    refine' wpAnyL_take (by kernel_rfl) (i := 6) (oi := _) (v := _) (by decide) rfl (by kernel_rfl) (by kernel_rfl) (by kernel_rfl) (fun _ _ _ h => h) (Or.inl ⟨by rfl, ?hyp6⟩) (by assumption) ?restp6
    case hyp6 => (intro w hSw; obtain ⟨s0, s1, s2⟩ := hSw; go_simp; all_goals (with_reducible rfl))
    try simp only [Act.put, List.getElem_toArray, List.getElem_cons_zero, List.getElem_cons_succ, List.setIfInBounds_toArray, List.set_cons_zero, List.set_cons_succ]
    refine' wpAnyL_take (by kernel_rfl) (i := 7) (oi := _) (v := _) (by decide) rfl (by kernel_rfl) (by kernel_rfl) (by kernel_rfl) (fun _ _ _ h => h) (Or.inl ⟨by rfl, ?hyp7⟩) (by assumption) ?restp7
    case hyp7 => (intro w hSw; obtain ⟨s0, s1, s2⟩ := hSw; go_simp; all_goals (with_reducible rfl))
    try simp only [Act.put, List.getElem_toArray, List.getElem_cons_zero, List.getElem_cons_succ, List.setIfInBounds_toArray, List.set_cons_zero, List.set_cons_succ]
    refine' wpAnyL_take (by kernel_rfl) (i := 8) (oi := _) (v := _) (by decide) rfl (by kernel_rfl) (by kernel_rfl) (by kernel_rfl) (fun _ _ _ h => h) (Or.inl ⟨by rfl, ?hyp8⟩) (by assumption) ?restp8
    case hyp8 => (intro w hSw; obtain ⟨s0, s1, s2⟩ := hSw; go_simp; all_goals (with_reducible rfl))
    try simp only [Act.put, List.getElem_toArray, List.getElem_cons_zero, List.getElem_cons_succ, List.setIfInBounds_toArray, List.set_cons_zero, List.set_cons_succ]
    refine' wpAnyL_take (by kernel_rfl) (i := 9) (oi := _) (v := _) (by decide) rfl (by kernel_rfl) (by kernel_rfl) (by kernel_rfl) (fun _ _ _ h => h) (Or.inl ⟨by rfl, ?hyp9⟩) (by assumption) ?restp9
    case hyp9 => (intro w hSw; obtain ⟨s0, s1, s2⟩ := hSw; go_simp; all_goals (with_reducible rfl))
    try simp only [Act.put, List.getElem_toArray, List.getElem_cons_zero, List.getElem_cons_succ, List.setIfInBounds_toArray, List.set_cons_zero, List.set_cons_succ]
    refine wpAnyL_one (i := 10) (o := _) (by kernel_rfl) rfl (fun K hK => ?_)
    go_simp
    refine hK.out _ _ (fun h => absurd h (by decide)) ?_
    clear hK K
    try simp only [Act.put, List.getElem_toArray, List.getElem_cons_zero, List.getElem_cons_succ, List.setIfInBounds_toArray, List.set_cons_zero, List.set_cons_succ]
    refine wpAnyL_one (i := 11) (o := _) (by kernel_rfl) rfl (fun K hK => ?_)
    go_simp
    refine hK.out _ _ (fun h => absurd h (by decide)) ?_
    clear hK K
    try simp only [Act.put, List.getElem_toArray, List.getElem_cons_zero, List.getElem_cons_succ, List.setIfInBounds_toArray, List.set_cons_zero, List.set_cons_succ]
    refine wpAnyL_one (i := 12) (o := _) (by kernel_rfl) rfl (fun K hK => ?_)
    go_simp
    refine hK.out _ _ (fun h => absurd h (by decide)) ?_
    clear hK K
    try simp only [Act.put, List.getElem_toArray, List.getElem_cons_zero, List.getElem_cons_succ, List.setIfInBounds_toArray, List.set_cons_zero, List.set_cons_succ]
    refine wpAnyL_done (by kernel_rfl) ?_ _
    refine NoPanic.normal ?_
    have hfs : (fnCells p.funs).set (k * 5) (.string nx) = fnCells (p.funs.set k { x with name := nx }) := by
      have := flat_set Fn.vals 5 Fn.vals_len p.funs k 0 x { x with name := nx } (.string nx) hx (by omega) rfl
      rw [Nat.add_zero] at this
      exact this
    have hR3 := hR2.set hcx (.string nx)
    rw [hfs] at hR3
    have hbk3 := (heap_set_ne (w := Wx) (fun e => hgne e.symm) (k * 5) (.string nx)).trans hbk2
    have hbW := hC'.out.trans (((hbs.setCell (p := ⟨g, k * 5, none⟩) (show V2.heap.size ≤ g by omega) (.string nx)).drew).mono hC'.out.size)
    have hdif : sameP p { p with fa := some ⟨g, 0, none⟩, fcap := cap, funs := p.funs.set k { x with name := nx } } = false := by
      rw [sameP_eq]
      have h1 : eqL sameF p.funs (p.funs.set k { x with name := nx }) = false := by
        rw [eqL_set sameF_refl p.funs k x _ hx]
        have hne : ¬ x.name = nx := fun e => by rw [← e] at hnxs; omega
        simp [sameF, hne]
      rw [h1]
      simp
    generalize hWy : (Wx.setCell ⟨g, k * 5, none⟩ (.string nx)).drew = Wy at *
    have hR4 : OwnR Wy 42 g cap p.funs.length (fnCells (p.funs.set k { x with name := nx })) := by rw [← hWy]; exact hR3.keep rfl
    have hbk4 : Wy.heap[V2.heap.size]? = _ := (congrArg (fun X : World => X.heap[V2.heap.size]?) hWy.symm).trans hbk3
    clear hWy hR3 hbk3 hR2 hbk2 hs0 hs1 hs1f hS0 hsa hadd hfs hnews hlit hbxk hcx hbs hR hown3 hg3 hbk s0 s1 hb3 x0 x1 x2 x2a x2b
    obtain ⟨px, hpx⟩ : ∃ px : Pg, ({ p with fa := some ⟨g, 0, none⟩, fcap := cap, funs := p.funs.set k { x with name := nx } } : Pg) = px := ⟨_, rfl⟩
    have hPX : Hid (∀ V, Below Wy.heap.size Wy V → Bp1 V2.heap.size px V ∧ Pg.In V (fun _ => True) px ∧ Below W0.heap.size W0 V ∧ Bs3 w.heap.size p q i V ∧ Below w.heap.size w V) := Lib.hid fun V hV => by
      have h0 := hbW.trans (hV.mono hbW.size)
      obtain ⟨q1, q2⟩ := hcell.out V h0
      have h1 := (hV.block _ (Array.getElem?_eq_some_iff.1 hbk4).1).trans hbk4
      have hR5 := (hR4.keep (hV.block g hR4.lt)).row
      have hP := hpV.out V q2
      have hlen : (p.funs.set k { x with name := nx }).length = p.funs.length := by simp
      subst hpx
      refine ⟨⟨blk_cell h1 rfl, blk_cell h1 rfl, ?_⟩, ⟨hP.mrow, hP.mems, hP.lrow, hP.locks, ?_, fun f hf => ?_⟩, h0, q1, q2⟩
      · show _ = some (Value.slice (some ⟨g, 0, none⟩) (p.funs.set k { x with name := nx }).length cap)
        rw [hlen]
        exact blk_cell h1 rfl
      · show RowAt V _ (some ⟨g, 0, none⟩) cap (p.funs.set k { x with name := nx }).length _
        rw [hlen]
        exact hR5
      · rcases List.mem_or_eq_of_mem_set hf with hf | rfl
        · exact hP.funs f hf
        · have hX := hP.funs x (List.mem_of_getElem? hx)
          exact ⟨by show nx.size ≤ maxLen; unfold maxLen; omega, hX.params, hX.regs, hX.row, hX.code⟩
    rw [hpx] at hdif
    replace hdif := Lib.hid hdif
    clear hpx hR4 hbk4 hcell
    obtain ⟨_, _, _, ⟨⟨x0, x1, x2⟩, _⟩, _⟩ := hPX.out Wy (Below.refl _ _)
    go_upto_region 12 with fail
    rw [ha] at x2
    have hP12 : Hid (∀ V, Below Wy.heap.size Wy V → V.cell? ⟨w.heap.size, 2, none⟩ = some (.slice (some ⟨b, off, none⟩) p.funs.length p.fcap)) := Lib.hid fun V hV => by
      have := (hPX.out V hV).2.2.2.1.1.2.2
      rwa [ha] at this
    have hkf : k ≤ p.fcap := by omega
    have hkw1 : IntKind.i64.wrap ((k : Int) + 1) = (k : Int) + 1 := IntWalk.i64_in _ (by omega)
    have hk2 : (k : Int) + 1 ≤ (p.funs.length : Int) := by omega
    have hfc : (p.funs.length : Int) ≤ (p.fcap : Int) := by omega
    clear x0 x1 x2
    generalize hWz : Wy.alloc _ = Wz
    have hbz : Below Wy.heap.size Wy Wz := by rw [← hWz]; exact b_alloc _ _
    have hzb : Wz.heap[Wy.heap.size]? = _ := (congrArg (fun X : World => X.heap[Wy.heap.size]?) hWz.symm).trans (MapKept.heap_alloc Wy _).1
    have hzs : Wz.heap.size = Wy.heap.size + 1 := by rw [← hWz]; simp
    clear hWz
    have hT12 : Hid (∀ V, Below Wy.heap.size Wy V → ∀ j u, (fnCells p.funs)[j]? = some u → V.cell? ((⟨b, off, none⟩ : Addr).add j) = some u) := Lib.hid fun V hV j u hj => by
      have hrow := (hpV.out V (hPX.out V hV).2.2.2.2).frow
      rw [ha] at hrow
      obtain ⟨b', off', ha', _, hc⟩ := hrow.at_ j u hj
      cases ha'
      rw [Go.WideShapes.add_plain]
      exact hc
    obtain ⟨ad, had, hD12⟩ : ∃ ad : Addr, (if p.fcap = k + 1 then some (⟨b, off, none⟩ : Addr) else some ⟨b, off + (k + 1) * 5, none⟩) = some ad ∧ Hid (∀ V, Below Wy.heap.size Wy V → ∀ j u, (fnCells (p.funs.drop (k + 1)))[j]? = some u → V.cell? (ad.add j) = some u) := by
      by_cases e : p.fcap = k + 1
      · refine ⟨⟨b, off, none⟩, if_pos e, Lib.hid fun V hV j u hj => ?_⟩
        rw [List.drop_eq_nil_of_le (by omega)] at hj
        cases hj
      · refine ⟨⟨b, off + (k + 1) * 5, none⟩, if_neg e, Lib.hid fun V hV j u hj => ?_⟩
        have := hT12.out V hV _ u (fn_drop p.funs (k + 1) j u (by omega) hj)
        rw [Go.WideShapes.add_plain] at this ⊢
        rw [← Nat.add_assoc] at this
        exact this
    have hbd : Below Wy.heap.size Wy Wz.drew := hbz.drew
    have hzd : Wz.drew.heap[Wy.heap.size]? = _ := hzb
    have hsd : Wz.drew.heap.size = Wy.heap.size + 1 := hzs
    have hS0 : (fun X : World => X.cell? ⟨w.heap.size, 2, none⟩ = some (.slice (some ⟨b, off, none⟩) p.funs.length p.fcap)) Wz.drew := hP12.out Wz hbz
    refine wp_region_noPanic ?_
    refine wp_region_L (k := 12) (S := (fun X : World => X.cell? ⟨w.heap.size, 2, none⟩ = some (.slice (some ⟨b, off, none⟩) p.funs.length p.fcap))) (by kernel_rfl) ?_
    generalize Wz.drew = Wd at *
    have hlit2 : (Wd.alloc (.cells #[] 42)).ownsRow (Wy.heap.size + 1) 42 5 (.slice (some ⟨Wy.heap.size + 1, 0, none⟩) 0 0) 0 [] := by
      rw [← hsd]
      have := World.ownsRow_lit (base := Wd.heap.size) (e := 42) (size := 5) Wd #[] 0 (Nat.le_refl _) (Nat.zero_le _) rfl
      simpa using this
    refine' wpAnyL_take (by kernel_rfl) (i := 1) (oi := _) (v := _) (by decide) rfl (by kernel_rfl) (by kernel_rfl) (by kernel_rfl) (fun _ _ _ h => h) (Or.inl ⟨by rfl, ?hyq1⟩) (by assumption) ?resq1
    case hyq1 => (intro w hSw; have s0 := hSw; go_simp; all_goals (with_reducible rfl))
    try simp only [Act.put, List.getElem_toArray, List.getElem_cons_zero, List.getElem_cons_succ, List.setIfInBounds_toArray, List.set_cons_zero, List.set_cons_succ]
    refine' wpAnyL_take (by kernel_rfl) (i := 2) (oi := _) (v := _) (by decide) rfl (by kernel_rfl) (by kernel_rfl) (by kernel_rfl) (fun _ _ _ h => h) (Or.inl ⟨by rfl, ?hyq2⟩) (by assumption) ?resq2
    case hyq2 => (intro w hSw; have s0 := hSw; go_simp; all_goals (with_reducible rfl))
    try simp only [Act.put, List.getElem_toArray, List.getElem_cons_zero, List.getElem_cons_succ, List.setIfInBounds_toArray, List.set_cons_zero, List.set_cons_succ]
    refine' wpAnyL_take (by kernel_rfl) (i := 3) (oi := _) (v := _) (by decide) rfl (by kernel_rfl) (by kernel_rfl) (by kernel_rfl) (fun _ _ _ h => h) (Or.inl ⟨by rfl, ?hyq3⟩) (by assumption) ?resq3
    case hyq3 => (intro w hSw; have s0 := hSw; go_simp; all_goals (with_reducible rfl))
    try simp only [Act.put, List.getElem_toArray, List.getElem_cons_zero, List.getElem_cons_succ, List.setIfInBounds_toArray, List.set_cons_zero, List.set_cons_succ]
    refine' wpAnyL_take (by kernel_rfl) (i := 4) (oi := _) (v := _) (by decide) rfl (by kernel_rfl) (by kernel_rfl) (by kernel_rfl) (fun _ _ _ h => h) (Or.inl ⟨by rfl, ?hyq4⟩) (by assumption) ?resq4
    case hyq4 => (intro w hSw; have s0 := hSw; go_simp; (try rw [if_pos hkf]); all_goals (with_reducible rfl))
    try simp only [Act.put, List.getElem_toArray, List.getElem_cons_zero, List.getElem_cons_succ, List.setIfInBounds_toArray, List.set_cons_zero, List.set_cons_succ]
    refine' wpAnyL_take (by kernel_rfl) (i := 6) (oi := _) (v := _) (by decide) rfl (by kernel_rfl) (by kernel_rfl) (by kernel_rfl) (fun _ _ _ h => h) (Or.inl ⟨by rfl, ?hyq6⟩) (by assumption) ?resq6
    case hyq6 => (intro w hSw; have s0 := hSw; go_simp; all_goals (with_reducible rfl))
    try simp only [Act.put, List.getElem_toArray, List.getElem_cons_zero, List.getElem_cons_succ, List.setIfInBounds_toArray, List.set_cons_zero, List.set_cons_succ]
    refine' wpAnyL_take (by kernel_rfl) (i := 7) (oi := _) (v := _) (by decide) rfl (by kernel_rfl) (by kernel_rfl) (by kernel_rfl) (fun _ _ _ h => h) (Or.inl ⟨by rfl, ?hyq7⟩) (by assumption) ?resq7
    case hyq7 => (intro w hSw; have s0 := hSw; go_simp; all_goals (with_reducible rfl))
    try simp only [Act.put, List.getElem_toArray, List.getElem_cons_zero, List.getElem_cons_succ, List.setIfInBounds_toArray, List.set_cons_zero, List.set_cons_succ]
    refine' wpAnyL_take (by kernel_rfl) (i := 8) (oi := _) (v := _) (by decide) rfl (by kernel_rfl) (by kernel_rfl) (by kernel_rfl) (fun _ _ _ h => h) (Or.inl ⟨by rfl, ?hyq8⟩) (by assumption) ?resq8
    case hyq8 => (intro w hSw; have s0 := hSw; go_simp; all_goals (with_reducible rfl))
    try simp only [Act.put, List.getElem_toArray, List.getElem_cons_zero, List.getElem_cons_succ, List.setIfInBounds_toArray, List.set_cons_zero, List.set_cons_succ]
    refine' wpAnyL_take (by kernel_rfl) (i := 9) (oi := _) (v := _) (by decide) rfl (by kernel_rfl) (by kernel_rfl) (by kernel_rfl) (fun _ _ _ h => h) (Or.inl ⟨by rfl, ?hyq9⟩) (by assumption) ?resq9
    case hyq9 => (intro w hSw; have s0 := hSw; go_simp; all_goals (with_reducible rfl))
    try simp only [Act.put, List.getElem_toArray, List.getElem_cons_zero, List.getElem_cons_succ, List.setIfInBounds_toArray, List.set_cons_zero, List.set_cons_succ]
    refine' wpAnyL_take (by kernel_rfl) (i := 10) (oi := _) (v := _) (by decide) rfl (by kernel_rfl) (by kernel_rfl) (by kernel_rfl) (fun _ _ _ h => h) (Or.inl ⟨by rfl, ?hyq10⟩) (by assumption) ?resq10
    case hyq10 => (intro w hSw; have s0 := hSw; go_simp; (try rw [if_pos (show (0 : Int) ≤ (k : Int) + 1 by omega)]); (try rw [had]); all_goals (with_reducible rfl))
    try simp only [Act.put, List.getElem_toArray, List.getElem_cons_zero, List.getElem_cons_succ, List.setIfInBounds_toArray, List.set_cons_zero, List.set_cons_succ]
    refine wpAnyL_one (i := 0) (o := _) (by kernel_rfl) rfl (fun K hK => ?_)
    go_simp
    refine hK.out _ _ (fun _ => hP12.out _ (hbd.alloc (by omega) _)) ?_
    clear hK K
    try simp only [Act.put, List.getElem_toArray, List.getElem_cons_zero, List.getElem_cons_succ, List.setIfInBounds_toArray, List.set_cons_zero, List.set_cons_succ]
    refine wpAnyL_one (i := 5) (o := _) (by kernel_rfl) rfl (fun K hK => ?_)
    rw [if_pos (wanted_none rfl)]
    refine wp_append_own _ _ _ 25 rfl (Wy.heap.size + 1) 42 i0 _ 5 64 Tryd.underlying25 hi0 hz0 hz1 hz2 rfl (by decide) _ 0 [] rfl hlit2 ⟨b, off, none⟩ k p.fcap (fnCells (p.funs.take k)) rfl (by rw [fn_len, List.length_take, Nat.min_eq_left (by omega)]) (fun j u hj => hT12.out _ (hbd.alloc (by omega) _) j u (fn_take _ _ _ _ hj)) (fn_one _) (by unfold maxLen; omega) (by omega) (by simp; omega) ?_
    intro v1 w4 hown4 hg4 _
    rw [Nat.zero_add, List.nil_append] at hown4
    have hb4 : Below (Wy.heap.size + 1) Wd w4 := ((Below.refl _ Wd).alloc (show Wy.heap.size + 1 ≤ Wd.heap.size by omega) _).grown hg4 (by simp; omega) (fun q e => by cases e; exact Nat.le_refl _)
    refine hK.out _ _ (fun _ => hP12.out _ (hbd.trans (hb4.mono (Nat.le_succ _)))) ?_
    clear hK K
    try simp only [Act.put, List.getElem_toArray, List.getElem_cons_zero, List.getElem_cons_succ, List.setIfInBounds_toArray, List.set_cons_zero, List.set_cons_succ]
    refine wpAnyL_one (i := 11) (o := _) (by kernel_rfl) rfl (fun K hK => ?_)
    rw [if_pos (wanted_none rfl)]
    refine wp_append_own _ _ _ 25 rfl (Wy.heap.size + 1) 42 i0 _ 5 64 Tryd.underlying25 hi0 hz0 hz1 hz2 rfl (by decide) _ k (fnCells (p.funs.take k)) rfl hown4 ad (p.funs.length - (k + 1)) (p.fcap - (k + 1)) (fnCells (p.funs.drop (k + 1))) rfl (by rw [fn_len, List.length_drop]) (hD12.out _ (hbd.trans (hb4.mono (Nat.le_succ _)))) (fn_one _) (by unfold maxLen; omega) (by omega) (by have := hb4.size; omega) ?_
    intro v2 w5 hown5 hg5 _
    have hb5 := hb4.grown hg5 (by have := hb4.size; omega) (own_ge hown4)
    obtain ⟨ya, ycap, rfl, hyR⟩ := own_V hown5
    have hzb5 := (hb5.block _ (by omega)).trans hzd
    have s0 : w5.cell? ⟨Wy.heap.size, 2, none⟩ = some _ := blk_cell hzb5 rfl
    have s1 : w5.frozen? ⟨Wy.heap.size, 2, none⟩ = false := by simp [World.frozen?, hzb5]
    refine hK.out _ _ (fun _ => hP12.out _ (hbd.trans (hb5.mono (Nat.le_succ _)))) ?_
    clear hK K
    try simp only [Act.put, List.getElem_toArray, List.getElem_cons_zero, List.getElem_cons_succ, List.setIfInBounds_toArray, List.set_cons_zero, List.set_cons_succ]
    refine wpAnyL_one (i := 12) (o := _) (by kernel_rfl) rfl (fun K hK => ?_)
    go_simp
    refine hK.out _ _ (fun h => absurd h (by decide)) ?_
    clear hK K
    try simp only [Act.put, List.getElem_toArray, List.getElem_cons_zero, List.getElem_cons_succ, List.setIfInBounds_toArray, List.set_cons_zero, List.set_cons_succ]
    refine wpAnyL_one (i := 13) (o := _) (by kernel_rfl) rfl (fun K hK => ?_)
    go_simp
    refine hK.out _ _ (fun h => absurd h (by decide)) ?_
    clear hK K
    try simp only [Act.put, List.getElem_toArray, List.getElem_cons_zero, List.getElem_cons_succ, List.setIfInBounds_toArray, List.set_cons_zero, List.set_cons_succ]
    refine wpAnyL_done (by kernel_rfl) ?_ _
    refine NoPanic.normal ?_
    have hbk5 := heap_set hzb5 2 (.slice ya (k + (p.funs.length - (k + 1))) ycap)
    have hb6 : Below Wy.heap.size Wy (w5.setCell ⟨Wy.heap.size, 2, none⟩ (.slice ya (k + (p.funs.length - (k + 1))) ycap)) := (hbd.trans (hb5.mono (Nat.le_succ _))).setCell (p := ⟨Wy.heap.size, 2, none⟩) (Nat.le_refl _) _
    have hyk : ∀ g, Wy.heap.size + 1 ≤ g → (w5.setCell ⟨Wy.heap.size, 2, none⟩ (.slice ya (k + (p.funs.length - (k + 1))) ycap)).heap[g]? = w5.heap[g]? := fun g hg => heap_set_ne (by omega) _ _
    have hsz6 : (w5.setCell ⟨Wy.heap.size, 2, none⟩ (.slice ya (k + (p.funs.length - (k + 1))) ycap)).heap.size = w5.heap.size := size_set _ _
    generalize w5.setCell ⟨Wy.heap.size, 2, none⟩ (.slice ya (k + (p.funs.length - (k + 1))) ycap) = Wv at *
    have hdify : sameP p { p with fa := ya, fcap := ycap, funs := p.funs.take k ++ p.funs.drop (k + 1) } = false := by
      rw [sameP_eq]
      have h1 : eqL sameF p.funs (p.funs.take k ++ p.funs.drop (k + 1)) = false := by
        refine Bool.eq_false_iff.2 (fun e => ?_)
        replace e := eqL_len e
        rw [List.length_append, List.length_take, List.length_drop] at e
        omega
      rw [h1]
      simp
    obtain ⟨py, hpy⟩ : ∃ py : Pg, ({ p with fa := ya, fcap := ycap, funs := p.funs.take k ++ p.funs.drop (k + 1) } : Pg) = py := ⟨_, rfl⟩
    have hPY : Hid (∀ V, Below Wv.heap.size Wv V → Bp1 Wy.heap.size py V ∧ Pg.In V (fun _ => True) py ∧ Below Wy.heap.size Wy V) := Lib.hid fun V hV => by
      have h0 := hb6.trans (hV.mono hb6.size)
      have h1 := (hV.block _ (Array.getElem?_eq_some_iff.1 hbk5).1).trans hbk5
      have hR5 := hyR V (fun g hg hg2 => (hV.block g (by omega)).trans (hyk g hg))
      have hP := hpV.out V (hPX.out V h0).2.2.2.2
      have hlen : (p.funs.take k ++ p.funs.drop (k + 1)).length = k + (p.funs.length - (k + 1)) := by
        rw [List.length_append, List.length_take, List.length_drop, Nat.min_eq_left (by omega)]
      subst hpy
      refine ⟨⟨blk_cell h1 rfl, blk_cell h1 rfl, ?_⟩, ⟨hP.mrow, hP.mems, hP.lrow, hP.locks, ?_, fun f hf => ?_⟩, h0⟩
      · show _ = some (Value.slice ya (p.funs.take k ++ p.funs.drop (k + 1)).length ycap)
        rw [hlen]
        exact blk_cell h1 rfl
      · show RowAt V _ ya ycap (p.funs.take k ++ p.funs.drop (k + 1)).length (fnCells (p.funs.take k ++ p.funs.drop (k + 1)))
        rw [hlen]
        have e : fnCells (p.funs.take k ++ p.funs.drop (k + 1)) = fnCells (p.funs.take k) ++ fnCells (p.funs.drop (k + 1)) := by unfold fnCells; rw [List.flatMap_append]
        rw [e]
        exact hR5
      · rcases List.mem_append.1 hf with hf | hf
        · exact hP.funs f (List.mem_of_mem_take hf)
        · exact hP.funs f (List.mem_of_mem_drop hf)
    rw [hpy] at hdify
    replace hdify := Lib.hid hdify
    clear hpy hyR hbk5 hyk hzb5 s0 s1
    clear hb6 hsz6 hb5 hown5 hg5 hb4 hown4 hg4 hlit2 hzd hsd hbd hS0 hD12 hT12 hzs hzb hbz
    have hWW : Hid (∀ V, Below Wv.heap.size Wv V → Bp1 w.heap.size p V ∧ Bp1 V2.heap.size px V ∧ Bp1 Wy.heap.size py V ∧ Pg.In V (fun _ => True) p ∧ Pg.In V (fun _ => True) px ∧ Pg.In V (fun _ => True) py ∧ Bs3 w.heap.size p q i V ∧ Below w.heap.size w V) := Lib.hid fun V hV => by
      obtain ⟨y1, y2, y0⟩ := hPY.out V hV
      obtain ⟨q0, q1, _, q3, q4⟩ := hPX.out V y0
      exact ⟨q3.1, q0, y1, hpV.out V q4, q1, y2, q3, q4⟩
    clear hPX hPY
    go_upto_region 13 with fail
    refine wp_region_rel_text (C := fun V => Below Wv.heap.size Wv V) (E := Ext) (R := fun j => (rs13 p px py).getD j VT) (Below.refl _ _) (by kernel_rfl) (fun j v w' w'' _ hE h => mono_get _ j (rs13_mono _ _ _) v w' w'' hE h) (steps_all ?hs13) ?hend13
    case hs13 =>
      refine stepsL_cons (s_val fun a W hC hs => ?_) ?_
      · have hB := hWW.out W hC
        have ho := old_of hs 5 (by kernel_rfl) (by rfl)
        exact ⟨wanted_none rfl, _, run_ld rfl (ev ho) (load_pg hB.1), rfl⟩
      refine stepsL_cons (s_val fun a W hC hs => ?_) ?_
      · have hB := hWW.out W hC
        have ho := old_of hs 12 (by kernel_rfl) (by rfl)
        exact ⟨wanted_none rfl, _, run_ld rfl (ev ho) (load_pg hB.2.1), rfl⟩
      refine stepsL_cons (s_call fun a W hC hs => ?_) ?_
      · obtain ⟨v0, hv0, hR0⟩ := got_of hs 0 113 (by kernel_rfl) (by rfl)
        have hR0' : v0 = _ := hR0
        subst hR0'
        obtain ⟨v1, hv1, hR1⟩ := got_of hs 1 114 (by kernel_rfl) (by rfl)
        have hR1' : v1 = _ := hR1
        subst hR1'
        have hB := hWW.out W hC
        refine ⟨wanted_none rfl, 15, _, run_call2 rfl (ev hv0) (ev hv1) (fun _ _ => rfl), (same_any p px W hB.2.2.2.1 hB.2.2.2.2.1).mono ?_⟩
        rintro e W' ⟨rfl, hb⟩
        exact ⟨_, rfl, hC.trans (hb.mono hC.size), hb, by show Value.bool _ = _; rw [hdif.out]⟩
      refine stepsL_cons (s_val fun a W hC hs => ?_) ?_
      · obtain ⟨v0, hv0, hR0⟩ := got_of hs 2 115 (by kernel_rfl) (by rfl)
        have hR0' : v0 = _ := hR0
        subst hR0'
        exact ⟨wanted_none rfl, _, run_mv (Or.inl rfl) (ev hv0), rfl⟩
      refine stepsL_cons (s_val fun a W hC hs => ?_) ?_
      · obtain ⟨v9, hv9, hR9⟩ := got_of hs 3 116 (by kernel_rfl) (by rfl)
        have hR9' : v9 = _ := hR9
        subst hR9'
        have hB := hWW.out W hC
        have ho := old_of hs 5 (by kernel_rfl) (by rfl)
        exact ⟨wanted_no (j := 3) (d := 116) rfl (by rfl) hv9, _, run_ld rfl (ev ho) (load_pg hB.1), rfl⟩
      refine stepsL_cons (s_val fun a W hC hs => ?_) ?_
      · obtain ⟨v9, hv9, hR9⟩ := got_of hs 3 116 (by kernel_rfl) (by rfl)
        have hR9' : v9 = _ := hR9
        subst hR9'
        have hB := hWW.out W hC
        have ho := old_of hs 13 (by kernel_rfl) (by rfl)
        exact ⟨wanted_no (j := 3) (d := 116) rfl (by rfl) hv9, _, run_ld rfl (ev ho) (load_pg hB.2.2.1), rfl⟩
      refine stepsL_cons (s_call fun a W hC hs => ?_) ?_
      · obtain ⟨v9, hv9, hR9⟩ := got_of hs 3 116 (by kernel_rfl) (by rfl)
        have hR9' : v9 = _ := hR9
        subst hR9'
        obtain ⟨v0, hv0, hR0⟩ := got_of hs 4 117 (by kernel_rfl) (by rfl)
        have hR0' : v0 = _ := hR0
        subst hR0'
        obtain ⟨v1, hv1, hR1⟩ := got_of hs 5 118 (by kernel_rfl) (by rfl)
        have hR1' : v1 = _ := hR1
        subst hR1'
        have hB := hWW.out W hC
        refine ⟨wanted_no (j := 3) (d := 116) rfl (by rfl) hv9, 15, _, run_call2 rfl (ev hv0) (ev hv1) (fun _ _ => rfl), (same_any p py W hB.2.2.2.1 hB.2.2.2.2.2.1).mono ?_⟩
        rintro e W' ⟨rfl, hb⟩
        exact ⟨_, rfl, hC.trans (hb.mono hC.size), hb, by show Value.bool _ = _; rw [hdify.out]⟩
      refine stepsL_cons (s_val fun a W hC hs => ?_) ?_
      · obtain ⟨v0, hv0, hR0⟩ := got_of hs 3 116 (by kernel_rfl) (by rfl)
        have hR0' : v0 = _ := hR0
        subst hR0'
        obtain ⟨v1, hv1, hR1⟩ := got_of hs 6 119 (by kernel_rfl) (by rfl)
        have hR1' : v1 = _ := hR1
        subst hR1'
        exact ⟨wanted_none rfl, _, run_pk rfl (ev hv0) (by rw [if_neg (by simp)]; exact ev hv1), rfl⟩
      exact stepsL_nil
    case hend13 =>
    intro σ3 V3 hC3 hR3
    generalize hF : fillL _ _ _ _ _ = F
    simp [fillL, dstOf, List.range, List.range.loop, Act.put] at hF
    subst hF
    have h7 : σ3 7 = .bool false := hR3 7 (by simp)
    rw [h7]
    clear hR3 h7
    obtain ⟨⟨x0, x1, x2⟩, _, _, hIn3, _, _, hB3, hbw3⟩ := hWW.out V3 hC3
    obtain ⟨b', off', ha', _, _, _, _, _, x4⟩ := fn_row hIn3.frow k x hx
    have hbb : b' = b := by rw [ha] at ha'; cases ha'; rfl
    have hoo : off' = off := by rw [ha] at ha'; cases ha'; rfl
    rw [hbb, hoo] at x4
    clear ha' hbb hoo
    obtain ⟨xc1, xc2⟩ := len_i (hIn3.funs x (List.mem_of_getElem? hx)).row
    have hIx := Lib.hid (fun V (hV : Below w.heap.size w V) => (hpV.out V hV).funs x (List.mem_of_getElem? hx))
    rw [ha] at x2
    clear hdif hdify
    by_cases hL0 : x.code.length = 0
    · have hL0' : (x.code.length : Int) = 0 := by omega
      clear hWW hpV hqV hiV hargs hnm hIx hIn3 hB3
      rw [hL0] at x4
      go_wp2_with fail
      go_ret
      exact ⟨rfl, hbw3⟩
    have hL0' : ¬ (x.code.length : Int) = 0 := by omega
    by_cases hL2 : 2000 < x.code.length
    · have hL2' : (2000 : Int) < (x.code.length : Int) := by omega
      clear hWW hpV hqV hiV hargs hnm hIx hIn3 hB3
      go_wp2_with fail
      go_ret
      exact ⟨rfl, hbw3⟩
    have hL2' : ¬ (2000 : Int) < (x.code.length : Int) := by omega
    obtain ⟨n, hnn, hnl⟩ := rem_len at_ x.code.length hL0 (by omega)
    have hlw2 : IntKind.u64.wrap (x.code.length : Int) = (x.code.length : Int) := IntWalk.u64_in _ (by omega)
    have hnw : IntKind.i64.wrap (n : Int) = (n : Int) := IntWalk.i64_in _ (by omega)
    obtain ⟨y0, hy0⟩ : ∃ y0, x.code[n]? = some y0 := ⟨_, List.getElem?_eq_getElem hnl⟩
    obtain ⟨bc, offc, hxa, _, _⟩ := in_row (hIn3.funs x (List.mem_of_getElem? hx)).row n y0 hy0
    rw [hxa] at x4
    go_upto_region 19 with fail
    clear hnn hlw2 hnw hL0' hL2' x4
    obtain ⟨i0, hi0, hz0, hz1, hz2⟩ := info_f
    have hrowz := hIn3.frow
    rw [ha] at hrowz
    have hnewz : Hid (∀ o o' j u, (fnCells p.funs)[j]? = some u → ((V3.alloc o).alloc o').cell? ((⟨b, off, none⟩ : Addr).add j) = some u) := Lib.hid fun o o' j u hj => by
      obtain ⟨b', off', ha', _, hc⟩ := hrowz.at_ j u hj
      cases ha'
      rw [Go.WideShapes.add_plain]
      exact below_in (b_alloc _ _) (below_in (b_alloc _ _) hc)
    have hlitz : Hid (∀ o, ((V3.alloc o).alloc (.cells #[] 42)).ownsRow (V3.heap.size + 1) 42 5 (.slice (some ⟨V3.heap.size + 1, 0, none⟩) 0 0) 0 []) := Lib.hid fun o => by
      have := World.ownsRow_lit (base := (V3.alloc o).heap.size) (e := 42) (size := 5) (V3.alloc o) #[] 0 (Nat.le_refl _) (Nat.zero_le _) rfl
      simpa using this
    have hV3s := hbw3.size
    have hC3' := Lib.hid hC3
    have hbw3' := Lib.hid hbw3
    have hbxz : Hid (∀ w3, ((V3.alloc (.cells #[.slice p.ma p.mems.length p.mcap, .slice p.la p.locks.length p.lcap, .slice (some ⟨b, off, none⟩) p.funs.length p.fcap] 27)).alloc (.cells #[] 42)).grownBy w3 (some (V3.heap.size + 1)) → w3.heap[V3.heap.size]? = some (.cells #[.slice p.ma p.mems.length p.mcap, .slice p.la p.locks.length p.lcap, .slice (some ⟨b, off, none⟩) p.funs.length p.fcap] 27 (0, 0)) ∧ w3.cell? ⟨V3.heap.size, 2, none⟩ = some (.slice (some ⟨b, off, none⟩) p.funs.length p.fcap) ∧ w3.frozen? ⟨V3.heap.size, 2, none⟩ = false ∧ Below V3.heap.size V3 w3) := Lib.hid fun w3 hg => by
      have h1 : w3.heap[V3.heap.size]? = some (.cells #[.slice p.ma p.mems.length p.mcap, .slice p.la p.locks.length p.lcap, .slice (some ⟨b, off, none⟩) p.funs.length p.fcap] 27 (0, 0)) := (hg.block V3.heap.size (by simp; omega) (by simp)).trans ((Below.heap_alloc _ _ _ (by simp)).trans (MapKept.heap_alloc V3 _).1)
      exact ⟨h1, blk_cell h1 rfl, by simp [World.frozen?, h1], (((Below.refl _ V3).alloc (Nat.le_refl _) _).alloc (by simp) _).grown hg (by simp; omega) (fun q e => by cases e; omega)⟩
    have x2a := fun o => below_in (b_alloc V3 o) x2
    have x2b := fun o o' => below_in (b_alloc (V3.alloc o) o') (x2a o)
    have hpl : p.funs.length ≤ 1048576 := by omega
    clear hbw3 hC3 hrowz hIn3 hB3
    go_upto_region 21 with (at_builtin; refine wpList_append_own_at _ rfl _ _ 25 rfl (V3.heap.size + 1) 42 i0 _ 5 64 Tryd.underlying25 hi0 hz0 hz1 hz2 rfl (by decide) _ 0 [] rfl (hlitz.out _) ⟨b, off, none⟩ p.funs.length p.fcap (fnCells p.funs) rfl (fn_len _) (hnewz.out _ _) (fn_one _) (by unfold maxLen; omega) (by omega) (by simp) ?_; intro v' w3 hown3 hg3 _ _; obtain ⟨gz, capz, rfl, hgB, hR⟩ := own_R hown3 (by omega); obtain ⟨hbk, s0, s1, hb3⟩ := hbxz.out w3 hg3)
    rw [Nat.zero_add] at hR
    rw [List.nil_append] at hR
    have hgne : ¬ gz = V3.heap.size := by omega
    have hR2 := hR.keep (w' := w3.setCell ⟨V3.heap.size, 2, none⟩ (.slice (some ⟨gz, 0, none⟩) (0 + p.funs.length) capz)) (heap_set_ne hgne _ _)
    have hbk2 := heap_set hbk 2 (.slice (some ⟨gz, 0, none⟩) (0 + p.funs.length) capz)
    have hbs : Below V3.heap.size V3 (w3.setCell ⟨V3.heap.size, 2, none⟩ (.slice (some ⟨gz, 0, none⟩) (0 + p.funs.length) capz)) := hb3.setCell (Nat.le_refl _) _
    rw [Nat.zero_add] at hR2 hbk2 hbs
    generalize hWq : w3.setCell ⟨V3.heap.size, 2, none⟩ (.slice (some ⟨gz, 0, none⟩) p.funs.length capz) = Wq at *
    have hcz : (fnCells p.funs)[k * 5 + 4]? = some (.slice x.ca x.code.length x.ccap) := flat_at Fn.vals 5 Fn.vals_len p.funs k 4 x hx (by omega)
    rw [hxa] at hcz
    have hRd : OwnR Wq.drew 42 gz capz p.funs.length (fnCells p.funs) := hR2.keep rfl
    have hbkd : Wq.drew.heap[V3.heap.size]? = _ := hbk2
    have hbd : Below V3.heap.size V3 Wq.drew := hbs.drew
    clear hWq hR2 hR hbk2 hbs hown3 hg3 hbk s0 s1 hb3 x0 x1 x2 x2a x2b hnewz hlitz hbxz
    refine wp_region_noPanic ?_
    refine wp_region_L (k := 6) (S := (fun X : World => X.cell? ⟨V3.heap.size, 2, none⟩ = some (.slice (some ⟨gz, 0, none⟩) p.funs.length capz))) (by kernel_rfl) ?_
    generalize Wq.drew = Wd at *
    have hS0 : (fun X : World => X.cell? ⟨V3.heap.size, 2, none⟩ = some (.slice (some ⟨gz, 0, none⟩) p.funs.length capz)) Wd := blk_cell hbkd rfl
    obtain ⟨j0, hj0, hy1, hy2, hy3⟩ := info_n
    have hltd : V3.heap.size < Wd.heap.size := (Array.getElem?_eq_some_iff.1 hbkd).1
    have hgd := hRd.lt
    have hcapz := hRd.le
    have hlit3 : (Wd.alloc (.cells #[] 31)).ownsRow Wd.heap.size 31 6 (.slice (some ⟨Wd.heap.size, 0, none⟩) 0 0) 0 [] := by
      have := World.ownsRow_lit (base := Wd.heap.size) (e := 31) (size := 6) Wd #[] 0 (Nat.le_refl _) (Nat.zero_le _) rfl
      simpa using this
    have hT21 : Hid (∀ V, Below w.heap.size w V → ∀ j u, (inCells x.code)[j]? = some u → V.cell? ((⟨bc, offc, none⟩ : Addr).add j) = some u) := Lib.hid fun V hV j u hj => by
      have hrow := (hIx.out V hV).row
      rw [hxa] at hrow
      obtain ⟨b', off', ha', _, hc⟩ := hrow.at_ j u hj
      cases ha'
      rw [Go.WideShapes.add_plain]
      exact hc
    have hal : Below Wd.heap.size Wd (Wd.alloc (.cells #[] 31)) := b_alloc _ _
    have hbda : Below V3.heap.size V3 (Wd.alloc (.cells #[] 31)) := hbd.trans (hal.mono (by omega))
    refine' wpAnyL_take (by kernel_rfl) (i := 0) (oi := _) (v := _) (by decide) rfl (by kernel_rfl) (by kernel_rfl) (by kernel_rfl) (fun _ _ _ h => h) (Or.inl ⟨by rfl, ?hyz0⟩) (by assumption) ?rtz0
    case hyz0 => (intro w hSw; have s0 := hSw; go_simp; all_goals (with_reducible rfl))
    try simp only [Act.put, List.getElem_toArray, List.getElem_cons_zero, List.getElem_cons_succ, List.setIfInBounds_toArray, List.set_cons_zero, List.set_cons_succ]
    refine' wpAnyL_take (by kernel_rfl) (i := 1) (oi := _) (v := _) (by decide) rfl (by kernel_rfl) (by kernel_rfl) (by kernel_rfl) (fun _ _ _ h => h) (Or.inl ⟨by rfl, ?hyz1⟩) (by assumption) ?rtz1
    case hyz1 => (intro w hSw; have s0 := hSw; go_simp; all_goals (with_reducible rfl))
    try simp only [Act.put, List.getElem_toArray, List.getElem_cons_zero, List.getElem_cons_succ, List.setIfInBounds_toArray, List.set_cons_zero, List.set_cons_succ]
    refine' wpAnyL_take (by kernel_rfl) (i := 2) (oi := _) (v := _) (by decide) rfl (by kernel_rfl) (by kernel_rfl) (by kernel_rfl) (fun _ _ _ h => h) (Or.inl ⟨by rfl, ?hyz2⟩) (by assumption) ?rtz2
    case hyz2 => (intro w hSw; have s0 := hSw; go_simp; all_goals (with_reducible rfl))
    try simp only [Act.put, List.getElem_toArray, List.getElem_cons_zero, List.getElem_cons_succ, List.setIfInBounds_toArray, List.set_cons_zero, List.set_cons_succ]
    refine' wpAnyL_take (by kernel_rfl) (i := 4) (oi := _) (v := _) (by decide) rfl (by kernel_rfl) (by kernel_rfl) (by kernel_rfl) (fun _ _ _ h => h) (Or.inl ⟨by rfl, ?hyz4⟩) (by assumption) ?rtz4
    case hyz4 => (intro w hSw; have s0 := hSw; go_simp; all_goals (with_reducible rfl))
    try simp only [Act.put, List.getElem_toArray, List.getElem_cons_zero, List.getElem_cons_succ, List.setIfInBounds_toArray, List.set_cons_zero, List.set_cons_succ]
    refine wpAnyL_one (i := 3) (o := _) (by kernel_rfl) rfl (fun K hK => ?_)
    go_simp
    refine hK.out _ _ (fun _ => below_in hal hS0) ?_
    clear hK K
    try simp only [Act.put, List.getElem_toArray, List.getElem_cons_zero, List.getElem_cons_succ, List.setIfInBounds_toArray, List.set_cons_zero, List.set_cons_succ]
    refine wpAnyL_one (i := 5) (o := _) (by kernel_rfl) rfl (fun K hK => ?_)
    rw [if_pos (wanted_none rfl)]
    refine wp_append_own _ _ _ 40 rfl Wd.heap.size 31 j0 _ 6 64 Tryd.underlying40 hj0 hy1 hy2 hy3 rfl (by decide) _ 0 [] rfl hlit3 ⟨bc, offc, none⟩ x.code.length x.ccap (inCells x.code) rfl (in_len _) (fun j u hj => hT21.out _ (hbw3'.out.trans (hbda.mono hbw3'.out.size)) j u hj) (in_one _) (by unfold maxLen; omega) (by omega) (by simp) ?_
    intro v8 w8 hown8 hg8 _
    obtain ⟨gc, ccz, rfl, hgcB, hRc⟩ := own_R hown8 (by omega)
    rw [Nat.zero_add] at hRc
    rw [List.nil_append] at hRc
    have hb8 : Below Wd.heap.size Wd w8 := hal.grown hg8 (by simp) (fun q e => by cases e; exact Nat.le_refl _)
    have hR8 : OwnR w8 42 gz capz p.funs.length (fnCells p.funs) := hRd.keep (hb8.block _ hgd)
    have hbk8 : w8.heap[V3.heap.size]? = _ := (hb8.block _ hltd).trans hbkd
    obtain ⟨s2, s3⟩ := hR8.cell hcz
    refine hK.out _ _ (fun _ => below_in hb8 hS0) ?_
    clear hK K
    try simp only [Act.put, List.getElem_toArray, List.getElem_cons_zero, List.getElem_cons_succ, List.setIfInBounds_toArray, List.set_cons_zero, List.set_cons_succ]
    refine wpAnyL_one (i := 6) (o := _) (by kernel_rfl) rfl (fun K hK => ?_)
    go_simp
    refine hK.out _ _ (fun h => absurd h (by decide)) ?_
    clear hK K
    try simp only [Act.put, List.getElem_toArray, List.getElem_cons_zero, List.getElem_cons_succ, List.setIfInBounds_toArray, List.set_cons_zero, List.set_cons_succ]
    refine wpAnyL_one (i := 7) (o := _) (by kernel_rfl) rfl (fun K hK => ?_)
    go_simp
    refine hK.out _ _ (fun h => absurd h (by decide)) ?_
    clear hK K
    try simp only [Act.put, List.getElem_toArray, List.getElem_cons_zero, List.getElem_cons_succ, List.setIfInBounds_toArray, List.set_cons_zero, List.set_cons_succ]
    refine wpAnyL_one (i := 8) (o := _) (by kernel_rfl) rfl (fun K hK => ?_)
    go_simp
    refine hK.out _ _ (fun h => absurd h (by decide)) ?_
    clear hK K
    try simp only [Act.put, List.getElem_toArray, List.getElem_cons_zero, List.getElem_cons_succ, List.setIfInBounds_toArray, List.set_cons_zero, List.set_cons_succ]
    refine wpAnyL_done (by kernel_rfl) ?_ _
    refine NoPanic.normal ?_
    obtain ⟨xz, hxz⟩ : ∃ xz : Fn, ({ x with ca := some ⟨gc, 0, none⟩, ccap := ccz } : Fn) = xz := ⟨_, rfl⟩
    have hfz : (fnCells p.funs).set (k * 5 + 4) (.slice (some ⟨gc, 0, none⟩) x.code.length ccz) = fnCells (p.funs.set k xz) := flat_set Fn.vals 5 Fn.vals_len p.funs k 4 x xz _ hx (by omega) (by rw [← hxz]; rfl)
    have hRs := hR8.set hcz (.slice (some ⟨gc, 0, none⟩) x.code.length ccz)
    rw [hfz] at hRs
    have hgzc : gz ≠ gc := by omega
    have hRcs := hRc.keep (w' := w8.setCell ⟨gz, k * 5 + 4, none⟩ (.slice (some ⟨gc, 0, none⟩) x.code.length ccz)) (heap_set_ne (fun e => hgzc e.symm) _ _)
    have hbks := (heap_set_ne (w := w8) (fun e => hgne e.symm) (k * 5 + 4) (.slice (some ⟨gc, 0, none⟩) x.code.length ccz)).trans hbk8
    have hbWs : Below V3.heap.size V3 (w8.setCell ⟨gz, k * 5 + 4, none⟩ (.slice (some ⟨gc, 0, none⟩) x.code.length ccz)) := (hbd.trans (hb8.mono (by omega))).setCell (p := ⟨gz, k * 5 + 4, none⟩) (show V3.heap.size ≤ gz by omega) _
    have hszs : (w8.setCell ⟨gz, k * 5 + 4, none⟩ (.slice (some ⟨gc, 0, none⟩) x.code.length ccz)).heap.size = w8.heap.size := size_set _ _
    have hgcw := hRc.lt
    generalize hWs : w8.setCell ⟨gz, k * 5 + 4, none⟩ (.slice (some ⟨gc, 0, none⟩) x.code.length ccz) = Ws at *
    have hxk : (p.funs.set k xz)[k]? = some xz := by rw [List.getElem?_set_self hkl]
    have hc22 : (fnCells (p.funs.set k xz))[k * 5 + 4]? = some (.slice (some ⟨gc, 0, none⟩) x.code.length ccz) := by
      have := flat_at Fn.vals 5 Fn.vals_len (p.funs.set k xz) k 4 xz hxk (by omega)
      rw [← hxz] at this
      rw [← hxz]
      exact this
    have hd0 : (inCells x.code)[n * 6]? = some (.int .u8 y0.op) := flat_at Ins.vals 6 Ins.vals_len x.code n 0 y0 hy0 (by omega)
    have hd1 : (inCells x.code)[n * 6 + 1]? = some (.int .i64 y0.r) := flat_at Ins.vals 6 Ins.vals_len x.code n 1 y0 hy0 (by omega)
    have hd2 : (inCells x.code)[n * 6 + 2]? = some (.int .i64 y0.a) := flat_at Ins.vals 6 Ins.vals_len x.code n 2 y0 hy0 (by omega)
    have hd3 : (inCells x.code)[n * 6 + 3]? = some (.int .i64 y0.b) := flat_at Ins.vals 6 Ins.vals_len x.code n 3 y0 hy0 (by omega)
    have hd4 : (inCells x.code)[n * 6 + 4]? = some (.int .i64 y0.n) := flat_at Ins.vals 6 Ins.vals_len x.code n 4 y0 hy0 (by omega)
    have hd5 : (inCells x.code)[n * 6 + 5]? = some (.slice y0.aa y0.args.length y0.acap) := flat_at Ins.vals 6 Ins.vals_len x.code n 5 y0 hy0 (by omega)
    have hRsd : OwnR Ws.drew 42 gz capz p.funs.length (fnCells (p.funs.set k xz)) := hRs.keep rfl
    have hRcd : OwnR Ws.drew 31 gc ccz x.code.length (inCells x.code) := hRcs.keep rfl
    have hbkD : Ws.drew.heap[V3.heap.size]? = _ := hbks
    have hbWD : Below V3.heap.size V3 Ws.drew := hbWs.drew
    have hszD : Ws.drew.heap.size = w8.heap.size := hszs
    have hIb := (hWW.out Ws.drew (hC3'.out.trans (hbWD.mono hC3'.out.size))).2.2.2.2.2.2.1.2.2
    clear hWs hRs hRcs hbks hbWs hszs hR8 hRc hbk8 hown8 hg8 s2 s3 hfz hRd hbkd hbd hT21 hal hbda hlit3 hS0
    go_upto_region 22 with fail
    refine wp_region_noPanic ?_
    refine wp_region_L (k := 8) (S := (fun X : World => X.cell? ⟨V3.heap.size, 2, none⟩ = some (.slice (some ⟨gz, 0, none⟩) p.funs.length capz) ∧ X.cell? ⟨gz, k * 5 + 4, none⟩ = some (.slice (some ⟨gc, 0, none⟩) x.code.length ccz) ∧ X.cell? ⟨w.heap.size + 1 + 1, 0, none⟩ = some (.int .u8 i.op) ∧ X.cell? ⟨w.heap.size + 1 + 1, 1, none⟩ = some (.int .i64 i.r) ∧ X.cell? ⟨w.heap.size + 1 + 1, 2, none⟩ = some (.int .i64 i.a) ∧ X.cell? ⟨w.heap.size + 1 + 1, 3, none⟩ = some (.int .i64 i.b) ∧ X.cell? ⟨w.heap.size + 1 + 1, 4, none⟩ = some (.int .i64 i.n) ∧ X.cell? ⟨w.heap.size + 1 + 1, 5, none⟩ = some (.slice i.aa i.args.length i.acap))) (by kernel_rfl) ?_
    generalize Ws.drew = We at *
    have hS0 : (fun X : World => X.cell? ⟨V3.heap.size, 2, none⟩ = some (.slice (some ⟨gz, 0, none⟩) p.funs.length capz) ∧ X.cell? ⟨gz, k * 5 + 4, none⟩ = some (.slice (some ⟨gc, 0, none⟩) x.code.length ccz) ∧ X.cell? ⟨w.heap.size + 1 + 1, 0, none⟩ = some (.int .u8 i.op) ∧ X.cell? ⟨w.heap.size + 1 + 1, 1, none⟩ = some (.int .i64 i.r) ∧ X.cell? ⟨w.heap.size + 1 + 1, 2, none⟩ = some (.int .i64 i.a) ∧ X.cell? ⟨w.heap.size + 1 + 1, 3, none⟩ = some (.int .i64 i.b) ∧ X.cell? ⟨w.heap.size + 1 + 1, 4, none⟩ = some (.int .i64 i.n) ∧ X.cell? ⟨w.heap.size + 1 + 1, 5, none⟩ = some (.slice i.aa i.args.length i.acap)) We := ⟨blk_cell hbkD rfl, (hRsd.cell hc22).1, hIb⟩
    obtain ⟨e0, f0⟩ := hRcd.cell hd0
    obtain ⟨e1, f1⟩ := hRcd.cell hd1
    obtain ⟨e2, f2⟩ := hRcd.cell hd2
    obtain ⟨e3, f3⟩ := hRcd.cell hd3
    obtain ⟨e4, f4⟩ := hRcd.cell hd4
    obtain ⟨e5, f5⟩ := hRcd.cell hd5
    have hcc := hRcd.le
    refine' wpAnyL_take (by kernel_rfl) (i := 0) (oi := _) (v := _) (by decide) rfl (by kernel_rfl) (by kernel_rfl) (by kernel_rfl) (fun _ _ _ h => h) (Or.inl ⟨by rfl, ?hyv0⟩) (by assumption) ?rtv0
    case hyv0 => (intro w hSw; obtain ⟨s0, s1, s2, s3, s4, s5, s6, s7⟩ := hSw; go_simp; all_goals (with_reducible rfl))
    try simp only [Act.put, List.getElem_toArray, List.getElem_cons_zero, List.getElem_cons_succ, List.setIfInBounds_toArray, List.set_cons_zero, List.set_cons_succ]
    refine' wpAnyL_take (by kernel_rfl) (i := 1) (oi := _) (v := _) (by decide) rfl (by kernel_rfl) (by kernel_rfl) (by kernel_rfl) (fun _ _ _ h => h) (Or.inl ⟨by rfl, ?hyv1⟩) (by assumption) ?rtv1
    case hyv1 => (intro w hSw; obtain ⟨s0, s1, s2, s3, s4, s5, s6, s7⟩ := hSw; go_simp; all_goals (with_reducible rfl))
    try simp only [Act.put, List.getElem_toArray, List.getElem_cons_zero, List.getElem_cons_succ, List.setIfInBounds_toArray, List.set_cons_zero, List.set_cons_succ]
    refine' wpAnyL_take (by kernel_rfl) (i := 2) (oi := _) (v := _) (by decide) rfl (by kernel_rfl) (by kernel_rfl) (by kernel_rfl) (fun _ _ _ h => h) (Or.inl ⟨by rfl, ?hyv2⟩) (by assumption) ?rtv2
    case hyv2 => (intro w hSw; obtain ⟨s0, s1, s2, s3, s4, s5, s6, s7⟩ := hSw; go_simp; all_goals (with_reducible rfl))
    try simp only [Act.put, List.getElem_toArray, List.getElem_cons_zero, List.getElem_cons_succ, List.setIfInBounds_toArray, List.set_cons_zero, List.set_cons_succ]
    refine' wpAnyL_take (by kernel_rfl) (i := 3) (oi := _) (v := _) (by decide) rfl (by kernel_rfl) (by kernel_rfl) (by kernel_rfl) (fun _ _ _ h => h) (Or.inl ⟨by rfl, ?hyv3⟩) (by assumption) ?rtv3
    case hyv3 => (intro w hSw; obtain ⟨s0, s1, s2, s3, s4, s5, s6, s7⟩ := hSw; go_simp; all_goals (with_reducible rfl))
    try simp only [Act.put, List.getElem_toArray, List.getElem_cons_zero, List.getElem_cons_succ, List.setIfInBounds_toArray, List.set_cons_zero, List.set_cons_succ]
    refine' wpAnyL_take (by kernel_rfl) (i := 4) (oi := _) (v := _) (by decide) rfl (by kernel_rfl) (by kernel_rfl) (by kernel_rfl) (fun _ _ _ h => h) (Or.inl ⟨by rfl, ?hyv4⟩) (by assumption) ?rtv4
    case hyv4 => (intro w hSw; obtain ⟨s0, s1, s2, s3, s4, s5, s6, s7⟩ := hSw; go_simp; all_goals (with_reducible rfl))
    try simp only [Act.put, List.getElem_toArray, List.getElem_cons_zero, List.getElem_cons_succ, List.setIfInBounds_toArray, List.set_cons_zero, List.set_cons_succ]
    refine' wpAnyL_take (by kernel_rfl) (i := 5) (oi := _) (v := _) (by decide) rfl (by kernel_rfl) (by kernel_rfl) (by kernel_rfl) (fun _ _ _ h => h) (Or.inl ⟨by rfl, ?hyv5⟩) (by assumption) ?rtv5
    case hyv5 => (intro w hSw; obtain ⟨s0, s1, s2, s3, s4, s5, s6, s7⟩ := hSw; go_simp; all_goals (with_reducible rfl))
    try simp only [Act.put, List.getElem_toArray, List.getElem_cons_zero, List.getElem_cons_succ, List.setIfInBounds_toArray, List.set_cons_zero, List.set_cons_succ]
    refine' wpAnyL_take (by kernel_rfl) (i := 6) (oi := _) (v := _) (by decide) rfl (by kernel_rfl) (by kernel_rfl) (by kernel_rfl) (fun _ _ _ h => h) (Or.inl ⟨by rfl, ?hyv6⟩) (by assumption) ?rtv6
    case hyv6 => (intro w hSw; obtain ⟨s0, s1, s2, s3, s4, s5, s6, s7⟩ := hSw; go_simp; all_goals (with_reducible rfl))
    try simp only [Act.put, List.getElem_toArray, List.getElem_cons_zero, List.getElem_cons_succ, List.setIfInBounds_toArray, List.set_cons_zero, List.set_cons_succ]
    refine' wpAnyL_take (by kernel_rfl) (i := 7) (oi := _) (v := _) (by decide) rfl (by kernel_rfl) (by kernel_rfl) (by kernel_rfl) (fun _ _ _ h => h) (Or.inl ⟨by rfl, ?hyv7⟩) (by assumption) ?rtv7
    case hyv7 => (intro w hSw; obtain ⟨s0, s1, s2, s3, s4, s5, s6, s7⟩ := hSw; go_simp; all_goals (with_reducible rfl))
    try simp only [Act.put, List.getElem_toArray, List.getElem_cons_zero, List.getElem_cons_succ, List.setIfInBounds_toArray, List.set_cons_zero, List.set_cons_succ]
    refine wpAnyL_one (i := 8) (o := _) (by kernel_rfl) rfl (fun K hK => ?_)
    go_simp
    refine hK.out _ _ (fun h => absurd h (by decide)) ?_
    clear hK K
    try simp only [Act.put, List.getElem_toArray, List.getElem_cons_zero, List.getElem_cons_succ, List.setIfInBounds_toArray, List.set_cons_zero, List.set_cons_succ]
    refine wpAnyL_one (i := 9) (o := _) (by kernel_rfl) rfl (fun K hK => ?_)
    go_simp
    refine hK.out _ _ (fun h => absurd h (by decide)) ?_
    clear hK K
    try simp only [Act.put, List.getElem_toArray, List.getElem_cons_zero, List.getElem_cons_succ, List.setIfInBounds_toArray, List.set_cons_zero, List.set_cons_succ]
    refine wpAnyL_done (by kernel_rfl) ?_ _
    refine NoPanic.normal ?_
    have hRt := store6_own i hRcd hy0
    have hRzt := hRsd.keep (w' := ((((((We.setCell ⟨gc, n * 6, none⟩ (.int .u8 i.op)).setCell ⟨gc, n * 6 + 1, none⟩ (.int .i64 i.r)).setCell ⟨gc, n * 6 + 2, none⟩ (.int .i64 i.a)).setCell ⟨gc, n * 6 + 3, none⟩ (.int .i64 i.b)).setCell ⟨gc, n * 6 + 4, none⟩ (.int .i64 i.n)).setCell ⟨gc, n * 6 + 5, none⟩ (.slice i.aa i.args.length i.acap))) (store6_ne hgzc _ _ _ _ _ _ _ _ _ _ _ _)
    have hgc3 : V3.heap.size ≠ gc := by omega
    have hbkt := (store6_ne (w := We) hgc3 (n * 6) (n * 6 + 1) (n * 6 + 2) (n * 6 + 3) (n * 6 + 4) (n * 6 + 5) (.int .u8 i.op) (.int .i64 i.r) (.int .i64 i.a) (.int .i64 i.b) (.int .i64 i.n) (.slice i.aa i.args.length i.acap)).trans hbkD
    have hbWt := store6_below hbWD (show V3.heap.size ≤ gc by omega) (n * 6) (n * 6 + 1) (n * 6 + 2) (n * 6 + 3) (n * 6 + 4) (n * 6 + 5) (.int .u8 i.op) (.int .i64 i.r) (.int .i64 i.a) (.int .i64 i.b) (.int .i64 i.n) (.slice i.aa i.args.length i.acap)
    generalize ((((((We.setCell ⟨gc, n * 6, none⟩ (.int .u8 i.op)).setCell ⟨gc, n * 6 + 1, none⟩ (.int .i64 i.r)).setCell ⟨gc, n * 6 + 2, none⟩ (.int .i64 i.a)).setCell ⟨gc, n * 6 + 3, none⟩ (.int .i64 i.b)).setCell ⟨gc, n * 6 + 4, none⟩ (.int .i64 i.n)).setCell ⟨gc, n * 6 + 5, none⟩ (.slice i.aa i.args.length i.acap)) = Wt at *
    clear hS0 e0 f0 e1 f1 e2 f2 e3 f3 e4 f4 e5 f5 hd0 hd1 hd2 hd3 hd4 hd5 hIb hc22 hcz hRcd hRsd hbkD hbWD hszD
    obtain ⟨xn, hxn2⟩ : ∃ xn : Fn, ({ x with ca := some ⟨gc, 0, none⟩, ccap := ccz, code := x.code.set n i } : Fn) = xn := ⟨_, rfl⟩
    have hfz2 : fnCells (p.funs.set k xz) = fnCells (p.funs.set k xn) := fnCells_set _ _ _ _ (by
      rw [← hxz, ← hxn2]
      unfold Fn.vals
      simp)
    rw [hfz2] at hRzt
    obtain ⟨pz, hpz⟩ : ∃ pz : Pg, ({ p with fa := some ⟨gz, 0, none⟩, fcap := capz, funs := p.funs.set k xn } : Pg) = pz := ⟨_, rfl⟩
    have hsam : sameP p pz = sameI y0 i := by
      rw [← hpz, sameP_eq]
      have h1 : eqL sameF p.funs (p.funs.set k xn) = sameI y0 i := by
        rw [eqL_set sameF_refl p.funs k x _ hx, ← hxn2]
        unfold sameF
        simp only
        rw [eqL_set sameI_refl x.code n y0 i hy0]
        simp
      rw [h1]
      show (eqL sameM p.mems p.mems && eqL (fun x y : ByteArray => decide (x = y)) p.locks p.locks && sameI y0 i) = sameI y0 i
      rw [eqL_refl (fun x _ => sameM_refl x), eqL_refl (f := fun x y : ByteArray => decide (x = y)) (fun x _ => by simp)]
      simp
    have hPZ : Hid (∀ V, Below Wt.heap.size Wt V → Bp1 V3.heap.size pz V ∧ Pg.In V (fun _ => True) pz ∧ Bp1 w.heap.size p V ∧ Pg.In V (fun _ => True) p ∧ Bs3 w.heap.size p q i V ∧ (V.cell? ⟨bc, offc + n * 6, none⟩ = some (.int .u8 y0.op) ∧ V.cell? ⟨bc, offc + n * 6 + 1, none⟩ = some (.int .i64 y0.r) ∧ V.cell? ⟨bc, offc + n * 6 + 2, none⟩ = some (.int .i64 y0.a) ∧ V.cell? ⟨bc, offc + n * 6 + 3, none⟩ = some (.int .i64 y0.b) ∧ V.cell? ⟨bc, offc + n * 6 + 4, none⟩ = some (.int .i64 y0.n) ∧ V.cell? ⟨bc, offc + n * 6 + 5, none⟩ = some (.slice y0.aa y0.args.length y0.acap)) ∧ Ins.In V (fun _ => True) y0 ∧ Ins.In V (fun _ => True) i ∧ Below w.heap.size w V) := Lib.hid fun V hV => by
      have h0 := hC3'.out.trans ((hbWt.trans (hV.mono hbWt.size)).mono hC3'.out.size)
      obtain ⟨q1, _, _, q4, _, _, q7, q8⟩ := hWW.out V h0
      have h1 := (hV.block _ (Array.getElem?_eq_some_iff.1 hbkt).1).trans hbkt
      have hR5 := (hRzt.keep (hV.block gz hRzt.lt)).row
      have hR6 := (hRt.keep (hV.block gc hRt.lt)).row
      have hX := q4.funs x (List.mem_of_getElem? hx)
      have hI := hiV.out V q8
      obtain ⟨b', o', hca', _, hyc⟩ := in_row hX.row n y0 hy0
      rw [hxa] at hca'
      cases hca'
      have hlen : (p.funs.set k xn).length = p.funs.length := by simp
      subst hpz
      refine ⟨⟨blk_cell h1 rfl, blk_cell h1 rfl, ?_⟩, ⟨q4.mrow, q4.mems, q4.lrow, q4.locks, ?_, fun f hf => ?_⟩, q1, q4, q7, hyc, hX.code y0 (List.mem_of_getElem? hy0), hI, q8⟩
      · show _ = some (Value.slice (some ⟨gz, 0, none⟩) (p.funs.set k xn).length capz)
        rw [hlen]
        exact blk_cell h1 rfl
      · show RowAt V _ (some ⟨gz, 0, none⟩) capz (p.funs.set k xn).length _
        rw [hlen]
        exact hR5
      · rcases List.mem_or_eq_of_mem_set hf with hf | rfl
        · exact q4.funs f hf
        · subst hxn2
          refine ⟨hX.name, hX.params, hX.regs, ?_, fun y hy => ?_⟩
          · show RowAt V _ (some ⟨gc, 0, none⟩) ccz (x.code.set n i).length _
            rw [List.length_set]
            exact hR6
          · rcases List.mem_or_eq_of_mem_set hy with hy | rfl
            · exact hX.code y hy
            · exact hI
    have hnl' : (n : Int) < (x.code.length : Int) := by omega
    clear hRt hRzt hbkt hbWt hpz hxn2 hfz2 hWW
    go_upto_region 23 with fail
    refine wp_region_rel (C := fun V => Below Wt.heap.size Wt V) (E := Ext) (R := fun j => (rs23 p pz y0 i bc offc n x.code.length x.ccap).getD j VT) (by kernel_rfl) ((Below.refl _ _).drew) (by kernel_rfl) (fun j v w' w'' _ hE h => mono_get _ j rs23_mono v w' w'' hE h) (steps_all ?hs23) ?hend23
    case hs23 =>
      refine stepsL_cons (s_val fun a W hC hs => ?_) ?_
      · have hB := hPZ.out W hC
        have ho := old_of hs 5 (by kernel_rfl) (by rfl)
        exact ⟨wanted_none rfl, _, run_ld rfl (ev ho) (load_pg hB.2.2.1), rfl⟩
      refine stepsL_cons (s_val fun a W hC hs => ?_) ?_
      · have hB := hPZ.out W hC
        have ho := old_of hs 16 (by kernel_rfl) (by rfl)
        exact ⟨wanted_none rfl, _, run_ld rfl (ev ho) (load_pg hB.1), rfl⟩
      refine stepsL_cons (s_call fun a W hC hs => ?_) ?_
      · obtain ⟨v0, hv0, hR0⟩ := got_of hs 0 165 (by kernel_rfl) (by rfl)
        have hR0' : v0 = _ := hR0
        subst hR0'
        obtain ⟨v1, hv1, hR1⟩ := got_of hs 1 166 (by kernel_rfl) (by rfl)
        have hR1' : v1 = _ := hR1
        subst hR1'
        have hB := hPZ.out W hC
        refine ⟨wanted_none rfl, 15, _, run_call2 rfl (ev hv0) (ev hv1) (fun _ _ => rfl), (same_any p pz W hB.2.2.2.1 hB.2.1).mono ?_⟩
        rintro e W' ⟨rfl, hb⟩
        exact ⟨_, rfl, hC.trans (hb.mono hC.size), hb, by show Value.bool _ = _; rw [hsam]⟩
      refine stepsL_cons (s_val fun a W hC hs => ?_) ?_
      · have ho := old_of hs 14 (by kernel_rfl) (by rfl)
        exact ⟨wanted_none rfl, _, run_mv (Or.inl rfl) (ev ho), rfl⟩
      refine stepsL_cons (s_val fun a W hC hs => ?_) ?_
      · have ho := old_of hs 15 (by kernel_rfl) (by rfl)
        exact ⟨wanted_none rfl, _, run_mv (Or.inl rfl) (ev ho), rfl⟩
      refine stepsL_cons (s_val fun a W hC hs => ?_) ?_
      · obtain ⟨v0, hv0, hR0⟩ := got_of hs 3 168 (by kernel_rfl) (by rfl)
        have hR0' : v0 = _ := hR0
        subst hR0'
        obtain ⟨v1, hv1, hR1⟩ := got_of hs 4 169 (by kernel_rfl) (by rfl)
        have hR1' : v1 = _ := hR1
        subst hR1'
        exact ⟨wanted_none rfl, _, run_ix rfl (ev hv0) (ev hv1) (ix_in (by omega)), rfl⟩
      refine stepsL_cons (s_val fun a W hC hs => ?_) ?_
      · obtain ⟨v0, hv0, hR0⟩ := got_of hs 5 170 (by kernel_rfl) (by rfl)
        have hR0' : v0 = _ := hR0
        subst hR0'
        have hB := hPZ.out W hC
        exact ⟨wanted_none rfl, _, run_ld rfl (ev hv0) (load_at hB.2.2.2.2.2.1.1 hB.2.2.2.2.2.1.2.1 hB.2.2.2.2.2.1.2.2.1 hB.2.2.2.2.2.1.2.2.2.1 hB.2.2.2.2.2.1.2.2.2.2.1 hB.2.2.2.2.2.1.2.2.2.2.2), rfl⟩
      refine stepsL_cons (s_val fun a W hC hs => ?_) ?_
      · have hB := hPZ.out W hC
        have ho := old_of hs 9 (by kernel_rfl) (by rfl)
        exact ⟨wanted_none rfl, _, run_ld rfl (ev ho) (load_in hB.2.2.2.2.1.2.2.1 hB.2.2.2.2.1.2.2.2.1 hB.2.2.2.2.1.2.2.2.2.1 hB.2.2.2.2.1.2.2.2.2.2.1 hB.2.2.2.2.1.2.2.2.2.2.2.1 hB.2.2.2.2.1.2.2.2.2.2.2.2), rfl⟩
      refine stepsL_cons (s_call fun a W hC hs => ?_) ?_
      · obtain ⟨v0, hv0, hR0⟩ := got_of hs 6 171 (by kernel_rfl) (by rfl)
        have hR0' : v0 = _ := hR0
        subst hR0'
        obtain ⟨v1, hv1, hR1⟩ := got_of hs 7 172 (by kernel_rfl) (by rfl)
        have hR1' : v1 = _ := hR1
        subst hR1'
        have hB := hPZ.out W hC
        refine ⟨wanted_none rfl, 21, _, run_call2 rfl (ev hv0) (ev hv1) (fun _ _ => rfl), (sameIns_any y0 i W hB.2.2.2.2.2.2.1.row hB.2.2.2.2.2.2.2.1.row).mono ?_⟩
        rintro e W' ⟨rfl, hb⟩
        exact ⟨_, rfl, hC.trans (hb.mono hC.size), hb, rfl⟩
      refine stepsL_cons (s_val fun a W hC hs => ?_) ?_
      · obtain ⟨v0, hv0, hR0⟩ := got_of hs 2 167 (by kernel_rfl) (by rfl)
        have hR0' : v0 = _ := hR0
        subst hR0'
        obtain ⟨v1, hv1, hR1⟩ := got_of hs 8 173 (by kernel_rfl) (by rfl)
        have hR1' : v1 = _ := hR1
        subst hR1'
        exact ⟨wanted_none rfl, _, run_eqb Tryd.underlying4 rfl (ev hv0) (ev hv1), rfl⟩
      refine stepsL_cons (s_val fun a W hC hs => ?_) ?_
      · obtain ⟨v0, hv0, hR0⟩ := got_of hs 9 174 (by kernel_rfl) (by rfl)
        have hR0' : v0 = _ := hR0
        subst hR0'
        exact ⟨wanted_none rfl, _, run_mv (Or.inr rfl) (ev hv0), rfl⟩
      exact stepsL_nil
    case hend23 =>
    intro σ9 V9 hC9 hR9
    generalize hF : fillL _ _ _ _ _ = F
    simp [fillL, dstOf, List.range, List.range.loop, Act.put] at hF
    subst hF
    have h10 : σ9 10 = .bool true := hR9 10 (by simp)
    rw [h10]
    have hfin := (hPZ.out V9 hC9).2.2.2.2.2.2.2.2
    clear hR9 h10 hPZ hsam
    go_wp2_with fail
    go_ret
    exact ⟨rfl, hfin⟩
end Go.Proofs.YtiicjbnocpphdaaDoor.Cd
