/- A queue of one's own in memory: taken from in front, put to behind. Conditions: none. -/
import Derived.Test.YtiaecobjbckhoaaDnF
import Derived.Test.YtiaecobjbckhoaaDoK
import Derived.Test.YtiaecobjbckhoaaDoL
set_option linter.unusedVariables false
set_option linter.unusedSimpArgs false
namespace Go.Proofs.Ytiaecobjbckhoaa.Db
open Go Go.RowKit
open Go.WideShapes Go.MapKept

structure Qu (B : Nat) (v : Value) (l : List Int) (W : World) : Prop where
  ex : ∃ (g off cap : Nat) (cur : List Value), v = .slice (some ⟨g, off, none⟩) l.length cap ∧ B ≤ g ∧ W.heap[g]? = some (.cells ⟨cur⟩ 3 (0, 0)) ∧ l.length ≤ cap ∧ cap ≤ maxLen ∧ off + cap ≤ cur.length ∧ ∀ (j : Nat) (x : Int), l[j]? = some x → cur[off + j]? = some (.int .i64 x)
theorem Qu.start (W : World) (B : Nat) (hB : B ≤ W.heap.size) (x : Int) : Qu B (.slice (some ⟨W.heap.size, 0, none⟩) 1 1) [x] (W.alloc (.cells #[.int .i64 x] 3)) :=
  ⟨W.heap.size, 0, 1, [.int .i64 x], rfl, hB, blk_new W _ rfl, Nat.le_refl _, by unfold maxLen; omega, Nat.le_refl _, fun j y hj => by
    match j, hj with
    | 0, hj => cases hj; rfl⟩
theorem Qu.pop {B : Nat} {v : Value} {x : Int} {r : List Int} {W : World} (h : Qu B v (x :: r) W) : ∃ g off cap, v = .slice (some ⟨g, off, none⟩) (r.length + 1) cap ∧ 1 ≤ cap ∧ r.length + 1 ≤ cap ∧ cap ≤ maxLen ∧ W.cell? ⟨g, off, none⟩ = some (.int .i64 x) ∧ Qu B (.slice (some (if cap = 1 then (⟨g, off, none⟩ : Addr) else (⟨g, off, none⟩ : Addr).add 1)) r.length (cap - 1)) r W := by
  obtain ⟨g, off, cap, cur, hv, hB, hg, hl, hc, ho, hx⟩ := h.ex
  rw [List.length_cons] at hl hv
  have h0 := hx 0 x rfl
  refine ⟨g, off, cap, hv, by omega, hl, hc, by simp only [World.cell?, hg]; simpa using h0, ?_⟩
  by_cases e : cap = 1
  · have hr : r = [] := List.eq_nil_of_length_eq_zero (by omega)
    subst hr
    rw [if_pos e]
    exact ⟨g, off, cap - 1, cur, rfl, hB, hg, Nat.zero_le _, by omega, by omega, fun j y hj => by simp at hj⟩
  · rw [if_neg e, Go.WideShapes.add_plain]
    exact ⟨g, off + 1, cap - 1, cur, rfl, hB, hg, by omega, by omega, by omega, fun j y hj => by
      have := hx (j + 1) y (by simpa using hj)
      rw [show off + 1 + j = off + (j + 1) by omega]
      exact this⟩
theorem Qu.keep {B : Nat} {v : Value} {l : List Int} {W W' : World} (h : Qu B v l W) (hb : ∀ g, v.ownBlock = some g → W'.heap[g]? = W.heap[g]?) : Qu B v l W' := by
  obtain ⟨g, off, cap, cur, hv, hB, hg, h1⟩ := h.ex
  exact ⟨g, off, cap, cur, hv, hB, (hb g (by rw [hv]; rfl)).trans hg, h1⟩
theorem Qu.lt {B : Nat} {v : Value} {l : List Int} {W : World} (h : Qu B v l W) {g : Nat} (e : v.ownBlock = some g) : B ≤ g ∧ g < W.heap.size := by
  obtain ⟨g', off, cap, cur, hv, hB, hg, h1⟩ := h.ex
  have : g' = g := by rw [hv] at e; simpa [Value.ownBlock] using e
  subst this
  exact ⟨hB, (Array.getElem?_eq_some_iff.1 hg).1⟩
theorem Qu.ne {B gm n : Nat} {f : Nat → Bool} {v : Value} {l : List Int} {W : World} (h : Qu B v l W) (hM : MkB gm n f W) : v.ownBlock ≠ some gm := by
  intro e
  obtain ⟨g, off, cap, cur, hv, hB, hg, h1⟩ := h.ex
  have : g = gm := by rw [hv] at e; simpa [Value.ownBlock] using e
  subst this
  rw [hM.ex] at hg
  have := Option.some.inj hg
  simp at this
theorem Qu.shape {B : Nat} {v : Value} {l : List Int} {W : World} (h : Qu B v l W) : ∃ a cap, v = .slice a l.length cap := by
  obtain ⟨g, off, cap, cur, hv, _⟩ := h.ex
  exact ⟨_, _, hv⟩
theorem Qu.len {B : Nat} {v : Value} {l : List Int} {W : World} (h : Qu B v l W) {a : Option Addr} {n cap : Nat} (hv : v = .slice a n cap) : n = l.length ∧ n ≤ cap ∧ cap ≤ maxLen := by
  obtain ⟨g, off, cap', cur, hv', _, _, h1, h2, _⟩ := h.ex
  rw [hv] at hv'
  cases hv'
  exact ⟨rfl, h1, h2⟩
/-- one more is put behind -/
theorem wpList_push (w : World) {ops : Array Oper} {rest : List Oper} {o : Oper} {a : Act} {Q : Exit → Act → World → Prop} (hgd : o.guard = none) (s x : Operand)
    (ho : o.op = .call { callee := .builtin .append, args := #[s, x], argTypes := #[33, 33] }) (B p : Nat) (v : Value) (l : List Int) (y : Int) (hs : a.eval s = v) (hq : Qu B v l w) (hx : a.eval x = .slice (some ⟨p, 0, none⟩) 1 1)
    (hp : w.heap[p]? = some (.cells #[.int .i64 y] 3 (0, 0))) (hB : B ≤ w.heap.size) (hlen : l.length ≤ 1000000)
    (h : ∀ v' w', Qu B v' (l ++ [y]) w' → w.grownBy w' v.ownBlock → wpList Try.prog ops Q rest (a.put o.dst v') w') : wpList Try.prog ops Q (o :: rest) a w := by
  obtain ⟨i0, hi0, hz0, hz1, hz2⟩ := info_i
  obtain ⟨g, off, cap, cur, hv, hgB, hg, h1, h2, h3, h4⟩ := hq.ex
  have hnews : ∀ j u, [Value.int .i64 y][j]? = some u → w.cell? ((⟨p, 0, none⟩ : Addr).add j) = some u := fun j u hu => by
    rw [Go.WideShapes.add_plain, Nat.zero_add]
    exact blk_cell hp (by simpa using hu)
  have key : ∃ v' w', (Builtin.append_ #[33, 33] o.type #[v, .slice (some ⟨p, 0, none⟩) 1 1]).run Try.prog w = .ok v' w' ∧ Qu B v' (l ++ [y]) w' ∧ w.grownBy w' v.ownBlock := by
    subst hv
    by_cases hroom : l.length + 1 ≤ cap
    · refine ⟨_, _, run_append_room_cells (P := Try.prog) w 33 o.type 3 i0 Try.underlying33 hi0 g off l.length cap ⟨p, 0, none⟩ 1 1 [.int .i64 y] (by rw [hz1]; rfl) hnews (one_int _) hroom (fun j hj => ?_) (fun j hj => ?_), ?_, ?_⟩
      · have : j = 0 := by simpa using hj
        subst this
        rw [hz1]
        have hlt : off + l.length < cur.length := by omega
        simp only [World.cell?, hg]
        simp [hlt]
      · exact blk_free hg _
      · rw [hz1, Nat.mul_one]
        show Qu B _ (l ++ [y]) (w.setCell ⟨g, off + l.length, none⟩ (.int .i64 y))
        refine ⟨g, off, cap, cur.set (off + l.length) (.int .i64 y), by rw [List.length_append]; rfl, hgB, by rw [heap_set1 hg]; simp, by rw [List.length_append]; exact hroom, h2, by simpa using h3, fun j z hj => ?_⟩
        by_cases e : j < l.length
        · rw [List.getElem?_append_left e] at hj
          rw [List.getElem?_set_ne (by omega)]
          exact h4 j z hj
        · have hj2 := (List.getElem?_eq_some_iff.1 hj).1
          rw [List.length_append, List.length_singleton] at hj2
          have : j = l.length := by omega
          subst this
          rw [List.getElem?_append_right (Nat.le_refl _), Nat.sub_self] at hj
          cases hj
          rw [List.getElem?_set_self (by omega)]
      · rw [hz1, Nat.mul_one]
        show w.grownBy (w.setCell ⟨g, off + l.length, none⟩ (.int .i64 y)) _
        exact ⟨rfl, rfl, rfl, by simp [World.setCell], fun k hk hne => Below.heap_setCell _ _ _ _ (fun e => hne (by rw [e]; rfl))⟩
    · obtain ⟨v', w', hr, ho', hg'⟩ := run_append_arg_grows (P := Try.prog) w 33 o.type 3 i0 _ 1 8 Try.underlying33 hi0 hz0 hz1 hz2 rfl (by decide) ⟨g, off, none⟩ l.length cap (numCells l) (by simp [numCells]) (fun j u hu => by
        unfold numCells at hu
        rw [List.getElem?_map] at hu
        rcases hl : l[j]? with _ | z
        · rw [hl] at hu; cases hu
        · rw [hl] at hu
          cases hu
          rw [Go.WideShapes.add_plain]
          simp only [World.cell?, hg]
          simpa using h4 j z hl) ⟨p, 0, none⟩ 1 1 [.int .i64 y] rfl hnews (by omega) (by unfold maxLen; omega) (by omega)
      refine ⟨v', w', hr, ?_, hg'.os, hg'.tape, hg'.output, hg'.size, fun k hk hne => hg'.block k hk (fun e => by cases e)⟩
      rcases ho'.2 with ⟨_, h0⟩ | ⟨g2, cap2, cur2, hv2, hB2, hg2, n1, n2, n3, n4⟩
      · omega
      · refine ⟨g2, 0, cap2, cur2.toList, by rw [hv2, List.length_append]; rfl, Nat.le_trans hB hB2, hg2, by rw [List.length_append]; exact n1, n2, by simp; omega, fun j z hj => ?_⟩
        have hj2 := (List.getElem?_eq_some_iff.1 hj).1
        rw [List.length_append, List.length_singleton] at hj2
        have e : (cur2.toList.take ((l.length + 1) * 1))[j]? = some (.int .i64 z) := by
          rw [n4, ← num_snoc]
          unfold numCells
          rw [List.getElem?_map, hj]
          rfl
        rw [List.getElem?_take, if_pos (by omega)] at e
        rw [Nat.zero_add]
        exact e
  obtain ⟨v', w', hr, k1, k2⟩ := key
  refine wpList_plain hgd fun K' hK' => ?_
  unfold Oper.wp
  simp [execOp, ho, resolve, invoke, builtin, hs, hx, hr, Result.andThen]
  exact hK' _ _ (h v' w' k1 k2)
/-! how many are not marked -/
def unmet (n : Nat) (f : Nat → Bool) : Nat := ((List.range n).filter fun i => !f i).length
def bitOf (v : Option Value) : Bool := match v with | some (.bool b) => b | _ => false
def unmW (g n : Nat) (W : World) : Nat := unmet n fun i => bitOf (W.cell? ⟨g, i, none⟩)
theorem unmet_cong (n : Nat) {f f' : Nat → Bool} (h : ∀ i, i < n → f i = f' i) : unmet n f = unmet n f' := by
  unfold unmet
  congr 1
  refine List.filter_congr fun i hi => ?_
  rw [h i (List.mem_range.1 hi)]
theorem MkB.unm {g n : Nat} {f : Nat → Bool} {W : World} (h : MkB g n f W) : unmW g n W = unmet n f := by
  unfold unmW
  refine unmet_cong n fun i hi => ?_
  rw [(h.get hi).1]
  rfl
end Go.Proofs.Ytiaecobjbckhoaa.Db
/- Walk of bobbinref12.Come. Conditions: the graph lies in memory, leads to blocks, and is small. -/
set_option linter.unusedVariables false
set_option linter.unusedSimpArgs false
namespace Go.Proofs.Ytiaecobjbckhoaa.Db
open Go Go.RowKit
open Go.WideShapes Go.MapKept

theorem unmet_mono (n : Nat) {f f' : Nat → Bool} (h : ∀ i, f i = true → f' i = true) : unmet n f' ≤ unmet n f := by
  unfold unmet
  rw [← List.countP_eq_length_filter, ← List.countP_eq_length_filter]
  refine List.countP_mono_left fun i _ hi => ?_
  cases hf : f i
  · rfl
  · rw [h i hf] at hi; cases hi
theorem unmet_less {n b : Nat} {f : Nat → Bool} (hb : b < n) (h : f b = false) : unmet n (fun i => if i = b then true else f i) + 1 ≤ unmet n f := by
  unfold unmet
  induction n with
  | zero => omega
  | succ n ih =>
    rw [List.range_succ, List.filter_append, List.filter_append, List.length_append, List.length_append]
    by_cases e : b = n
    · subst e
      have h1 := unmet_mono b (f := f) (f' := fun i => if i = b then true else f i) (fun i hi => by simp [hi])
      unfold unmet at h1
      simp [h] at h1 ⊢
      omega
    · have h2 := ih (by omega)
      have h3 : ([n].filter fun i => !(if i = b then true else f i)) = [n].filter fun i => !f i := by
        have hne : ¬ n = b := fun h => e h.symm
        simp only [List.filter_cons, List.filter_nil, if_neg hne]
      rw [h3]
      omega
/-- what the walk broad ahead of deep keeps to -/
structure Bf (n : Nat) (S : Nat → List Int) (d : Int) (f : Nat → Bool) (l : List Int) (P : Nat → Prop) : Prop where
  s1 : ∀ x, x < n → f x = true → Cm S (fun y => (y : Int) ≠ d) x
  s2 : ∀ y ∈ l, ∃ z : Nat, y = z ∧ z < n ∧ f z = true
  s3 : f 0 = true
  s4 : ∀ x, x < n → f x = true → (x : Int) ∈ l ∨ (∀ t ∈ S x, t ≠ d → f t.toNat = true) ∨ P x
section
variable {n : Nat} {S : Nat → List Int} {d : Int} {f f' : Nat → Bool} {l r : List Int} {P : Nat → Prop}
theorem Bf.start (hd : d ≠ 0) (hf : ∀ i, i < n → f i = if i = 0 then true else false) (hn : 0 < n) : Bf n S d f [0] (fun _ => False) := by
  have h0 : f 0 = true := by rw [hf 0 hn]; rfl
  have hz : ∀ x, x < n → f x = true → x = 0 := fun x hx h => by
    rw [hf x hx] at h
    split at h
    · assumption
    · cases h
  refine ⟨fun x hx h => ?_, fun y hy => ?_, h0, fun x hx h => .inl ?_⟩
  · rw [hz x hx h]
    exact .start fun e => hd (by rw [← e]; rfl)
  · rw [List.mem_singleton] at hy
    exact ⟨0, by rw [hy]; rfl, hn, h0⟩
  · rw [hz x hx h]; simp
theorem Bf.pop {b : Nat} (h : Bf n S d f ((b : Int) :: r) (fun _ => False)) : Bf n S d f r (fun x => x = b) :=
  ⟨h.s1, fun y hy => h.s2 y (List.mem_cons_of_mem _ hy), h.s3, fun x hx hf => by
    rcases h.s4 x hx hf with h1 | h1 | h1
    · rcases List.mem_cons.1 h1 with e | h2
      · exact .inr (.inr (by omega))
      · exact .inl h2
    · exact .inr (.inl h1)
    · exact h1.elim⟩
theorem Bf.done {b : Nat} (h : Bf n S d f r (fun x => x = b)) (hb : ∀ t ∈ S b, t ≠ d → f t.toNat = true) : Bf n S d f r (fun _ => False) :=
  ⟨h.s1, h.s2, h.s3, fun x hx hf => by
    rcases h.s4 x hx hf with h1 | h1 | h1
    · exact .inl h1
    · exact .inr (.inl h1)
    · subst h1; exact .inr (.inl hb)⟩
theorem Bf.mark {b c : Nat} (h : Bf n S d f r (fun x => x = b)) (hb : b < n) (hfb : f b = true) (hc : (c : Int) ∈ S b) (hcn : c < n) (hcd : (c : Int) ≠ d) (hf' : ∀ i, i < n → f' i = if i = c then true else f i) (hS : ∀ x, x < n → ∀ t ∈ S x, 0 ≤ t ∧ t < (n : Int)) : Bf n S d f' (r ++ [(c : Int)]) (fun x => x = b) := by
  have up : ∀ i, i < n → f i = true → f' i = true := fun i hi h => by rw [hf' i hi]; split <;> simp [h]
  refine ⟨fun x hx h1 => ?_, fun y hy => ?_, up 0 (by omega) h.s3, fun x hx h1 => ?_⟩
  · rw [hf' x hx] at h1
    split at h1
    · rename_i e; subst e; exact .go (h.s1 b hb hfb) hc hcd
    · exact h.s1 x hx h1
  · rw [List.mem_append, List.mem_singleton] at hy
    rcases hy with hy | rfl
    · obtain ⟨z, e, hz, h2⟩ := h.s2 y hy
      exact ⟨z, e, hz, up z hz h2⟩
    · exact ⟨c, rfl, hcn, by rw [hf' c hcn, if_pos rfl]⟩
  · rw [hf' x hx] at h1
    split at h1
    · rename_i e; subst e; exact .inl (by simp)
    · rcases h.s4 x hx h1 with h2 | h2 | h2
      · exact .inl (by simp [h2])
      · exact .inr (.inl fun t ht hd => by
          have := hS x hx t ht
          exact up _ (by omega) (h2 t ht hd))
      · exact .inr (.inr h2)
theorem Bf.fin (h : Bf n S d f [] (fun _ => False)) (hn : 0 < n) (hS : ∀ x, x < n → ∀ t ∈ S x, 0 ≤ t ∧ t < (n : Int)) : ∀ x, x < n → (f x = true ↔ Cm S (fun y => (y : Int) ≠ d) x) := fun x hx => by
  refine ⟨h.s1 x hx, fun hc => ?_⟩
  have : ∀ y, Cm S (fun y => (y : Int) ≠ d) y → y < n ∧ f y = true := by
    intro y hy
    induction hy with
    | start => exact ⟨hn, h.s3⟩
    | @go u v _ e hne ih =>
      rcases h.s4 u ih.1 ih.2 with h1 | h1 | h1
      · cases h1
      · have := h1 v e hne
        rw [Int.toNat_natCast] at this
        exact ⟨by have := hS u ih.1 v e; omega, this⟩
      · exact h1.elim
  exact (this x hc).2
end
def slLen (v : Value) : Nat := match v with | .slice _ n _ => n | _ => 0
set_option maxHeartbeats 8000000 in
set_option maxRecDepth 100000 in
theorem rcome_c {T : List Tl} (n tcap : Nat) (ta : Option Addr) (d : Int) (w : World) (hT : T.length = n) (hg : ToM w.heap.size ta tcap T w) (hn0 : 0 < n) (hn : n ≤ 32768) (hS : ∀ x, x < n → ∀ t ∈ tos T x, 0 ≤ t ∧ t < (n : Int)) :
    Calls Try.prog 29 #[.slice ta n tcap, .int .i64 d] w fun e w' => ∃ (g : Nat) (f : Nat → Bool), e = .returned (.slice (some ⟨g, 0, none⟩) n n) ∧ w.heap.size ≤ g ∧ MkB g n f w' ∧ (∀ x, x < n → (f x = true ↔ Cm (tos T) (fun y => (y : Int) ≠ d) x)) ∧ Below w.heap.size w w' := by
  obtain ⟨hc1, hc2⟩ := len_i hg.row
  rw [hT] at hc1
  have hmk := fun V => make_bb n (by omega) V
  have hM := MkB.start w n
  by_cases hd : d = 0
  · subst hd
    have hno : ∀ x, ¬Cm (tos T) (fun y => (y : Int) ≠ 0) x := by
      intro x hx
      induction hx with
      | start h => exact h rfl
      | go _ _ _ ih => exact ih
    have hb := Lib.hid (b_alloc w (.cells (Array.replicate n (Value.bool false)) 4))
    replace hM := Lib.hid hM
    replace hno := Lib.hid hno
    replace hg := Lib.hid hg
    replace hS := Lib.hid hS
    go_enter Try.func29, Try.ntmps29
    go_wp2_with fail
    go_ret
    exact ⟨w.heap.size, _, rfl, Nat.le_refl _, hM.out, fun x _ => ⟨fun h => (by cases h), fun h => absurd h (hno.out x)⟩, hb.out⟩
  · have hd0 : (d == 0) = false := by simpa using hd
    obtain ⟨w1, hw1⟩ : ∃ w1, w1 = w.alloc (.cells (Array.replicate n (Value.bool false)) 4) := ⟨_, rfl⟩
    have hb1 : Below w.heap.size w w1 := by rw [hw1]; exact b_alloc _ _
    have hz1 : w1.heap.size = w.heap.size + 1 := by rw [hw1]; simp
    rw [← hw1] at hM
    have hn1 : (0 : Int) < (n : Int) := by omega
    replace hg := Lib.hid hg
    replace hS := Lib.hid hS
    go_enter Try.func29, Try.ntmps29
    obtain ⟨c1, c2⟩ := (hM.keep (b_alloc w1 (.cells #[.int .i64 0] 3))).get hn0
    clear hd
    go_upto_region 4 with fail
    rw [← hw1]
    replace hw1 := Lib.hid hw1
    go_wp2_with fail
    generalize hw2 : World.setCell _ ⟨w.heap.size, 0, none⟩ (Value.bool true) = w2
    have hM2 : MkB w.heap.size n (fun i => if i = 0 then true else false) w2 := by
      rw [← hw2]
      exact hM.set hn0 _ (fun i _ => rfl)
    have hb2 : Below w.heap.size w w2 := by rw [← hw2]; exact hb1.setCell (Nat.le_refl _) _
    have hz2 : w2.heap.size = w.heap.size + 1 := by rw [← hw2]; simp [World.setCell, hz1]
    have hq3 := Qu.start w2 w.heap.size (by omega) 0
    rw [hz2] at hq3
    have hb3 : Below w.heap.size w (w2.alloc (.cells #[.int .i64 0] 3)) := hb2.trans ((b_alloc _ _).mono hb2.size)
    have hM3 := hM2.keep (b_alloc w2 (.cells #[.int .i64 0] 3))
    have hBf : Bf n (tos T) d (fun i => if i = 0 then true else false) [0] (fun _ => False) := Bf.start (by simpa using hd0) (fun i _ => rfl) hn0
    have hun : unmet n (fun i => if i = 0 then true else false) + ([0] : List Int).length ≤ n := by
      have h1 := unmet_less (n := n) (f := fun _ => false) hn0 rfl
      have h2 : unmet n (fun _ => false) ≤ n := by unfold unmet; exact Nat.le_trans (List.length_filter_le _ _) (by simp)
      simp only [List.length_singleton]
      exact Nat.le_trans h1 h2
    generalize w2.alloc (.cells #[.int .i64 0] 3) = w3 at *
    have hst : Hid (Qu w.heap.size (.slice (some ⟨w.heap.size + 1, 0, none⟩) 1 1) [0] w3 ∧ MkB w.heap.size n (fun i => if i = 0 then true else false) w3 ∧ Bf n (tos T) d (fun i => if i = 0 then true else false) [0] (fun _ => False) ∧ Below w.heap.size w w3 ∧ unmet n (fun i => if i = 0 then true else false) + ([0] : List Int).length ≤ n) := Lib.hid ⟨hq3, hM3, hBf, hb3, hun⟩
    clear hM hM2 hb1 hz1 hw1 c1 c2 hw2 hb2 hz2 hq3 hb3 hM3 hBf hmk
    generalize hgm : w.heap.size = gm at *
    go_loopw [6] (fun v wr => ∃ (l : List Int) (f : Nat → Bool), (∃ a cap, v = .slice a l.length cap) ∧ Hid (Qu gm v l wr ∧ MkB gm n f wr ∧ Bf n (tos T) d f l (fun _ => False) ∧ Below gm w wr ∧ unmet n f + l.length ≤ n)) (fun v wr => unmW gm n wr + slLen v)
    case atStart => exact ⟨[0], _, ⟨_, _, rfl⟩, hst⟩
    case round =>
      clear hst
      obtain ⟨l, f, ⟨la, lcap, rfl⟩, hX⟩ := hrel
      cases l with
      | nil =>
        have hfin := Lib.hid (hX.out.2.2.1.fin hn0 hS.out)
        have hMe := Lib.hid hX.out.2.1
        have hbe := Lib.hid hX.out.2.2.2.1
        clear hX
        go_wp2_with fail
        go_ret
        exact ⟨gm, f, rfl, Nat.le_of_eq hgm, hMe.out, hfin.out, by rw [hgm]; exact hbe.out⟩
      | cons x r =>
        obtain ⟨x', rfl, hxn, hfx⟩ := hX.out.2.2.1.s2 x List.mem_cons_self
        obtain ⟨g, off, cap, hv, p1, p2, p3, p4, p5⟩ := hX.out.1.pop
        cases hv
        have hBf := hX.out.2.2.1.pop
        have hum := hX.out.2.1.unm
        obtain ⟨M, hMx⟩ : ∃ M, M = unmet n f + r.length := ⟨_, rfl⟩
        obtain ⟨e, he⟩ : ∃ e, T[x']? = some e := ⟨_, List.getElem?_eq_getElem (by omega)⟩
        have hgk : ∀ V, Below gm w V → ToM gm ta tcap T V := fun V h => hg.out.keep h
        have htos : tos T x' = e.l := by unfold tos; rw [List.getD_eq_getElem?_getD, he]; rfl
        have hsl := sl_lo (V := wr) (a := ⟨g, off, none⟩) (n := r.length + 1) (cap := lcap) (lo := 1) (by omega) p2
        have hsl2 : (Instr.sliceAt 33 (.slice (some ⟨g, off, none⟩) (r.length + 1) lcap) (some (.int .i64 1)) none none).run Try.prog wr = .ok (.slice (some (if lcap = 1 then (⟨g, off, none⟩ : Addr) else (⟨g, off, none⟩ : Addr).add 1)) r.length (lcap - 1)) wr := hsl
        clear hsl
        have hp0 : (0 : Int) < ((r.length + 1 : Nat) : Int) := by omega
        generalize hna : (if lcap = 1 then (⟨g, off, none⟩ : Addr) else (⟨g, off, none⟩ : Addr).add 1) = na at *
        have hst1 : Hid (Qu gm (.slice (some na) r.length (lcap - 1)) r wr ∧ MkB gm n f wr ∧ Bf n (tos T) d f r (fun x => x = x') ∧ (∀ t ∈ (tos T x').take 0, t ≠ d → f t.toNat = true) ∧ unmet n f + r.length ≤ M ∧ Below gm w wr ∧ f x' = true) := Lib.hid ⟨p5, hX.out.2.1, hBf, fun t ht => by simp at ht, by omega, hX.out.2.2.2.1, hfx⟩
        have hms : Hid (unmW gm n wr + (r.length + 1) = M + 1) := Lib.hid (by rw [hum]; omega)
        obtain ⟨b1, off1, hta, _, hc0⟩ := tl_row (hgk wr hX.out.2.2.2.1).row x' e he
        subst hta
        have hMn : Hid (M + 1 ≤ n) := Lib.hid (by have := hX.out.2.2.2.2; rw [List.length_cons] at this; omega)
        replace hgk := Lib.hid hgk
        replace he := Lib.hid he
        have hx1 : (x' : Int) < (n : Int) := by omega
        have hx0 : (0 : Int) ≤ (x' : Int) := by omega
        have hel := (len_i (hg.out.rows e (List.mem_of_getElem? he.out)))
        obtain ⟨m1, m2⟩ := hel
        replace htos := Lib.hid htos
        replace hMx := Lib.hid hMx
        replace hna := Lib.hid hna
        clear hX hBf hum p5 hc0 hfx
        go_wp2_with fail
        go_loopw [6, 8] (fun v i wr => ∃ (k : Nat) (l : List Int) (f : Nat → Bool), k ≤ e.l.length ∧ i = .int .i64 k ∧ (∃ a cap, v = .slice a l.length cap) ∧ Hid (Qu gm v l wr ∧ MkB gm n f wr ∧ Bf n (tos T) d f l (fun x => x = x') ∧ (∀ t ∈ (tos T x').take k, t ≠ d → f t.toNat = true) ∧ unmet n f + l.length ≤ M ∧ Below gm w wr ∧ f x' = true)) (fun _ i _ => e.l.length - (intOf i).toNat)
        case atStart => exact ⟨0, r, f, Nat.zero_le _, rfl, ⟨_, _, rfl⟩, hst1⟩
        case round =>
          clear hst1
          obtain ⟨k, q, f2, hk, rfl, ⟨qa, qcap, rfl⟩, hX⟩ := hrel
          obtain ⟨z1, z2, z3, z4, z5, z6, z7⟩ := hX.out
          obtain ⟨b1', off1', hta', _, hc0⟩ := tl_row (hgk.out wr z6).row x' e he.out
          cases hta'
          by_cases hkl : k < e.l.length
          · obtain ⟨y, hy⟩ : ∃ y, e.l[k]? = some y := ⟨_, List.getElem?_eq_getElem hkl⟩
            obtain ⟨b3, off3, hea, _, hc3⟩ := numS_row ((hgk.out wr z6).rows e (List.mem_of_getElem? he.out)) k y hy
            have hmem : y ∈ tos T x' := by rw [htos.out]; exact List.mem_of_getElem? hy
            obtain ⟨y1, y2⟩ := hS.out x' hxn y hmem
            obtain ⟨c, rfl⟩ : ∃ c : Nat, y = c := ⟨y.toNat, by omega⟩
            have hcn : c < n := by omega
            have htk : (tos T x').take (k + 1) = (tos T x').take k ++ [(c : Int)] := by rw [htos.out, List.take_add_one, hy]; rfl
            obtain ⟨d1, d2⟩ := z2.get hcn
            rw [hea] at hc0
            have hk1 : (k : Int) < (e.l.length : Int) := by omega
            have hk0 : (0 : Int) ≤ (k : Int) := by omega
            have hc1' : (c : Int) < (n : Int) := by omega
            have hc00 : (0 : Int) ≤ (c : Int) := by omega
            by_cases hcd : (c : Int) = d
            · have hne : ((c : Int) != d) = false := by simp [hcd]
              have hst2 : Hid (Qu gm (.slice qa q.length qcap) q wr ∧ MkB gm n f2 wr ∧ Bf n (tos T) d f2 q (fun x => x = x') ∧ (∀ t ∈ (tos T x').take (k + 1), t ≠ d → f2 t.toNat = true) ∧ unmet n f2 + q.length ≤ M ∧ Below gm w wr ∧ f2 x' = true) := Lib.hid ⟨z1, z2, z3, fun t ht htd => by
                rw [htk, List.mem_append, List.mem_singleton] at ht
                rcases ht with ht | rfl
                · exact z4 t ht htd
                · exact absurd hcd htd, z5, z6, z7⟩
              replace hcd := Lib.hid hcd
              replace hea := Lib.hid hea
              clear hX z1 z2 z3 z4 z5 z6 z7 hy hmem htk
              go_wp2_with fail
              go_roundw
              case rel => exact ⟨k + 1, q, f2, by omega, by go_num, ⟨_, _, rfl⟩, hst2⟩
              case measure => simp [intOf]; omega
            · have hne : ((c : Int) != d) = true := by simpa using hcd
              rcases hfc : f2 c with _ | _
              · rw [hfc] at d1
                have hM4 := z2.set hcn (fun i => if i = c then true else f2 i) (fun _ _ => rfl)
                have hBf4 := z3.mark hxn z7 hmem hcn hcd (fun i _ => rfl) hS.out (f' := fun i => if i = c then true else f2 i)
                have hun4 := unmet_less hcn hfc
                have hgmq := z1.ne z2
                have z1' := z1.keep (W' := wr.setCell ⟨gm, c, none⟩ (.bool true)) (fun g hg => Below.heap_setCell _ _ _ _ (fun e => hgmq (by rw [hg, e])))
                have hz4 : (wr.setCell ⟨gm, c, none⟩ (.bool true)).heap.size = wr.heap.size := by simp [World.setCell]
                have hq4 := Lib.hid (z1'.keep (W' := (wr.setCell ⟨gm, c, none⟩ (.bool true)).alloc (.cells #[.int .i64 (c : Int)] 3)) (fun g hg => Below.heap_alloc _ _ _ (z1'.lt hg).2))
                have hp4 : ((wr.setCell ⟨gm, c, none⟩ (.bool true)).alloc (.cells #[.int .i64 (c : Int)] 3)).heap[wr.heap.size]? = some (.cells #[.int .i64 (c : Int)] 3 (0, 0)) := blk_new _ _ hz4
                have hMa := Lib.hid (hM4.keep (b_alloc _ (.cells #[.int .i64 (c : Int)] 3)))
                have hb4 : Below gm w ((wr.setCell ⟨gm, c, none⟩ (.bool true)).alloc (.cells #[.int .i64 (c : Int)] 3)) := (z6.setCell (Nat.le_refl _) _).trans ((b_alloc _ _).mono (by rw [hz4]; have := z6.size; omega))
                have hB4 : gm ≤ ((wr.setCell ⟨gm, c, none⟩ (.bool true)).alloc (.cells #[.int .i64 (c : Int)] 3)).heap.size := by have := hb4.size; omega
                have hlen4 : q.length ≤ 1000000 := by have := hMn.out; omega
                have hs4 : Hid ((∀ t ∈ (tos T x').take (k + 1), t ≠ d → (fun i => if i = c then true else f2 i) t.toNat = true) ∧ unmet n (fun i => if i = c then true else f2 i) + (q ++ [(c : Int)]).length ≤ M ∧ (fun i => if i = c then true else f2 i) x' = true) := Lib.hid ⟨fun t ht htd => by
                  rw [htk, List.mem_append, List.mem_singleton] at ht
                  rcases ht with ht | rfl
                  · have := z4 t ht htd
                    by_cases e : t.toNat = c <;> simp [e, this]
                  · simp, by rw [List.length_append, List.length_singleton]; omega, by simp [z7]⟩
                replace hea := Lib.hid hea
                replace hBf4 := Lib.hid hBf4
                replace hb4 := Lib.hid hb4
                clear hX z1 z2 z3 z4 z5 z6 z7 hy hmem htk hcd z1' hM4 hun4 hgmq
                go_wp2_with (at_builtin; refine wpList_push _ rfl _ _ rfl gm wr.heap.size _ q (c : Int) rfl hq4.out rfl hp4 hB4 hlen4 ?_)
                intro v5 w5 hq5 hg5
                have hM5 : MkB gm n (fun i => if i = c then true else f2 i) w5 := ⟨(hg5.block gm hMa.out.lt (fun e => hq4.out.ne hMa.out e.symm)).trans hMa.out.ex⟩
                have hb5 : Below gm w w5 := by
                  have := below_gr (W0 := w) (by rw [hgm]; exact hb4.out) hg5 (fun b e => by rw [hgm]; exact (hq4.out.lt e).1)
                  rw [hgm] at this
                  exact this
                obtain ⟨a5, cap5, rfl⟩ := hq5.shape
                have hst2 := Lib.hid (⟨hq5, hM5, hBf4.out, hs4.out.1, hs4.out.2.1, hb5, hs4.out.2.2⟩ : Qu gm (.slice a5 (q ++ [(c : Int)]).length cap5) (q ++ [(c : Int)]) w5 ∧ MkB gm n (fun i => if i = c then true else f2 i) w5 ∧ Bf n (tos T) d (fun i => if i = c then true else f2 i) (q ++ [(c : Int)]) (fun x => x = x') ∧ (∀ t ∈ (tos T x').take (k + 1), t ≠ d → (fun i => if i = c then true else f2 i) t.toNat = true) ∧ unmet n (fun i => if i = c then true else f2 i) + (q ++ [(c : Int)]).length ≤ M ∧ Below gm w w5 ∧ (fun i => if i = c then true else f2 i) x' = true)
                generalize q ++ [(c : Int)] = q5 at *
                clear hq4 hp4 hMa hb4 hB4 hs4 hq5 hg5 hM5 hb5 hBf4 hz4
                go_wp2_with fail
                go_roundw
                case rel => exact ⟨k + 1, by omega, by omega, q5, rfl, _, hst2⟩
                case measure => simp [intOf]; omega
              · rw [hfc] at d1
                have hst2 : Hid (Qu gm (.slice qa q.length qcap) q wr ∧ MkB gm n f2 wr ∧ Bf n (tos T) d f2 q (fun x => x = x') ∧ (∀ t ∈ (tos T x').take (k + 1), t ≠ d → f2 t.toNat = true) ∧ unmet n f2 + q.length ≤ M ∧ Below gm w wr ∧ f2 x' = true) := Lib.hid ⟨z1, z2, z3, fun t ht htd => by
                  rw [htk, List.mem_append, List.mem_singleton] at ht
                  rcases ht with ht | rfl
                  · exact z4 t ht htd
                  · rw [Int.toNat_natCast]; exact hfc, z5, z6, z7⟩
                replace hea := Lib.hid hea
                clear hX z1 z2 z3 z4 z5 z6 z7 hy hmem htk hcd
                go_wp2_with fail
                go_roundw
                case rel => exact ⟨k + 1, q, f2, by omega, by go_num, ⟨_, _, rfl⟩, hst2⟩
                case measure => simp [intOf]; omega
          · have hkl2 : ¬ ((k : Int) < (e.l.length : Int)) := by omega
            have hBf5 := z3.done (b := x') (fun t ht => z4 t (by rw [List.take_of_length_le (by rw [htos.out]; omega)]; exact ht))
            have hst2 : Hid (Qu gm (.slice qa q.length qcap) q wr ∧ MkB gm n f2 wr ∧ Bf n (tos T) d f2 q (fun _ => False) ∧ Below gm w wr ∧ unmet n f2 + q.length ≤ n) := Lib.hid ⟨z1, z2, hBf5, z6, by have := hMn.out; omega⟩
            have hme : Hid (unmW gm n wr + q.length < M + 1) := Lib.hid (by rw [z2.unm]; omega)
            clear hX z1 z2 z3 z4 z5 z6 z7 hBf5
            go_wp2_with fail
            go_roundw
            case rel => exact ⟨q, f2, ⟨_, _, rfl⟩, hst2⟩
            case measure =>
              show unmW gm n wr + q.length < unmW gm n _ + (r.length + 1)
              rw [hms.out]
              exact hme.out
end Go.Proofs.Ytiaecobjbckhoaa.Db
/- Walk of bobbinref12.May. Conditions: the graph lies in memory. -/
set_option linter.unusedVariables false
set_option linter.unusedSimpArgs false
namespace Go.Proofs.Ytiaecobjbckhoaa.Db
open Go Go.RowKit
open Go.WideShapes Go.MapKept

set_option maxHeartbeats 4000000 in
set_option maxRecDepth 100000 in
theorem rmay_c {T : List Tl} (n tcap : Nat) (ta : Option Addr) (w : World) (hT : T.length = n) (hg : ToM w.heap.size ta tcap T w) :
    Calls Try.prog 28 #[.slice ta n tcap] w fun e w' => e = .returned (.bool (mayL n T)) ∧ w' = w := by
  obtain ⟨hc1, hc2⟩ := len_i hg.row
  rw [hT] at hc1
  by_cases h1 : n < 1
  · have hF : Hid (mayL n T = false) := Lib.hid (by
    unfold mayL
    have e1 : decide (0 < n) = false := by simp; omega
    rw [e1]; rfl)
    have h1' : (n : Int) < 1 := by omega
    clear h1 hg
    go_enter Try.func28, Try.ntmps28
    go_wp2_with fail
    go_ret
    exact ⟨ret_bool hF.out.symm, rfl⟩
  have h1' : ¬ ((n : Int) < 1) := by omega
  by_cases h2 : 32768 < n
  · have hF : Hid (mayL n T = false) := Lib.hid (by
    unfold mayL
    have e1 : decide (n ≤ 32768) = false := by simp; omega
    rw [e1]; simp)
    have h2' : (32768 : Int) < (n : Int) := by omega
    clear h1 h2 hg
    go_enter Try.func28, Try.ntmps28
    go_wp2_with fail
    go_ret
    exact ⟨ret_bool hF.out.symm, rfl⟩
  have h2' : ¬ ((32768 : Int) < (n : Int)) := by omega
  have hM : Hid (mayL n T = !(T.any fun x => x.l.any (badN n))) := Lib.hid (by
    unfold mayL
    have e1 : decide (0 < n) = true := by simp; omega
    have e2 : decide (n ≤ 32768) = true := by simp; omega
    rw [e1, e2]; rfl)
  have hn3 : n ≤ 32768 := by omega
  have hgH := Lib.hid hg
  clear h1 h2 hg
  go_enter Try.func28, Try.ntmps28
  go_wp2_with fail
  have hd1 : decide ((n : Int) < 1) = false := by simp; omega
  have hd2 : decide ((32768 : Int) < (n : Int)) = false := by simp; omega
  have hd3 : decide (n = 0) = false := by simp; omega
  have hd4 : decide (32768 < n) = false := by simp; omega
  clear h1' h2'
  go_loopw [3] (fun i wr => ∃ k : Nat, k ≤ n ∧ i = .int .i64 k ∧ Hid ((T.take k).any (fun x => x.l.any (badN n)) = false) ∧ wr = w) (fun i _ => n - (intOf i).toNat)
  case atStart => exact ⟨0, Nat.zero_le _, rfl, Lib.hid (by simp), rfl⟩
  case round =>
    obtain ⟨k, hk, rfl, hall, hw⟩ := hrel
    have hw := hw.symm
    subst hw
    by_cases hkn : k < n
    · obtain ⟨e, he⟩ : ∃ e, T[k]? = some e := ⟨_, List.getElem?_eq_getElem (by omega)⟩
      obtain ⟨b1, off1, hta, _, hc0⟩ := tl_row hgH.out.row k e he
      subst hta
      have hrow := hgH.out.rows e (List.mem_of_getElem? he)
      obtain ⟨m1, m2⟩ := len_i hrow
      have hk1 : (k : Int) < (n : Int) := by omega
      have hk0 : (0 : Int) ≤ (k : Int) := by omega
      have htk : T.take (k + 1) = T.take k ++ [e] := by rw [List.take_add_one, he]; rfl
      have heH := Lib.hid he
      replace hrow := Lib.hid hrow
      replace htk := Lib.hid htk
      clear he
      go_wp2_with fail
      go_loopw [4] (fun i wr => ∃ j : Nat, j ≤ e.l.length ∧ i = .int .i64 j ∧ Hid ((e.l.take j).any (badN n) = false) ∧ wr = w) (fun i _ => e.l.length - (intOf i).toNat)
      case atStart => exact ⟨0, Nat.zero_le _, rfl, Lib.hid (by simp), rfl⟩
      case round =>
        obtain ⟨j, hj, rfl, hin, hw⟩ := hrel
        have hw := hw.symm
        subst hw
        by_cases hjl : j < e.l.length
        · obtain ⟨y, hy⟩ : ∃ y, e.l[j]? = some y := ⟨_, List.getElem?_eq_getElem hjl⟩
          obtain ⟨b3, off3, hea, _, hc3⟩ := numS_row hrow.out j y hy
          have hj1 : (j : Int) < (e.l.length : Int) := by omega
          have hj0 : (0 : Int) ≤ (j : Int) := by omega
          have hyt : e.l.take (j + 1) = e.l.take j ++ [y] := by rw [List.take_add_one, hy]; rfl
          rw [hea] at hc0
          have hmem := Lib.hid (List.mem_of_getElem? hy)
          replace hyt := Lib.hid hyt
          replace hea := Lib.hid hea
          clear hy
          have hbad : ∀ (h : badN n y = true), mayL n T = false := fun h => by
            rw [hM.out]
            have : T.any (fun x => x.l.any (badN n)) = true := List.any_eq_true.2 ⟨e, List.mem_of_getElem? heH.out, List.any_eq_true.2 ⟨y, hmem.out, h⟩⟩
            rw [this]; rfl
          by_cases hy0 : y < 0
          · have hF := Lib.hid (hbad (by unfold badN; simp [hy0]))
            clear hbad hin hall
            go_wp2_with fail
            go_ret
            exact ⟨ret_bool hF.out.symm, rfl⟩
          · by_cases hyn : (n : Int) ≤ y
            · have hF := Lib.hid (hbad (by unfold badN; simp [hyn]))
              clear hbad hin hall
              go_wp2_with fail
              go_ret
              exact ⟨ret_bool hF.out.symm, rfl⟩
            · have hin2 : Hid ((e.l.take (j + 1)).any (badN n) = false) := Lib.hid (by
                rw [hyt.out, List.any_append, hin.out]
                unfold badN
                simp [hy0, hyn])
              clear hbad hin hall
              go_wp2_with fail
              go_roundw
              case rel => exact ⟨j + 1, by omega, by go_num, hin2, trivial⟩
              case measure => simp [intOf]; omega
        · have hjl2 : ¬ ((j : Int) < (e.l.length : Int)) := by omega
          have hall2 : Hid ((T.take (k + 1)).any (fun x => x.l.any (badN n)) = false) := Lib.hid (by
            rw [htk.out, List.any_append, hall.out]
            have := hin.out
            rw [List.take_of_length_le (by omega)] at this
            simp [this])
          clear hin hall
          go_wp2_with fail
          go_roundw
          case rel => exact ⟨k + 1, by omega, by go_num, hall2, trivial⟩
          case measure => simp [intOf]; omega
    · have hkn2 : ¬ ((k : Int) < (n : Int)) := by omega
      have hT2 : Hid (mayL n T = true) := Lib.hid (by
        rw [hM.out]
        have := hall.out
        rw [List.take_of_length_le (by omega)] at this
        rw [this]; rfl)
      clear hall
      go_wp2_with fail
      go_ret
      exact ⟨ret_bool hT2.out.symm, rfl⟩
end Go.Proofs.Ytiaecobjbckhoaa.Db
/- The document's tree in memory; walk of bobbinref12.Of. Conditions: the graph lies in memory, and is small. -/
set_option linter.unusedVariables false
set_option linter.unusedSimpArgs false
namespace Go.Proofs.Ytiaecobjbckhoaa.Db
open Go Go.RowKit
open Go.WideShapes Go.MapKept

theorem MkB.setv {g n : Nat} {f : Nat → Bool} {W : World} (h : MkB g n f W) {k : Nat} (hk : k < n) (b : Bool) (f' : Nat → Bool) (hf : ∀ i, i < n → f' i = if i = k then b else f i) : MkB g n f' (W.setCell ⟨g, k, none⟩ (.bool b)) := ⟨by
  rw [heap_set1 h.ex]
  congr 2
  apply Array.toList_inj.1
  rw [Array.toList_setIfInBounds]
  apply List.ext_getElem?
  intro i
  by_cases hi : i < n
  · rw [List.getElem?_set]
    simp only [List.getElem?_map, List.getElem?_range hi, Option.map_some, List.length_map, List.length_range]
    rw [hf i hi]
    by_cases e : k = i
    · rw [if_pos e, if_pos (by omega), if_pos e.symm]
    · rw [if_neg e, if_neg (by omega)]
  · rw [List.getElem?_eq_none (by simp; omega), List.getElem?_eq_none (by simp; omega)]⟩
def rowV (n g : Nat) : Value := .slice (some ⟨g, 0, none⟩) n n
/-- the document's tree, of the first blocks -/
structure RtM (B tb gr : Nat) (G : List Nat) (v : Value) (n : Nat) (R : Nat → Bool) (A : Nat → Nat → Bool) (W : World) : Prop where
  c : W.heap[tb]? = some (.cells #[v, .slice (some ⟨gr, 0, none⟩) n n] 40 (0, 0))
  reach : MkB gr n R W
  head : W.ownsRow B 38 1 v G.length (G.map (rowV n))
  rows : ∀ (a g : Nat), G[a]? = some g → MkB g n (A a) W
section
variable {B tb gr : Nat} {G : List Nat} {v v' : Value} {n : Nat} {R : Nat → Bool} {A : Nat → Nat → Bool} {W W' : World}
theorem RtM.keep (h : RtM B tb gr G v n R A W) (hb : Below W.heap.size W W') : RtM B tb gr G v n R A W' :=
  ⟨(hb.block tb (Array.getElem?_eq_some_iff.1 h.c).1).trans h.c, h.reach.keep hb, own_below h.head hb, fun a g hg => (h.rows a g hg).keep hb⟩
theorem own_nb {u : Value} {m : Nat} {xs : List Value} {g : Nat} {f : Nat → Bool} (h : W.ownsRow B 38 1 u m xs) (hM : MkB g n f W) : u.ownBlock ≠ some g := by
  intro e
  rcases h.2 with ⟨rfl, _⟩ | ⟨q, cap, cur, rfl, _, hq, _⟩
  · cases e
  · have : q = g := by simpa [Value.ownBlock] using e
    subst this
    rw [hM.ex] at hq
    have := Option.some.inj hq
    simp at this
theorem own_nt {u : Value} {m : Nat} {xs : List Value} {q : Nat} {vs : Array Value} (h : W.ownsRow B 38 1 u m xs) (hM : W.heap[q]? = some (.cells vs 40 (0, 0))) : u.ownBlock ≠ some q := by
  intro e
  rcases h.2 with ⟨rfl, _⟩ | ⟨q', cap, cur, rfl, _, hq, _⟩
  · cases e
  · have : q' = q := by simpa [Value.ownBlock] using e
    subst this
    rw [hM] at hq
    have := Option.some.inj hq
    simp at this
theorem mk_nt {q g : Nat} {f : Nat → Bool} {vs : Array Value} (h : MkB g n f W) (hM : W.heap[q]? = some (.cells vs 40 (0, 0))) : g ≠ q := by
  intro e
  subst e
  rw [h.ex] at hM
  have := Option.some.inj hM
  simp at this
/-- one block more -/
theorem RtM.app (h : RtM B tb gr G v n R A W) {g : Nat} (hM : MkB g n (A G.length) W) (ho : W'.ownsRow B 38 1 v' (G.length + 1) (G.map (rowV n) ++ [rowV n g])) (hg : W.grownBy W' v.ownBlock) :
    RtM B tb gr (G ++ [g]) v' n R A (W'.setCell ⟨tb, 0, none⟩ v') := by
  have htl := (Array.getElem?_eq_some_iff.1 h.c).1
  have hct : W'.heap[tb]? = some (.cells #[v, .slice (some ⟨gr, 0, none⟩) n n] 40 (0, 0)) := (hg.block tb htl (fun e => own_nt h.head h.c e.symm)).trans h.c
  have kp : ∀ {q : Nat} {f : Nat → Bool}, MkB q n f W → MkB q n f (W'.setCell ⟨tb, 0, none⟩ v') := fun {q f} hq => by
    have h1 : MkB q n f W' := ⟨(hg.block q hq.lt (fun e => own_nb h.head hq e.symm)).trans hq.ex⟩
    exact ⟨(Below.heap_setCell _ _ _ _ (mk_nt h1 hct)).trans h1.ex⟩
  refine ⟨by rw [heap_set1 hct]; rfl, kp h.reach, ?_, fun a q hq => ?_⟩
  · rw [List.length_append, List.map_append]
    exact ownsRow_setCell_other ho (fun e => own_nt ho hct (by simpa using e)) _
  · by_cases e : a < G.length
    · rw [List.getElem?_append_left e] at hq
      exact kp (h.rows a q hq)
    · have hl := (List.getElem?_eq_some_iff.1 hq).1
      rw [List.length_append, List.length_singleton] at hl
      have : a = G.length := by omega
      subst this
      rw [List.getElem?_append_right (Nat.le_refl _), Nat.sub_self] at hq
      cases hq
      exact kp hM
end
theorem info_lb : (Try.prog.info? 38).map (fun i => (i.zero, i.size, i.bytes)) = some (some (.slice none 0 0), 1, 24) := by kernel_rfl
end Go.Proofs.Ytiaecobjbckhoaa.Db
/- Walk of bobbinref12.Of. Conditions: the graph lies in memory, and is small. -/
set_option linter.unusedVariables false
set_option linter.unusedSimpArgs false
namespace Go.Proofs.Ytiaecobjbckhoaa.Db
open Go Go.RowKit
open Go.WideShapes Go.MapKept

set_option maxHeartbeats 2000000 in
set_option maxRecDepth 100000 in
theorem rof_no {T : List Tl} (n tcap : Nat) (ta : Option Addr) (w : World) (hT : T.length = n) (hg : ToM w.heap.size ta tcap T w) (hm : mayL n T = false) :
    Calls Try.prog 12 #[.slice ta n tcap] w fun e w' => e = .returned (.tuple #[.pointer none, .int .i64 4]) ∧ Below w.heap.size w w' := by
  have hmay := Lib.hid (rmay_c n tcap ta w hT hg)
  rw [hm] at hmay
  clear hg hm
  go_enter Try.func12, Try.ntmps12
  go_wp2_with fail
  refine hmay.out.mono ?_
  rintro e w1 ⟨rfl, hw⟩
  have hw := hw.symm
  subst hw
  clear hmay
  go_wp2_with fail
  go_ret2
  exact ⟨rfl, Below.refl _ _⟩
theorem cm_top {S : Nat → List Int} {b : Nat} : Cm S (fun y => (y : Int) ≠ -1) b ↔ Cm S (fun _ => True) b :=
  ⟨fun h => h.mono (fun _ _ h => h) (fun _ _ => trivial), fun h => h.mono (fun _ _ h => h) (fun x _ => by omega)⟩
theorem cm_nat {S : Nat → List Int} {a b : Nat} : Cm S (fun y => (y : Int) ≠ (a : Int)) b ↔ Cm S (fun y => y ≠ a) b :=
  ⟨fun h => h.mono (fun _ _ h => h) (fun x h e => h (by rw [e])), fun h => h.mono (fun _ _ h => h) (fun x h => by omega)⟩
/-- what Of makes -/
def RofR (n : Nat) (t : Tp) (w : World) (tb : Nat) (w' : World) : Prop := ∃ gr G v, G.length = n ∧ RtM w.heap.size tb gr G v n (fun x => t.reach (x : Int)) (fun a b => t.above (a : Int) (b : Int)) w' ∧ Below w.heap.size w w'
set_option maxHeartbeats 8000000 in
set_option maxRecDepth 100000 in
theorem rof_yes {T : List Tl} (n tcap : Nat) (ta : Option Addr) (w : World) (hT : T.length = n) (hg : ToM w.heap.size ta tcap T w) (hm : mayL n T = true) :
    Calls Try.prog 12 #[.slice ta n tcap] w fun e w' => ∃ tb, e = .returned (.tuple #[.pointer (some ⟨tb, 0, none⟩), .int .i64 0]) ∧ RofR n (tre n T) w tb w' := by
  obtain ⟨H, hn⟩ := mayL_gf hT hm
  have hmay := Lib.hid (rmay_c n tcap ta w hT hg)
  rw [hm] at hmay
  obtain ⟨hc1, hc2⟩ := len_i hg.row
  rw [hT] at hc1
  have hn0 := H.pos
  have hcome : Hid (∀ (d : Int) V, Below w.heap.size w V → Calls Try.prog 29 #[.slice ta n tcap, .int .i64 d] V fun e w' => ∃ (g : Nat) (f : Nat → Bool), e = .returned (.slice (some ⟨g, 0, none⟩) n n) ∧ V.heap.size ≤ g ∧ MkB g n f w' ∧ (∀ x, x < n → (f x = true ↔ Cm (tos T) (fun y => (y : Int) ≠ d) x)) ∧ Below V.heap.size V w') :=
    Lib.hid fun d V hb => rcome_c n tcap ta d V hT ⟨(hg.keep hb).row.mono fun _ h => Nat.lt_of_lt_of_le h hb.size, fun x hx => ((hg.keep hb).rows x hx).mono fun _ h => Nat.lt_of_lt_of_le h hb.size⟩ hn0 hn H.in_
  have q1 := Lib.hid (fun b => H.reach b)
  have q2 := Lib.hid (fun a b => H.above a b)
  have hmk := fun V => make_bb n (by omega) V
  obtain ⟨j0, hj0, hjz0, hjz1, hjz2⟩ := info_parts info_lb
  generalize tre n T = t at *
  clear hg hm H
  go_enter Try.func12, Try.ntmps12
  go_wp2_with fail
  refine hmay.out.mono ?_
  rintro e w1 ⟨rfl, hw⟩
  have hw := hw.symm
  subst hw
  have hc0 := Lib.hid (hcome.out (-1) w (Below.refl _ _))
  clear hmay
  go_wp2_with fail
  refine hc0.out.mono ?_
  rintro e w2 ⟨gr, f1, rfl, hgr, hM1, hf1, hb2⟩
  have hM2 : MkB gr n (fun x => t.reach (x : Int)) w2 := hM1.cong fun x hx => by rw [Bool.eq_iff_iff, hf1 x hx, q1.out x, cm_top]
  obtain ⟨w3, hw3⟩ : ∃ w3, w3 = w2.alloc (.cells #[.slice none 0 0, .slice (some ⟨gr, 0, none⟩) n n] 40) := ⟨_, rfl⟩
  have hR3 : RtM w.heap.size w2.heap.size gr [] (.slice none 0 0) n (fun x => t.reach (x : Int)) (fun a b => t.above (a : Int) (b : Int)) w3 := by
    rw [hw3]
    exact ⟨blk_new _ _ rfl, hM2.keep (b_alloc _ _), World.ownsRow_nil _ _ _ _, fun a g h => by simp at h⟩
  have hb3 : Below w.heap.size w w3 := by rw [hw3]; exact hb2.trans ((b_alloc _ _).mono hb2.size)
  have hst := Lib.hid (⟨hR3, hb3⟩ : RtM w.heap.size w2.heap.size gr [] (.slice none 0 0) n (fun x => t.reach (x : Int)) (fun a b => t.above (a : Int) (b : Int)) w3 ∧ Below w.heap.size w w3)
  have htb : Hid (w.heap.size ≤ w2.heap.size) := Lib.hid hb2.size
  clear hc0 hgr hM1 hf1 hb2 hM2 hR3 hb3
  go_wp2_with fail
  rw [← hw3]
  replace hw3 := Lib.hid hw3
  generalize w2.heap.size = tb at *
  go_loopw [5] (fun i wr => ∃ (k : Nat) (G : List Nat) (v : Value), k ≤ n ∧ i = .int .i64 k ∧ G.length = k ∧ Hid (RtM w.heap.size tb gr G v n (fun x => t.reach (x : Int)) (fun a b => t.above (a : Int) (b : Int)) wr ∧ Below w.heap.size w wr)) (fun i _ => n - (intOf i).toNat)
  case atStart => exact ⟨0, [], _, Nat.zero_le _, rfl, rfl, hst⟩
  case round =>
    clear hst
    obtain ⟨k, G, v, hk, rfl, hG, hX⟩ := hrel
    by_cases hkn : k < n
    · have hk1 : (k : Int) < (n : Int) := by omega
      have hk0 : (0 : Int) ≤ (k : Int) := by omega
      obtain ⟨w4, hw4⟩ : ∃ w4, w4 = wr.alloc (.cells (Array.replicate n (Value.bool false)) 4) := ⟨_, rfl⟩
      have hR4 : RtM w.heap.size tb gr G v n (fun x => t.reach (x : Int)) (fun a b => t.above (a : Int) (b : Int)) w4 := by rw [hw4]; exact hX.out.1.keep (b_alloc _ _)
      have hM4 : MkB wr.heap.size n (fun _ => false) w4 := by rw [hw4]; exact MkB.start wr n
      have hb4 : Below w.heap.size w w4 := by rw [hw4]; exact hX.out.2.trans ((b_alloc _ _).mono hX.out.2.size)
      obtain ⟨va, vcap, rfl, _⟩ := row_own hX.out.1.head
      have ct1 := blk_cell (j := 1) hX.out.1.c rfl
      have hbt := (Array.getElem?_eq_some_iff.1 hX.out.1.c).1
      obtain ⟨r1, _⟩ := hX.out.1.reach.get hkn
      have hbr := hX.out.1.reach.lt
      have ct1' : w4.cell? ⟨tb, 1, none⟩ = some (.slice (some ⟨gr, 0, none⟩) n n) := blk_cell (j := 1) hR4.c rfl
      have r1' := (hR4.reach.get hkn).1
      have hsz4 : Hid (w.heap.size ≤ wr.heap.size) := Lib.hid hX.out.2.size
      replace hG := Lib.hid hG
      generalize hgl : wr.heap.size = gl at *
      replace hR4 := Lib.hid hR4
      replace hM4 := Lib.hid hM4
      replace hb4 := Lib.hid hb4
      rcases hrk : t.reach (k : Int) with _ | _
      · rw [hrk] at r1 r1'
        have hA : Hid (MkB gl n (fun b => t.above (k : Int) (b : Int)) w4) := Lib.hid (hM4.out.cong fun b hb => by
          rcases h : t.above (k : Int) (b : Int) with _ | _
          · rfl
          · have := (ab_re h).1; rw [hrk] at this; cases this)
        clear hX ct1 hbt r1 hbr
        go_upto_region 8 with fail
        rw [← hw4]
        replace hw4 := Lib.hid hw4
        obtain ⟨wq, hwq⟩ : ∃ wq, wq = w4 := ⟨_, rfl⟩
        have hRq := hR4
        have hMq := hA
        have hbq := hb4
        rw [← hwq] at hRq hMq hbq ct1' r1' ⊢
        clear hwq hw4 hR4 hA hb4 hM4
        have hL6 := Lib.hid (hRq.out.keep (b_alloc wq (.cells #[rowV n gl] 38)))
        have g6 : (wq.alloc (.cells #[rowV n gl] 38)).heap[wq.heap.size]? = some (.cells #[rowV n gl] 38 (0, 0)) := blk_new _ _ rfl
        have hrow6 : RowAt (wq.alloc (.cells #[rowV n gl] 38)) Tt (some ⟨wq.heap.size, 0, none⟩) 1 1 [rowV n gl] := row_blk 1 g6 (by decide) trivial
        have hz6 : w.heap.size ≤ (wq.alloc (.cells #[rowV n gl] 38)).heap.size := by have := hbq.out.size; simp; omega
        have hM6 := Lib.hid (hMq.out.keep (b_alloc wq (.cells #[rowV n gl] 38)))
        have ct0 := blk_cell (j := 0) hRq.out.c rfl
        have hbt := (Array.getElem?_eq_some_iff.1 hRq.out.c).1
        have hGk : Hid (G.length ≤ 32768) := Lib.hid (by have := hG.out; omega)
        clear g6
        unfold rowV at hrow6 hL6 hz6
        go_wp2_with (at_builtin; refine wpList_append_rowN _ rfl _ _ 37 rfl w.heap.size 38 j0 _ 1 24 Try.underlying37 hj0 hjz0 hjz1 hjz2 rfl (by decide) _ _ _ rfl hL6.out.head (some ⟨wq.heap.size, 0, none⟩) 1 1 [.slice (some ⟨gl, 0, none⟩) n n] rfl rfl hrow6 (fun u hu => by rw [List.mem_singleton] at hu; rw [hu]; rfl) ?d1b ?d2b ?d3b ?_)
        case d1b => unfold maxLen; have := hGk.out; omega
        case d2b => have := hGk.out; omega
        case d3b => first | exact hz6 | (simpa using hz6)
        intro v2 w7 ho2 hg2 _
        obtain ⟨a7, cap7, rfl, _⟩ := row_own ho2
        have hL7 := Lib.hid (hL6.out.app (g := gl) (by rw [hG.out]; exact hM6.out) ho2 hg2)
        have hct7 := (hg2.block tb (Array.getElem?_eq_some_iff.1 hL6.out.c).1 (fun e => own_nt hL6.out.head hL6.out.c e.symm)).trans hL6.out.c
        have e0 := blk_cell (j := 0) hct7 rfl
        have e1 := blk_free hct7 0
        have hb7 : Below w.heap.size w w7 := below_gr (hbq.out.trans ((b_alloc _ _).mono hbq.out.size)) hg2 (fun b e => (hL6.out.head.lt b e).1)
        have hst7 := Lib.hid (⟨hL7.out, hb7.setCell htb.out _⟩ : RtM w.heap.size tb gr (G ++ [gl]) (.slice a7 (G.length + 1) cap7) n (fun x => t.reach (x : Int)) (fun a b => t.above (a : Int) (b : Int)) (w7.setCell ⟨tb, 0, none⟩ (.slice a7 (G.length + 1) cap7)) ∧ Below w.heap.size w (w7.setCell ⟨tb, 0, none⟩ (.slice a7 (G.length + 1) cap7)))
        have hG7 : Hid ((G ++ [gl]).length = k + 1) := Lib.hid (by rw [List.length_append, List.length_singleton, hG.out])
        clear hL6 hrow6 hz6 hM6 ho2 hg2 hL7 hct7 hb7 hRq hMq hbq ct0 hbt
        go_wp2_with fail
        go_roundw
        case rel => exact ⟨k + 1, G ++ [gl], _, by omega, by go_num, hG7.out, hst7⟩
        case measure => simp [intOf]; omega
      · have hbb4 : Below gl wr w4 := by
          rw [hw4, ← hgl]; exact b_alloc _ _
        have hXs := hX
        have hab : Hid (∀ b, b < n → ∀ f2 : Nat → Bool, (∀ x, x < n → (f2 x = true ↔ Cm (tos T) (fun y => (y : Int) ≠ (k : Int)) x)) → t.above (k : Int) (b : Int) = (t.reach (b : Int) && !f2 b)) := Lib.hid fun b hb f2 h2 => by
          rw [Bool.eq_iff_iff, q2.out, Bool.and_eq_true, q1.out, Bool.not_eq_true', ← Bool.not_eq_true, h2 b hb, cm_nat]
        clear ct1 hbt r1 hbr
        rw [hrk] at r1'
        have hck := Lib.hid (hcome.out (k : Int) w4 hb4.out)
        go_upto_region 8 with fail
        rw [← hw4]
        have hz4 : gl < w4.heap.size := hM4.out.lt
        replace hw4 := Lib.hid hw4
        go_wp2_with fail
        refine hck.out.mono ?_
        rintro e w5 ⟨gs, f2, rfl, hgs, hM5, hf5, hb5⟩
        have hgne : gs ≠ gl := by omega
        have hf5' := Lib.hid (fun b hb => hab.out b hb f2 hf5)
        have hst5 : Hid (Below gl wr w5 ∧ MkB gl n (fun _ => false) w5 ∧ MkB gs n f2 w5 ∧ (∀ b, b < n → (fun _ => false) b = if b < 0 then t.above (k : Int) (b : Int) else false)) := Lib.hid ⟨hbb4.trans (hb5.mono (by omega)), hM4.out.keep hb5, hM5, fun b _ => by simp⟩
        clear hck hgs hM5 hf5 hb5 hab hbb4 hz4 hR4 hM4 hb4 ct1' r1' hw4
        replace hrk := Lib.hid hrk
        go_wp2_with fail
        obtain ⟨wo, hwo⟩ : ∃ wo, wo = wr := ⟨_, rfl⟩
        rw [← hwo] at hX hgl hst5
        clear hXs hwo
        go_loopw [8] (fun i wq => ∃ (j : Nat) (f : Nat → Bool), j ≤ n ∧ i = .int .i64 j ∧ Hid (Below gl wo wq ∧ MkB gl n f wq ∧ MkB gs n f2 wq ∧ (∀ b, b < n → f b = if b < j then t.above (k : Int) (b : Int) else false))) (fun i _ => n - (intOf i).toNat)
        case atStart => exact ⟨0, _, Nat.zero_le _, rfl, hst5⟩
        case round =>
          clear hst5
          obtain ⟨j, f, hj, rfl, hY⟩ := hrel
          have hR := hX.out.1.keep (W' := wr) (by rw [hgl]; exact hY.out.1)
          by_cases hjn : j < n
          · have ct := blk_cell (j := 1) hR.c rfl
            have rj := (hR.reach.get hjn).1
            have f2j := (hY.out.2.2.1.get hjn).1
            obtain ⟨c1, c2⟩ := hY.out.2.1.get hjn
            have hst6 : ∀ v, t.above (k : Int) (j : Int) = v → Hid (Below gl wo (wr.setCell ⟨gl, j, none⟩ (.bool v)) ∧ MkB gl n (fun b => if b = j then v else f b) (wr.setCell ⟨gl, j, none⟩ (.bool v)) ∧ MkB gs n f2 (wr.setCell ⟨gl, j, none⟩ (.bool v)) ∧ (∀ b, b < n → (fun b => if b = j then v else f b) b = if b < j + 1 then t.above (k : Int) (b : Int) else false)) := fun v hv => Lib.hid ⟨by rw [← hgl] at hY ⊢; exact hY.out.1.setCell (Nat.le_refl _) _, hY.out.2.1.setv hjn v _ (fun _ _ => rfl), ⟨(Below.heap_setCell _ _ _ _ hgne).trans hY.out.2.2.1.ex⟩, fun b hb => by
              by_cases e : b = j
              · subst e
                rw [if_pos (Nat.lt_succ_self _), hv]
                simp
              · simp only [if_neg e]
                rw [hY.out.2.2.2 b hb]
                by_cases e2 : b < j
                · rw [if_pos e2, if_pos (by omega)]
                · rw [if_neg e2, if_neg (by omega)]⟩
            have hval := hf5'.out j hjn
            have hj1 : (j : Int) < (n : Int) := by omega
            have hj0 : (0 : Int) ≤ (j : Int) := by omega
            rcases hrj : t.reach (j : Int) with _ | _
            · rw [hrj] at rj hval
              have hst7 := hst6 false (by rw [hval]; rfl)
              clear hst6 hval hR hY
              go_wp2_with fail
              go_roundw
              case rel => exact ⟨j + 1, _, by omega, by go_num, hst7⟩
              case measure => simp [intOf]; omega
            · rw [hrj] at rj hval
              have hst7 := hst6 (!f2 j) (by rw [hval]; rfl)
              clear hst6 hval hR hY
              go_wp2_with fail
              go_roundw
              case rel => exact ⟨j + 1, _, by omega, by go_num, hst7⟩
              case measure => simp [intOf]; omega
          · have hjn2 : ¬ ((j : Int) < (n : Int)) := by omega
            have hMq : Hid (MkB gl n (fun b => t.above (k : Int) (b : Int)) wr) := Lib.hid (hY.out.2.1.cong fun b hb => by rw [hY.out.2.2.2 b hb, if_pos (by omega)])
            have hbq : Hid (Below w.heap.size w wr) := Lib.hid (hX.out.2.trans (hY.out.1.mono (by have := hX.out.2.size; omega)))
            have hRq := Lib.hid hR
            obtain ⟨wq, hwq⟩ : ∃ wq, wq = wr := ⟨_, rfl⟩
            rw [← hwq] at hRq hMq hbq ⊢
            clear hY hR hwq hf5' hgne hX
            have hL6 := Lib.hid (hRq.out.keep (b_alloc wq (.cells #[rowV n gl] 38)))
            have g6 : (wq.alloc (.cells #[rowV n gl] 38)).heap[wq.heap.size]? = some (.cells #[rowV n gl] 38 (0, 0)) := blk_new _ _ rfl
            have hrow6 : RowAt (wq.alloc (.cells #[rowV n gl] 38)) Tt (some ⟨wq.heap.size, 0, none⟩) 1 1 [rowV n gl] := row_blk 1 g6 (by decide) trivial
            have hz6 : w.heap.size ≤ (wq.alloc (.cells #[rowV n gl] 38)).heap.size := by have := hbq.out.size; simp; omega
            have hM6 := Lib.hid (hMq.out.keep (b_alloc wq (.cells #[rowV n gl] 38)))
            have ct0 := blk_cell (j := 0) hRq.out.c rfl
            have hbt := (Array.getElem?_eq_some_iff.1 hRq.out.c).1
            have hGk : Hid (G.length ≤ 32768) := Lib.hid (by have := hG.out; omega)
            clear g6
            unfold rowV at hrow6 hL6 hz6
            go_wp2_with (at_builtin; refine wpList_append_rowN _ rfl _ _ 37 rfl w.heap.size 38 j0 _ 1 24 Try.underlying37 hj0 hjz0 hjz1 hjz2 rfl (by decide) _ _ _ rfl hL6.out.head (some ⟨wq.heap.size, 0, none⟩) 1 1 [.slice (some ⟨gl, 0, none⟩) n n] rfl rfl hrow6 (fun u hu => by rw [List.mem_singleton] at hu; rw [hu]; rfl) ?d1c ?d2c ?d3c ?_)
            case d1c => unfold maxLen; have := hGk.out; omega
            case d2c => have := hGk.out; omega
            case d3c => first | exact hz6 | (simpa using hz6)
            intro v2 w7 ho2 hg2 _
            obtain ⟨a7, cap7, rfl, _⟩ := row_own ho2
            have hL7 := Lib.hid (hL6.out.app (g := gl) (by rw [hG.out]; exact hM6.out) ho2 hg2)
            have hct7 := (hg2.block tb (Array.getElem?_eq_some_iff.1 hL6.out.c).1 (fun e => own_nt hL6.out.head hL6.out.c e.symm)).trans hL6.out.c
            have e0 := blk_cell (j := 0) hct7 rfl
            have e1 := blk_free hct7 0
            have hb7 : Below w.heap.size w w7 := below_gr (hbq.out.trans ((b_alloc _ _).mono hbq.out.size)) hg2 (fun b e => (hL6.out.head.lt b e).1)
            have hst7 := Lib.hid (⟨hL7.out, hb7.setCell htb.out _⟩ : RtM w.heap.size tb gr (G ++ [gl]) (.slice a7 (G.length + 1) cap7) n (fun x => t.reach (x : Int)) (fun a b => t.above (a : Int) (b : Int)) (w7.setCell ⟨tb, 0, none⟩ (.slice a7 (G.length + 1) cap7)) ∧ Below w.heap.size w (w7.setCell ⟨tb, 0, none⟩ (.slice a7 (G.length + 1) cap7)))
            have hG7 : Hid ((G ++ [gl]).length = k + 1) := Lib.hid (by rw [List.length_append, List.length_singleton, hG.out])
            clear hL6 hrow6 hz6 hM6 ho2 hg2 hL7 hct7 hb7 hRq hMq hbq ct0 hbt
            go_wp2_with fail
            go_roundw
            case rel => exact ⟨k + 1, G ++ [gl], _, by omega, by go_num, hG7.out, hst7⟩
            case measure => simp [intOf]; omega
    · have hkn2 : ¬ ((k : Int) < (n : Int)) := by omega
      have hX2 := hX.out
      have hGn : G.length = n := by omega
      replace hX2 := Lib.hid hX2
      replace hGn := Lib.hid hGn
      clear hX hG
      go_wp2_with fail
      go_ret2
      exact ⟨tb, rfl, gr, G, v, hGn.out, hX2.out.1, hX2.out.2⟩
end Go.Proofs.Ytiaecobjbckhoaa.Db
