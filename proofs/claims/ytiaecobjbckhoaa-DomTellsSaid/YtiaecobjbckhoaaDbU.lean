/- What above works on stays in range. Conditions: none. -/
import Derived.Test.YtiaecobjbckhoaaDbS
import Derived.Test.YtiaecobjbckhoaaDmE
set_option linter.unusedVariables false
set_option linter.unusedSimpArgs false
namespace Go.Proofs.Ytiaecobjbckhoaa.Db
open Go Go.RowKit
open Dm

structure Bdd (m : Nat) (s : Ab) (c : Nat) : Prop where
  ok : Okc m (s.up, s.best)
  lo : ∀ k, k < m → 0 ≤ s.low k ∧ s.low k < (m : Int)
  bl : ∀ k, k < m → (s.below k).length ≤ c ∧ ∀ x ∈ s.below k, 0 ≤ x ∧ x < (m : Int)
variable {m : Nat} {s : Ab} {c : Nat}
theorem Bdd.start (low : Nat → Int) (hm : 0 < m) (h : ∀ k, k < m → 0 ≤ low k ∧ low k < (m : Int)) : Bdd m (ab0 low) 0 :=
  ⟨fun x hx => ⟨.inl (by show (-1 : Int) < 0; omega), by show (0 : Int) ≤ 0; omega, by show (0 : Int) < m; omega⟩, h, fun k _ => ⟨Nat.le_refl _, fun x hx => by cases hx⟩⟩
theorem Bdd.best (h : Bdd m s c) {k : Nat} (hk : k < m) : Bdd m { s with best := upd s.best k k } c := by
  refine ⟨fun x hx => ⟨(h.ok x hx).1, ?_⟩, h.lo, h.bl⟩
  show 0 ≤ upd s.best k k x ∧ upd s.best k k x < (m : Int)
  by_cases e : x = k
  · subst e; rw [upd_at]; omega
  · rw [upd_ne _ _ e]; exact (h.ok x hx).2
theorem Bdd.up (h : Bdd m s c) {k p : Nat} (hp : p < k) : Bdd m { s with up := upd s.up k p } c := by
  refine ⟨fun x hx => ⟨?_, (h.ok x hx).2⟩, h.lo, h.bl⟩
  show upd s.up k p x < 0 ∨ (upd s.up k p x).toNat < x
  by_cases e : x = k
  · subst e; rw [upd_at]; right; omega
  · rw [upd_ne _ _ e]; exact (h.ok x hx).1
theorem Bdd.low (h : Bdd m s c) {k : Nat} {v : Int} (hv : 0 ≤ v ∧ v < (m : Int)) : Bdd m { s with low := upd s.low k v } c := by
  refine ⟨h.ok, fun x hx => ?_, h.bl⟩
  show 0 ≤ upd s.low k v x ∧ upd s.low k v x < (m : Int)
  by_cases e : x = k
  · subst e; rw [upd_at]; exact hv
  · rw [upd_ne _ _ e]; exact h.lo x hx
theorem Bdd.next (h : Bdd m s c) (nx : Nat → Int) : Bdd m { s with next := nx } c := ⟨h.ok, h.lo, h.bl⟩
theorem Bdd.more (h : Bdd m s c) {l k : Nat} (hk : k < m) : Bdd m { s with below := upd s.below l (s.below l ++ [(k : Int)]) } (c + 1) := by
  refine ⟨h.ok, h.lo, fun x hx => ?_⟩
  show (upd s.below l (s.below l ++ [(k : Int)]) x).length ≤ c + 1 ∧ ∀ y ∈ upd s.below l (s.below l ++ [(k : Int)]) x, 0 ≤ y ∧ y < (m : Int)
  by_cases e : x = l
  · subst e
    rw [upd_at]
    refine ⟨by rw [List.length_append]; have := (h.bl x hx).1; simp; omega, fun y hy => ?_⟩
    rw [List.mem_append] at hy
    rcases hy with hy | hy
    · exact (h.bl x hx).2 y hy
    · rw [List.mem_singleton] at hy; subst hy; omega
  · rw [upd_ne _ _ e]
    exact ⟨by have := (h.bl x hx).1; omega, (h.bl x hx).2⟩
theorem Bdd.nil (h : Bdd m s c) (k : Nat) : Bdd m { s with below := upd s.below k [] } c := by
  refine ⟨h.ok, h.lo, fun x hx => ?_⟩
  show (upd s.below k [] x).length ≤ c ∧ ∀ y ∈ upd s.below k [] x, 0 ≤ y ∧ y < (m : Int)
  by_cases e : x = k
  · subst e; rw [upd_at]; exact ⟨Nat.zero_le _, fun y hy => by cases hy⟩
  · rw [upd_ne _ _ e]; exact h.bl x hx
theorem Bdd.sh (h : Bdd m s c) (q : Nat) {x : Nat} (hx : x < m) : Bdd m { s with up := (shorten q s.low (s.up, s.best) x).1, best := (shorten q s.low (s.up, s.best) x).2 } c :=
  ⟨okc_shorten q _ x h.ok hx, h.lo, h.bl⟩
theorem Bdd.ask (h : Bdd m s c) (q : Nat) {k f : Nat} (hk : k < m) (hf : f < m) : Bdd m (Dm.ask q k s f) c := by
  have h1 := h.sh q hf
  have h2 := h1.ok f hf
  have h3 := h.lo k hk
  have h4 := h.lo ((shorten q s.low (s.up, s.best) f).2 f).toNat (by have := h2.2; simp at this; omega)
  have := h1.low (k := k) (v := min (s.low k) (s.low ((shorten q s.low (s.up, s.best) f).2 f).toNat)) (by omega)
  simpa [Dm.ask] using this
theorem Bdd.tell (h : Bdd m s c) (q : Nat) {b : Nat} (hb : b < m) : Bdd m (Dm.tell q s b) c := by
  have := (h.sh q hb).next (upd s.next b ((shorten q s.low (s.up, s.best) b).2 b))
  simpa [Dm.tell] using this
theorem Bdd.asks (q : Nat) {k : Nat} (hk : k < m) : ∀ (l : List Int) (s : Ab), (∀ x ∈ l, 0 ≤ x ∧ x < (m : Int)) → Bdd m s c → Bdd m (l.foldl (Dm.ask q k) s) c
  | [], s, _, h => h
  | x :: r, s, hl, h => by
    have hx := hl x List.mem_cons_self
    obtain ⟨f, rfl⟩ : ∃ f : Nat, x = f := ⟨x.toNat, by omega⟩
    exact Bdd.asks q hk r _ (fun y hy => hl y (List.mem_cons_of_mem _ hy)) (h.ask q hk (by omega))
theorem Bdd.tells (q : Nat) : ∀ (l : List Int) (s : Ab), (∀ x ∈ l, 0 ≤ x ∧ x < (m : Int)) → Bdd m s c → Bdd m (l.foldl (Dm.tell q) s) c
  | [], s, _, h => h
  | x :: r, s, hl, h => by
    have hx := hl x List.mem_cons_self
    obtain ⟨f, rfl⟩ : ∃ f : Nat, x = f := ⟨x.toNat, by omega⟩
    exact Bdd.tells q r _ (fun y hy => hl y (List.mem_cons_of_mem _ hy)) (h.tell q (by omega))
/-- below stays as it was -/
theorem tells_bl (q : Nat) : ∀ (l : List Int) (s : Ab), (l.foldl (Dm.tell q) s).below = s.below
  | [], _ => rfl
  | x :: r, s => by rw [List.foldl_cons, tells_bl q r]; rfl
def turnZ (m : Nat) (late : Nat → List Int) (over : Nat → Int) (s : Ab) (x : Int) : Ab := turn m late over s x.toNat
theorem turns_eq (m : Nat) (late : Nat → List Int) (over : Nat → Int) : ∀ (j : Nat) (s : Ab), turns m late over j s = (((List.range j).map fun i => ((j - i : Nat) : Int)).foldl (turnZ m late over) s)
  | 0, s => rfl
  | j + 1, s => by
    rw [List.range_succ_eq_map, List.map_cons, List.foldl_cons]
    show turns m late over j (turn m late over s (j + 1)) = _
    rw [turns_eq m late over j]
    have : ((List.range j).map Nat.succ).map (fun i => ((j + 1 - i : Nat) : Int)) = (List.range j).map fun i => ((j - i : Nat) : Int) := by
      rw [List.map_map]
      refine List.map_congr_left fun i _ => ?_
      show ((j + 1 - (i + 1) : Nat) : Int) = _
      rw [Nat.add_sub_add_right]
    rw [this]
    congr 1
theorem turns_downs (m : Nat) (late : Nat → List Int) (over : Nat → Int) (s : Ab) : (downs m).foldl (turnZ m late over) s = turns m late over (m - 1) s := (turns_eq m late over (m - 1) s).symm
theorem own_row {W : World} {B : Nat} {a : Option Addr} {n cap : Nat} {xs : List Value} (h : W.ownsRow B 3 1 (.slice a n cap) n xs) (hr : RowAt W Tt a cap n xs) : RowAt W (fun b => B ≤ b ∧ b < W.heap.size) a cap n xs :=
  ⟨hr.le, hr.lim, hr.nil, fun j u hj => by
    obtain ⟨b, off, ha, _, hc⟩ := hr.at_ j u hj
    refine ⟨b, off, ha, ⟨?_, World.block_lt_of_cell? _ _ hc⟩, hc⟩
    rcases h.2 with ⟨e, _⟩ | ⟨g, cap', cur, e, hb, _⟩
    · subst ha; cases e
    · subst ha; cases e; exact hb⟩
end Go.Proofs.Ytiaecobjbckhoaa.Db
