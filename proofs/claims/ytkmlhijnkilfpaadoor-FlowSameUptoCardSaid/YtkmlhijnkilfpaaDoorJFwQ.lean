/- Walk of outline. Conditions: the program of blocks lies in memory; its graphs are of bounded number. -/
import Derived.Test.YtkmlhijnkilfpaaDoorJFwM0
import Derived.Test.YtkmlhijnkilfpaaDoorJaM
import Derived.Test.YtkmlhijnkilfpaaDoorJFwJ
import Derived.BigQuiet
import Derived.Deep.Cut
import Derived.Deep.QuietTactic
namespace Go.Proofs.YtkmlhijnkilfpaaDoor.Fw
open Go Go.RowKit
open Go.Proofs.YtkmlhijnkilfpaaDoor.Lx Go.Proofs.YtkmlhijnkilfpaaDoor.Tr Go.Proofs.YtkmlhijnkilfpaaDoor.Cd

def jmp : Ins := ⟨11, 0, 0, 0, 0, none, 0, []⟩
/-- a graph's Fun, as it lies -/
def outA (x : Gr) (c : Nat) (r : Bool) : Cd.Fn := ⟨x.name, x.thread, x.params, if r then x.regs else x.params, some ⟨c, 0, none⟩, 1, [jmp]⟩
theorem outA_er (x : Gr) (c : Nat) (r : Bool) : (outA x c r).er = (outFn x r).er := rfl
/-- Funs that say what graphs' ones say, the first ones with their registers; where their instructions lie -/
structure Outs (k : Nat) (l : List Cd.Fn) (gs : List Gr) (W : World) : Prop where
  er : l.map Cd.Fn.er = (outFns k gs).map Cd.Fn.er
  at_ : ∀ f ∈ l, ∃ x ∈ gs, ∃ c r, f = outA x c r ∧ W.heap[c]? = some (.cells #[.int .u8 11, .int .i64 0, .int .i64 0, .int .i64 0, .int .i64 0, .slice none 0 0] 44 (0, 0))
theorem outFns_len (k : Nat) (gs : List Gr) : (outFns k gs).length = gs.length := by
  induction gs generalizing k with
  | nil => rfl
  | cons x r ih => simp [outFns, ih]
theorem outFns_zero (gs : List Gr) : outFns 0 gs = gs.map fun x => outFn x false := by
  induction gs with
  | nil => rfl
  | cons x r ih => simp [outFns, ih]
theorem Outs.len {k : Nat} {l : List Cd.Fn} {gs : List Gr} {W : World} (h : Outs k l gs W) : l.length = gs.length := by
  have := congrArg List.length h.er
  simpa [outFns_len] using this
theorem Outs.nil (k : Nat) (W : World) : Outs k [] [] W := ⟨rfl, fun f hf => by cases hf⟩
theorem Outs.snoc {l : List Cd.Fn} {gs : List Gr} {x : Gr} {k c : Nat} {W W' : World} (hx : gs[k]? = some x) (h : Outs 0 l (gs.take k) W)
    (hk : ∀ (c : Nat) vs fr, W.heap[c]? = some (.cells vs 44 fr) → W'.heap[c]? = some (.cells vs 44 fr))
    (hc : W'.heap[c]? = some (.cells #[.int .u8 11, .int .i64 0, .int .i64 0, .int .i64 0, .int .i64 0, .slice none 0 0] 44 (0, 0))) :
    Outs 0 (l ++ [outA x c false]) (gs.take (k + 1)) W' := by
  refine ⟨?_, fun f hf => ?_⟩
  · rw [List.take_add_one, hx, outFns_zero, List.map_append, h.er, outFns_zero]
    simp [outA_er]
  · rcases List.mem_append.1 hf with hf | hf
    · obtain ⟨y, hy, c, r, e, hh⟩ := h.at_ f hf
      exact ⟨y, List.take_subset_take_left gs (Nat.le_succ k) hy, c, r, e, hk c _ _ hh⟩
    · rw [List.mem_singleton.1 hf]
      refine ⟨x, ?_, c, false, rfl, hc⟩
      rw [List.take_add_one, hx]
      simp
theorem Outs.keep {k : Nat} {l : List Cd.Fn} {gs : List Gr} {W W' : World} (h : Outs k l gs W) (hb : Below W.heap.size W W') : Outs k l gs W' :=
  ⟨h.er, fun f hf => by
    obtain ⟨x, hx, c, r, e, hh⟩ := h.at_ f hf
    exact ⟨x, hx, c, r, e, (hb.block c (Array.getElem?_eq_some_iff.1 hh).1).trans hh⟩⟩
theorem Outs.set {k b j : Nat} {l : List Cd.Fn} {gs : List Gr} {W : World} {vs : Array Value} {fr : Nat × Nat} (h : Outs k l gs W) (hb : W.heap[b]? = some (.cells vs 26 fr)) (u : Value) : Outs k l gs (W.setCell ⟨b, j, none⟩ u) :=
  ⟨h.er, fun f hf => by
    obtain ⟨x, hx, c, r, e, hh⟩ := h.at_ f hf
    refine ⟨x, hx, c, r, e, ?_⟩
    rw [heap_oth (fun e => ?_)]
    · exact hh
    · subst e
      rw [hb] at hh
      have := Option.some.inj hh
      simp at this⟩
theorem box3 (w : World) (x : Fm) : let W := w.alloc (.cells #[.slice x.ma x.mems.length x.mcap, .slice x.la x.locks.length x.lcap, .slice x.fa x.funs.length x.fcap] 30)
    W.cell? ⟨w.heap.size, 0, none⟩ = some (.slice x.ma x.mems.length x.mcap) ∧ W.cell? ⟨w.heap.size, 1, none⟩ = some (.slice x.la x.locks.length x.lcap) ∧ W.cell? ⟨w.heap.size, 2, none⟩ = some (.slice x.fa x.funs.length x.fcap) := by
  intro W
  have h1 : ∀ j u, x.vals[j]? = some u → W.cell? ⟨w.heap.size, j, none⟩ = some u := fun j u hu => box_new w x.vals 30 j u hu
  exact ⟨h1 0 _ rfl, h1 1 _ rfl, h1 2 _ rfl⟩
end Go.Proofs.YtkmlhijnkilfpaaDoor.Fw
