/- Walk of MayForm's closure; a Fun's registers set in its row; the plain side of MayForm. Conditions: what is read lies in memory. Walk of MayForm. Conditions: the program of blocks lies in memory; its lists are of bounded length; the packages' tables hold their lists. -/
import Derived.Test.YtkmlhijnkilfpaaDoorJFwQ
import Derived.Test.YtkmlhijnkilfpaaDoorJFwO
namespace Go.Proofs.YtkmlhijnkilfpaaDoor.Fw
open Go Go.RowKit
open Go.Proofs.YtkmlhijnkilfpaaDoor.Lx Go.Proofs.YtkmlhijnkilfpaaDoor.Tr Go.Proofs.YtkmlhijnkilfpaaDoor.Cd

theorem outFns_at : ∀ (gs : List Gr) (k j : Nat) (x : Gr), gs[j]? = some x → (outFns k gs)[j]? = some (outFn x (decide (j < k)))
  | [], _, _, _, h => by simp at h
  | y :: r, k, 0, x, h => by simp at h; subst h; simp [outFns]
  | y :: r, k, j + 1, x, h => by
    rw [outFns, List.getElem?_cons_succ, outFns_at r (k - 1) j x (by simpa using h)]
    congr 2
    rw [decide_eq_decide]; omega
theorem outFns_set {gs : List Gr} {k : Nat} {x : Gr} (h : gs[k]? = some x) : (outFns k gs).set k (outFn x true) = outFns (k + 1) gs := by
  apply List.ext_getElem?
  intro j
  have hkl : k < gs.length := (List.getElem?_eq_some_iff.1 h).1
  by_cases hj : j < gs.length
  · obtain ⟨y, hy⟩ : ∃ y, gs[j]? = some y := ⟨_, List.getElem?_eq_getElem hj⟩
    by_cases hjk : j = k
    · subst hjk
      rw [List.getElem?_set_self (by rw [outFns_len]; exact hj), outFns_at gs (j + 1) j x h]
      simp
    · rw [List.getElem?_set_ne (by omega), outFns_at gs k j y hy, outFns_at gs (k + 1) j y hy]
      congr 2
      rw [decide_eq_decide]; omega
  · rw [List.getElem?_eq_none (by rw [List.length_set, outFns_len]; omega), List.getElem?_eq_none (by rw [outFns_len]; omega)]
theorem Outs.put {k : Nat} {l : List Cd.Fn} {gs : List Gr} {x : Gr} {f : Cd.Fn} {W W' : World} (h : Outs k l gs W) (hx : gs[k]? = some x) (hf : l[k]? = some f)
    (hk : ∀ (c : Nat) (vs : Array Value) (T : TypeId) (fr : Nat × Nat), W.heap[c]? = some (.cells vs T fr) → T ≠ 52 → W'.heap[c]? = some (.cells vs T fr)) : Outs (k + 1) (l.set k { f with regs := x.regs }) gs W' := by
  have hfe : f.er = (outFn x false).er := by
    have h1 : (l.map Cd.Fn.er)[k]? = some f.er := by rw [List.getElem?_map, hf]; rfl
    rw [h.er, List.getElem?_map, outFns_at gs k k x hx] at h1
    simp at h1
    exact h1.symm
  have hfr : ({ f with regs := x.regs } : Cd.Fn).er = (outFn x true).er := by
    have e : ({ f with regs := x.regs } : Cd.Fn).er = { f.er with regs := x.regs } := rfl
    rw [e, hfe]; rfl
  refine ⟨?_, fun g hg => ?_⟩
  · rw [List.map_set, h.er, hfr, ← List.map_set, outFns_set hx]
  · rcases List.mem_or_eq_of_mem_set hg with hg | rfl
    · obtain ⟨y, hy, c, r, e, hh⟩ := h.at_ g hg
      exact ⟨y, hy, c, r, e, hk c _ _ _ hh (by decide)⟩
    · obtain ⟨y, hy, c, r, e, hh⟩ := h.at_ f (List.mem_of_getElem? hf)
      refine ⟨x, List.mem_of_getElem? hx, c, true, ?_, hk c _ _ _ hh (by decide)⟩
      subst e
      have h2 : (outFn y r).er = (outFn x false).er := hfe
      unfold outFn Cd.Fn.er at h2
      simp only [Cd.Fn.mk.injEq] at h2
      unfold outA
      simp [h2.1, h2.2.1, h2.2.2.1]
end Go.Proofs.YtkmlhijnkilfpaaDoor.Fw
namespace Go.Proofs.YtkmlhijnkilfpaaDoor.Fw
open Go Go.RowKit
open Go.Proofs.YtkmlhijnkilfpaaDoor.Lx Go.Proofs.YtkmlhijnkilfpaaDoor.Tr Go.Proofs.YtkmlhijnkilfpaaDoor.Cd

structure Fsm (f : Fm) : Prop where
  sum : f.mems.length + f.locks.length + f.funs.length ≤ 1048576
  args : ∀ g ∈ f.funs, Shrt g.blocks
end Go.Proofs.YtkmlhijnkilfpaaDoor.Fw
