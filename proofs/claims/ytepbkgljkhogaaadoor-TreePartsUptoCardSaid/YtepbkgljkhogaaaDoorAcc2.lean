/- append of a whole list to a list that the call builds. Conditions: none. -/
import Derived.Test.YtepbkgljkhogaaaDoorAcc
import Derived.Laws.AppendOwnNone
namespace Go.Proofs.YtepbkgljkhogaaaDoor.Tr
open Go Go.RowKit
open Go.Proofs.YtepbkgljkhogaaaDoor.Lx
section
variable {α : Type} {K : Kd α} {e : TypeId} {B : Nat} {W W' : World} {v : Value} {l : List α}
theorem AccS.app {xs : List α} {v' : Value} (h : AccS K e B W v l) (hx : ∀ x ∈ xs, K.In W (fun b => v.ownBlock ≠ some b) x) (hown : W'.ownsRow B e K.c v' (l.length + xs.length) (l.flatMap K.vals ++ xs.flatMap K.vals)) (hg : W.grownBy W' v.ownBlock)
    (ho : v'.ownBlock = v.ownBlock ∨ v'.ownBlock = some W.heap.size) : AccS K e B W' v' (l ++ xs) := by
  have key : ∀ y, K.In W (fun b => v.ownBlock ≠ some b) y → K.In W' (fun b => v'.ownBlock ≠ some b) y := fun y hy =>
    K.mono (fun b (hb : v.ownBlock ≠ some b ∧ b < W.heap.size) => fun hv => by
      rcases ho with ho | ho
      · exact hb.1 (ho.symm.trans hv)
      · have := Option.some.inj (ho.symm.trans hv); omega) (K.below (S := fun b => v.ownBlock ≠ some b ∧ b < W.heap.size) (fun b o u hb hc => (World.cell?_of_block (hg.block b hb.2 (fun hh => hb.1 hh.symm))).trans hc) (K.bds hy))
  refine ⟨?_, fun y hy => ?_⟩
  · rw [List.length_append, List.flatMap_append]
    exact hown
  · rcases List.mem_append.1 hy with hy | hy
    · exact key y (h.inn y hy)
    · exact key y (hx y hy)
theorem flat_length (K : Kd α) : ∀ l : List α, (l.flatMap K.vals).length = l.length * K.c
  | [] => by simp
  | e :: r => by rw [List.flatMap_cons, List.length_append, K.len, flat_length K r, List.length_cons, Nat.succ_mul, Nat.add_comm]
end
theorem wpList_append_L {P : Program} {ops : Array Oper} {rest : List Oper} {o : Oper} {a : Act} {w : World} {Q : Exit → Act → World → Prop} {α : Type} (D : Kd α)
    (hg : o.guard = none) (s x : Operand) (t : TypeId) (hop : o.op = Op.call { callee := Callee.builtin Builtin.append, args := #[s, x], argTypes := #[t, t] })
    (e : TypeId) (i : TypeInfo) (z : Value) (size bytes : Nat) (h1 : P.underlying t = some (.slice e)) (h2 : P.info? e = some i) (h3 : i.zero = some z) (h4 : i.size = size) (h5 : i.bytes = bytes) (h6 : z.cells.size = size) (h7 : 0 < size) (hD : D.c = size) (h1c : ∀ x, ∀ u ∈ D.vals x, u.oneCell' = true)
    (base : Nat) (v : Value) (l : List α) (hs : a.eval s = v) (hacc : AccS D e base w v l) (xs : List α) (ao : Option Addr) (c : Nat) (hx : a.eval x = .slice ao xs.length c) (hrow : RowAt w (fun _ => True) ao c xs.length (xs.flatMap D.vals)) (hel : ∀ y ∈ xs, D.In w (fun b => v.ownBlock ≠ some b) y)
    (hn : l.length + xs.length ≤ maxLen) (hby : (l.length + xs.length) * bytes ≤ 140737488355328) (hbase : base ≤ w.heap.size)
    (hK : ∀ v' w', AccS D e base w' v' (l ++ xs) → w.grownBy w' v.ownBlock → wpList P ops Q rest (a.put o.dst v') w') :
    wpList P ops Q (o :: rest) a w := by
  subst hD
  cases ao with
  | none =>
    have hc0 := hrow.nil rfl
    have hl0 : xs.length = 0 := by have := hrow.le; omega
    obtain rfl := List.eq_nil_of_length_eq_zero hl0
    subst hc0
    refine wpList_append_own_none hg s x t hop base e i D.c h1 h2 v l.length (l.flatMap D.vals) hs hacc.own hx (hK v w ?_ ⟨rfl, rfl, rfl, Nat.le_refl _, fun _ _ _ => rfl⟩)
    rw [List.append_nil]
    exact hacc
  | some ad =>
    refine wpList_append_own_at w hg s x t hop base e i z D.c bytes h1 h2 h3 h4 h5 h6 h7 v l.length (l.flatMap D.vals) hs hacc.own ad xs.length c (xs.flatMap D.vals) hx (flat_length D xs) (fun j u hu => ?_) (fun u hu => ?_) hn hby hbase
      (fun v' w' r1 r2 _ r3 => hK v' w' (hacc.app hel r1 r2 r3) r2)
    · obtain ⟨b, off, ha, _, hcell⟩ := hrow.at_ j u hu
      obtain rfl := Option.some.inj ha
      rw [Go.WideShapes.add_plain]
      exact hcell
    · obtain ⟨y, _, hy⟩ := List.mem_flatMap.1 hu
      exact h1c y u hy
end Go.Proofs.YtepbkgljkhogaaaDoor.Tr
