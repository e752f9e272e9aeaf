/- Walks of code.read and its iterator, code.registers and its iterator. Conditions: the package's table holds its list. -/
import Derived.Test.YtiicjbnocpphdaaDoorCdD3
import Derived.Test.YtiicjbnocpphdaaDoorRgB
import Derived.RangeFuncNested
import Derived.RangeFuncBound
import Derived.RangeFuncCalls
import Derived.RangeFuncLeaves
import Derived.Shelf.Abstract
import Derived.WalkKit
import Derived.OwnWalkIn
import Derived.TacticsInMore
import Derived.LoopNIn
import Derived.LoopIn
namespace Go.Proofs.YtiicjbnocpphdaaDoor.Cd
open Go Go.RowKit Go.Shelf
open Go.Proofs.YtiicjbnocpphdaaDoor.Lx Go.Proofs.YtiicjbnocpphdaaDoor.Tr Go.Proofs.YtiicjbnocpphdaaDoor.Rg
attribute [local go_sem] Oper.semAt_some

theorem blk_new (W : World) (o : Obj) {b : Nat} (hb : W.heap.size = b) : (W.alloc o).heap[b]? = some o := by subst hb; exact World.alloc_heap_new _ _
theorem below_in {w W : World} (h : Below w.heap.size w W) {b o : Nat} {v : Value} (hc : w.cell? ⟨b, o, none⟩ = some v) : W.cell? ⟨b, o, none⟩ = some v := Kps.of_below (S := fun _ => True) h b o v trivial hc
theorem _root_.Go.Proofs.YtiicjbnocpphdaaDoor.Tr.RowAt.bds {w : World} {S : Nat → Prop} {a : Option Addr} {cap n : Nat} {xs : List Value} (h : RowAt w S a cap n xs) : RowAt w (fun b => S b ∧ b < w.heap.size) a cap n xs :=
  ⟨h.le, h.lim, h.nil, fun j u hj => by
    obtain ⟨b, off, ha, hs, hc⟩ := h.at_ j u hj
    exact ⟨b, off, ha, ⟨hs, World.block_lt_of_cell? _ _ hc⟩, hc⟩⟩
theorem room_of_none {F : Fence} (hd : F.depth = none) (k : Nat) : F.room k := fun d h => by rw [hd] at h; cases h
theorem RoundIn.anyDepth {F : Fence} (hd : F.depth = none) {m m' : Nat} {P : Program} {l : Nat} {f : FuncId} {tmps : Array Value} {assign body : Code} {w : World} {R : Ending → World → Prop}
    (h : RoundIn F m P l f tmps assign body w R) : RoundIn F m' P l f tmps assign body w R := ⟨h.1, fun c cs _ => h.2 c cs (room_of_none hd _)⟩
theorem YieldAt.anyDepth {F : Fence} (hd : F.depth = none) {m : Nat} (m' : Nat) {P : Program} {l : Nat} {args : Array Value} {W : World} {R : Ending → World → Prop} (h : YieldAt F m P l args W R) : YieldAt F m' P l args W R := by
  obtain ⟨fn, tmps, assign, body, hy, hR⟩ := h
  exact ⟨fn, tmps, assign, body, hy, RoundIn.anyDepth hd hR⟩

/-- what a round's keeping gives an iterator: which blocks read on -/
structure Sfe {α : Type} (J : List α → World → Prop) (Kp : World → World → Prop) (Sf : World → Nat → Prop) : Prop where
  keep : ∀ W W' b, Sf W b → Kp W W' → Sf W' b
  cell : ∀ W W' b o v, Sf W b → Kp W W' → W.cell? ⟨b, o, none⟩ = some v → W'.cell? ⟨b, o, none⟩ = some v
  new : ∀ pre W W' b, J pre W → Below W.heap.size W W' → W.heap.size ≤ b → b < W'.heap.size → Sf W' b
  ext : ∀ W W' b, Sf W b → b < W.heap.size → Below W.heap.size W W' → Sf W' b
theorem Sfe.all {α : Type} (J : List α → World → Prop) : Sfe J (Kps (fun _ => True)) (fun _ _ => True) :=
  ⟨fun _ _ _ _ _ => trivial, fun _ _ b o v _ k h => k b o v trivial h, fun _ _ _ _ _ _ _ _ => trivial, fun _ _ _ _ _ _ => trivial⟩

/-- a round -/
def Yld {α : Type} (l : Nat) (enc : α → Array Value) (J Jx : List α → World → Prop) (Kp : World → World → Prop) (N : Nat) : Prop :=
  ∀ m pre (x : α) W, J pre W → pre.length < N → YieldAt Fence.wide m Tryd.prog l (enc x) W fun e W' =>
    (e = .returned (.bool true) ∧ J (pre ++ [x]) W' ∧ Kp W W') ∨ (e = .returned (.bool false) ∧ Jx (pre ++ [x]) W')

set_option maxHeartbeats 800000 in
theorem read_any (i : Ins) (w : World) :
    Calls Tryd.prog 45 #[i.val] w fun e w' =>
      e = .returned (.func (.func 59) #[] #[.pointer (some ⟨w.heap.size, 0, none⟩)]) ∧ w' = w.alloc (.cells ⟨i.vals⟩ 31) := by
  go_enter Tryd.func45, Tryd.ntmps45
  go_wp2_with fail
  go_ret
  exact ⟨rfl, rfl⟩
set_option maxHeartbeats 800000 in
theorem registers_any (i : Ins) (w : World) :
    Calls Tryd.prog 27 #[i.val] w fun e w' =>
      e = .returned (.func (.func 48) #[] #[.pointer (some ⟨w.heap.size, 0, none⟩)]) ∧ w' = w.alloc (.cells ⟨i.vals⟩ 31) := by
  go_enter Tryd.func27, Tryd.ntmps27
  go_wp2_with fail
  go_ret
  exact ⟨rfl, rfl⟩
end Go.Proofs.YtiicjbnocpphdaaDoor.Cd
