/- Walks of the document's mayIns whole, and of its MayIns. Conditions: the program's Funs and the instruction's Args lie in memory. -/
import Derived.Test.YtiicjbnocpphdaaDoorCfE
import Derived.Test.YtiicjbnocpphdaaDoorCfE2
import Derived.Test.YtiicjbnocpphdaaDoorCfE3
namespace Go.Proofs.YtiicjbnocpphdaaDoor.Cd
open Go Go.RowKit
open Go.Proofs.YtiicjbnocpphdaaDoor.Lx Go.Proofs.YtiicjbnocpphdaaDoor.Tr Go.Proofs.YtiicjbnocpphdaaDoor.Pa

theorem rmay_any (p : Pg) (f : Fn) (i : Ins) (w : World) (hi : U8 i.op) (hn : I64 i.n) (hri : RowAt w (fun _ => True) i.aa i.acap i.args.length (numCells i.args)) (hl : i.args.length ≤ 17592186044400) (hrow : RowAt w (fun _ => True) p.fa p.fcap p.funs.length (fnCells p.funs)) :
    Calls Tryd.prog 36 #[p.val, f.val, i.val] w fun e w' => e = .returned (.bool (rmayF p f i)) ∧ Below w.heap.size w w' := by
  cases hk : knownP i.op with
  | false => exact rmay_unknown p f i w hi hk
  | true =>
    cases hS : sameI i (keptP i) with
    | false => exact rmay_notkept p f i w hri hk hS
    | true =>
      obtain ⟨op, r, a, b, n, aa, acap, args⟩ := i
      have h1 : 1 ≤ op ∧ op ≤ 13 := by simpa [knownP] using hk
      have h13 : op = 1 ∨ op = 2 ∨ op = 3 ∨ op = 4 ∨ op = 5 ∨ op = 6 ∨ op = 7 ∨ op = 8 ∨ op = 9 ∨ op = 10 ∨ op = 11 ∨ op = 12 ∨ op = 13 := by omega
      rcases h13 with rfl | rfl | rfl | rfl | rfl | rfl | rfl | rfl | rfl | rfl | rfl | rfl | rfl
      · exact rmay_o1 p f r a b n aa acap args w hri hl hS
      · exact rmay_o2 p f r a b n aa acap args w hri hl hS
      · exact rmay_o3 p f r a b n aa acap args w hri hl hS
      · exact rmay_o4 p f r a b n aa acap args w hri hl hS
      · exact rmay_o5 p f r a b n aa acap args w hri hl hS
      · exact rmay_o6 p f r a b n aa acap args w hri hl hS
      · exact rmay_o7 p f r a b n aa acap args w hri hl hS
      · exact rmay_o8 p f r a b n aa acap args w hri hl hS
      · exact rmay_o9 p f r a b n aa acap args w hri hl hS
      · exact rmay_o10 p f r a b n aa acap args w hri hl hS hrow hn
      · exact rmay_o11 p f r a b n aa acap args w hri hl hS
      · exact rmay_o12 p f r a b n aa acap args w hri hl hS
      · exact rmay_o13 p f r a b n aa acap args w hri hl hS
end Go.Proofs.YtiicjbnocpphdaaDoor.Cd
