/- A world for the witnesses: the variables hold what their initialisers lay. Conditions: none. -/
import Derived.Test.YtpcdlneompnhlaaGreatDoorLdA
namespace Go.Proofs.YtpcdlneompnhlaaGreatDoor.Pa
open Go Go.RowKit Go.ChangeShapes Go.WideShapes Go.ChangeAt Go.ChangeMaps
open Go.Proofs.YtpcdlneompnhlaaGreatDoor.Lx Go.Proofs.YtpcdlneompnhlaaGreatDoor.Tr

def laidIn (vs : Array Value) : Obj → Obj
  | .cells _ t frozen => .cells vs t frozen
  | o => o
/-- the cells of a table of literals -/
def datVals : DataW Unit → List Value
  | .agg l => l.map fun
    | .lit x => litVal x
    | _ => .bool false
  | _ => []
def bitsVals32 : Array Value := (datVals Rows.laid_math_bits_deBruijn32tab).toArray
def bitsVals64 : Array Value := (datVals Rows.laid_math_bits_deBruijn64tab).toArray
def powVals : Array Value := (datVals Rows.laid_internal_strconv_uint64pow10).toArray
/-- A WORLD FOR THE WITNESS: the settled one, the lists holding what their initialisers lay; two errors in blocks of their own. -/
noncomputable def laidWorld (os : Os) : World :=
  let n := (World.settled Tryz.prog os).heap.size
  let w0 := World.holding Tryz.prog os ⟨#[.cells #[.string ⟨#[118, 97, 108, 117, 101, 32, 111, 117, 116, 32, 111, 102, 32, 114, 97, 110, 103, 101]⟩] 214, .cells #[.string ⟨#[105, 110, 118, 97, 108, 105, 100, 32, 115, 121, 110, 116, 97, 120]⟩] 214], #[], []⟩
  { w0 with
    heap := (((((((((w0.heap.modify 0 (laidIn sgVals)).modify 3 (laidIn exVals)).modify 2 (laidIn stVals)).modify 1 (laidIn deVals)).modify 5 (laidIn opVals)).modify
      9 (laidIn bitsVals32)).modify 10 (laidIn bitsVals64)).modify 8 (laidIn powVals)).modify
      7 (laidIn #[.iface 212 (.pointer (some ⟨n, 0, none⟩))])).modify 6 (laidIn #[.iface 212 (.pointer (some ⟨n + 1, 0, none⟩))]) }
theorem laid_met (os : Os) (args : Array Value) : laidMet Tryz.prog laidRow ((laidWorld os).forCall (fun _ _ => 0) ⟨#[], args, []⟩).memory :=
  laidMet_of_run' 8 (by kernel_rfl) (by kernel_rfl)
end Go.Proofs.YtpcdlneompnhlaaGreatDoor.Pa
