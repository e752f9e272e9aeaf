/-
  NARROWER THAN 'FOR EVERY INPUT', by the rows' own cells (each row's printed sentence says how): FlowCuts: laid · FlowAll: laid · FlowSame: laid.
  DERIVED. THE GIVEN ROWS OF THIS SEAT. 3 by the template 'for every input the law returns true; each argument reads behind the call as it read before'; 0 by the template 'total and deterministic' (their statements: YthiiahlgncngoaaDoorRRTotals.lean).
  GIVEN WITH THE SEED: the statements are not yours to turn. If you find one false, say at which input.
  Laid BY PROGRAM, IN A SANDBOX (cutbox-rows.mjs): the forced cells as the released guide's own fill.sh prints them over the translation 1d01ff7635da99b4… (all of the seat's roots in one cut). By AI agents, Wed Nov 11 2026. No macro, syntax, notation, axiom, sorry.
-/
import Derived.Test.YthiiahlgncngoaaDoorRRChecked
import GoSem.Claim
import GoSem.ClaimJoined
import GoSem.ClaimMapViews
import Derived.JoinedTies
import Derived.KernelRfl
namespace Go.Proofs.YthiiahlgncngoaaDoorRR
/- THE CELL 'sum', in the pinned program and in every row, IS THE sha256 OF THE DUMP (.gsa) THAT YthiiahlgncngoaaDoorRRProg.lean LOADS. Nothing in Lean hashes anything: it is a label: what it is worth is what the hold of that sum in a sandbox is worth. -/
noncomputable def Tryd.pinned : Pinned := { name := "ythiiahlgncngoaadoorrr", sum := "1d01ff7635da99b4046d04cbe6415f0ebd5edac1b692c2e02e23f7048a03b24f", checked := Tryd.checked }
namespace Rows
def none {H : Type} : Left H := { results := [], args := [] }

/- WHAT THE LISTED PACKAGE-LEVEL VARIABLES READ AS WHEN THE CALL BEGINS. Each datum BY PROGRAM (the guide's laid-datum.mjs) off the statement by which the dump's own 'gosem.cut.vars' lays the variable. In a bare row this is a premise. The card (YthiiahlgncngoaaDoorRRCards.lean) ties it to the program's text. -/
def laid_bobbin_lex_signs {H : Type} : DataW H := .agg [.lit (.string [124, 124]), .lit (.string [38, 38]), .lit (.string [60, 61]), .lit (.string [62, 61]), .lit (.string [61, 61]), .lit (.string [33, 61]), .lit (.string [60]), .lit (.string [62]), .lit (.string [61]), .lit (.string [43]), .lit (.string [45]), .lit (.string [42]), .lit (.string [47]), .lit (.string [37]), .lit (.string [33]), .lit (.string [40]), .lit (.string [41]), .lit (.string [123]), .lit (.string [125]), .lit (.string [91]), .lit (.string [93]), .lit (.string [59]), .lit (.string [44])]
def laid_bobbin_code_operations {H : Type} : DataW H := .agg [.agg [.lit (.bool false), .lit (.bool false), .lit (.bool false), .lit (.bool false), .lit (.int .u8 0)], .agg [.lit (.bool true), .lit (.bool false), .lit (.bool false), .lit (.bool false), .lit (.int .u8 1)], .agg [.lit (.bool true), .lit (.bool true), .lit (.bool false), .lit (.bool false), .lit (.int .u8 0)], .agg [.lit (.bool true), .lit (.bool true), .lit (.bool false), .lit (.bool false), .lit (.int .u8 2)], .agg [.lit (.bool true), .lit (.bool true), .lit (.bool true), .lit (.bool false), .lit (.int .u8 3)], .agg [.lit (.bool true), .lit (.bool true), .lit (.bool false), .lit (.bool true), .lit (.int .u8 4)], .agg [.lit (.bool false), .lit (.bool true), .lit (.bool true), .lit (.bool true), .lit (.int .u8 4)], .agg [.lit (.bool false), .lit (.bool false), .lit (.bool false), .lit (.bool false), .lit (.int .u8 5)], .agg [.lit (.bool false), .lit (.bool false), .lit (.bool false), .lit (.bool false), .lit (.int .u8 5)], .agg [.lit (.bool false), .lit (.bool true), .lit (.bool false), .lit (.bool false), .lit (.int .u8 0)], .agg [.lit (.bool true), .lit (.bool false), .lit (.bool false), .lit (.bool false), .lit (.int .u8 6)], .agg [.lit (.bool false), .lit (.bool false), .lit (.bool false), .lit (.bool false), .lit (.int .u8 7)], .agg [.lit (.bool false), .lit (.bool true), .lit (.bool false), .lit (.bool false), .lit (.int .u8 7)], .agg [.lit (.bool false), .lit (.bool true), .lit (.bool false), .lit (.bool false), .lit (.int .u8 0)]]

/-- 'bobbinlaw11.FlowCuts': WHATEVER THE INPUT: true; the input reads as it did. -/
def flowCutsSpec : ChangeSpec := { name := "flowCuts", fn := fun _ => fun
  | [d] => { results := [.lit (.bool true)], args := [d] }
  | _ => none }
def flowCutsRow : OpenClaim := { program := "ythiiahlgncngoaadoorrr", sum := "1d01ff7635da99b4046d04cbe6415f0ebd5edac1b692c2e02e23f7048a03b24f", func := "bobbin/bobbinlaw11.FlowCuts", spec := "flowCuts", unfollowed := true, recurses := true, named := ["bobbin/lex.signs", "bobbin/code.operations"], apart := false, laid := [("bobbin/lex.signs", laid_bobbin_lex_signs), ("bobbin/code.operations", laid_bobbin_code_operations)] }
def FlowCutsSaid : Prop := flowCutsRow.holds Tryd.pinned (OpenSpec.ofChange flowCutsSpec)

/-- ITS FALSE NEIGHBOUR: 'it returns false'. Refute it at one input. -/
def flowCutsWrong : ChangeSpec := { name := "flowCuts", fn := fun _ => fun
  | [d] => { results := [.lit (.bool false)], args := [d] }
  | _ => none }
def FlowCutsWrongFalsely : Prop := flowCutsRow.holds Tryd.pinned (OpenSpec.ofChange flowCutsWrong)

/-- 'bobbinlaw11.FlowAll': WHATEVER THE INPUT: true; the input reads as it did. -/
def flowAllSpec : ChangeSpec := { name := "flowAll", fn := fun _ => fun
  | [d] => { results := [.lit (.bool true)], args := [d] }
  | _ => none }
def flowAllRow : OpenClaim := { program := "ythiiahlgncngoaadoorrr", sum := "1d01ff7635da99b4046d04cbe6415f0ebd5edac1b692c2e02e23f7048a03b24f", func := "bobbin/bobbinlaw11.FlowAll", spec := "flowAll", unfollowed := true, recurses := true, named := ["bobbin/lex.signs", "bobbin/code.operations"], apart := false, laid := [("bobbin/lex.signs", laid_bobbin_lex_signs), ("bobbin/code.operations", laid_bobbin_code_operations)] }
def FlowAllSaid : Prop := flowAllRow.holds Tryd.pinned (OpenSpec.ofChange flowAllSpec)

/-- ITS FALSE NEIGHBOUR: 'it returns false'. Refute it at one input. -/
def flowAllWrong : ChangeSpec := { name := "flowAll", fn := fun _ => fun
  | [d] => { results := [.lit (.bool false)], args := [d] }
  | _ => none }
def FlowAllWrongFalsely : Prop := flowAllRow.holds Tryd.pinned (OpenSpec.ofChange flowAllWrong)

/-- 'bobbinlaw11.FlowSame': WHATEVER THE INPUT: true; the input reads as it did. -/
def flowSameSpec : ChangeSpec := { name := "flowSame", fn := fun _ => fun
  | [d1, d2, d3] => { results := [.lit (.bool true)], args := [d1, d2, d3] }
  | _ => none }
def flowSameRow : OpenClaim := { program := "ythiiahlgncngoaadoorrr", sum := "1d01ff7635da99b4046d04cbe6415f0ebd5edac1b692c2e02e23f7048a03b24f", func := "bobbin/bobbinlaw11.FlowSame", spec := "flowSame", unfollowed := true, recurses := true, named := ["bobbin/lex.signs", "bobbin/code.operations"], apart := false, laid := [("bobbin/lex.signs", laid_bobbin_lex_signs), ("bobbin/code.operations", laid_bobbin_code_operations)] }
def FlowSameSaid : Prop := flowSameRow.holds Tryd.pinned (OpenSpec.ofChange flowSameSpec)

/-- ITS FALSE NEIGHBOUR: 'it returns false'. Refute it at one input. -/
def flowSameWrong : ChangeSpec := { name := "flowSame", fn := fun _ => fun
  | [d1, d2, d3] => { results := [.lit (.bool false)], args := [d1, d2, d3] }
  | _ => none }
def FlowSameWrongFalsely : Prop := flowSameRow.holds Tryd.pinned (OpenSpec.ofChange flowSameWrong)

/- THE SECOND FORM. 'bulk': how many values and letters a reading holds, each counted each time it is reached (what is shared counts as often as it is met; a slice's spare places count too). A statement '..UptoSaid' is the law's where the arguments, and the package variables that the reading takes, are together of bulk at most 1048576: NARROWER than '..Said'. Prove '..Said' where nothing that the law and all that it calls make is longer than what came in: it says more and counts as full. Else prove '..UptoSaid'. A law counts once. -/
mutual
def uptoBulk {H : Type} : DataW H → Nat
  | .lit (.string bytes) => bytes.length + 1
  | .lit _ => 1
  | .nil => 1
  | .ptr d => uptoBulk d + 1
  | .slice elems spare => uptoBulkAll elems + uptoBulkAll spare + 1
  | .agg parts => uptoBulkAll parts + 1
  | .iface _ d => uptoBulk d + 1
  | .map entries => uptoBulkEntries entries + 1
  | .held _ => 1
def uptoBulkAll {H : Type} : List (DataW H) → Nat
  | [] => 0
  | d :: r => uptoBulk d + uptoBulkAll r
def uptoBulkEntries {H : Type} : List (Lit × DataW H) → Nat
  | [] => 0
  | x :: r => uptoBulkEntry x + uptoBulkEntries r
def uptoBulkEntry {H : Type} : Lit × DataW H → Nat
  | (.string bytes, d) => bytes.length + uptoBulk d + 1
  | (_, d) => uptoBulk d + 1
 end
def uptoSmall : (H : Type) → List (DataW H) → Bool := fun _ ds => decide (uptoBulkAll ds ≤ 1048576)
def OpenSpec.upto (s : _root_.Go.ChangeSpec) : _root_.Go.OpenSpec := { _root_.Go.OpenSpec.ofChange s with cond := some uptoSmall }

/-- 'bobbinlaw11.FlowCuts', WHERE WHAT IT READS IS OF BULK AT MOST 1048576: true; the input reads as it did. -/
def flowCutsUptoRow : OpenClaim := { program := "ythiiahlgncngoaadoorrr", sum := "1d01ff7635da99b4046d04cbe6415f0ebd5edac1b692c2e02e23f7048a03b24f", func := "bobbin/bobbinlaw11.FlowCuts", spec := "flowCuts", unfollowed := true, recurses := true, named := ["bobbin/lex.signs", "bobbin/code.operations"], apart := false, laid := [("bobbin/lex.signs", laid_bobbin_lex_signs), ("bobbin/code.operations", laid_bobbin_code_operations)], narrowed := true }
def FlowCutsUptoSaid : Prop := flowCutsUptoRow.holds Tryd.pinned (OpenSpec.upto flowCutsSpec)

/-- 'bobbinlaw11.FlowAll', WHERE WHAT IT READS IS OF BULK AT MOST 1048576: true; the input reads as it did. -/
def flowAllUptoRow : OpenClaim := { program := "ythiiahlgncngoaadoorrr", sum := "1d01ff7635da99b4046d04cbe6415f0ebd5edac1b692c2e02e23f7048a03b24f", func := "bobbin/bobbinlaw11.FlowAll", spec := "flowAll", unfollowed := true, recurses := true, named := ["bobbin/lex.signs", "bobbin/code.operations"], apart := false, laid := [("bobbin/lex.signs", laid_bobbin_lex_signs), ("bobbin/code.operations", laid_bobbin_code_operations)], narrowed := true }
def FlowAllUptoSaid : Prop := flowAllUptoRow.holds Tryd.pinned (OpenSpec.upto flowAllSpec)

/-- 'bobbinlaw11.FlowSame', WHERE WHAT IT READS IS OF BULK AT MOST 1048576: true; the input reads as it did. -/
def flowSameUptoRow : OpenClaim := { program := "ythiiahlgncngoaadoorrr", sum := "1d01ff7635da99b4046d04cbe6415f0ebd5edac1b692c2e02e23f7048a03b24f", func := "bobbin/bobbinlaw11.FlowSame", spec := "flowSame", unfollowed := true, recurses := true, named := ["bobbin/lex.signs", "bobbin/code.operations"], apart := false, laid := [("bobbin/lex.signs", laid_bobbin_lex_signs), ("bobbin/code.operations", laid_bobbin_code_operations)], narrowed := true }
def FlowSameUptoSaid : Prop := flowSameUptoRow.holds Tryd.pinned (OpenSpec.upto flowSameSpec)

end Rows
end Go.Proofs.YthiiahlgncngoaaDoorRR
