/-
  NARROWER THAN 'FOR EVERY INPUT', by the rows' own cells (each row's printed sentence says how): TreeAsks: loops, laid · TreeNames: laid · TreeParts: loops, laid · TreeSame: loops, laid · TreeAlone: loops, laid.
  DERIVED. THE GIVEN ROWS OF THIS SEAT. 5 by the template 'for every input the law returns true; each argument reads behind the call as it read before'; 0 by the template 'total and deterministic' (their statements: YtolmhcdcfnoicaaDoorTotals.lean).
  GIVEN WITH THE SEED: the statements are not yours to turn. If you find one false, say at which input.
  Laid BY PROGRAM, IN A SANDBOX (cutbox-rows.mjs): the forced cells as the released guide's own fill.sh prints them over the translation e5fddbc78cf5277d… (all of the seat's roots in one cut). By AI agents, Wed Nov 11 2026. No macro, syntax, notation, axiom, sorry.
-/
import Derived.Test.YtolmhcdcfnoicaaDoorChecked
import GoSem.Claim
import GoSem.ClaimJoined
import GoSem.ClaimMapViews
import Derived.JoinedTies
import Derived.KernelRfl
namespace Go.Proofs.YtolmhcdcfnoicaaDoor
/- THE CELL 'sum', in the pinned program and in every row, IS THE sha256 OF THE DUMP (.gsa) THAT YtolmhcdcfnoicaaDoorProg.lean LOADS. Nothing in Lean hashes anything: it is a label: what it is worth is what the hold of that sum in a sandbox is worth. -/
noncomputable def Tryd.pinned : Pinned := { name := "ytolmhcdcfnoicaadoor", sum := "e5fddbc78cf5277db066cebfc9bd5fc794463076d6686f0d547569d9ed07c0b4", checked := Tryd.checked }
namespace Rows
def none {H : Type} : Left H := { results := [], args := [] }

/- WHAT THE LISTED PACKAGE-LEVEL VARIABLES READ AS WHEN THE CALL BEGINS. Each datum BY PROGRAM (the guide's laid-datum.mjs) off the statement by which the dump's own 'gosem.cut.vars' lays the variable. In a bare row this is a premise. The card (YtolmhcdcfnoicaaDoorCards.lean) ties it to the program's text. -/
def laid_bobbin_lex_signs {H : Type} : DataW H := .agg [.lit (.string [124, 124]), .lit (.string [38, 38]), .lit (.string [60, 61]), .lit (.string [62, 61]), .lit (.string [61, 61]), .lit (.string [33, 61]), .lit (.string [60]), .lit (.string [62]), .lit (.string [61]), .lit (.string [43]), .lit (.string [45]), .lit (.string [42]), .lit (.string [47]), .lit (.string [37]), .lit (.string [33]), .lit (.string [40]), .lit (.string [41]), .lit (.string [123]), .lit (.string [125]), .lit (.string [91]), .lit (.string [93]), .lit (.string [59]), .lit (.string [44])]
def laid_bobbin_tree_exprKinds {H : Type} : DataW H := .agg [.agg [.lit (.bool false), .lit (.int .i64 0), .lit (.int .i64 0)], .agg [.lit (.bool false), .lit (.int .i64 9223372036854775807), .lit (.int .i64 0)], .agg [.lit (.bool false), .lit (.int .i64 1), .lit (.int .i64 0)], .agg [.lit (.bool true), .lit (.int .i64 0), .lit (.int .i64 0)], .agg [.lit (.bool true), .lit (.int .i64 0), .lit (.int .i64 1)], .agg [.lit (.bool false), .lit (.int .i64 0), .lit (.int .i64 1)], .agg [.lit (.bool false), .lit (.int .i64 0), .lit (.int .i64 1)], .agg [.lit (.bool false), .lit (.int .i64 0), .lit (.int .i64 2)], .agg [.lit (.bool false), .lit (.int .i64 0), .lit (.int .i64 2)], .agg [.lit (.bool false), .lit (.int .i64 0), .lit (.int .i64 2)], .agg [.lit (.bool false), .lit (.int .i64 0), .lit (.int .i64 2)], .agg [.lit (.bool false), .lit (.int .i64 0), .lit (.int .i64 2)], .agg [.lit (.bool false), .lit (.int .i64 0), .lit (.int .i64 2)], .agg [.lit (.bool false), .lit (.int .i64 0), .lit (.int .i64 2)], .agg [.lit (.bool false), .lit (.int .i64 0), .lit (.int .i64 2)], .agg [.lit (.bool false), .lit (.int .i64 0), .lit (.int .i64 2)], .agg [.lit (.bool false), .lit (.int .i64 0), .lit (.int .i64 2)], .agg [.lit (.bool false), .lit (.int .i64 0), .lit (.int .i64 2)]]
def laid_bobbin_tree_stmtKinds {H : Type} : DataW H := .agg [.agg [.lit (.bool false), .lit (.int .i64 0), .lit (.int .i64 0), .lit (.bool false), .lit (.bool false), .lit (.bool false)], .agg [.lit (.bool true), .lit (.int .i64 1), .lit (.int .i64 1), .lit (.bool false), .lit (.bool false), .lit (.bool false)], .agg [.lit (.bool true), .lit (.int .i64 1), .lit (.int .i64 1), .lit (.bool false), .lit (.bool false), .lit (.bool false)], .agg [.lit (.bool true), .lit (.int .i64 2), .lit (.int .i64 2), .lit (.bool false), .lit (.bool false), .lit (.bool false)], .agg [.lit (.bool false), .lit (.int .i64 1), .lit (.int .i64 1), .lit (.bool true), .lit (.bool true), .lit (.bool false)], .agg [.lit (.bool false), .lit (.int .i64 1), .lit (.int .i64 1), .lit (.bool true), .lit (.bool false), .lit (.bool false)], .agg [.lit (.bool true), .lit (.int .i64 0), .lit (.int .i64 0), .lit (.bool true), .lit (.bool false), .lit (.bool false)], .agg [.lit (.bool false), .lit (.int .i64 1), .lit (.int .i64 1), .lit (.bool false), .lit (.bool false), .lit (.bool false)], .agg [.lit (.bool true), .lit (.int .i64 0), .lit (.int .i64 8), .lit (.bool false), .lit (.bool false), .lit (.bool true)], .agg [.lit (.bool false), .lit (.int .i64 1), .lit (.int .i64 1), .lit (.bool false), .lit (.bool false), .lit (.bool false)]]
def laid_bobbin_tree_declKinds {H : Type} : DataW H := .agg [.agg [.lit (.int .i64 0), .lit (.int .i64 0), .lit (.int .i64 0), .lit (.bool false)], .agg [.lit (.int .i64 (-9223372036854775808)), .lit (.int .i64 9223372036854775807), .lit (.int .i64 0), .lit (.bool false)], .agg [.lit (.int .i64 1), .lit (.int .i64 1024), .lit (.int .i64 0), .lit (.bool false)], .agg [.lit (.int .i64 0), .lit (.int .i64 0), .lit (.int .i64 0), .lit (.bool false)], .agg [.lit (.int .i64 0), .lit (.int .i64 0), .lit (.int .i64 8), .lit (.bool true)], .agg [.lit (.int .i64 0), .lit (.int .i64 0), .lit (.int .i64 0), .lit (.bool true)]]

/-- 'bobbinlaw02.TreeAsks': WHATEVER THE INPUT: true; the input reads as it did. -/
def treeAsksSpec : ChangeSpec := { name := "treeAsks", fn := fun _ => fun
  | [d1, d2, d3, d4, d5] => { results := [.lit (.bool true)], args := [d1, d2, d3, d4, d5] }
  | _ => none }
def treeAsksRow : OpenClaim := { program := "ytolmhcdcfnoicaadoor", sum := "e5fddbc78cf5277db066cebfc9bd5fc794463076d6686f0d547569d9ed07c0b4", func := "bobbin/bobbinlaw02.TreeAsks", spec := "treeAsks", unfollowed := true, recurses := true, named := ["bobbin/tree.stmtKinds", "bobbin/lex.signs", "bobbin/tree.exprKinds", "bobbin/tree.declKinds"], loops := true, apart := false, laid := [("bobbin/lex.signs", laid_bobbin_lex_signs), ("bobbin/tree.exprKinds", laid_bobbin_tree_exprKinds), ("bobbin/tree.stmtKinds", laid_bobbin_tree_stmtKinds), ("bobbin/tree.declKinds", laid_bobbin_tree_declKinds)] }
def TreeAsksSaid : Prop := treeAsksRow.holds Tryd.pinned (OpenSpec.ofChange treeAsksSpec)

/-- ITS FALSE NEIGHBOUR: 'it returns false'. Refute it at one input. -/
def treeAsksWrong : ChangeSpec := { name := "treeAsks", fn := fun _ => fun
  | [d1, d2, d3, d4, d5] => { results := [.lit (.bool false)], args := [d1, d2, d3, d4, d5] }
  | _ => none }
def TreeAsksWrongFalsely : Prop := treeAsksRow.holds Tryd.pinned (OpenSpec.ofChange treeAsksWrong)

/-- 'bobbinlaw02.TreeNames': WHATEVER THE INPUT: true; the input reads as it did. -/
def treeNamesSpec : ChangeSpec := { name := "treeNames", fn := fun _ => fun
  | [] => { results := [.lit (.bool true)], args := [] }
  | _ => none }
def treeNamesRow : OpenClaim := { program := "ytolmhcdcfnoicaadoor", sum := "e5fddbc78cf5277db066cebfc9bd5fc794463076d6686f0d547569d9ed07c0b4", func := "bobbin/bobbinlaw02.TreeNames", spec := "treeNames", unfollowed := true, recurses := true, named := ["bobbin/lex.signs", "bobbin/tree.stmtKinds", "bobbin/tree.exprKinds", "bobbin/tree.declKinds"], apart := false, laid := [("bobbin/lex.signs", laid_bobbin_lex_signs), ("bobbin/tree.exprKinds", laid_bobbin_tree_exprKinds), ("bobbin/tree.stmtKinds", laid_bobbin_tree_stmtKinds), ("bobbin/tree.declKinds", laid_bobbin_tree_declKinds)] }
def TreeNamesSaid : Prop := treeNamesRow.holds Tryd.pinned (OpenSpec.ofChange treeNamesSpec)

/-- ITS FALSE NEIGHBOUR: 'it returns false'. Refute it at one input. -/
def treeNamesWrong : ChangeSpec := { name := "treeNames", fn := fun _ => fun
  | [] => { results := [.lit (.bool false)], args := [] }
  | _ => none }
def TreeNamesWrongFalsely : Prop := treeNamesRow.holds Tryd.pinned (OpenSpec.ofChange treeNamesWrong)

/-- 'bobbinlaw02.TreeParts': WHATEVER THE INPUT: true; the input reads as it did. -/
def treePartsSpec : ChangeSpec := { name := "treeParts", fn := fun _ => fun
  | [d1, d2] => { results := [.lit (.bool true)], args := [d1, d2] }
  | _ => none }
def treePartsRow : OpenClaim := { program := "ytolmhcdcfnoicaadoor", sum := "e5fddbc78cf5277db066cebfc9bd5fc794463076d6686f0d547569d9ed07c0b4", func := "bobbin/bobbinlaw02.TreeParts", spec := "treeParts", unfollowed := true, recurses := true, named := ["bobbin/tree.stmtKinds", "bobbin/lex.signs", "bobbin/tree.exprKinds", "bobbin/tree.declKinds"], loops := true, apart := false, laid := [("bobbin/lex.signs", laid_bobbin_lex_signs), ("bobbin/tree.exprKinds", laid_bobbin_tree_exprKinds), ("bobbin/tree.stmtKinds", laid_bobbin_tree_stmtKinds), ("bobbin/tree.declKinds", laid_bobbin_tree_declKinds)] }
def TreePartsSaid : Prop := treePartsRow.holds Tryd.pinned (OpenSpec.ofChange treePartsSpec)

/-- ITS FALSE NEIGHBOUR: 'it returns false'. Refute it at one input. -/
def treePartsWrong : ChangeSpec := { name := "treeParts", fn := fun _ => fun
  | [d1, d2] => { results := [.lit (.bool false)], args := [d1, d2] }
  | _ => none }
def TreePartsWrongFalsely : Prop := treePartsRow.holds Tryd.pinned (OpenSpec.ofChange treePartsWrong)

/-- 'bobbinlaw02.TreeSame': WHATEVER THE INPUT: true; the input reads as it did. -/
def treeSameSpec : ChangeSpec := { name := "treeSame", fn := fun _ => fun
  | [d1, d2, d3] => { results := [.lit (.bool true)], args := [d1, d2, d3] }
  | _ => none }
def treeSameRow : OpenClaim := { program := "ytolmhcdcfnoicaadoor", sum := "e5fddbc78cf5277db066cebfc9bd5fc794463076d6686f0d547569d9ed07c0b4", func := "bobbin/bobbinlaw02.TreeSame", spec := "treeSame", unfollowed := true, recurses := true, named := ["bobbin/tree.stmtKinds", "bobbin/lex.signs", "bobbin/tree.exprKinds", "bobbin/tree.declKinds"], loops := true, apart := false, laid := [("bobbin/lex.signs", laid_bobbin_lex_signs), ("bobbin/tree.exprKinds", laid_bobbin_tree_exprKinds), ("bobbin/tree.stmtKinds", laid_bobbin_tree_stmtKinds), ("bobbin/tree.declKinds", laid_bobbin_tree_declKinds)] }
def TreeSameSaid : Prop := treeSameRow.holds Tryd.pinned (OpenSpec.ofChange treeSameSpec)

/-- ITS FALSE NEIGHBOUR: 'it returns false'. Refute it at one input. -/
def treeSameWrong : ChangeSpec := { name := "treeSame", fn := fun _ => fun
  | [d1, d2, d3] => { results := [.lit (.bool false)], args := [d1, d2, d3] }
  | _ => none }
def TreeSameWrongFalsely : Prop := treeSameRow.holds Tryd.pinned (OpenSpec.ofChange treeSameWrong)

/-- 'bobbinlaw02.TreeAlone': WHATEVER THE INPUT: true; the input reads as it did. -/
def treeAloneSpec : ChangeSpec := { name := "treeAlone", fn := fun _ => fun
  | [d] => { results := [.lit (.bool true)], args := [d] }
  | _ => none }
def treeAloneRow : OpenClaim := { program := "ytolmhcdcfnoicaadoor", sum := "e5fddbc78cf5277db066cebfc9bd5fc794463076d6686f0d547569d9ed07c0b4", func := "bobbin/bobbinlaw02.TreeAlone", spec := "treeAlone", unfollowed := true, recurses := true, named := ["bobbin/tree.stmtKinds", "bobbin/lex.signs", "bobbin/tree.exprKinds", "bobbin/tree.declKinds"], loops := true, apart := false, laid := [("bobbin/lex.signs", laid_bobbin_lex_signs), ("bobbin/tree.exprKinds", laid_bobbin_tree_exprKinds), ("bobbin/tree.stmtKinds", laid_bobbin_tree_stmtKinds), ("bobbin/tree.declKinds", laid_bobbin_tree_declKinds)] }
def TreeAloneSaid : Prop := treeAloneRow.holds Tryd.pinned (OpenSpec.ofChange treeAloneSpec)

/-- ITS FALSE NEIGHBOUR: 'it returns false'. Refute it at one input. -/
def treeAloneWrong : ChangeSpec := { name := "treeAlone", fn := fun _ => fun
  | [d] => { results := [.lit (.bool false)], args := [d] }
  | _ => none }
def TreeAloneWrongFalsely : Prop := treeAloneRow.holds Tryd.pinned (OpenSpec.ofChange treeAloneWrong)

/- THE SECOND FORM. 'bulk': how many values and letters a reading holds, each counted each time it is reached (what is shared counts as often as it is met; a slice's spare places count too). A statement '..UptoSaid' is the law's where the arguments, and the package variables that the reading takes, are together of bulk at most 1048576: NARROWER than '..Said'. Prove '..Said' where nothing that the law and all that it calls make is longer than what came in: it says more and counts as full. Else prove '..UptoSaid'. A law counts once. -/
mutual
def uptoBulk {H : Type} : DataW H → Nat
  | .lit (.string bytes) => bytes.length + 1
  | .lit _ => 1
  | .nil => 1
  | .ptr d => uptoBulk d + 1
  | .slice elems spare => uptoBulkAll elems + uptoBulkAll spare + 1
  | .agg parts => uptoBulkAll parts + 1
  | .iface _ d => uptoBulk d + 1
  | .map entries => uptoBulkEntries entries + 1
  | .held _ => 1
def uptoBulkAll {H : Type} : List (DataW H) → Nat
  | [] => 0
  | d :: r => uptoBulk d + uptoBulkAll r
def uptoBulkEntries {H : Type} : List (Lit × DataW H) → Nat
  | [] => 0
  | x :: r => uptoBulkEntry x + uptoBulkEntries r
def uptoBulkEntry {H : Type} : Lit × DataW H → Nat
  | (.string bytes, d) => bytes.length + uptoBulk d + 1
  | (_, d) => uptoBulk d + 1
 end
def uptoSmall : (H : Type) → List (DataW H) → Bool := fun _ ds => decide (uptoBulkAll ds ≤ 1048576)
def OpenSpec.upto (s : _root_.Go.ChangeSpec) : _root_.Go.OpenSpec := { _root_.Go.OpenSpec.ofChange s with cond := some uptoSmall }

/-- 'bobbinlaw02.TreeAsks', WHERE WHAT IT READS IS OF BULK AT MOST 1048576: true; the input reads as it did. -/
def treeAsksUptoRow : OpenClaim := { program := "ytolmhcdcfnoicaadoor", sum := "e5fddbc78cf5277db066cebfc9bd5fc794463076d6686f0d547569d9ed07c0b4", func := "bobbin/bobbinlaw02.TreeAsks", spec := "treeAsks", unfollowed := true, recurses := true, named := ["bobbin/tree.stmtKinds", "bobbin/lex.signs", "bobbin/tree.exprKinds", "bobbin/tree.declKinds"], loops := true, apart := false, laid := [("bobbin/lex.signs", laid_bobbin_lex_signs), ("bobbin/tree.exprKinds", laid_bobbin_tree_exprKinds), ("bobbin/tree.stmtKinds", laid_bobbin_tree_stmtKinds), ("bobbin/tree.declKinds", laid_bobbin_tree_declKinds)], narrowed := true }
def TreeAsksUptoSaid : Prop := treeAsksUptoRow.holds Tryd.pinned (OpenSpec.upto treeAsksSpec)

/-- 'bobbinlaw02.TreeNames', WHERE WHAT IT READS IS OF BULK AT MOST 1048576: true; the input reads as it did. -/
def treeNamesUptoRow : OpenClaim := { program := "ytolmhcdcfnoicaadoor", sum := "e5fddbc78cf5277db066cebfc9bd5fc794463076d6686f0d547569d9ed07c0b4", func := "bobbin/bobbinlaw02.TreeNames", spec := "treeNames", unfollowed := true, recurses := true, named := ["bobbin/lex.signs", "bobbin/tree.stmtKinds", "bobbin/tree.exprKinds", "bobbin/tree.declKinds"], apart := false, laid := [("bobbin/lex.signs", laid_bobbin_lex_signs), ("bobbin/tree.exprKinds", laid_bobbin_tree_exprKinds), ("bobbin/tree.stmtKinds", laid_bobbin_tree_stmtKinds), ("bobbin/tree.declKinds", laid_bobbin_tree_declKinds)], narrowed := true }
def TreeNamesUptoSaid : Prop := treeNamesUptoRow.holds Tryd.pinned (OpenSpec.upto treeNamesSpec)

/-- 'bobbinlaw02.TreeParts', WHERE WHAT IT READS IS OF BULK AT MOST 1048576: true; the input reads as it did. -/
def treePartsUptoRow : OpenClaim := { program := "ytolmhcdcfnoicaadoor", sum := "e5fddbc78cf5277db066cebfc9bd5fc794463076d6686f0d547569d9ed07c0b4", func := "bobbin/bobbinlaw02.TreeParts", spec := "treeParts", unfollowed := true, recurses := true, named := ["bobbin/tree.stmtKinds", "bobbin/lex.signs", "bobbin/tree.exprKinds", "bobbin/tree.declKinds"], loops := true, apart := false, laid := [("bobbin/lex.signs", laid_bobbin_lex_signs), ("bobbin/tree.exprKinds", laid_bobbin_tree_exprKinds), ("bobbin/tree.stmtKinds", laid_bobbin_tree_stmtKinds), ("bobbin/tree.declKinds", laid_bobbin_tree_declKinds)], narrowed := true }
def TreePartsUptoSaid : Prop := treePartsUptoRow.holds Tryd.pinned (OpenSpec.upto treePartsSpec)

/-- 'bobbinlaw02.TreeSame', WHERE WHAT IT READS IS OF BULK AT MOST 1048576: true; the input reads as it did. -/
def treeSameUptoRow : OpenClaim := { program := "ytolmhcdcfnoicaadoor", sum := "e5fddbc78cf5277db066cebfc9bd5fc794463076d6686f0d547569d9ed07c0b4", func := "bobbin/bobbinlaw02.TreeSame", spec := "treeSame", unfollowed := true, recurses := true, named := ["bobbin/tree.stmtKinds", "bobbin/lex.signs", "bobbin/tree.exprKinds", "bobbin/tree.declKinds"], loops := true, apart := false, laid := [("bobbin/lex.signs", laid_bobbin_lex_signs), ("bobbin/tree.exprKinds", laid_bobbin_tree_exprKinds), ("bobbin/tree.stmtKinds", laid_bobbin_tree_stmtKinds), ("bobbin/tree.declKinds", laid_bobbin_tree_declKinds)], narrowed := true }
def TreeSameUptoSaid : Prop := treeSameUptoRow.holds Tryd.pinned (OpenSpec.upto treeSameSpec)

/-- 'bobbinlaw02.TreeAlone', WHERE WHAT IT READS IS OF BULK AT MOST 1048576: true; the input reads as it did. -/
def treeAloneUptoRow : OpenClaim := { program := "ytolmhcdcfnoicaadoor", sum := "e5fddbc78cf5277db066cebfc9bd5fc794463076d6686f0d547569d9ed07c0b4", func := "bobbin/bobbinlaw02.TreeAlone", spec := "treeAlone", unfollowed := true, recurses := true, named := ["bobbin/tree.stmtKinds", "bobbin/lex.signs", "bobbin/tree.exprKinds", "bobbin/tree.declKinds"], loops := true, apart := false, laid := [("bobbin/lex.signs", laid_bobbin_lex_signs), ("bobbin/tree.exprKinds", laid_bobbin_tree_exprKinds), ("bobbin/tree.stmtKinds", laid_bobbin_tree_stmtKinds), ("bobbin/tree.declKinds", laid_bobbin_tree_declKinds)], narrowed := true }
def TreeAloneUptoSaid : Prop := treeAloneUptoRow.holds Tryd.pinned (OpenSpec.upto treeAloneSpec)

end Rows
end Go.Proofs.YtolmhcdcfnoicaaDoor
