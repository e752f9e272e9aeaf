/-
  No cell of these rows narrows 'for every input' (looked for: loops, veiled, ifaces, maps, wideKeys, modest, calm, conditions, laid).
  DERIVED. THE GIVEN ROWS OF THIS SEAT. 6 by the template 'for every input the law returns true; each argument reads behind the call as it read before'; 0 by the template 'total and deterministic' (their statements: YtiaecobjbckhoaaTotals.lean).
  GIVEN WITH THE SEED: the statements are not yours to turn. If you find one false, say at which input.
  Laid BY PROGRAM, IN A SANDBOX (cutbox-rows.mjs): the forced cells as the released guide's own fill.sh prints them over the translation e512486f32a311fd… (all of the seat's roots in one cut). By AI agents, Wed Nov 11 2026. No macro, syntax, notation, axiom, sorry.
-/
import Derived.Test.YtiaecobjbckhoaaChecked
import GoSem.Claim
import GoSem.ClaimJoined
import GoSem.ClaimMapViews
import Derived.JoinedTies
import Derived.KernelRfl
namespace Go.Proofs.Ytiaecobjbckhoaa
/- THE CELL 'sum', in the pinned program and in every row, IS THE sha256 OF THE DUMP (.gsa) THAT YtiaecobjbckhoaaProg.lean LOADS. Nothing in Lean hashes anything: it is a label: what it is worth is what the hold of that sum in a sandbox is worth. -/
noncomputable def Try.pinned : Pinned := { name := "ytiaecobjbckhoaa", sum := "e512486f32a311fdc63d42a3297c16491b33e9f6c7d153276bcbd29fdac593c9", checked := Try.checked }
namespace Rows
def none {H : Type} : Left H := { results := [], args := [] }

/-- 'bobbinlaw12.DomTells': WHATEVER THE INPUT: true; the input reads as it did. -/
def domTellsSpec : ChangeSpec := { name := "domTells", fn := fun _ => fun
  | [d] => { results := [.lit (.bool true)], args := [d] }
  | _ => none }
def domTellsRow : OpenClaim := { program := "ytiaecobjbckhoaa", sum := "e512486f32a311fdc63d42a3297c16491b33e9f6c7d153276bcbd29fdac593c9", func := "bobbin/bobbinlaw12.DomTells", spec := "domTells", unfollowed := true, recurses := true, apart := false }
def DomTellsSaid : Prop := domTellsRow.holds Try.pinned (OpenSpec.ofChange domTellsSpec)

/-- ITS FALSE NEIGHBOUR: 'it returns false'. Refute it at one input. -/
def domTellsWrong : ChangeSpec := { name := "domTells", fn := fun _ => fun
  | [d] => { results := [.lit (.bool false)], args := [d] }
  | _ => none }
def DomTellsWrongFalsely : Prop := domTellsRow.holds Try.pinned (OpenSpec.ofChange domTellsWrong)

/-- 'bobbinlaw12.DomNames': WHATEVER THE INPUT: true; the input reads as it did. -/
def domNamesSpec : ChangeSpec := { name := "domNames", fn := fun _ => fun
  | [] => { results := [.lit (.bool true)], args := [] }
  | _ => none }
def domNamesRow : OpenClaim := { program := "ytiaecobjbckhoaa", sum := "e512486f32a311fdc63d42a3297c16491b33e9f6c7d153276bcbd29fdac593c9", func := "bobbin/bobbinlaw12.DomNames", spec := "domNames", unfollowed := true, recurses := true, apart := false }
def DomNamesSaid : Prop := domNamesRow.holds Try.pinned (OpenSpec.ofChange domNamesSpec)

/-- ITS FALSE NEIGHBOUR: 'it returns false'. Refute it at one input. -/
def domNamesWrong : ChangeSpec := { name := "domNames", fn := fun _ => fun
  | [] => { results := [.lit (.bool false)], args := [] }
  | _ => none }
def DomNamesWrongFalsely : Prop := domNamesRow.holds Try.pinned (OpenSpec.ofChange domNamesWrong)

/-- 'bobbinlaw12.DomTree': WHATEVER THE INPUT: true; the input reads as it did. -/
def domTreeSpec : ChangeSpec := { name := "domTree", fn := fun _ => fun
  | [d1, d2] => { results := [.lit (.bool true)], args := [d1, d2] }
  | _ => none }
def domTreeRow : OpenClaim := { program := "ytiaecobjbckhoaa", sum := "e512486f32a311fdc63d42a3297c16491b33e9f6c7d153276bcbd29fdac593c9", func := "bobbin/bobbinlaw12.DomTree", spec := "domTree", unfollowed := true, recurses := true, apart := false }
def DomTreeSaid : Prop := domTreeRow.holds Try.pinned (OpenSpec.ofChange domTreeSpec)

/-- ITS FALSE NEIGHBOUR: 'it returns false'. Refute it at one input. -/
def domTreeWrong : ChangeSpec := { name := "domTree", fn := fun _ => fun
  | [d1, d2] => { results := [.lit (.bool false)], args := [d1, d2] }
  | _ => none }
def DomTreeWrongFalsely : Prop := domTreeRow.holds Try.pinned (OpenSpec.ofChange domTreeWrong)

/-- 'bobbinlaw12.DomFewer': WHATEVER THE INPUT: true; the input reads as it did. -/
def domFewerSpec : ChangeSpec := { name := "domFewer", fn := fun _ => fun
  | [d1, d2, d3] => { results := [.lit (.bool true)], args := [d1, d2, d3] }
  | _ => none }
def domFewerRow : OpenClaim := { program := "ytiaecobjbckhoaa", sum := "e512486f32a311fdc63d42a3297c16491b33e9f6c7d153276bcbd29fdac593c9", func := "bobbin/bobbinlaw12.DomFewer", spec := "domFewer", unfollowed := true, recurses := true, apart := false }
def DomFewerSaid : Prop := domFewerRow.holds Try.pinned (OpenSpec.ofChange domFewerSpec)

/-- ITS FALSE NEIGHBOUR: 'it returns false'. Refute it at one input. -/
def domFewerWrong : ChangeSpec := { name := "domFewer", fn := fun _ => fun
  | [d1, d2, d3] => { results := [.lit (.bool false)], args := [d1, d2, d3] }
  | _ => none }
def DomFewerWrongFalsely : Prop := domFewerRow.holds Try.pinned (OpenSpec.ofChange domFewerWrong)

/-- 'bobbinlaw12.DomKids': WHATEVER THE INPUT: true; the input reads as it did. -/
def domKidsSpec : ChangeSpec := { name := "domKids", fn := fun _ => fun
  | [d] => { results := [.lit (.bool true)], args := [d] }
  | _ => none }
def domKidsRow : OpenClaim := { program := "ytiaecobjbckhoaa", sum := "e512486f32a311fdc63d42a3297c16491b33e9f6c7d153276bcbd29fdac593c9", func := "bobbin/bobbinlaw12.DomKids", spec := "domKids", unfollowed := true, recurses := true, apart := false }
def DomKidsSaid : Prop := domKidsRow.holds Try.pinned (OpenSpec.ofChange domKidsSpec)

/-- ITS FALSE NEIGHBOUR: 'it returns false'. Refute it at one input. -/
def domKidsWrong : ChangeSpec := { name := "domKids", fn := fun _ => fun
  | [d] => { results := [.lit (.bool false)], args := [d] }
  | _ => none }
def DomKidsWrongFalsely : Prop := domKidsRow.holds Try.pinned (OpenSpec.ofChange domKidsWrong)

/-- 'bobbinlaw12.DomAbove': WHATEVER THE INPUT: true; the input reads as it did. -/
def domAboveSpec : ChangeSpec := { name := "domAbove", fn := fun _ => fun
  | [d1, d2, d3, d4] => { results := [.lit (.bool true)], args := [d1, d2, d3, d4] }
  | _ => none }
def domAboveRow : OpenClaim := { program := "ytiaecobjbckhoaa", sum := "e512486f32a311fdc63d42a3297c16491b33e9f6c7d153276bcbd29fdac593c9", func := "bobbin/bobbinlaw12.DomAbove", spec := "domAbove", unfollowed := true, recurses := true, apart := false }
def DomAboveSaid : Prop := domAboveRow.holds Try.pinned (OpenSpec.ofChange domAboveSpec)

/-- ITS FALSE NEIGHBOUR: 'it returns false'. Refute it at one input. -/
def domAboveWrong : ChangeSpec := { name := "domAbove", fn := fun _ => fun
  | [d1, d2, d3, d4] => { results := [.lit (.bool false)], args := [d1, d2, d3, d4] }
  | _ => none }
def DomAboveWrongFalsely : Prop := domAboveRow.holds Try.pinned (OpenSpec.ofChange domAboveWrong)

/- THE SECOND FORM. 'bulk': how many values and letters a reading holds, each counted each time it is reached (what is shared counts as often as it is met; a slice's spare places count too). A statement '..UptoSaid' is the law's where the arguments, and the package variables that the reading takes, are together of bulk at most 1048576: NARROWER than '..Said'. Prove '..Said' where nothing that the law and all that it calls make is longer than what came in: it says more and counts as full. Else prove '..UptoSaid'. A law counts once. -/
mutual
def uptoBulk {H : Type} : DataW H → Nat
  | .lit (.string bytes) => bytes.length + 1
  | .lit _ => 1
  | .nil => 1
  | .ptr d => uptoBulk d + 1
  | .slice elems spare => uptoBulkAll elems + uptoBulkAll spare + 1
  | .agg parts => uptoBulkAll parts + 1
  | .iface _ d => uptoBulk d + 1
  | .map entries => uptoBulkEntries entries + 1
  | .held _ => 1
def uptoBulkAll {H : Type} : List (DataW H) → Nat
  | [] => 0
  | d :: r => uptoBulk d + uptoBulkAll r
def uptoBulkEntries {H : Type} : List (Lit × DataW H) → Nat
  | [] => 0
  | x :: r => uptoBulkEntry x + uptoBulkEntries r
def uptoBulkEntry {H : Type} : Lit × DataW H → Nat
  | (.string bytes, d) => bytes.length + uptoBulk d + 1
  | (_, d) => uptoBulk d + 1
 end
def uptoSmall : (H : Type) → List (DataW H) → Bool := fun _ ds => decide (uptoBulkAll ds ≤ 1048576)
def OpenSpec.upto (s : _root_.Go.ChangeSpec) : _root_.Go.OpenSpec := { _root_.Go.OpenSpec.ofChange s with cond := some uptoSmall }

/-- 'bobbinlaw12.DomTells', WHERE WHAT IT READS IS OF BULK AT MOST 1048576: true; the input reads as it did. -/
def domTellsUptoRow : OpenClaim := { program := "ytiaecobjbckhoaa", sum := "e512486f32a311fdc63d42a3297c16491b33e9f6c7d153276bcbd29fdac593c9", func := "bobbin/bobbinlaw12.DomTells", spec := "domTells", unfollowed := true, recurses := true, apart := false, narrowed := true }
def DomTellsUptoSaid : Prop := domTellsUptoRow.holds Try.pinned (OpenSpec.upto domTellsSpec)

/-- 'bobbinlaw12.DomNames', WHERE WHAT IT READS IS OF BULK AT MOST 1048576: true; the input reads as it did. -/
def domNamesUptoRow : OpenClaim := { program := "ytiaecobjbckhoaa", sum := "e512486f32a311fdc63d42a3297c16491b33e9f6c7d153276bcbd29fdac593c9", func := "bobbin/bobbinlaw12.DomNames", spec := "domNames", unfollowed := true, recurses := true, apart := false, narrowed := true }
def DomNamesUptoSaid : Prop := domNamesUptoRow.holds Try.pinned (OpenSpec.upto domNamesSpec)

/-- 'bobbinlaw12.DomTree', WHERE WHAT IT READS IS OF BULK AT MOST 1048576: true; the input reads as it did. -/
def domTreeUptoRow : OpenClaim := { program := "ytiaecobjbckhoaa", sum := "e512486f32a311fdc63d42a3297c16491b33e9f6c7d153276bcbd29fdac593c9", func := "bobbin/bobbinlaw12.DomTree", spec := "domTree", unfollowed := true, recurses := true, apart := false, narrowed := true }
def DomTreeUptoSaid : Prop := domTreeUptoRow.holds Try.pinned (OpenSpec.upto domTreeSpec)

/-- 'bobbinlaw12.DomFewer', WHERE WHAT IT READS IS OF BULK AT MOST 1048576: true; the input reads as it did. -/
def domFewerUptoRow : OpenClaim := { program := "ytiaecobjbckhoaa", sum := "e512486f32a311fdc63d42a3297c16491b33e9f6c7d153276bcbd29fdac593c9", func := "bobbin/bobbinlaw12.DomFewer", spec := "domFewer", unfollowed := true, recurses := true, apart := false, narrowed := true }
def DomFewerUptoSaid : Prop := domFewerUptoRow.holds Try.pinned (OpenSpec.upto domFewerSpec)

/-- 'bobbinlaw12.DomKids', WHERE WHAT IT READS IS OF BULK AT MOST 1048576: true; the input reads as it did. -/
def domKidsUptoRow : OpenClaim := { program := "ytiaecobjbckhoaa", sum := "e512486f32a311fdc63d42a3297c16491b33e9f6c7d153276bcbd29fdac593c9", func := "bobbin/bobbinlaw12.DomKids", spec := "domKids", unfollowed := true, recurses := true, apart := false, narrowed := true }
def DomKidsUptoSaid : Prop := domKidsUptoRow.holds Try.pinned (OpenSpec.upto domKidsSpec)

/-- 'bobbinlaw12.DomAbove', WHERE WHAT IT READS IS OF BULK AT MOST 1048576: true; the input reads as it did. -/
def domAboveUptoRow : OpenClaim := { program := "ytiaecobjbckhoaa", sum := "e512486f32a311fdc63d42a3297c16491b33e9f6c7d153276bcbd29fdac593c9", func := "bobbin/bobbinlaw12.DomAbove", spec := "domAbove", unfollowed := true, recurses := true, apart := false, narrowed := true }
def DomAboveUptoSaid : Prop := domAboveUptoRow.holds Try.pinned (OpenSpec.upto domAboveSpec)

end Rows
end Go.Proofs.Ytiaecobjbckhoaa
