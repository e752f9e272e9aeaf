/- Evaluations: texts that are too large, or too deep. Conditions: none. -/
import Derived.Test.YtfhmhplbkheojaaGreatDoorWkD
namespace Go.Proofs.YtfhmhplbkheojaaGreatDoor.Pa
open Go Go.RowKit
open Go.Proofs.YtfhmhplbkheojaaGreatDoor.Lx Go.Proofs.YtfhmhplbkheojaaGreatDoor.Tr
def lkL : List UInt8 := [108, 111, 99, 107, 32, 108, 59]
def preL : List UInt8 := [116, 104, 114, 101, 97, 100, 32, 116, 123, 112, 114, 105, 110, 116, 32]
def thL : List UInt8 := [116, 104, 114, 101, 97, 100, 32, 116, 123]
def ifL : List UInt8 := [105, 102, 32, 97, 32, 123]
set_option maxRecDepth 1000000 in
theorem ok1 : (parseP ⟨⟨preL ++ repL 58 [45] ++ [49, 59, 125]⟩⟩).2.2 = 0 := by kernel_rfl
set_option maxRecDepth 1000000 in
theorem ok2 : (parseP ⟨⟨thL ++ repL 59 ifL ++ repL 59 [125] ++ [125]⟩⟩).2.2 = 0 := by kernel_rfl
set_option maxRecDepth 1000000 in
theorem ok0 : (parseP ⟨⟨repL 256 lkL⟩⟩).2.2 = 0 := by kernel_rfl
set_option maxRecDepth 1000000 in
theorem no1 : parseP ⟨⟨preL ++ repL 59 [45] ++ [49, 59, 125]⟩⟩ = ([], 0, 40) := by kernel_rfl
set_option maxRecDepth 1000000 in
theorem no2 : parseP ⟨⟨thL ++ repL 60 ifL ++ repL 60 [125] ++ [125]⟩⟩ = ([], 0, 40) := by kernel_rfl
set_option maxRecDepth 1000000 in
theorem no0 : parseP ⟨⟨repL 257 lkL⟩⟩ = ([], 0, 40) := by kernel_rfl
set_option maxRecDepth 1000000 in
theorem nox : parseP ⟨⟨repL 257 lkL ++ [120]⟩⟩ = ([], 1799, 63) := by kernel_rfl
end Go.Proofs.YtfhmhplbkheojaaGreatDoor.Pa
