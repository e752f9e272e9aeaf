/- Walk of limits: what is too many, and too deep. Conditions: 2,000 brackets within one another are read. -/
import Derived.Test.YtfhmhplbkheojaaGreatDoorWkF
namespace Go.Proofs.YtfhmhplbkheojaaGreatDoor.Pa
open Go Go.RowKit
open Go.Proofs.YtfhmhplbkheojaaGreatDoor.Lx Go.Proofs.YtfhmhplbkheojaaGreatDoor.Tr

def okTab : List ByteArray := [⟨⟨repL 256 lkL⟩⟩, ⟨⟨preL ++ repL 58 [45] ++ [49, 59, 125]⟩⟩, ⟨⟨thL ++ repL 59 ifL ++ repL 59 [125] ++ [125]⟩⟩, ⟨#[102, 117, 110, 99, 32, 102, 40, 97, 44, 97, 44, 97, 44, 97, 44, 97, 44, 97, 44, 97, 44, 97, 41, 123, 125]⟩, ⟨#[116, 104, 114, 101, 97, 100, 32, 116, 123, 99, 97, 108, 108, 32, 102, 40, 49, 44, 49, 44, 49, 44, 49, 44, 49, 44, 49, 44, 49, 44, 49, 41, 59, 125]⟩, ⟨⟨preL ++ repL 2000 [40] ++ [49] ++ repL 2000 [41] ++ [59, 125]⟩⟩, ⟨#[]⟩]
def noTab : List ByteArray := [⟨⟨repL 257 lkL⟩⟩, ⟨⟨preL ++ repL 59 [45] ++ [49, 59, 125]⟩⟩, ⟨⟨thL ++ repL 60 ifL ++ repL 60 [125] ++ [125]⟩⟩, ⟨#[102, 117, 110, 99, 32, 102, 40, 97, 44, 97, 44, 97, 44, 97, 44, 97, 44, 97, 44, 97, 44, 97, 44, 97, 41, 123, 125]⟩, ⟨#[116, 104, 114, 101, 97, 100, 32, 116, 123, 99, 97, 108, 108, 32, 102, 40, 49, 44, 49, 44, 49, 44, 49, 44, 49, 44, 49, 44, 49, 44, 49, 44, 49, 41, 59, 125]⟩, ⟨#[97, 114, 114, 97, 121, 32, 97, 91, 49, 48, 50, 53, 93, 59]⟩, ⟨#[97, 114, 114, 97, 121, 32, 97, 91, 57, 50, 50, 51, 51, 55, 50, 48, 51, 54, 56, 53, 52, 55, 55, 53, 56, 48, 55, 93, 59]⟩]
set_option maxRecDepth 1000000 in
theorem ok346 : (parseP ⟨#[102, 117, 110, 99, 32, 102, 40, 97, 44, 97, 44, 97, 44, 97, 44, 97, 44, 97, 44, 97, 44, 97, 41, 123, 125]⟩).2.2 = 0 ∧ (parseP ⟨#[116, 104, 114, 101, 97, 100, 32, 116, 123, 99, 97, 108, 108, 32, 102, 40, 49, 44, 49, 44, 49, 44, 49, 44, 49, 44, 49, 44, 49, 44, 49, 41, 59, 125]⟩).2.2 = 0 ∧ (parseP ⟨#[]⟩).2.2 = 0 := ⟨by kernel_rfl, by kernel_rfl, by kernel_rfl⟩
set_option maxRecDepth 1000000 in
theorem no3456 : parseP ⟨#[102, 117, 110, 99, 32, 102, 40, 97, 44, 97, 44, 97, 44, 97, 44, 97, 44, 97, 44, 97, 44, 97, 44, 97, 41, 123, 125]⟩ = ([], 0, 40) ∧ parseP ⟨#[116, 104, 114, 101, 97, 100, 32, 116, 123, 99, 97, 108, 108, 32, 102, 40, 49, 44, 49, 44, 49, 44, 49, 44, 49, 44, 49, 44, 49, 44, 49, 44, 49, 41, 59, 125]⟩ = ([], 0, 40) ∧ parseP ⟨#[97, 114, 114, 97, 121, 32, 97, 91, 49, 48, 50, 53, 93, 59]⟩ = ([], 0, 40) ∧ parseP ⟨#[97, 114, 114, 97, 121, 32, 97, 91, 57, 50, 50, 51, 51, 55, 50, 48, 51, 54, 56, 53, 52, 55, 55, 53, 56, 48, 55, 93, 59]⟩ = ([], 0, 40) := ⟨by kernel_rfl, by kernel_rfl, by kernel_rfl, by kernel_rfl⟩
/-- 2,000 brackets are read -/
def Deep : Prop := (parseP ⟨⟨preL ++ repL 2000 [40] ++ [49] ++ repL 2000 [41] ++ [59, 125]⟩⟩).2.2 = 0
theorem ok_all (h5 : Deep) : ∀ x ∈ okTab, (parseP x).2.2 = 0 := by
  intro x hx
  simp only [okTab, List.mem_cons, List.not_mem_nil, or_false] at hx
  rcases hx with rfl | rfl | rfl | rfl | rfl | rfl | rfl
  · exact ok0
  · exact ok1
  · exact ok2
  · exact ok346.1
  · exact ok346.2.1
  · exact h5
  · exact ok346.2.2
theorem no_all : ∀ x ∈ noTab, parseP x = ([], 0, 40) := by
  intro x hx
  simp only [noTab, List.mem_cons, List.not_mem_nil, or_false] at hx
  rcases hx with rfl | rfl | rfl | rfl | rfl | rfl | rfl
  · exact no0
  · exact no1
  · exact no2
  · exact no3456.1
  · exact no3456.2.1
  · exact no3456.2.2.1
  · exact no3456.2.2.2
theorem tab_sz : (∀ x ∈ okTab, x.size ≤ 10000) ∧ (∀ x ∈ noTab, x.size ≤ 10000) := by
  constructor
  · intro x hx
    simp only [okTab, List.mem_cons, List.not_mem_nil, or_false] at hx
    rcases hx with rfl | rfl | rfl | rfl | rfl | rfl | rfl <;> exact of_decide_eq_true (by kernel_rfl)
  · intro x hx
    simp only [noTab, List.mem_cons, List.not_mem_nil, or_false] at hx
    rcases hx with rfl | rfl | rfl | rfl | rfl | rfl | rfl <;> exact of_decide_eq_true (by kernel_rfl)
/-- a sum of texts -/
theorem add_lit (a c : ByteArray) (x y : List UInt8) (ha : a = ⟨⟨x⟩⟩) (hc : c = ⟨⟨y⟩⟩) (h1 : x.length ≤ 8000000) (h2 : y.length ≤ 8000000) (W : World) : (Op.stringOp .add a c).run Tryz.prog W = .ok (.string ⟨⟨x ++ y⟩⟩) W := by
  subst ha hc
  rw [← app_lit]
  exact run_string_add W _ _ (by rw [size_lit]; omega) (by rw [size_lit]; omega)
end Go.Proofs.YtfhmhplbkheojaaGreatDoor.Pa
