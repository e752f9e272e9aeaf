/- What may be, and what may not, of programs' rows. Conditions: none. -/
import Derived.Test.YtiicjbnocpphdaaDoorCnC
namespace Go.Proofs.YtiicjbnocpphdaaDoor.Cd
open Go Go.RowKit
open Go.Proofs.YtiicjbnocpphdaaDoor.Lx Go.Proofs.YtiicjbnocpphdaaDoor.Tr
set_option maxRecDepth 100000
theorem may_named : mayP (⟨none, 0, [], none, 0, (List.range 256).map lockNm, none, 0, []⟩ : Pg) = true := by kernel_rfl
theorem may_threads : mayP (⟨none, 0, [], none, 0, [], none, 0, (List.range 16).map thrE⟩ : Pg) = true := by kernel_rfl
theorem not_named : mayP (⟨none, 0, [], none, 0, (List.range 257).map lockNm, none, 0, []⟩ : Pg) = false := by kernel_rfl
theorem not_threads : mayP (⟨none, 0, [], none, 0, [], none, 0, (List.range 17).map thrE⟩ : Pg) = false := by kernel_rfl
theorem may_long : mayP (⟨none, 0, [], none, 0, [], none, 0, [⟨⟨#[102]⟩, false, 0, 1, none, 0, List.replicate 16384 bk⟩]⟩ : Pg) = true := by
  have h : codeP (⟨none, 0, [], none, 0, [], none, 0, [⟨⟨#[102]⟩, false, 0, 1, none, 0, List.replicate 16384 bk⟩]⟩ : Pg) ⟨⟨#[102]⟩, false, 0, 1, none, 0, List.replicate 16384 bk⟩ = true := by
    have ha : (List.replicate 16384 bk).all (mayF (⟨none, 0, [], none, 0, [], none, 0, [⟨⟨#[102]⟩, false, 0, 1, none, 0, List.replicate 16384 bk⟩]⟩ : Pg) ⟨⟨#[102]⟩, false, 0, 1, none, 0, List.replicate 16384 bk⟩) = true := by
      rw [List.all_eq_true]
      intro x hx
      rw [List.eq_of_mem_replicate hx]
      rfl
    have hl : lastOp (List.replicate 16384 bk) = 13 := by
      unfold lastOp
      rw [List.getLast?_replicate, if_neg (by decide)]
      rfl
    unfold codeP
    rw [ha, hl, List.length_replicate]
    rfl
  unfold mayP
  simp only [List.all_cons, List.all_nil, h, Bool.and_true]
  rfl
theorem not_long : mayP (⟨none, 0, [], none, 0, [], none, 0, [⟨⟨#[102]⟩, false, 0, 1, none, 0, List.replicate 16384 bk ++ [bk]⟩]⟩ : Pg) = false := by
  have h : codeP (⟨none, 0, [], none, 0, [], none, 0, [⟨⟨#[102]⟩, false, 0, 1, none, 0, List.replicate 16384 bk ++ [bk]⟩]⟩ : Pg) ⟨⟨#[102]⟩, false, 0, 1, none, 0, List.replicate 16384 bk ++ [bk]⟩ = false := by
    unfold codeP
    rw [List.length_append, List.length_replicate]
    rfl
  unfold mayP
  simp only [List.all_cons, List.all_nil, h, Bool.and_true, Bool.and_false]
end Go.Proofs.YtiicjbnocpphdaaDoor.Cd
