/- Steps as they lie in memory. Conditions: none. -/
import Derived.Test.YtnoilcchegmpfaaMeO0
namespace Go.Proofs.Ytnoilcchegmpfaa.Me
open Go Go.RowKit

/-- a step -/
structure Sp where
  kind : Int
  at_ : Int
  here : Int
  v : Int
def Sp.vals (s : Sp) : List Value := [.int .u8 s.kind, .int .i64 s.at_, .int .i64 s.here, .int .i64 s.v]
theorem Sp.vals_len (s : Sp) : s.vals.length = 4 := rfl
def spCells (l : List Sp) : List Value := l.flatMap Sp.vals
structure Sp.In (s : Sp) : Prop where
  kind : U8 s.kind
  at_ : I64 s.at_
  here : I64 s.here
  v : I64 s.v
theorem sp_row {w : World} {S : Nat → Prop} {a : Option Addr} {cap : Nat} {l : List Sp} (h : RowAt w S a cap l.length (spCells l)) (i : Nat) (e : Sp) (he : l[i]? = some e) :
    ∃ b off, a = some ⟨b, off, none⟩ ∧ S b ∧ w.cell? ⟨b, off + i * 4, none⟩ = some (.int .u8 e.kind) ∧ w.cell? ⟨b, off + i * 4 + 1, none⟩ = some (.int .i64 e.at_) ∧ w.cell? ⟨b, off + i * 4 + 2, none⟩ = some (.int .i64 e.here) ∧ w.cell? ⟨b, off + i * 4 + 3, none⟩ = some (.int .i64 e.v) := by
  obtain ⟨b, off, ha, hb, hcl⟩ := row_get Sp.vals 4 Sp.vals_len (by omega) h i e he
  refine ⟨b, off, ha, hb, ?_, ?_, ?_, ?_⟩
  · have := hcl 0 _ rfl; rwa [Nat.add_zero] at this
  · have := hcl 1 _ rfl; rwa [← Nat.add_assoc] at this
  · have := hcl 2 _ rfl; rwa [← Nat.add_assoc] at this
  · have := hcl 3 _ rfl; rwa [← Nat.add_assoc] at this
end Go.Proofs.Ytnoilcchegmpfaa.Me
