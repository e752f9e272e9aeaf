/- Region 18 of FlowSame: conditions on what each operation leaves. Conditions: none. -/
import Derived.Test.YtkmlhijnkilfpaaDoorJOl
import Derived.Test.YtkmlhijnkilfpaaDoorJOh
set_option linter.unusedVariables false
set_option linter.unusedSimpArgs false
namespace Go.Proofs.YtkmlhijnkilfpaaDoor.Fw
open Go Go.RowKit
open Go.Proofs.YtkmlhijnkilfpaaDoor.Lx Go.Proofs.YtkmlhijnkilfpaaDoor.Tr Go.Proofs.YtkmlhijnkilfpaaDoor.Cd
open Go.Proofs.YtkmlhijnkilfpaaDoor.Vq Go.Proofs.YtkmlhijnkilfpaaDoor.Qr Go.Proofs.YtkmlhijnkilfpaaDoor.QrT Go.Proofs.YtkmlhijnkilfpaaDoor.QrP

theorem ln_bks {p : Option Addr} {n c : Nat} {w : World} : (Builtin.len_ #[35] 3 #[.slice p n c]).run Tryd.prog w = .ok (.int .i64 n) w := by go_simp
theorem run_subB {a : Act} {o : Oper} {x : Operand} {n : Nat} {w : World} (ho : o.op = .binOp .sub 3 x (.const (.int .i64 1)) 3) (hx : a.eval x = .int .i64 n) (h1 : 1 ≤ n) (h2 : n ≤ 1048576) : (execOp a.eval o).run Tryd.prog w = .ok (.value (.int .i64 ((n - 1 : Nat) : Int))) w := by
  unfold execOp
  simp only [ho]
  rw [hx]
  go_simp
  rw [IntWalk.i64_in _ (by omega)]
  congr 3
  omega
theorem run_slN {P : Program} {a : Act} {o : Oper} {t : TypeId} {x z : Operand} {u r q : Value} {w w' : World} (ho : o.op = .slice t x none (some z) none) (hx : a.eval x = u) (hz : a.eval z = q) (hr : (Instr.sliceAt t u none (some q) none).run P w = .ok r w') : (execOp a.eval o).run P w = .ok (.value r) w' := by
  subst hx hz
  unfold execOp
  simp [ho, hr]
theorem sl_bks {V : World} {a : Option Addr} {n cap hi : Nat} (h1 : hi ≤ n) (h2 : n ≤ cap) : (Instr.sliceAt 35 (.slice a n cap) none (some (.int .i64 hi)) none).run Tryd.prog V = .ok (.slice (if cap = 0 then a else a.map (·.add (0 * 4))) (hi - 0) (cap - 0)) V := by
  have e1 : (0 : Int) ≤ (hi : Int) := by omega
  have e2 : (hi : Int) ≤ (cap : Int) := by omega
  go_simp
theorem sl_bk2 {V : World} {b off n cap hi : Nat} (h0 : 0 < n) (h1 : hi ≤ n) (h2 : n ≤ cap) : (Instr.sliceAt 35 (.slice (some ⟨b, off, none⟩) n cap) none (some (.int .i64 hi)) none).run Tryd.prog V = .ok (.slice (some ⟨b, off, none⟩) hi cap) V := by
  rw [sl_bks h1 h2, if_neg (by omega), Option.map_some, Go.WideShapes.add_plain]
  rfl
theorem ix_gr0 {V : World} {b n cap k : Nat} (h : (k : Int) < (n : Int)) : (Instr.indexAt 28 (.slice (some ⟨b, 0, none⟩) n cap) (.int .i64 k)).run Tryd.prog V = .ok (.pointer (some ⟨b, k * 5, none⟩)) V := by go_simp
theorem fl_g4 {V : World} {b o : Nat} : (Instr.fieldAt 37 (.pointer (some ⟨b, o, none⟩)) 4).run Tryd.prog V = .ok (.pointer (some ⟨b, o + 4, none⟩)) V := by go_simp
theorem mk_bk0 (V : World) : (Instr.buildSlice 35 0 #[]).run Tryd.prog V = .ok (.slice (some ⟨V.heap.size, 0, none⟩) 0 0) (V.alloc (.cells #[] 42)) := by kernel_rfl
set_option maxRecDepth 100000 in
theorem info_bk5 : ∃ i z, Tryd.prog.info? 42 = some i ∧ i.zero = some z ∧ i.size = 4 ∧ i.bytes = 96 ∧ z.cells.size = 4 := ⟨_, _, rfl, rfl, rfl, rfl, rfl⟩
/-- a part of a row of blocks is appended to a row of the call's own -/
theorem p_appB {a : Act} {o : Oper} {s x : Operand} {B c m : Nat} {ad : Addr} {v : Value} {L : List Bk} {w : World} {K : Act → World → Prop} {Q : Exit → Act → World → Prop}
    (ho : o.op = .call { callee := .builtin .append, args := #[s, x], argTypes := #[35, 35] }) (hs : a.eval s = v) (hx : a.eval x = .slice (some ad) m c) (hown : w.ownsRow B 42 4 v 0 []) (hL : L.length = m) (hrow : ∀ j u, (bkCells L)[j]? = some u → w.cell? (ad.add j) = some u)
    (hn : m ≤ 1048576) (hB : B ≤ w.heap.size) (h : ∀ v' w', w'.ownsRow B 42 4 v' m (bkCells L) → w.grownBy w' v.ownBlock → K (a.put o.dst v') w') : o.wp Tryd.prog a w K Q := by
  obtain ⟨i0, z0, hi0, hz0, hz1, hz2, hz3⟩ := info_bk5
  obtain ⟨v', w', hr, h2, h3, h4, h5⟩ := run_append_own_at (P := Tryd.prog) w B 35 o.type 42 i0 z0 4 96 Tryd.underlying35 hi0 hz0 hz1 hz2 hz3 (by decide) v 0 [] hown ad m c (bkCells L) (by rw [bk_len, hL]) hrow (bk_ones L) (by unfold maxLen; omega) (by omega) hB
  unfold Oper.wp execOp
  simp only [ho, resolve, invoke, builtin, Sem.run_bind, Sem.run_pure, Result.andThen_ok, List.map_toArray, List.map_cons, List.map_nil, hs, hx, hr]
  rw [Nat.zero_add, List.nil_append] at h2
  exact h _ _ h2 h3
def VMk (B : Nat) (v : Value) (V : World) : Prop := V.ownsRow B 42 4 v 0 []
theorem VMk.mono {B : Nat} : Mono (VMk B) := fun _ _ _ hb h => own_below h hb
def VApB (B n : Nat) (L : List Bk) (v : Value) (V : World) : Prop := V.ownsRow B 42 4 v n (bkCells L)
theorem VApB.mono {B n : Nat} {L : List Bk} : Mono (VApB B n L) := fun _ _ _ hb h => own_below h hb
def raY (B yb yq ycap n k : Nat) (ad : Addr) (len bcap : Nat) (L : List Bk) (t : Bool) : List (Value → World → Prop) :=
  [VK (.pointer (some ⟨yb, 2, none⟩)), VK (.slice (some ⟨yq, 0, none⟩) n ycap), VK (.int .i64 k), if t then VT else VMk B, VK (.slice (some ad) len bcap), VK (.slice (some ad) len bcap), VK (.int .i64 len), VK (.int .i64 ((len - 1 : Nat) : Int)), VK (.slice (some ad) (len - 1) bcap), if t then VApB B (len - 1) L else VF, VK (.pointer (some ⟨yq, k * 5, none⟩)), VK (.pointer (some ⟨yq, k * 5 + 4, none⟩))]
theorem raY_mono {B yb yq ycap n k : Nat} {ad : Addr} {len bcap : Nat} {L : List Bk} {t : Bool} : MonoL (raY B yb yq ycap n k ad len bcap L t) := by
  cases t
  · exact ⟨VK.mono, VK.mono, VK.mono, VMk.mono, VK.mono, VK.mono, VK.mono, VK.mono, VK.mono, VF.mono, VK.mono, VK.mono, trivial⟩
  · exact ⟨VK.mono, VK.mono, VK.mono, VT.mono, VK.mono, VK.mono, VK.mono, VK.mono, VK.mono, VApB.mono, VK.mono, VK.mono, trivial⟩
theorem raY_on {B yb yq ycap n k : Nat} {ad : Addr} {len bcap : Nat} {L : List Bk} : ∀ (i : Nat) (v : Value) (w w' : World), i ≠ 9 → (raY B yb yq ycap n k ad len bcap L false).getD i VT v w → (raY B yb yq ycap n k ad len bcap L true).getD i VT v w'
  | 0, _, _, _, _, h => h
  | 1, _, _, _, _, h => h
  | 2, _, _, _, _, h => h
  | 3, _, _, _, _, _ => trivial
  | 4, _, _, _, _, h => h
  | 5, _, _, _, _, h => h
  | 6, _, _, _, _, h => h
  | 7, _, _, _, _, h => h
  | 8, _, _, _, _, h => h
  | 9, _, _, _, h, _ => absurd rfl h
  | 10, _, _, _, _, h => h
  | 11, _, _, _, _, h => h
  | _ + 12, _, _, _, _, _ => trivial
theorem blX_vals {u : Gr} {a : Option Addr} {c : Nat} : (blX u a c).vals = u.vals.set 4 (.slice a (u.blocks.length - 1) c) := by
  unfold blX Gr.vals
  simp only [List.length_take, List.set_cons_succ, List.set_cons_zero]
  rw [Nat.min_eq_left (by omega)]
end Go.Proofs.YtkmlhijnkilfpaaDoor.Fw
