/- Walk of programs of law07. Conditions: the packages' tables hold their lists. -/
import Derived.Test.YtiicjbnocpphdaaDoorCnD
import Derived.Test.YtiicjbnocpphdaaDoorCnF
import Derived.ArgAppend
set_option linter.unusedSimpArgs false
set_option linter.unusedVariables false
namespace Go.Proofs.YtiicjbnocpphdaaDoor.Cd
open Go Go.RowKit
open Go.Proofs.YtiicjbnocpphdaaDoor.Lx Go.Proofs.YtiicjbnocpphdaaDoor.Tr
open Go.Proofs.YtiicjbnocpphdaaDoor.Vq Go.Proofs.YtiicjbnocpphdaaDoor.Qr
open Go.Proofs.YtiicjbnocpphdaaDoor.Qg (run_call1 run_call2 run_call3)

theorem run_calld {P : Program} {a : Act} {o : Oper} {f : FuncId} {x : Operand} {t : Tmp} {ts : Array TypeId} {u : Value} {w : World}
    (ho : o.op = .call { callee := .value (.tmp t), args := #[x], argTypes := ts }) (hf : a.eval (.tmp t) = .func (_root_.Go.Fn.func f) #[] #[]) (hx : a.eval x = u) (hc : ∀ (xs : Array Value) (w : World), (callFunc f xs).run P w = .ok (.enter f xs) w) :
    (execOp a.eval o).run P w = .ok (.enter f #[u]) w := by
  have h := hc #[u] w
  unfold execOp
  simp [ho, hf, hx, resolve, invoke, Deferred.ofValue]
  simpa using h
theorem run_app {P : Program} {a : Act} {o : Oper} {x y : Operand} {t : TypeId} {u v r : Value} {w w' : World} (ho : o.op = .call { callee := .builtin .append, args := #[x, y], argTypes := #[t, t] }) (hx : a.eval x = u) (hy : a.eval y = v) (hr : (Builtin.append_ #[t, t] o.type #[u, v]).run P w = .ok r w') : (execOp a.eval o).run P w = .ok (.value r) w' := by
  unfold execOp
  simp [ho, hx, hy, resolve, invoke, builtin, hr]
def VL (v : Value) (w : World) : Prop := ∃ b, v = .slice (some ⟨b, 0, none⟩) 16384 16384 ∧ RowAt w (fun _ => True) (some ⟨b, 0, none⟩) 16384 16384 (inCells (List.replicate 16384 bk))
theorem VL.mono : Mono VL := fun _ _ _ hb ⟨b, h1, h2⟩ => ⟨b, h1, h2.below (Kps.of_below hb)⟩
theorem app_long {ty : TypeId} {v0 v1 : Value} {w : World} (h0 : VL v0 w) (h1 : VIs [bk] v1 w) :
    ∃ v' w', (Builtin.append_ #[40, 40] ty #[v0, v1]).run Tryd.prog w = .ok v' w' ∧ Ext w w' ∧ VIs (List.replicate 16384 bk ++ [bk]) v' w' := by
  obtain ⟨b, rfl, r0⟩ := h0
  obtain ⟨l, a, c, he, rfl, r1, i1⟩ := h1
  obtain ⟨x, rfl⟩ : ∃ x, l = [x] := by
    have := congrArg List.length he
    match l, this with
    | [x], _ => exact ⟨x, rfl⟩
  obtain ⟨b1, off1, rfl, _, _⟩ := in_row r1 0 x rfl
  obtain ⟨i0, hi0, hz0, hz1, hz2⟩ := info_n
  obtain ⟨v', w', hr, hown, hg⟩ := run_append_arg_grows (P := Tryd.prog) w 40 ty 31 i0 _ 6 64 Tryd.underlying40 hi0 hz0 hz1 hz2 rfl (by decide) ⟨b, 0, none⟩ 16384 16384 (inCells (List.replicate 16384 bk)) (by rw [in_len, List.length_replicate])
    (fun j u hj => by
      obtain ⟨b', o', e, _, hc⟩ := r0.at_ j u hj
      cases e
      rw [Go.WideShapes.add_plain]
      exact hc) ⟨b1, off1, none⟩ [x].length c (inCells [x]) (by rw [in_len])
    (fun j u hj => by
      obtain ⟨b', o', e, _, hc⟩ := r1.at_ j u hj
      cases e
      rw [Go.WideShapes.add_plain]
      exact hc) (by simp) (by unfold maxLen; simp) (by simp)
  have hE : Ext w w' := (Below.refl _ w).grown hg (Nat.le_refl _) (fun q e => by cases e)
  obtain ⟨a', c', rfl, row⟩ := row_own hown
  refine ⟨_, w', hr, hE, List.replicate 16384 bk ++ [x], a', c', by rw [List.map_append, he, List.map_replicate]; rfl, by rw [List.length_append, List.length_replicate], ?_, fun y hy => ?_⟩
  · rw [List.length_append, List.length_replicate]
    have e : inCells (List.replicate 16384 bk ++ [x]) = inCells (List.replicate 16384 bk) ++ inCells [x] := by unfold inCells; rw [List.flatMap_append]
    rw [e]
    exact row.mono (fun _ _ => trivial)
  · rcases List.mem_append.1 hy with hy | hy
    · rw [List.eq_of_mem_replicate hy]; exact back_In _ _
    · exact (i1 y hy).below (Kps.of_below hE)
def yesL : List Pg := [(⟨none, 0, [], none, 0, [], none, 0, []⟩ : Pg), (⟨none, 0, [], none, 0, (List.range 256).map lockNm, none, 0, []⟩ : Pg), (⟨none, 0, [], none, 0, [], none, 0, (List.range 16).map thrE⟩ : Pg), (⟨none, 0, [(⟨⟨#[97]⟩, 1024, (-5)⟩ : Mm)], none, 0, [], none, 0, []⟩ : Pg), (⟨none, 0, [], none, 0, [], none, 0, [(⟨⟨#[102]⟩, false, 8, 4096, none, 0, [bk]⟩ : Fn)]⟩ : Pg), (⟨none, 0, [], none, 0, [], none, 0, [(⟨⟨#[102]⟩, false, 0, 1, none, 0, (List.replicate 16384 bk)⟩ : Fn)]⟩ : Pg), (⟨none, 0, [], none, 0, [], none, 0, [(⟨⟨#[102]⟩, false, 0, 0, none, 0, [(⟨11, 0, 0, 0, 0, none, 0, []⟩ : Ins)]⟩ : Fn)]⟩ : Pg)]
def noL : List Pg := [(⟨none, 0, [], none, 0, (List.range 257).map lockNm, none, 0, []⟩ : Pg), (⟨none, 0, [], none, 0, [], none, 0, (List.range 17).map thrE⟩ : Pg), (⟨none, 0, [(⟨⟨#[97]⟩, 1025, 0⟩ : Mm)], none, 0, [], none, 0, []⟩ : Pg), (⟨none, 0, [(⟨⟨#[97]⟩, 0, 0⟩ : Mm)], none, 0, [], none, 0, []⟩ : Pg), (⟨none, 0, [], none, 0, [⟨#[105, 102]⟩], none, 0, []⟩ : Pg), (⟨none, 0, [], none, 0, [⟨#[97]⟩, ⟨#[97]⟩], none, 0, []⟩ : Pg), (⟨none, 0, [(⟨⟨#[97]⟩, 1, 0⟩ : Mm)], none, 0, [⟨#[97]⟩], none, 0, []⟩ : Pg), (⟨none, 0, [], none, 0, [⟨#[102]⟩], none, 0, [(⟨⟨#[102]⟩, false, 0, 1, none, 0, [bk]⟩ : Fn)]⟩ : Pg), (⟨none, 0, [], none, 0, [], none, 0, [(⟨⟨#[102]⟩, false, 9, 9, none, 0, [bk]⟩ : Fn)]⟩ : Pg), (⟨none, 0, [], none, 0, [], none, 0, [(⟨⟨#[102]⟩, false, (-1), 1, none, 0, [bk]⟩ : Fn)]⟩ : Pg), (⟨none, 0, [], none, 0, [], none, 0, [(⟨⟨#[102]⟩, false, 2, 1, none, 0, [bk]⟩ : Fn)]⟩ : Pg), (⟨none, 0, [], none, 0, [], none, 0, [(⟨⟨#[102]⟩, true, 1, 1, none, 0, [bk]⟩ : Fn)]⟩ : Pg), (⟨none, 0, [], none, 0, [], none, 0, [(⟨⟨#[102]⟩, false, 0, 4097, none, 0, [bk]⟩ : Fn)]⟩ : Pg), (⟨none, 0, [], none, 0, [], none, 0, [(⟨⟨#[102]⟩, false, 0, 0, none, 0, [bk]⟩ : Fn)]⟩ : Pg), (⟨none, 0, [], none, 0, [], none, 0, [(⟨⟨#[102]⟩, false, 0, 1, none, 0, []⟩ : Fn)]⟩ : Pg), (⟨none, 0, [], none, 0, [], none, 0, [(⟨⟨#[102]⟩, false, 0, 1, none, 0, ((List.replicate 16384 bk) ++ [bk])⟩ : Fn)]⟩ : Pg), (⟨none, 0, [], none, 0, [], none, 0, [(⟨⟨#[102]⟩, false, 0, 1, none, 0, [(⟨9, 0, 0, 0, 0, none, 0, []⟩ : Ins)]⟩ : Fn)]⟩ : Pg), (⟨none, 0, [], none, 0, [], none, 0, [(⟨⟨#[102]⟩, false, 0, 1, none, 0, [(⟨13, 0, 0, 0, 0, none, 0, []⟩ : Ins), (⟨99, 0, 0, 0, 0, none, 0, []⟩ : Ins), (⟨13, 0, 0, 0, 0, none, 0, []⟩ : Ins)]⟩ : Fn)]⟩ : Pg), (⟨none, 0, [], none, 0, [], none, 0, [(⟨⟨#[]⟩, false, 0, 1, none, 0, [bk]⟩ : Fn)]⟩ : Pg)]
theorem yes_may : ∀ p ∈ yesL, mayP p = true ∧ p.mems.length + p.locks.length + p.funs.length ≤ 1000 := by
  intro p hp
  unfold yesL at hp
  simp only [List.mem_cons, List.mem_nil_iff, or_false] at hp
  rcases hp with rfl | rfl | rfl | rfl | rfl | rfl | rfl
  · exact ⟨by kernel_rfl, by simp⟩
  · exact ⟨may_named, by simp⟩
  · exact ⟨may_threads, by simp⟩
  · exact ⟨by kernel_rfl, by simp⟩
  · exact ⟨by kernel_rfl, by simp⟩
  · exact ⟨may_long, by show 0 + 0 + 1 ≤ 1000; decide⟩
  · exact ⟨by kernel_rfl, by simp⟩
theorem no_may : ∀ p ∈ noL, mayP p = false ∧ p.mems.length + p.locks.length + p.funs.length ≤ 1000 := by
  intro p hp
  unfold noL at hp
  simp only [List.mem_cons, List.mem_nil_iff, or_false] at hp
  rcases hp with rfl | rfl | rfl | rfl | rfl | rfl | rfl | rfl | rfl | rfl | rfl | rfl | rfl | rfl | rfl | rfl | rfl | rfl | rfl
  · exact ⟨not_named, by simp⟩
  · exact ⟨not_threads, by simp⟩
  · exact ⟨by kernel_rfl, by simp⟩
  · exact ⟨by kernel_rfl, by simp⟩
  · exact ⟨by kernel_rfl, by simp⟩
  · exact ⟨by kernel_rfl, by simp⟩
  · exact ⟨by kernel_rfl, by simp⟩
  · exact ⟨by kernel_rfl, by simp⟩
  · exact ⟨by kernel_rfl, by simp⟩
  · exact ⟨by kernel_rfl, by simp⟩
  · exact ⟨by kernel_rfl, by simp⟩
  · exact ⟨by kernel_rfl, by simp⟩
  · exact ⟨by kernel_rfl, by simp⟩
  · exact ⟨by kernel_rfl, by simp⟩
  · exact ⟨by kernel_rfl, by simp⟩
  · exact ⟨not_long, by show 0 + 0 + 1 ≤ 1000; decide⟩
  · exact ⟨by kernel_rfl, by simp⟩
  · exact ⟨by kernel_rfl, by simp⟩
  · exact ⟨by kernel_rfl, by simp⟩
def rs8c : List (Value → World → Prop) := [VP (⟨none, 0, [], none, 0, [], none, 0, []⟩ : Pg),
  VP (⟨none, 0, [], none, 0, (List.range 256).map lockNm, none, 0, []⟩ : Pg),
  VP (⟨none, 0, [], none, 0, [], none, 0, (List.range 16).map thrE⟩ : Pg),
  VK (.agg #[.string ⟨#[97]⟩, .int .i64 1024, .int .i64 (-5)]),
  VMs [(⟨⟨#[97]⟩, 1024, (-5)⟩ : Mm)],
  VP (⟨none, 0, [(⟨⟨#[97]⟩, 1024, (-5)⟩ : Mm)], none, 0, [], none, 0, []⟩ : Pg),
  VK (Value.func (_root_.Go.Fn.func 28) #[] #[]),
  VIs [bk],
  VF (⟨⟨#[102]⟩, false, 8, 4096, none, 0, [bk]⟩ : Fn),
  VP (⟨none, 0, [], none, 0, [], none, 0, [(⟨⟨#[102]⟩, false, 8, 4096, none, 0, [bk]⟩ : Fn)]⟩ : Pg),
  VK (Value.func (_root_.Go.Fn.func 28) #[] #[]),
  VIs (List.replicate 16384 bk),
  VF (⟨⟨#[102]⟩, false, 0, 1, none, 0, (List.replicate 16384 bk)⟩ : Fn),
  VP (⟨none, 0, [], none, 0, [], none, 0, [(⟨⟨#[102]⟩, false, 0, 1, none, 0, (List.replicate 16384 bk)⟩ : Fn)]⟩ : Pg),
  VK (Value.func (_root_.Go.Fn.func 28) #[] #[]),
  VI (⟨11, 0, 0, 0, 0, none, 0, []⟩ : Ins),
  VIs [(⟨11, 0, 0, 0, 0, none, 0, []⟩ : Ins)],
  VF (⟨⟨#[102]⟩, false, 0, 0, none, 0, [(⟨11, 0, 0, 0, 0, none, 0, []⟩ : Ins)]⟩ : Fn),
  VP (⟨none, 0, [], none, 0, [], none, 0, [(⟨⟨#[102]⟩, false, 0, 0, none, 0, [(⟨11, 0, 0, 0, 0, none, 0, []⟩ : Ins)]⟩ : Fn)]⟩ : Pg),
  VPs [(⟨none, 0, [], none, 0, [], none, 0, []⟩ : Pg), (⟨none, 0, [], none, 0, (List.range 256).map lockNm, none, 0, []⟩ : Pg), (⟨none, 0, [], none, 0, [], none, 0, (List.range 16).map thrE⟩ : Pg), (⟨none, 0, [(⟨⟨#[97]⟩, 1024, (-5)⟩ : Mm)], none, 0, [], none, 0, []⟩ : Pg), (⟨none, 0, [], none, 0, [], none, 0, [(⟨⟨#[102]⟩, false, 8, 4096, none, 0, [bk]⟩ : Fn)]⟩ : Pg), (⟨none, 0, [], none, 0, [], none, 0, [(⟨⟨#[102]⟩, false, 0, 1, none, 0, (List.replicate 16384 bk)⟩ : Fn)]⟩ : Pg), (⟨none, 0, [], none, 0, [], none, 0, [(⟨⟨#[102]⟩, false, 0, 0, none, 0, [(⟨11, 0, 0, 0, 0, none, 0, []⟩ : Ins)]⟩ : Fn)]⟩ : Pg)],
  VPs [(⟨none, 0, [], none, 0, [], none, 0, []⟩ : Pg), (⟨none, 0, [], none, 0, (List.range 256).map lockNm, none, 0, []⟩ : Pg), (⟨none, 0, [], none, 0, [], none, 0, (List.range 16).map thrE⟩ : Pg), (⟨none, 0, [(⟨⟨#[97]⟩, 1024, (-5)⟩ : Mm)], none, 0, [], none, 0, []⟩ : Pg), (⟨none, 0, [], none, 0, [], none, 0, [(⟨⟨#[102]⟩, false, 8, 4096, none, 0, [bk]⟩ : Fn)]⟩ : Pg), (⟨none, 0, [], none, 0, [], none, 0, [(⟨⟨#[102]⟩, false, 0, 1, none, 0, (List.replicate 16384 bk)⟩ : Fn)]⟩ : Pg), (⟨none, 0, [], none, 0, [], none, 0, [(⟨⟨#[102]⟩, false, 0, 0, none, 0, [(⟨11, 0, 0, 0, 0, none, 0, []⟩ : Ins)]⟩ : Fn)]⟩ : Pg)]]
theorem rs8c_mono : MonoL rs8c := ⟨VP.mono, VP.mono, VP.mono, VK.mono, VMs.mono, VP.mono, VK.mono, VIs.mono, VF.mono, VP.mono, VK.mono, VIs.mono, VF.mono, VP.mono, VK.mono, VI.mono, VIs.mono, VF.mono, VP.mono, VPs.mono, VPs.mono, trivial⟩
def rs14c : List (Value → World → Prop) := [VP (⟨none, 0, [], none, 0, (List.range 257).map lockNm, none, 0, []⟩ : Pg),
  VP (⟨none, 0, [], none, 0, [], none, 0, (List.range 17).map thrE⟩ : Pg),
  VK (.agg #[.string ⟨#[97]⟩, .int .i64 1025, .int .i64 0]),
  VMs [(⟨⟨#[97]⟩, 1025, 0⟩ : Mm)],
  VP (⟨none, 0, [(⟨⟨#[97]⟩, 1025, 0⟩ : Mm)], none, 0, [], none, 0, []⟩ : Pg),
  VK (.agg #[.string ⟨#[97]⟩, .int .i64 0, .int .i64 0]),
  VMs [(⟨⟨#[97]⟩, 0, 0⟩ : Mm)],
  VP (⟨none, 0, [(⟨⟨#[97]⟩, 0, 0⟩ : Mm)], none, 0, [], none, 0, []⟩ : Pg),
  VSs [⟨#[105, 102]⟩],
  VP (⟨none, 0, [], none, 0, [⟨#[105, 102]⟩], none, 0, []⟩ : Pg),
  VSs [⟨#[97]⟩, ⟨#[97]⟩],
  VP (⟨none, 0, [], none, 0, [⟨#[97]⟩, ⟨#[97]⟩], none, 0, []⟩ : Pg),
  VSs [⟨#[97]⟩],
  VK (.agg #[.string ⟨#[97]⟩, .int .i64 1, .int .i64 0]),
  VMs [(⟨⟨#[97]⟩, 1, 0⟩ : Mm)],
  VP (⟨none, 0, [(⟨⟨#[97]⟩, 1, 0⟩ : Mm)], none, 0, [⟨#[97]⟩], none, 0, []⟩ : Pg),
  VSs [⟨#[102]⟩],
  VIs [bk],
  VF (⟨⟨#[102]⟩, false, 0, 1, none, 0, [bk]⟩ : Fn),
  VFs [(⟨⟨#[102]⟩, false, 0, 1, none, 0, [bk]⟩ : Fn)],
  VP (⟨none, 0, [], none, 0, [⟨#[102]⟩], none, 0, [(⟨⟨#[102]⟩, false, 0, 1, none, 0, [bk]⟩ : Fn)]⟩ : Pg),
  VK (Value.func (_root_.Go.Fn.func 28) #[] #[]),
  VIs [bk],
  VF (⟨⟨#[102]⟩, false, 9, 9, none, 0, [bk]⟩ : Fn),
  VP (⟨none, 0, [], none, 0, [], none, 0, [(⟨⟨#[102]⟩, false, 9, 9, none, 0, [bk]⟩ : Fn)]⟩ : Pg),
  VK (Value.func (_root_.Go.Fn.func 28) #[] #[]),
  VIs [bk],
  VF (⟨⟨#[102]⟩, false, (-1), 1, none, 0, [bk]⟩ : Fn),
  VP (⟨none, 0, [], none, 0, [], none, 0, [(⟨⟨#[102]⟩, false, (-1), 1, none, 0, [bk]⟩ : Fn)]⟩ : Pg),
  VK (Value.func (_root_.Go.Fn.func 28) #[] #[]),
  VIs [bk],
  VF (⟨⟨#[102]⟩, false, 2, 1, none, 0, [bk]⟩ : Fn),
  VP (⟨none, 0, [], none, 0, [], none, 0, [(⟨⟨#[102]⟩, false, 2, 1, none, 0, [bk]⟩ : Fn)]⟩ : Pg),
  VK (Value.func (_root_.Go.Fn.func 28) #[] #[]),
  VIs [bk],
  VF (⟨⟨#[102]⟩, true, 1, 1, none, 0, [bk]⟩ : Fn),
  VP (⟨none, 0, [], none, 0, [], none, 0, [(⟨⟨#[102]⟩, true, 1, 1, none, 0, [bk]⟩ : Fn)]⟩ : Pg),
  VK (Value.func (_root_.Go.Fn.func 28) #[] #[]),
  VIs [bk],
  VF (⟨⟨#[102]⟩, false, 0, 4097, none, 0, [bk]⟩ : Fn),
  VP (⟨none, 0, [], none, 0, [], none, 0, [(⟨⟨#[102]⟩, false, 0, 4097, none, 0, [bk]⟩ : Fn)]⟩ : Pg),
  VK (Value.func (_root_.Go.Fn.func 28) #[] #[]),
  VIs [bk],
  VF (⟨⟨#[102]⟩, false, 0, 0, none, 0, [bk]⟩ : Fn),
  VP (⟨none, 0, [], none, 0, [], none, 0, [(⟨⟨#[102]⟩, false, 0, 0, none, 0, [bk]⟩ : Fn)]⟩ : Pg),
  VK (Value.func (_root_.Go.Fn.func 28) #[] #[]),
  VF (⟨⟨#[102]⟩, false, 0, 1, none, 0, []⟩ : Fn),
  VP (⟨none, 0, [], none, 0, [], none, 0, [(⟨⟨#[102]⟩, false, 0, 1, none, 0, []⟩ : Fn)]⟩ : Pg),
  VK (Value.func (_root_.Go.Fn.func 28) #[] #[]),
  VL ,
  VIs [bk],
  VIs ((List.replicate 16384 bk) ++ [bk]),
  VF (⟨⟨#[102]⟩, false, 0, 1, none, 0, ((List.replicate 16384 bk) ++ [bk])⟩ : Fn),
  VP (⟨none, 0, [], none, 0, [], none, 0, [(⟨⟨#[102]⟩, false, 0, 1, none, 0, ((List.replicate 16384 bk) ++ [bk])⟩ : Fn)]⟩ : Pg),
  VK (Value.func (_root_.Go.Fn.func 28) #[] #[]),
  VI (⟨9, 0, 0, 0, 0, none, 0, []⟩ : Ins),
  VIs [(⟨9, 0, 0, 0, 0, none, 0, []⟩ : Ins)],
  VF (⟨⟨#[102]⟩, false, 0, 1, none, 0, [(⟨9, 0, 0, 0, 0, none, 0, []⟩ : Ins)]⟩ : Fn),
  VP (⟨none, 0, [], none, 0, [], none, 0, [(⟨⟨#[102]⟩, false, 0, 1, none, 0, [(⟨9, 0, 0, 0, 0, none, 0, []⟩ : Ins)]⟩ : Fn)]⟩ : Pg),
  VK (Value.func (_root_.Go.Fn.func 28) #[] #[]),
  VI (⟨13, 0, 0, 0, 0, none, 0, []⟩ : Ins),
  VI (⟨99, 0, 0, 0, 0, none, 0, []⟩ : Ins),
  VI (⟨13, 0, 0, 0, 0, none, 0, []⟩ : Ins),
  VIs [(⟨13, 0, 0, 0, 0, none, 0, []⟩ : Ins), (⟨99, 0, 0, 0, 0, none, 0, []⟩ : Ins), (⟨13, 0, 0, 0, 0, none, 0, []⟩ : Ins)],
  VF (⟨⟨#[102]⟩, false, 0, 1, none, 0, [(⟨13, 0, 0, 0, 0, none, 0, []⟩ : Ins), (⟨99, 0, 0, 0, 0, none, 0, []⟩ : Ins), (⟨13, 0, 0, 0, 0, none, 0, []⟩ : Ins)]⟩ : Fn),
  VP (⟨none, 0, [], none, 0, [], none, 0, [(⟨⟨#[102]⟩, false, 0, 1, none, 0, [(⟨13, 0, 0, 0, 0, none, 0, []⟩ : Ins), (⟨99, 0, 0, 0, 0, none, 0, []⟩ : Ins), (⟨13, 0, 0, 0, 0, none, 0, []⟩ : Ins)]⟩ : Fn)]⟩ : Pg),
  VK (Value.func (_root_.Go.Fn.func 28) #[] #[]),
  VIs [bk],
  VF (⟨⟨#[]⟩, false, 0, 1, none, 0, [bk]⟩ : Fn),
  VP (⟨none, 0, [], none, 0, [], none, 0, [(⟨⟨#[]⟩, false, 0, 1, none, 0, [bk]⟩ : Fn)]⟩ : Pg),
  VPs [(⟨none, 0, [], none, 0, (List.range 257).map lockNm, none, 0, []⟩ : Pg), (⟨none, 0, [], none, 0, [], none, 0, (List.range 17).map thrE⟩ : Pg), (⟨none, 0, [(⟨⟨#[97]⟩, 1025, 0⟩ : Mm)], none, 0, [], none, 0, []⟩ : Pg), (⟨none, 0, [(⟨⟨#[97]⟩, 0, 0⟩ : Mm)], none, 0, [], none, 0, []⟩ : Pg), (⟨none, 0, [], none, 0, [⟨#[105, 102]⟩], none, 0, []⟩ : Pg), (⟨none, 0, [], none, 0, [⟨#[97]⟩, ⟨#[97]⟩], none, 0, []⟩ : Pg), (⟨none, 0, [(⟨⟨#[97]⟩, 1, 0⟩ : Mm)], none, 0, [⟨#[97]⟩], none, 0, []⟩ : Pg), (⟨none, 0, [], none, 0, [⟨#[102]⟩], none, 0, [(⟨⟨#[102]⟩, false, 0, 1, none, 0, [bk]⟩ : Fn)]⟩ : Pg), (⟨none, 0, [], none, 0, [], none, 0, [(⟨⟨#[102]⟩, false, 9, 9, none, 0, [bk]⟩ : Fn)]⟩ : Pg), (⟨none, 0, [], none, 0, [], none, 0, [(⟨⟨#[102]⟩, false, (-1), 1, none, 0, [bk]⟩ : Fn)]⟩ : Pg), (⟨none, 0, [], none, 0, [], none, 0, [(⟨⟨#[102]⟩, false, 2, 1, none, 0, [bk]⟩ : Fn)]⟩ : Pg), (⟨none, 0, [], none, 0, [], none, 0, [(⟨⟨#[102]⟩, true, 1, 1, none, 0, [bk]⟩ : Fn)]⟩ : Pg), (⟨none, 0, [], none, 0, [], none, 0, [(⟨⟨#[102]⟩, false, 0, 4097, none, 0, [bk]⟩ : Fn)]⟩ : Pg), (⟨none, 0, [], none, 0, [], none, 0, [(⟨⟨#[102]⟩, false, 0, 0, none, 0, [bk]⟩ : Fn)]⟩ : Pg), (⟨none, 0, [], none, 0, [], none, 0, [(⟨⟨#[102]⟩, false, 0, 1, none, 0, []⟩ : Fn)]⟩ : Pg), (⟨none, 0, [], none, 0, [], none, 0, [(⟨⟨#[102]⟩, false, 0, 1, none, 0, ((List.replicate 16384 bk) ++ [bk])⟩ : Fn)]⟩ : Pg), (⟨none, 0, [], none, 0, [], none, 0, [(⟨⟨#[102]⟩, false, 0, 1, none, 0, [(⟨9, 0, 0, 0, 0, none, 0, []⟩ : Ins)]⟩ : Fn)]⟩ : Pg), (⟨none, 0, [], none, 0, [], none, 0, [(⟨⟨#[102]⟩, false, 0, 1, none, 0, [(⟨13, 0, 0, 0, 0, none, 0, []⟩ : Ins), (⟨99, 0, 0, 0, 0, none, 0, []⟩ : Ins), (⟨13, 0, 0, 0, 0, none, 0, []⟩ : Ins)]⟩ : Fn)]⟩ : Pg), (⟨none, 0, [], none, 0, [], none, 0, [(⟨⟨#[]⟩, false, 0, 1, none, 0, [bk]⟩ : Fn)]⟩ : Pg)],
  VPs [(⟨none, 0, [], none, 0, (List.range 257).map lockNm, none, 0, []⟩ : Pg), (⟨none, 0, [], none, 0, [], none, 0, (List.range 17).map thrE⟩ : Pg), (⟨none, 0, [(⟨⟨#[97]⟩, 1025, 0⟩ : Mm)], none, 0, [], none, 0, []⟩ : Pg), (⟨none, 0, [(⟨⟨#[97]⟩, 0, 0⟩ : Mm)], none, 0, [], none, 0, []⟩ : Pg), (⟨none, 0, [], none, 0, [⟨#[105, 102]⟩], none, 0, []⟩ : Pg), (⟨none, 0, [], none, 0, [⟨#[97]⟩, ⟨#[97]⟩], none, 0, []⟩ : Pg), (⟨none, 0, [(⟨⟨#[97]⟩, 1, 0⟩ : Mm)], none, 0, [⟨#[97]⟩], none, 0, []⟩ : Pg), (⟨none, 0, [], none, 0, [⟨#[102]⟩], none, 0, [(⟨⟨#[102]⟩, false, 0, 1, none, 0, [bk]⟩ : Fn)]⟩ : Pg), (⟨none, 0, [], none, 0, [], none, 0, [(⟨⟨#[102]⟩, false, 9, 9, none, 0, [bk]⟩ : Fn)]⟩ : Pg), (⟨none, 0, [], none, 0, [], none, 0, [(⟨⟨#[102]⟩, false, (-1), 1, none, 0, [bk]⟩ : Fn)]⟩ : Pg), (⟨none, 0, [], none, 0, [], none, 0, [(⟨⟨#[102]⟩, false, 2, 1, none, 0, [bk]⟩ : Fn)]⟩ : Pg), (⟨none, 0, [], none, 0, [], none, 0, [(⟨⟨#[102]⟩, true, 1, 1, none, 0, [bk]⟩ : Fn)]⟩ : Pg), (⟨none, 0, [], none, 0, [], none, 0, [(⟨⟨#[102]⟩, false, 0, 4097, none, 0, [bk]⟩ : Fn)]⟩ : Pg), (⟨none, 0, [], none, 0, [], none, 0, [(⟨⟨#[102]⟩, false, 0, 0, none, 0, [bk]⟩ : Fn)]⟩ : Pg), (⟨none, 0, [], none, 0, [], none, 0, [(⟨⟨#[102]⟩, false, 0, 1, none, 0, []⟩ : Fn)]⟩ : Pg), (⟨none, 0, [], none, 0, [], none, 0, [(⟨⟨#[102]⟩, false, 0, 1, none, 0, ((List.replicate 16384 bk) ++ [bk])⟩ : Fn)]⟩ : Pg), (⟨none, 0, [], none, 0, [], none, 0, [(⟨⟨#[102]⟩, false, 0, 1, none, 0, [(⟨9, 0, 0, 0, 0, none, 0, []⟩ : Ins)]⟩ : Fn)]⟩ : Pg), (⟨none, 0, [], none, 0, [], none, 0, [(⟨⟨#[102]⟩, false, 0, 1, none, 0, [(⟨13, 0, 0, 0, 0, none, 0, []⟩ : Ins), (⟨99, 0, 0, 0, 0, none, 0, []⟩ : Ins), (⟨13, 0, 0, 0, 0, none, 0, []⟩ : Ins)]⟩ : Fn)]⟩ : Pg), (⟨none, 0, [], none, 0, [], none, 0, [(⟨⟨#[]⟩, false, 0, 1, none, 0, [bk]⟩ : Fn)]⟩ : Pg)]]
theorem rs14c_mono : MonoL rs14c := ⟨VP.mono, VP.mono, VK.mono, VMs.mono, VP.mono, VK.mono, VMs.mono, VP.mono, VSs.mono, VP.mono, VSs.mono, VP.mono, VSs.mono, VK.mono, VMs.mono, VP.mono, VSs.mono, VIs.mono, VF.mono, VFs.mono, VP.mono, VK.mono, VIs.mono, VF.mono, VP.mono, VK.mono, VIs.mono, VF.mono, VP.mono, VK.mono, VIs.mono, VF.mono, VP.mono, VK.mono, VIs.mono, VF.mono, VP.mono, VK.mono, VIs.mono, VF.mono, VP.mono, VK.mono, VIs.mono, VF.mono, VP.mono, VK.mono, VF.mono, VP.mono, VK.mono, VL.mono, VIs.mono, VIs.mono, VF.mono, VP.mono, VK.mono, VI.mono, VIs.mono, VF.mono, VP.mono, VK.mono, VI.mono, VI.mono, VI.mono, VIs.mono, VF.mono, VP.mono, VK.mono, VIs.mono, VF.mono, VP.mono, VPs.mono, VPs.mono, trivial⟩
set_option maxHeartbeats 8000000 in
set_option maxRecDepth 100000 in
theorem programs_c (w : World) (hT : OpTab w) (hsg : SignsIn w) :
    Calls Tryd.prog 10 #[] w fun e w' => e = .returned (.bool true) ∧ Below w.heap.size w w' := by
  obtain ⟨cur, hmk, hcur⟩ := make_long
  replace hcur := Lib.hid hcur
  go_enter Tryd.func10, Tryd.ntmps10
  go_wp2_with fail
  have hW1 : (w.alloc (.cells ⟨bk.vals⟩ 31)).heap.size = w.heap.size + 1 := by simp
  have hbk := blk_new w (.cells ⟨bk.vals⟩ 31) rfl
  have hbw := b_alloc w (.cells ⟨bk.vals⟩ 31)
  have hlg := blk_new (w.alloc (.cells ⟨bk.vals⟩ 31)) (.cells cur 31) hW1
  have hR0 : OwnR ((w.alloc (.cells ⟨bk.vals⟩ 31)).alloc (.cells cur 31)) 31 (w.heap.size + 1) 16384 16384 (inCells (lngL 0)) := ⟨⟨cur, hlg, hcur.out⟩, Nat.le_refl _, by unfold maxLen; decide⟩
  have hal := b_alloc (w.alloc (.cells ⟨bk.vals⟩ 31)) (.cells cur 31)
  simp only [bk, Ins.vals] at hW1 hbk hbw hR0 hal
  obtain ⟨W1, hW1e⟩ : ∃ W1, w.alloc (.cells #[.int .u8 13, .int .i64 0, .int .i64 0, .int .i64 0, .int .i64 0, .slice none 0 0] 31) = W1 := ⟨_, rfl⟩
  go_loopw [3] (fun i wr => ∃ k : Nat, k ≤ 16384 ∧ i = .int .i64 k ∧ Hid (OwnR wr 31 (w.heap.size + 1) 16384 16384 (inCells (lngL k))) ∧ Hid (Below (w.heap.size + 1) (w.alloc (.cells #[.int .u8 13, .int .i64 0, .int .i64 0, .int .i64 0, .int .i64 0, .slice none 0 0] 31)) wr)) (fun i _ => 16384 - (intOf i).toNat)
  case atStart => exact ⟨0, by omega, rfl, Lib.hid hR0, Lib.hid (by have := hal; rw [hW1] at this; exact this)⟩
  case round =>
    clear hlg hcur hmk
    obtain ⟨k, hk, rfl, hR, hb⟩ := hrel
    by_cases hkl : k < 16384
    · have hk1 : (k : Int) < (16384 : Int) := by omega
      have hk0 : (0 : Int) ≤ (k : Int) := by omega
      have hy := lng_get hkl
      have c0 := hR.out.cell (show (inCells (lngL k))[k * 6]? = some (.int .u8 0) from flat_at Ins.vals 6 Ins.vals_len _ k 0 zi hy (by omega))
      have c1 := hR.out.cell (show (inCells (lngL k))[k * 6 + 1]? = some (.int .i64 0) from flat_at Ins.vals 6 Ins.vals_len _ k 1 zi hy (by omega))
      have c2 := hR.out.cell (show (inCells (lngL k))[k * 6 + 2]? = some (.int .i64 0) from flat_at Ins.vals 6 Ins.vals_len _ k 2 zi hy (by omega))
      have c3 := hR.out.cell (show (inCells (lngL k))[k * 6 + 3]? = some (.int .i64 0) from flat_at Ins.vals 6 Ins.vals_len _ k 3 zi hy (by omega))
      have c4 := hR.out.cell (show (inCells (lngL k))[k * 6 + 4]? = some (.int .i64 0) from flat_at Ins.vals 6 Ins.vals_len _ k 4 zi hy (by omega))
      have c5 := hR.out.cell (show (inCells (lngL k))[k * 6 + 5]? = some (.slice none 0 0) from flat_at Ins.vals 6 Ins.vals_len _ k 5 zi hy (by omega))
      obtain ⟨c0, d0⟩ := c0
      obtain ⟨c1, d1⟩ := c1
      obtain ⟨c2, d2⟩ := c2
      obtain ⟨c3, d3⟩ := c3
      obtain ⟨c4, d4⟩ := c4
      obtain ⟨c5, d5⟩ := c5
      have hRn := store6_own bk hR.out hy
      rw [lng_set hkl] at hRn
      replace hRn := Lib.hid hRn
      have hbn := Lib.hid (store6_below (g := w.heap.size + 1) hb.out (Nat.le_refl _) (k * 6) (k * 6 + 1) (k * 6 + 2) (k * 6 + 3) (k * 6 + 4) (k * 6 + 5) (.int .u8 13) (.int .i64 0) (.int .i64 0) (.int .i64 0) (.int .i64 0) (.slice none 0 0))
      clear hy hR hb
      go_wp2_with fail
      go_roundw
      case rel => exact ⟨k + 1, by omega, by go_num, hRn, hbn⟩
      case measure => simp [intOf]; omega
    · have hk1 : ¬ (k : Int) < (16384 : Int) := by omega
      obtain rfl : k = 16384 := by omega
      go_upto_region 8 with fail
      rename World => W8
      have hbW := hb.out
      have hbackb : W8.heap[w.heap.size]? = _ := (hbW.block _ (by simp)).trans hbk
      have hRl := hR.out
      rw [lng_end] at hRl
      have hbw8 : Hid (Below w.heap.size w W8) := Lib.hid (hbw.trans (hbW.mono (by omega)))
      have hbV : Hid (∀ V, Below W8.heap.size W8 V → VIs [bk] (.slice (some ⟨w.heap.size, 0, none⟩) 1 1) V) := Lib.hid fun V hV => ⟨[bk], some ⟨w.heap.size, 0, none⟩, 1, rfl, rfl, row_blk (vs := inCells [bk]) 1 ((hV.block _ (Array.getElem?_eq_some_iff.1 hbackb).1).trans hbackb) (by decide) trivial, fun i hi => by rw [List.mem_singleton.1 hi]; exact back_In _ _⟩
      have hlV : Hid (∀ V, Below W8.heap.size W8 V → VIs (List.replicate 16384 bk) (.slice (some ⟨w.heap.size + 1, 0, none⟩) 16384 16384) V) := Lib.hid fun V hV => ⟨List.replicate 16384 bk, some ⟨w.heap.size + 1, 0, none⟩, 16384, by rw [List.map_replicate]; rfl, by rw [List.length_replicate], by rw [List.length_replicate]; exact (hRl.keep (hV.block _ hRl.lt)).row, fun i hi => by rw [List.eq_of_mem_replicate hi]; exact back_In _ _⟩
      have hLV : Hid (∀ V, Below W8.heap.size W8 V → VL (.slice (some ⟨w.heap.size + 1, 0, none⟩) 16384 16384) V) := Lib.hid fun V hV => ⟨w.heap.size + 1, rfl, (hRl.keep (hV.block _ hRl.lt)).row⟩
      have hTV : Hid (∀ V, Below w.heap.size w V → OpTab V ∧ SignsIn V) := Lib.hid fun V hV => ⟨hT.keep hV, hsg.below hsg.lt hV⟩
      clear hT hsg hR0 hal hW1 hbk hbw hR hb hbackb hRl hbW
      refine wp_region_rel_text (C := fun V => Below W8.heap.size W8 V) (E := Ext) (R := fun j => rs8c.getD j VT) (Below.refl _ _) (by kernel_rfl) (fun j v w' w'' _ hE h => mono_get _ j rs8c_mono v w' w'' hE h) (steps_all ?hs8) ?hend8
      case hs8 =>
        refine stepsL_cons (s_val fun a w hC hs => ?_) ?_
        · skip
          exact ⟨wanted_none rfl, _, run_b (qs := #[]) rfl (by simp) (by kernel_rfl), mk_pg mms_nil strs_nil fns_nil⟩
        refine stepsL_cons (s_call fun a w hC hs => ?_) ?_
        · skip
          refine ⟨wanted_none rfl, 29, _, run_call1 rfl (ev_const _) (fun _ _ => rfl), (named_any 256 w (by omega)).mono ?_⟩
          rintro e w' ⟨v, rfl, hv, hb⟩
          exact ⟨_, rfl, hC.trans (hb.mono hC.size), hb, hv⟩
        refine stepsL_cons (s_call fun a w hC hs => ?_) ?_
        · skip
          refine ⟨wanted_none rfl, 30, _, run_call1 rfl (ev_const _) (fun _ _ => rfl), (thr_any 16 w (by omega)).mono ?_⟩
          rintro e w' ⟨v, rfl, hv, hb⟩
          exact ⟨_, rfl, hC.trans (hb.mono hC.size), hb, hv⟩
        refine stepsL_cons (s_val fun a w hC hs => ?_) ?_
        · skip
          exact ⟨wanted_none rfl, _, run_b (qs := #[(0, .string ⟨#[97]⟩), (1, .int .i64 1024), (2, .int .i64 (-5))]) rfl (by simp [ev_const]) (by kernel_rfl), rfl⟩
        refine stepsL_cons (s_new fun a w hC hs => ?_) ?_
        · skip
          obtain ⟨v0, hv0, hR0⟩ := got_of hs 3 25 (by kernel_rfl) (by rfl)
          replace hR0 : VK (.agg #[.string ⟨#[97]⟩, .int .i64 1024, .int .i64 (-5)]) v0 w := hR0
          replace hR0 : v0 = _ := hR0
          subst hR0
          exact ⟨wanted_none rfl, _, w.alloc (.cells ⟨mmCells [(⟨⟨#[97]⟩, 1024, (-5)⟩ : Mm)]⟩ 50), run_bs (qs := #[(0, .agg #[.string ⟨#[97]⟩, .int .i64 1024, .int .i64 (-5)])]) rfl (by simp [ev hv0]) (by kernel_rfl), hC.trans ((Ext.al w _).mono hC.size), Ext.al w _, mms_new (T := 50) [(⟨⟨#[97]⟩, 1024, (-5)⟩ : Mm)] (by simp) (by intro x hx; simp only [List.mem_cons, List.mem_nil_iff, or_false] at hx; rcases hx with rfl <;> exact ⟨by unfold maxLen; decide, by unfold I64; decide, by unfold I64; decide⟩)⟩
        refine stepsL_cons (s_val fun a w hC hs => ?_) ?_
        · skip
          obtain ⟨v0, hv0, hR0⟩ := got_of hs 4 26 (by kernel_rfl) (by rfl)
          replace hR0 : VMs [(⟨⟨#[97]⟩, 1024, (-5)⟩ : Mm)] v0 w := hR0
          obtain ⟨a0, c0, rfl, r0, i0⟩ := hR0
          exact ⟨wanted_none rfl, _, run_b (qs := #[(0, .slice a0 ([(⟨⟨#[97]⟩, 1024, (-5)⟩ : Mm)] : List Mm).length c0)]) rfl (by simp [ev hv0]) (by kernel_rfl), mk_pg ⟨a0, c0, rfl, r0, i0⟩ strs_nil fns_nil⟩
        refine stepsL_cons (s_val fun a w hC hs => ?_) ?_
        · skip
          have ho := old_of hs 4 (by kernel_rfl) (by rfl)
          exact ⟨wanted_none rfl, _, run_mv (Or.inl rfl) (ev ho), rfl⟩
        refine stepsL_cons (s_val fun a w hC hs => ?_) ?_
        · skip
          have ho := old_of hs 1 (by kernel_rfl) (by rfl)
          exact ⟨wanted_none rfl, _, run_mv (Or.inl rfl) (ev ho), hbV.out w hC⟩
        refine stepsL_cons (s_val fun a w hC hs => ?_) ?_
        · skip
          obtain ⟨v4, hv4, hR4⟩ := got_of hs 7 29 (by kernel_rfl) (by rfl)
          replace hR4 : VIs [bk] v4 w := hR4
          obtain ⟨l4, a4, c4, e4, rfl, r4, i4⟩ := hR4
          exact ⟨wanted_none rfl, _, run_b (qs := #[(0, .string ⟨#[102]⟩), (2, .int .i64 8), (3, .int .i64 4096), (4, .slice a4 l4.length c4)]) rfl (by simp [ev_const, ev hv4]) (by kernel_rfl), mk_fn (by unfold maxLen; decide) (by unfold I64; omega) (by unfold I64; omega) ⟨l4, a4, c4, e4, rfl, r4, i4⟩⟩
        refine stepsL_cons (s_call fun a w hC hs => ?_) ?_
        · skip
          obtain ⟨v0, hv0, hR0⟩ := got_of hs 6 28 (by kernel_rfl) (by rfl)
          replace hR0 : VK (Value.func (_root_.Go.Fn.func 28) #[] #[]) v0 w := hR0
          replace hR0 : v0 = _ := hR0
          subst hR0
          obtain ⟨v1, hv1, hR1⟩ := got_of hs 8 30 (by kernel_rfl) (by rfl)
          replace hR1 : VF (⟨⟨#[102]⟩, false, 8, 4096, none, 0, [bk]⟩ : Fn) v1 w := hR1
          obtain ⟨j1, he1, rfl, hi1⟩ := hR1
          refine ⟨wanted_none rfl, 28, _, run_calld rfl (ev hv0) (ev hv1) (fun _ _ => rfl), (fun_any j1 w hi1).mono ?_⟩
          rintro e w' ⟨v, rfl, hv, hb⟩
          rw [he1] at hv
          exact ⟨_, rfl, hC.trans (hb.mono hC.size), hb, hv⟩
        refine stepsL_cons (s_val fun a w hC hs => ?_) ?_
        · skip
          have ho := old_of hs 4 (by kernel_rfl) (by rfl)
          exact ⟨wanted_none rfl, _, run_mv (Or.inl rfl) (ev ho), rfl⟩
        refine stepsL_cons (s_val fun a w hC hs => ?_) ?_
        · skip
          have ho := old_of hs 2 (by kernel_rfl) (by rfl)
          exact ⟨wanted_none rfl, _, run_mv (Or.inl rfl) (ev ho), hlV.out w hC⟩
        refine stepsL_cons (s_val fun a w hC hs => ?_) ?_
        · skip
          obtain ⟨v4, hv4, hR4⟩ := got_of hs 11 33 (by kernel_rfl) (by rfl)
          replace hR4 : VIs (List.replicate 16384 bk) v4 w := hR4
          obtain ⟨l4, a4, c4, e4, rfl, r4, i4⟩ := hR4
          exact ⟨wanted_none rfl, _, run_b (qs := #[(0, .string ⟨#[102]⟩), (3, .int .i64 1), (4, .slice a4 l4.length c4)]) rfl (by simp [ev_const, ev hv4]) (by kernel_rfl), mk_fn (by unfold maxLen; decide) (by unfold I64; omega) (by unfold I64; omega) ⟨l4, a4, c4, e4, rfl, r4, i4⟩⟩
        refine stepsL_cons (s_call fun a w hC hs => ?_) ?_
        · skip
          obtain ⟨v0, hv0, hR0⟩ := got_of hs 10 32 (by kernel_rfl) (by rfl)
          replace hR0 : VK (Value.func (_root_.Go.Fn.func 28) #[] #[]) v0 w := hR0
          replace hR0 : v0 = _ := hR0
          subst hR0
          obtain ⟨v1, hv1, hR1⟩ := got_of hs 12 34 (by kernel_rfl) (by rfl)
          replace hR1 : VF (⟨⟨#[102]⟩, false, 0, 1, none, 0, (List.replicate 16384 bk)⟩ : Fn) v1 w := hR1
          obtain ⟨j1, he1, rfl, hi1⟩ := hR1
          refine ⟨wanted_none rfl, 28, _, run_calld rfl (ev hv0) (ev hv1) (fun _ _ => rfl), (fun_any j1 w hi1).mono ?_⟩
          rintro e w' ⟨v, rfl, hv, hb⟩
          rw [he1] at hv
          exact ⟨_, rfl, hC.trans (hb.mono hC.size), hb, hv⟩
        refine stepsL_cons (s_val fun a w hC hs => ?_) ?_
        · skip
          have ho := old_of hs 4 (by kernel_rfl) (by rfl)
          exact ⟨wanted_none rfl, _, run_mv (Or.inl rfl) (ev ho), rfl⟩
        refine stepsL_cons (s_val fun a w hC hs => ?_) ?_
        · skip
          exact ⟨wanted_none rfl, _, run_b (qs := #[(0, .int .u8 11)]) rfl (by simp [ev_const]) (by kernel_rfl), mk_in (by unfold U8; omega) (by unfold I64; omega) (by unfold I64; omega) (by unfold I64; omega) (by unfold I64; omega) nums_nil⟩
        refine stepsL_cons (s_new fun a w hC hs => ?_) ?_
        · skip
          obtain ⟨v0, hv0, hR0⟩ := got_of hs 15 37 (by kernel_rfl) (by rfl)
          replace hR0 : VI (⟨11, 0, 0, 0, 0, none, 0, []⟩ : Ins) v0 w := hR0
          obtain ⟨j0, he0, rfl, hi0⟩ := hR0
          exact ⟨wanted_none rfl, _, w.alloc (.cells ⟨inCells [j0]⟩ 31), run_bs (qs := #[(0, .agg ⟨j0.vals⟩)]) rfl (by simp [ev hv0]) (by kernel_rfl), hC.trans ((Ext.al w _).mono hC.size), Ext.al w _, inss_new (T := 31) (xs := [(⟨11, 0, 0, 0, 0, none, 0, []⟩ : Ins)]) [j0] (by simp only [List.map_cons, List.map_nil, he0]) (by simp) (fun x hx => by simp only [List.mem_cons, List.mem_nil_iff, or_false] at hx; rcases hx with rfl; exact hi0)⟩
        refine stepsL_cons (s_val fun a w hC hs => ?_) ?_
        · skip
          obtain ⟨v4, hv4, hR4⟩ := got_of hs 16 38 (by kernel_rfl) (by rfl)
          replace hR4 : VIs [(⟨11, 0, 0, 0, 0, none, 0, []⟩ : Ins)] v4 w := hR4
          obtain ⟨l4, a4, c4, e4, rfl, r4, i4⟩ := hR4
          exact ⟨wanted_none rfl, _, run_b (qs := #[(0, .string ⟨#[102]⟩), (4, .slice a4 l4.length c4)]) rfl (by simp [ev_const, ev hv4]) (by kernel_rfl), mk_fn (by unfold maxLen; decide) (by unfold I64; omega) (by unfold I64; omega) ⟨l4, a4, c4, e4, rfl, r4, i4⟩⟩
        refine stepsL_cons (s_call fun a w hC hs => ?_) ?_
        · skip
          obtain ⟨v0, hv0, hR0⟩ := got_of hs 14 36 (by kernel_rfl) (by rfl)
          replace hR0 : VK (Value.func (_root_.Go.Fn.func 28) #[] #[]) v0 w := hR0
          replace hR0 : v0 = _ := hR0
          subst hR0
          obtain ⟨v1, hv1, hR1⟩ := got_of hs 17 39 (by kernel_rfl) (by rfl)
          replace hR1 : VF (⟨⟨#[102]⟩, false, 0, 0, none, 0, [(⟨11, 0, 0, 0, 0, none, 0, []⟩ : Ins)]⟩ : Fn) v1 w := hR1
          obtain ⟨j1, he1, rfl, hi1⟩ := hR1
          refine ⟨wanted_none rfl, 28, _, run_calld rfl (ev hv0) (ev hv1) (fun _ _ => rfl), (fun_any j1 w hi1).mono ?_⟩
          rintro e w' ⟨v, rfl, hv, hb⟩
          rw [he1] at hv
          exact ⟨_, rfl, hC.trans (hb.mono hC.size), hb, hv⟩
        refine stepsL_cons (s_new fun a w hC hs => ?_) ?_
        · skip
          obtain ⟨v0, hv0, hR0⟩ := got_of hs 0 22 (by kernel_rfl) (by rfl)
          replace hR0 : VP (⟨none, 0, [], none, 0, [], none, 0, []⟩ : Pg) v0 w := hR0
          obtain ⟨j0, he0, rfl, hi0⟩ := hR0
          obtain ⟨v1, hv1, hR1⟩ := got_of hs 1 23 (by kernel_rfl) (by rfl)
          replace hR1 : VP (⟨none, 0, [], none, 0, (List.range 256).map lockNm, none, 0, []⟩ : Pg) v1 w := hR1
          obtain ⟨j1, he1, rfl, hi1⟩ := hR1
          obtain ⟨v2, hv2, hR2⟩ := got_of hs 2 24 (by kernel_rfl) (by rfl)
          replace hR2 : VP (⟨none, 0, [], none, 0, [], none, 0, (List.range 16).map thrE⟩ : Pg) v2 w := hR2
          obtain ⟨j2, he2, rfl, hi2⟩ := hR2
          obtain ⟨v3, hv3, hR3⟩ := got_of hs 5 27 (by kernel_rfl) (by rfl)
          replace hR3 : VP (⟨none, 0, [(⟨⟨#[97]⟩, 1024, (-5)⟩ : Mm)], none, 0, [], none, 0, []⟩ : Pg) v3 w := hR3
          obtain ⟨j3, he3, rfl, hi3⟩ := hR3
          obtain ⟨v4, hv4, hR4⟩ := got_of hs 9 31 (by kernel_rfl) (by rfl)
          replace hR4 : VP (⟨none, 0, [], none, 0, [], none, 0, [(⟨⟨#[102]⟩, false, 8, 4096, none, 0, [bk]⟩ : Fn)]⟩ : Pg) v4 w := hR4
          obtain ⟨j4, he4, rfl, hi4⟩ := hR4
          obtain ⟨v5, hv5, hR5⟩ := got_of hs 13 35 (by kernel_rfl) (by rfl)
          replace hR5 : VP (⟨none, 0, [], none, 0, [], none, 0, [(⟨⟨#[102]⟩, false, 0, 1, none, 0, (List.replicate 16384 bk)⟩ : Fn)]⟩ : Pg) v5 w := hR5
          obtain ⟨j5, he5, rfl, hi5⟩ := hR5
          obtain ⟨v6, hv6, hR6⟩ := got_of hs 18 40 (by kernel_rfl) (by rfl)
          replace hR6 : VP (⟨none, 0, [], none, 0, [], none, 0, [(⟨⟨#[102]⟩, false, 0, 0, none, 0, [(⟨11, 0, 0, 0, 0, none, 0, []⟩ : Ins)]⟩ : Fn)]⟩ : Pg) v6 w := hR6
          obtain ⟨j6, he6, rfl, hi6⟩ := hR6
          exact ⟨wanted_none rfl, _, w.alloc (.cells ⟨pgCells [j0, j1, j2, j3, j4, j5, j6]⟩ 27), run_bs (qs := #[(0, .agg ⟨j0.vals⟩), (1, .agg ⟨j1.vals⟩), (2, .agg ⟨j2.vals⟩), (3, .agg ⟨j3.vals⟩), (4, .agg ⟨j4.vals⟩), (5, .agg ⟨j5.vals⟩), (6, .agg ⟨j6.vals⟩)]) rfl (by simp [ev hv0, ev hv1, ev hv2, ev hv3, ev hv4, ev hv5, ev hv6]) (by kernel_rfl), hC.trans ((Ext.al w _).mono hC.size), Ext.al w _, pgs_new (T := 27) (xs := [(⟨none, 0, [], none, 0, [], none, 0, []⟩ : Pg), (⟨none, 0, [], none, 0, (List.range 256).map lockNm, none, 0, []⟩ : Pg), (⟨none, 0, [], none, 0, [], none, 0, (List.range 16).map thrE⟩ : Pg), (⟨none, 0, [(⟨⟨#[97]⟩, 1024, (-5)⟩ : Mm)], none, 0, [], none, 0, []⟩ : Pg), (⟨none, 0, [], none, 0, [], none, 0, [(⟨⟨#[102]⟩, false, 8, 4096, none, 0, [bk]⟩ : Fn)]⟩ : Pg), (⟨none, 0, [], none, 0, [], none, 0, [(⟨⟨#[102]⟩, false, 0, 1, none, 0, (List.replicate 16384 bk)⟩ : Fn)]⟩ : Pg), (⟨none, 0, [], none, 0, [], none, 0, [(⟨⟨#[102]⟩, false, 0, 0, none, 0, [(⟨11, 0, 0, 0, 0, none, 0, []⟩ : Ins)]⟩ : Fn)]⟩ : Pg)]) [j0, j1, j2, j3, j4, j5, j6] (by simp only [List.map_cons, List.map_nil, he0, he1, he2, he3, he4, he5, he6]) (by simp) (fun x hx => by
              simp only [List.mem_cons, List.mem_nil_iff, or_false] at hx
              rcases hx with rfl | rfl | rfl | rfl | rfl | rfl | rfl
              · exact hi0
              · exact hi1
              · exact hi2
              · exact hi3
              · exact hi4
              · exact hi5
              · exact hi6)⟩
        refine stepsL_cons (s_val fun a w hC hs => ?_) ?_
        · skip
          obtain ⟨v0, hv0, hR0⟩ := got_of hs 19 41 (by kernel_rfl) (by rfl)
          replace hR0 : VPs [(⟨none, 0, [], none, 0, [], none, 0, []⟩ : Pg), (⟨none, 0, [], none, 0, (List.range 256).map lockNm, none, 0, []⟩ : Pg), (⟨none, 0, [], none, 0, [], none, 0, (List.range 16).map thrE⟩ : Pg), (⟨none, 0, [(⟨⟨#[97]⟩, 1024, (-5)⟩ : Mm)], none, 0, [], none, 0, []⟩ : Pg), (⟨none, 0, [], none, 0, [], none, 0, [(⟨⟨#[102]⟩, false, 8, 4096, none, 0, [bk]⟩ : Fn)]⟩ : Pg), (⟨none, 0, [], none, 0, [], none, 0, [(⟨⟨#[102]⟩, false, 0, 1, none, 0, (List.replicate 16384 bk)⟩ : Fn)]⟩ : Pg), (⟨none, 0, [], none, 0, [], none, 0, [(⟨⟨#[102]⟩, false, 0, 0, none, 0, [(⟨11, 0, 0, 0, 0, none, 0, []⟩ : Ins)]⟩ : Fn)]⟩ : Pg)] v0 w := hR0
          exact ⟨wanted_none rfl, _, run_mv (Or.inr rfl) (ev hv0), hR0⟩
        exact stepsL_nil
      case hend8 =>
        intro σ V8 hC8 hR8
        generalize hF : fillL _ _ _ _ _ = F
        simp [fillL, dstOf, List.range, List.range.loop, Act.put] at hF
        subst hF
        have hps : VPs yesL (σ 20) V8 := hR8 20 (by simp)
        obtain ⟨ly, ay, cy, hey, hvy, hry, hiy⟩ := hps
        rw [hvy]
        obtain ⟨cy1, cy2⟩ := len_i hry
        have hYV : Hid (∀ V, Below V8.heap.size V8 V → RowAt V (fun _ => True) ay cy ly.length (pgCells ly) ∧ ∀ p ∈ ly, Pg.In V (fun _ => True) p) := Lib.hid fun V hV => ⟨hry.below (Kps.of_below hV), fun p hp => (hiy p hp).below (Kps.of_below hV)⟩
        have hyes : Hid (∀ p ∈ ly, mayP p = true ∧ p.mems.length + p.locks.length + p.funs.length ≤ 1000) := Lib.hid fun p hp => by
          have h1 : p.er ∈ yesL := by rw [← hey]; exact List.mem_map_of_mem hp
          obtain ⟨h2, h3⟩ := yes_may p.er h1
          rw [mayP_er] at h2
          refine ⟨h2, ?_⟩
          have h4 : p.er.funs.length = p.funs.length := List.length_map _
          rw [← h4]
          exact h3
        have hC8' := Lib.hid hC8
        clear hR8 hvy hry hiy hey hC8
        go_wp2_with fail
        go_loopw [6] (fun t V => ∃ k : Nat, k ≤ ly.length ∧ t = .int .i64 k ∧ Hid (Below V8.heap.size V8 V)) (fun t _ => ly.length - (intOf t).toNat)
        case atStart => exact ⟨0, Nat.zero_le _, rfl, Lib.hid (Below.refl _ _)⟩
        case round =>
          obtain ⟨k, hk, rfl, hb⟩ := hrel
          have hbw : Hid (Below w.heap.size w _) := Lib.hid (hbw8.out.trans ((hC8'.out.trans (hb.out.mono hC8'.out.size)).mono hbw8.out.size))
          by_cases hkl : k < ly.length
          · obtain ⟨x, hx⟩ : ∃ x, ly[k]? = some x := ⟨_, List.getElem?_eq_getElem hkl⟩
            obtain ⟨q1, q2⟩ := hYV.out _ hb.out
            obtain ⟨b, off, ha, _, c0, c1, c2⟩ := pg_row q1 k x hx
            have hpx := q2 x (List.mem_of_getElem? hx)
            obtain ⟨hmx, hsx⟩ := hyes.out x (List.mem_of_getElem? hx)
            have hcm := Lib.hid (may_any x _ hpx (hTV.out _ hbw.out).1 (hTV.out _ hbw.out).2 (by omega))
            rw [hmx] at hcm
            unfold Pg.val at hcm
            have hk0 : (0 : Int) ≤ (k : Int) := by omega
            have hk1 : (k : Int) < (ly.length : Int) := by omega
            subst ha
            clear hx q1 q2 hpx hmx hsx hYV hyes
            go_wp2_with (go_at_call 13; refine hcm.out.mono ?_; rintro e W2 ⟨rfl, hb2⟩; have hbn := Lib.hid (hb.out.trans (hb2.mono hb.out.size)))
            go_roundw
            case rel => exact ⟨k + 1, by omega, by go_num, hbn⟩
            case measure => simp [intOf]; omega
          · have hk1 : ¬ (k : Int) < (ly.length : Int) := by omega
            clear hYV hyes
            go_upto_region 14 with fail
            refine wp_region_rel_text (C := fun V => Below W8.heap.size W8 V) (E := Ext) (R := fun j => rs14c.getD j VT) (hC8'.out.trans (hb.out.mono hC8'.out.size)) (by kernel_rfl) (fun j v w' w'' _ hE h => mono_get _ j rs14c_mono v w' w'' hE h) (steps_all ?hs14) ?hend14
            case hs14 =>
              refine stepsL_cons (s_call fun a w hC hs => ?_) ?_
              · skip
                refine ⟨wanted_none rfl, 29, _, run_call1 rfl (ev_const _) (fun _ _ => rfl), (named_any 257 w (by omega)).mono ?_⟩
                rintro e w' ⟨v, rfl, hv, hb⟩
                exact ⟨_, rfl, hC.trans (hb.mono hC.size), hb, hv⟩
              refine stepsL_cons (s_call fun a w hC hs => ?_) ?_
              · skip
                refine ⟨wanted_none rfl, 30, _, run_call1 rfl (ev_const _) (fun _ _ => rfl), (thr_any 17 w (by omega)).mono ?_⟩
                rintro e w' ⟨v, rfl, hv, hb⟩
                exact ⟨_, rfl, hC.trans (hb.mono hC.size), hb, hv⟩
              refine stepsL_cons (s_val fun a w hC hs => ?_) ?_
              · skip
                exact ⟨wanted_none rfl, _, run_b (qs := #[(0, .string ⟨#[97]⟩), (1, .int .i64 1025)]) rfl (by simp [ev_const]) (by kernel_rfl), rfl⟩
              refine stepsL_cons (s_new fun a w hC hs => ?_) ?_
              · skip
                obtain ⟨v0, hv0, hR0⟩ := got_of hs 2 56 (by kernel_rfl) (by rfl)
                replace hR0 : VK (.agg #[.string ⟨#[97]⟩, .int .i64 1025, .int .i64 0]) v0 w := hR0
                replace hR0 : v0 = _ := hR0
                subst hR0
                exact ⟨wanted_none rfl, _, w.alloc (.cells ⟨mmCells [(⟨⟨#[97]⟩, 1025, 0⟩ : Mm)]⟩ 50), run_bs (qs := #[(0, .agg #[.string ⟨#[97]⟩, .int .i64 1025, .int .i64 0])]) rfl (by simp [ev hv0]) (by kernel_rfl), hC.trans ((Ext.al w _).mono hC.size), Ext.al w _, mms_new (T := 50) [(⟨⟨#[97]⟩, 1025, 0⟩ : Mm)] (by simp) (by intro x hx; simp only [List.mem_cons, List.mem_nil_iff, or_false] at hx; rcases hx with rfl <;> exact ⟨by unfold maxLen; decide, by unfold I64; decide, by unfold I64; decide⟩)⟩
              refine stepsL_cons (s_val fun a w hC hs => ?_) ?_
              · skip
                obtain ⟨v0, hv0, hR0⟩ := got_of hs 3 57 (by kernel_rfl) (by rfl)
                replace hR0 : VMs [(⟨⟨#[97]⟩, 1025, 0⟩ : Mm)] v0 w := hR0
                obtain ⟨a0, c0, rfl, r0, i0⟩ := hR0
                exact ⟨wanted_none rfl, _, run_b (qs := #[(0, .slice a0 ([(⟨⟨#[97]⟩, 1025, 0⟩ : Mm)] : List Mm).length c0)]) rfl (by simp [ev hv0]) (by kernel_rfl), mk_pg ⟨a0, c0, rfl, r0, i0⟩ strs_nil fns_nil⟩
              refine stepsL_cons (s_val fun a w hC hs => ?_) ?_
              · skip
                exact ⟨wanted_none rfl, _, run_b (qs := #[(0, .string ⟨#[97]⟩)]) rfl (by simp [ev_const]) (by kernel_rfl), rfl⟩
              refine stepsL_cons (s_new fun a w hC hs => ?_) ?_
              · skip
                obtain ⟨v0, hv0, hR0⟩ := got_of hs 5 59 (by kernel_rfl) (by rfl)
                replace hR0 : VK (.agg #[.string ⟨#[97]⟩, .int .i64 0, .int .i64 0]) v0 w := hR0
                replace hR0 : v0 = _ := hR0
                subst hR0
                exact ⟨wanted_none rfl, _, w.alloc (.cells ⟨mmCells [(⟨⟨#[97]⟩, 0, 0⟩ : Mm)]⟩ 50), run_bs (qs := #[(0, .agg #[.string ⟨#[97]⟩, .int .i64 0, .int .i64 0])]) rfl (by simp [ev hv0]) (by kernel_rfl), hC.trans ((Ext.al w _).mono hC.size), Ext.al w _, mms_new (T := 50) [(⟨⟨#[97]⟩, 0, 0⟩ : Mm)] (by simp) (by intro x hx; simp only [List.mem_cons, List.mem_nil_iff, or_false] at hx; rcases hx with rfl <;> exact ⟨by unfold maxLen; decide, by unfold I64; decide, by unfold I64; decide⟩)⟩
              refine stepsL_cons (s_val fun a w hC hs => ?_) ?_
              · skip
                obtain ⟨v0, hv0, hR0⟩ := got_of hs 6 60 (by kernel_rfl) (by rfl)
                replace hR0 : VMs [(⟨⟨#[97]⟩, 0, 0⟩ : Mm)] v0 w := hR0
                obtain ⟨a0, c0, rfl, r0, i0⟩ := hR0
                exact ⟨wanted_none rfl, _, run_b (qs := #[(0, .slice a0 ([(⟨⟨#[97]⟩, 0, 0⟩ : Mm)] : List Mm).length c0)]) rfl (by simp [ev hv0]) (by kernel_rfl), mk_pg ⟨a0, c0, rfl, r0, i0⟩ strs_nil fns_nil⟩
              refine stepsL_cons (s_new fun a w hC hs => ?_) ?_
              · skip
                exact ⟨wanted_none rfl, _, w.alloc (.cells ⟨strCells [⟨#[105, 102]⟩]⟩ 9), run_bs (qs := #[(0, .string ⟨#[105, 102]⟩)]) rfl (by simp [ev_const]) (by kernel_rfl), hC.trans ((Ext.al w _).mono hC.size), Ext.al w _, strs_new (T := 9) [⟨#[105, 102]⟩] (by simp) (by intro x hx; simp only [List.mem_cons, List.mem_nil_iff, or_false] at hx; rcases hx with rfl <;> (unfold maxLen; decide))⟩
              refine stepsL_cons (s_val fun a w hC hs => ?_) ?_
              · skip
                obtain ⟨v1, hv1, hR1⟩ := got_of hs 8 62 (by kernel_rfl) (by rfl)
                replace hR1 : VSs [⟨#[105, 102]⟩] v1 w := hR1
                obtain ⟨a1, c1, rfl, r1, i1⟩ := hR1
                exact ⟨wanted_none rfl, _, run_b (qs := #[(1, .slice a1 ([⟨#[105, 102]⟩] : List ByteArray).length c1)]) rfl (by simp [ev hv1]) (by kernel_rfl), mk_pg mms_nil ⟨a1, c1, rfl, r1, i1⟩ fns_nil⟩
              refine stepsL_cons (s_new fun a w hC hs => ?_) ?_
              · skip
                exact ⟨wanted_none rfl, _, w.alloc (.cells ⟨strCells [⟨#[97]⟩, ⟨#[97]⟩]⟩ 9), run_bs (qs := #[(0, .string ⟨#[97]⟩), (1, .string ⟨#[97]⟩)]) rfl (by simp [ev_const]) (by kernel_rfl), hC.trans ((Ext.al w _).mono hC.size), Ext.al w _, strs_new (T := 9) [⟨#[97]⟩, ⟨#[97]⟩] (by simp) (by intro x hx; simp only [List.mem_cons, List.mem_nil_iff, or_false] at hx; rcases hx with rfl | rfl <;> (unfold maxLen; decide))⟩
              refine stepsL_cons (s_val fun a w hC hs => ?_) ?_
              · skip
                obtain ⟨v1, hv1, hR1⟩ := got_of hs 10 64 (by kernel_rfl) (by rfl)
                replace hR1 : VSs [⟨#[97]⟩, ⟨#[97]⟩] v1 w := hR1
                obtain ⟨a1, c1, rfl, r1, i1⟩ := hR1
                exact ⟨wanted_none rfl, _, run_b (qs := #[(1, .slice a1 ([⟨#[97]⟩, ⟨#[97]⟩] : List ByteArray).length c1)]) rfl (by simp [ev hv1]) (by kernel_rfl), mk_pg mms_nil ⟨a1, c1, rfl, r1, i1⟩ fns_nil⟩
              refine stepsL_cons (s_new fun a w hC hs => ?_) ?_
              · skip
                exact ⟨wanted_none rfl, _, w.alloc (.cells ⟨strCells [⟨#[97]⟩]⟩ 9), run_bs (qs := #[(0, .string ⟨#[97]⟩)]) rfl (by simp [ev_const]) (by kernel_rfl), hC.trans ((Ext.al w _).mono hC.size), Ext.al w _, strs_new (T := 9) [⟨#[97]⟩] (by simp) (by intro x hx; simp only [List.mem_cons, List.mem_nil_iff, or_false] at hx; rcases hx with rfl <;> (unfold maxLen; decide))⟩
              refine stepsL_cons (s_val fun a w hC hs => ?_) ?_
              · skip
                exact ⟨wanted_none rfl, _, run_b (qs := #[(0, .string ⟨#[97]⟩), (1, .int .i64 1)]) rfl (by simp [ev_const]) (by kernel_rfl), rfl⟩
              refine stepsL_cons (s_new fun a w hC hs => ?_) ?_
              · skip
                obtain ⟨v0, hv0, hR0⟩ := got_of hs 13 67 (by kernel_rfl) (by rfl)
                replace hR0 : VK (.agg #[.string ⟨#[97]⟩, .int .i64 1, .int .i64 0]) v0 w := hR0
                replace hR0 : v0 = _ := hR0
                subst hR0
                exact ⟨wanted_none rfl, _, w.alloc (.cells ⟨mmCells [(⟨⟨#[97]⟩, 1, 0⟩ : Mm)]⟩ 50), run_bs (qs := #[(0, .agg #[.string ⟨#[97]⟩, .int .i64 1, .int .i64 0])]) rfl (by simp [ev hv0]) (by kernel_rfl), hC.trans ((Ext.al w _).mono hC.size), Ext.al w _, mms_new (T := 50) [(⟨⟨#[97]⟩, 1, 0⟩ : Mm)] (by simp) (by intro x hx; simp only [List.mem_cons, List.mem_nil_iff, or_false] at hx; rcases hx with rfl <;> exact ⟨by unfold maxLen; decide, by unfold I64; decide, by unfold I64; decide⟩)⟩
              refine stepsL_cons (s_val fun a w hC hs => ?_) ?_
              · skip
                obtain ⟨v1, hv1, hR1⟩ := got_of hs 12 66 (by kernel_rfl) (by rfl)
                replace hR1 : VSs [⟨#[97]⟩] v1 w := hR1
                obtain ⟨a1, c1, rfl, r1, i1⟩ := hR1
                obtain ⟨v0, hv0, hR0⟩ := got_of hs 14 68 (by kernel_rfl) (by rfl)
                replace hR0 : VMs [(⟨⟨#[97]⟩, 1, 0⟩ : Mm)] v0 w := hR0
                obtain ⟨a0, c0, rfl, r0, i0⟩ := hR0
                exact ⟨wanted_none rfl, _, run_b (qs := #[(1, .slice a1 ([⟨#[97]⟩] : List ByteArray).length c1), (0, .slice a0 ([(⟨⟨#[97]⟩, 1, 0⟩ : Mm)] : List Mm).length c0)]) rfl (by simp [ev hv1, ev hv0]) (by kernel_rfl), mk_pg ⟨a0, c0, rfl, r0, i0⟩ ⟨a1, c1, rfl, r1, i1⟩ fns_nil⟩
              refine stepsL_cons (s_new fun a w hC hs => ?_) ?_
              · skip
                exact ⟨wanted_none rfl, _, w.alloc (.cells ⟨strCells [⟨#[102]⟩]⟩ 9), run_bs (qs := #[(0, .string ⟨#[102]⟩)]) rfl (by simp [ev_const]) (by kernel_rfl), hC.trans ((Ext.al w _).mono hC.size), Ext.al w _, strs_new (T := 9) [⟨#[102]⟩] (by simp) (by intro x hx; simp only [List.mem_cons, List.mem_nil_iff, or_false] at hx; rcases hx with rfl <;> (unfold maxLen; decide))⟩
              refine stepsL_cons (s_val fun a w hC hs => ?_) ?_
              · skip
                have ho := old_of hs 1 (by kernel_rfl) (by rfl)
                exact ⟨wanted_none rfl, _, run_mv (Or.inl rfl) (ev ho), hbV.out w hC⟩
              refine stepsL_cons (s_val fun a w hC hs => ?_) ?_
              · skip
                obtain ⟨v4, hv4, hR4⟩ := got_of hs 17 71 (by kernel_rfl) (by rfl)
                replace hR4 : VIs [bk] v4 w := hR4
                obtain ⟨l4, a4, c4, e4, rfl, r4, i4⟩ := hR4
                exact ⟨wanted_none rfl, _, run_b (qs := #[(0, .string ⟨#[102]⟩), (3, .int .i64 1), (4, .slice a4 l4.length c4)]) rfl (by simp [ev_const, ev hv4]) (by kernel_rfl), mk_fn (by unfold maxLen; decide) (by unfold I64; omega) (by unfold I64; omega) ⟨l4, a4, c4, e4, rfl, r4, i4⟩⟩
              refine stepsL_cons (s_new fun a w hC hs => ?_) ?_
              · skip
                obtain ⟨v0, hv0, hR0⟩ := got_of hs 18 72 (by kernel_rfl) (by rfl)
                replace hR0 : VF (⟨⟨#[102]⟩, false, 0, 1, none, 0, [bk]⟩ : Fn) v0 w := hR0
                obtain ⟨j0, he0, rfl, hi0⟩ := hR0
                exact ⟨wanted_none rfl, _, w.alloc (.cells ⟨fnCells [j0]⟩ 42), run_bs (qs := #[(0, .agg ⟨j0.vals⟩)]) rfl (by simp [ev hv0]) (by kernel_rfl), hC.trans ((Ext.al w _).mono hC.size), Ext.al w _, fns_new (T := 42) (xs := [(⟨⟨#[102]⟩, false, 0, 1, none, 0, [bk]⟩ : Fn)]) [j0] (by simp only [List.map_cons, List.map_nil, he0]) (by simp) (fun x hx => by simp only [List.mem_cons, List.mem_nil_iff, or_false] at hx; rcases hx with rfl; exact hi0)⟩
              refine stepsL_cons (s_val fun a w hC hs => ?_) ?_
              · skip
                obtain ⟨v1, hv1, hR1⟩ := got_of hs 16 70 (by kernel_rfl) (by rfl)
                replace hR1 : VSs [⟨#[102]⟩] v1 w := hR1
                obtain ⟨a1, c1, rfl, r1, i1⟩ := hR1
                obtain ⟨v2, hv2, hR2⟩ := got_of hs 19 73 (by kernel_rfl) (by rfl)
                replace hR2 : VFs [(⟨⟨#[102]⟩, false, 0, 1, none, 0, [bk]⟩ : Fn)] v2 w := hR2
                obtain ⟨l2, a2, c2, e2, rfl, r2, i2⟩ := hR2
                exact ⟨wanted_none rfl, _, run_b (qs := #[(1, .slice a1 ([⟨#[102]⟩] : List ByteArray).length c1), (2, .slice a2 l2.length c2)]) rfl (by simp [ev hv1, ev hv2]) (by kernel_rfl), mk_pg mms_nil ⟨a1, c1, rfl, r1, i1⟩ ⟨l2, a2, c2, e2, rfl, r2, i2⟩⟩
              refine stepsL_cons (s_val fun a w hC hs => ?_) ?_
              · skip
                have ho := old_of hs 4 (by kernel_rfl) (by rfl)
                exact ⟨wanted_none rfl, _, run_mv (Or.inl rfl) (ev ho), rfl⟩
              refine stepsL_cons (s_val fun a w hC hs => ?_) ?_
              · skip
                have ho := old_of hs 1 (by kernel_rfl) (by rfl)
                exact ⟨wanted_none rfl, _, run_mv (Or.inl rfl) (ev ho), hbV.out w hC⟩
              refine stepsL_cons (s_val fun a w hC hs => ?_) ?_
              · skip
                obtain ⟨v4, hv4, hR4⟩ := got_of hs 22 76 (by kernel_rfl) (by rfl)
                replace hR4 : VIs [bk] v4 w := hR4
                obtain ⟨l4, a4, c4, e4, rfl, r4, i4⟩ := hR4
                exact ⟨wanted_none rfl, _, run_b (qs := #[(0, .string ⟨#[102]⟩), (2, .int .i64 9), (3, .int .i64 9), (4, .slice a4 l4.length c4)]) rfl (by simp [ev_const, ev hv4]) (by kernel_rfl), mk_fn (by unfold maxLen; decide) (by unfold I64; omega) (by unfold I64; omega) ⟨l4, a4, c4, e4, rfl, r4, i4⟩⟩
              refine stepsL_cons (s_call fun a w hC hs => ?_) ?_
              · skip
                obtain ⟨v0, hv0, hR0⟩ := got_of hs 21 75 (by kernel_rfl) (by rfl)
                replace hR0 : VK (Value.func (_root_.Go.Fn.func 28) #[] #[]) v0 w := hR0
                replace hR0 : v0 = _ := hR0
                subst hR0
                obtain ⟨v1, hv1, hR1⟩ := got_of hs 23 77 (by kernel_rfl) (by rfl)
                replace hR1 : VF (⟨⟨#[102]⟩, false, 9, 9, none, 0, [bk]⟩ : Fn) v1 w := hR1
                obtain ⟨j1, he1, rfl, hi1⟩ := hR1
                refine ⟨wanted_none rfl, 28, _, run_calld rfl (ev hv0) (ev hv1) (fun _ _ => rfl), (fun_any j1 w hi1).mono ?_⟩
                rintro e w' ⟨v, rfl, hv, hb⟩
                rw [he1] at hv
                exact ⟨_, rfl, hC.trans (hb.mono hC.size), hb, hv⟩
              refine stepsL_cons (s_val fun a w hC hs => ?_) ?_
              · skip
                have ho := old_of hs 4 (by kernel_rfl) (by rfl)
                exact ⟨wanted_none rfl, _, run_mv (Or.inl rfl) (ev ho), rfl⟩
              refine stepsL_cons (s_val fun a w hC hs => ?_) ?_
              · skip
                have ho := old_of hs 1 (by kernel_rfl) (by rfl)
                exact ⟨wanted_none rfl, _, run_mv (Or.inl rfl) (ev ho), hbV.out w hC⟩
              refine stepsL_cons (s_val fun a w hC hs => ?_) ?_
              · skip
                obtain ⟨v4, hv4, hR4⟩ := got_of hs 26 80 (by kernel_rfl) (by rfl)
                replace hR4 : VIs [bk] v4 w := hR4
                obtain ⟨l4, a4, c4, e4, rfl, r4, i4⟩ := hR4
                exact ⟨wanted_none rfl, _, run_b (qs := #[(0, .string ⟨#[102]⟩), (2, .int .i64 (-1)), (3, .int .i64 1), (4, .slice a4 l4.length c4)]) rfl (by simp [ev_const, ev hv4]) (by kernel_rfl), mk_fn (by unfold maxLen; decide) (by unfold I64; omega) (by unfold I64; omega) ⟨l4, a4, c4, e4, rfl, r4, i4⟩⟩
              refine stepsL_cons (s_call fun a w hC hs => ?_) ?_
              · skip
                obtain ⟨v0, hv0, hR0⟩ := got_of hs 25 79 (by kernel_rfl) (by rfl)
                replace hR0 : VK (Value.func (_root_.Go.Fn.func 28) #[] #[]) v0 w := hR0
                replace hR0 : v0 = _ := hR0
                subst hR0
                obtain ⟨v1, hv1, hR1⟩ := got_of hs 27 81 (by kernel_rfl) (by rfl)
                replace hR1 : VF (⟨⟨#[102]⟩, false, (-1), 1, none, 0, [bk]⟩ : Fn) v1 w := hR1
                obtain ⟨j1, he1, rfl, hi1⟩ := hR1
                refine ⟨wanted_none rfl, 28, _, run_calld rfl (ev hv0) (ev hv1) (fun _ _ => rfl), (fun_any j1 w hi1).mono ?_⟩
                rintro e w' ⟨v, rfl, hv, hb⟩
                rw [he1] at hv
                exact ⟨_, rfl, hC.trans (hb.mono hC.size), hb, hv⟩
              refine stepsL_cons (s_val fun a w hC hs => ?_) ?_
              · skip
                have ho := old_of hs 4 (by kernel_rfl) (by rfl)
                exact ⟨wanted_none rfl, _, run_mv (Or.inl rfl) (ev ho), rfl⟩
              refine stepsL_cons (s_val fun a w hC hs => ?_) ?_
              · skip
                have ho := old_of hs 1 (by kernel_rfl) (by rfl)
                exact ⟨wanted_none rfl, _, run_mv (Or.inl rfl) (ev ho), hbV.out w hC⟩
              refine stepsL_cons (s_val fun a w hC hs => ?_) ?_
              · skip
                obtain ⟨v4, hv4, hR4⟩ := got_of hs 30 84 (by kernel_rfl) (by rfl)
                replace hR4 : VIs [bk] v4 w := hR4
                obtain ⟨l4, a4, c4, e4, rfl, r4, i4⟩ := hR4
                exact ⟨wanted_none rfl, _, run_b (qs := #[(0, .string ⟨#[102]⟩), (2, .int .i64 2), (3, .int .i64 1), (4, .slice a4 l4.length c4)]) rfl (by simp [ev_const, ev hv4]) (by kernel_rfl), mk_fn (by unfold maxLen; decide) (by unfold I64; omega) (by unfold I64; omega) ⟨l4, a4, c4, e4, rfl, r4, i4⟩⟩
              refine stepsL_cons (s_call fun a w hC hs => ?_) ?_
              · skip
                obtain ⟨v0, hv0, hR0⟩ := got_of hs 29 83 (by kernel_rfl) (by rfl)
                replace hR0 : VK (Value.func (_root_.Go.Fn.func 28) #[] #[]) v0 w := hR0
                replace hR0 : v0 = _ := hR0
                subst hR0
                obtain ⟨v1, hv1, hR1⟩ := got_of hs 31 85 (by kernel_rfl) (by rfl)
                replace hR1 : VF (⟨⟨#[102]⟩, false, 2, 1, none, 0, [bk]⟩ : Fn) v1 w := hR1
                obtain ⟨j1, he1, rfl, hi1⟩ := hR1
                refine ⟨wanted_none rfl, 28, _, run_calld rfl (ev hv0) (ev hv1) (fun _ _ => rfl), (fun_any j1 w hi1).mono ?_⟩
                rintro e w' ⟨v, rfl, hv, hb⟩
                rw [he1] at hv
                exact ⟨_, rfl, hC.trans (hb.mono hC.size), hb, hv⟩
              refine stepsL_cons (s_val fun a w hC hs => ?_) ?_
              · skip
                have ho := old_of hs 4 (by kernel_rfl) (by rfl)
                exact ⟨wanted_none rfl, _, run_mv (Or.inl rfl) (ev ho), rfl⟩
              refine stepsL_cons (s_val fun a w hC hs => ?_) ?_
              · skip
                have ho := old_of hs 1 (by kernel_rfl) (by rfl)
                exact ⟨wanted_none rfl, _, run_mv (Or.inl rfl) (ev ho), hbV.out w hC⟩
              refine stepsL_cons (s_val fun a w hC hs => ?_) ?_
              · skip
                obtain ⟨v4, hv4, hR4⟩ := got_of hs 34 88 (by kernel_rfl) (by rfl)
                replace hR4 : VIs [bk] v4 w := hR4
                obtain ⟨l4, a4, c4, e4, rfl, r4, i4⟩ := hR4
                exact ⟨wanted_none rfl, _, run_b (qs := #[(0, .string ⟨#[102]⟩), (1, .bool true), (2, .int .i64 1), (3, .int .i64 1), (4, .slice a4 l4.length c4)]) rfl (by simp [ev_const, ev hv4]) (by kernel_rfl), mk_fn (by unfold maxLen; decide) (by unfold I64; omega) (by unfold I64; omega) ⟨l4, a4, c4, e4, rfl, r4, i4⟩⟩
              refine stepsL_cons (s_call fun a w hC hs => ?_) ?_
              · skip
                obtain ⟨v0, hv0, hR0⟩ := got_of hs 33 87 (by kernel_rfl) (by rfl)
                replace hR0 : VK (Value.func (_root_.Go.Fn.func 28) #[] #[]) v0 w := hR0
                replace hR0 : v0 = _ := hR0
                subst hR0
                obtain ⟨v1, hv1, hR1⟩ := got_of hs 35 89 (by kernel_rfl) (by rfl)
                replace hR1 : VF (⟨⟨#[102]⟩, true, 1, 1, none, 0, [bk]⟩ : Fn) v1 w := hR1
                obtain ⟨j1, he1, rfl, hi1⟩ := hR1
                refine ⟨wanted_none rfl, 28, _, run_calld rfl (ev hv0) (ev hv1) (fun _ _ => rfl), (fun_any j1 w hi1).mono ?_⟩
                rintro e w' ⟨v, rfl, hv, hb⟩
                rw [he1] at hv
                exact ⟨_, rfl, hC.trans (hb.mono hC.size), hb, hv⟩
              refine stepsL_cons (s_val fun a w hC hs => ?_) ?_
              · skip
                have ho := old_of hs 4 (by kernel_rfl) (by rfl)
                exact ⟨wanted_none rfl, _, run_mv (Or.inl rfl) (ev ho), rfl⟩
              refine stepsL_cons (s_val fun a w hC hs => ?_) ?_
              · skip
                have ho := old_of hs 1 (by kernel_rfl) (by rfl)
                exact ⟨wanted_none rfl, _, run_mv (Or.inl rfl) (ev ho), hbV.out w hC⟩
              refine stepsL_cons (s_val fun a w hC hs => ?_) ?_
              · skip
                obtain ⟨v4, hv4, hR4⟩ := got_of hs 38 92 (by kernel_rfl) (by rfl)
                replace hR4 : VIs [bk] v4 w := hR4
                obtain ⟨l4, a4, c4, e4, rfl, r4, i4⟩ := hR4
                exact ⟨wanted_none rfl, _, run_b (qs := #[(0, .string ⟨#[102]⟩), (3, .int .i64 4097), (4, .slice a4 l4.length c4)]) rfl (by simp [ev_const, ev hv4]) (by kernel_rfl), mk_fn (by unfold maxLen; decide) (by unfold I64; omega) (by unfold I64; omega) ⟨l4, a4, c4, e4, rfl, r4, i4⟩⟩
              refine stepsL_cons (s_call fun a w hC hs => ?_) ?_
              · skip
                obtain ⟨v0, hv0, hR0⟩ := got_of hs 37 91 (by kernel_rfl) (by rfl)
                replace hR0 : VK (Value.func (_root_.Go.Fn.func 28) #[] #[]) v0 w := hR0
                replace hR0 : v0 = _ := hR0
                subst hR0
                obtain ⟨v1, hv1, hR1⟩ := got_of hs 39 93 (by kernel_rfl) (by rfl)
                replace hR1 : VF (⟨⟨#[102]⟩, false, 0, 4097, none, 0, [bk]⟩ : Fn) v1 w := hR1
                obtain ⟨j1, he1, rfl, hi1⟩ := hR1
                refine ⟨wanted_none rfl, 28, _, run_calld rfl (ev hv0) (ev hv1) (fun _ _ => rfl), (fun_any j1 w hi1).mono ?_⟩
                rintro e w' ⟨v, rfl, hv, hb⟩
                rw [he1] at hv
                exact ⟨_, rfl, hC.trans (hb.mono hC.size), hb, hv⟩
              refine stepsL_cons (s_val fun a w hC hs => ?_) ?_
              · skip
                have ho := old_of hs 4 (by kernel_rfl) (by rfl)
                exact ⟨wanted_none rfl, _, run_mv (Or.inl rfl) (ev ho), rfl⟩
              refine stepsL_cons (s_val fun a w hC hs => ?_) ?_
              · skip
                have ho := old_of hs 1 (by kernel_rfl) (by rfl)
                exact ⟨wanted_none rfl, _, run_mv (Or.inl rfl) (ev ho), hbV.out w hC⟩
              refine stepsL_cons (s_val fun a w hC hs => ?_) ?_
              · skip
                obtain ⟨v4, hv4, hR4⟩ := got_of hs 42 96 (by kernel_rfl) (by rfl)
                replace hR4 : VIs [bk] v4 w := hR4
                obtain ⟨l4, a4, c4, e4, rfl, r4, i4⟩ := hR4
                exact ⟨wanted_none rfl, _, run_b (qs := #[(0, .string ⟨#[102]⟩), (4, .slice a4 l4.length c4)]) rfl (by simp [ev_const, ev hv4]) (by kernel_rfl), mk_fn (by unfold maxLen; decide) (by unfold I64; omega) (by unfold I64; omega) ⟨l4, a4, c4, e4, rfl, r4, i4⟩⟩
              refine stepsL_cons (s_call fun a w hC hs => ?_) ?_
              · skip
                obtain ⟨v0, hv0, hR0⟩ := got_of hs 41 95 (by kernel_rfl) (by rfl)
                replace hR0 : VK (Value.func (_root_.Go.Fn.func 28) #[] #[]) v0 w := hR0
                replace hR0 : v0 = _ := hR0
                subst hR0
                obtain ⟨v1, hv1, hR1⟩ := got_of hs 43 97 (by kernel_rfl) (by rfl)
                replace hR1 : VF (⟨⟨#[102]⟩, false, 0, 0, none, 0, [bk]⟩ : Fn) v1 w := hR1
                obtain ⟨j1, he1, rfl, hi1⟩ := hR1
                refine ⟨wanted_none rfl, 28, _, run_calld rfl (ev hv0) (ev hv1) (fun _ _ => rfl), (fun_any j1 w hi1).mono ?_⟩
                rintro e w' ⟨v, rfl, hv, hb⟩
                rw [he1] at hv
                exact ⟨_, rfl, hC.trans (hb.mono hC.size), hb, hv⟩
              refine stepsL_cons (s_val fun a w hC hs => ?_) ?_
              · skip
                have ho := old_of hs 4 (by kernel_rfl) (by rfl)
                exact ⟨wanted_none rfl, _, run_mv (Or.inl rfl) (ev ho), rfl⟩
              refine stepsL_cons (s_val fun a w hC hs => ?_) ?_
              · skip
                exact ⟨wanted_none rfl, _, run_b (qs := #[(0, .string ⟨#[102]⟩), (3, .int .i64 1)]) rfl (by simp [ev_const]) (by kernel_rfl), mk_fn (by unfold maxLen; decide) (by unfold I64; omega) (by unfold I64; omega) inss_nil⟩
              refine stepsL_cons (s_call fun a w hC hs => ?_) ?_
              · skip
                obtain ⟨v0, hv0, hR0⟩ := got_of hs 45 99 (by kernel_rfl) (by rfl)
                replace hR0 : VK (Value.func (_root_.Go.Fn.func 28) #[] #[]) v0 w := hR0
                replace hR0 : v0 = _ := hR0
                subst hR0
                obtain ⟨v1, hv1, hR1⟩ := got_of hs 46 100 (by kernel_rfl) (by rfl)
                replace hR1 : VF (⟨⟨#[102]⟩, false, 0, 1, none, 0, []⟩ : Fn) v1 w := hR1
                obtain ⟨j1, he1, rfl, hi1⟩ := hR1
                refine ⟨wanted_none rfl, 28, _, run_calld rfl (ev hv0) (ev hv1) (fun _ _ => rfl), (fun_any j1 w hi1).mono ?_⟩
                rintro e w' ⟨v, rfl, hv, hb⟩
                rw [he1] at hv
                exact ⟨_, rfl, hC.trans (hb.mono hC.size), hb, hv⟩
              refine stepsL_cons (s_val fun a w hC hs => ?_) ?_
              · skip
                have ho := old_of hs 4 (by kernel_rfl) (by rfl)
                exact ⟨wanted_none rfl, _, run_mv (Or.inl rfl) (ev ho), rfl⟩
              refine stepsL_cons (s_val fun a w hC hs => ?_) ?_
              · skip
                have ho := old_of hs 2 (by kernel_rfl) (by rfl)
                exact ⟨wanted_none rfl, _, run_mv (Or.inl rfl) (ev ho), hLV.out w hC⟩
              refine stepsL_cons (s_val fun a w hC hs => ?_) ?_
              · skip
                have ho := old_of hs 1 (by kernel_rfl) (by rfl)
                exact ⟨wanted_none rfl, _, run_mv (Or.inl rfl) (ev ho), hbV.out w hC⟩
              refine stepsL_cons (s_new fun a w hC hs => ?_) ?_
              · skip
                obtain ⟨v0, hv0, hR0⟩ := got_of hs 49 103 (by kernel_rfl) (by rfl)
                replace hR0 : VL  v0 w := hR0
                obtain ⟨v1, hv1, hR1⟩ := got_of hs 50 104 (by kernel_rfl) (by rfl)
                replace hR1 : VIs [bk] v1 w := hR1
                obtain ⟨v', w', hr, hE, hv⟩ := app_long hR0 hR1
                exact ⟨wanted_none rfl, v', w', run_app rfl (ev hv0) (ev hv1) hr, hC.trans (hE.mono hC.size), hE, hv⟩
              refine stepsL_cons (s_val fun a w hC hs => ?_) ?_
              · skip
                obtain ⟨v4, hv4, hR4⟩ := got_of hs 51 105 (by kernel_rfl) (by rfl)
                replace hR4 : VIs ((List.replicate 16384 bk) ++ [bk]) v4 w := hR4
                obtain ⟨l4, a4, c4, e4, rfl, r4, i4⟩ := hR4
                exact ⟨wanted_none rfl, _, run_b (qs := #[(0, .string ⟨#[102]⟩), (3, .int .i64 1), (4, .slice a4 l4.length c4)]) rfl (by simp [ev_const, ev hv4]) (by kernel_rfl), mk_fn (by unfold maxLen; decide) (by unfold I64; omega) (by unfold I64; omega) ⟨l4, a4, c4, e4, rfl, r4, i4⟩⟩
              refine stepsL_cons (s_call fun a w hC hs => ?_) ?_
              · skip
                obtain ⟨v0, hv0, hR0⟩ := got_of hs 48 102 (by kernel_rfl) (by rfl)
                replace hR0 : VK (Value.func (_root_.Go.Fn.func 28) #[] #[]) v0 w := hR0
                replace hR0 : v0 = _ := hR0
                subst hR0
                obtain ⟨v1, hv1, hR1⟩ := got_of hs 52 106 (by kernel_rfl) (by rfl)
                replace hR1 : VF (⟨⟨#[102]⟩, false, 0, 1, none, 0, ((List.replicate 16384 bk) ++ [bk])⟩ : Fn) v1 w := hR1
                obtain ⟨j1, he1, rfl, hi1⟩ := hR1
                refine ⟨wanted_none rfl, 28, _, run_calld rfl (ev hv0) (ev hv1) (fun _ _ => rfl), (fun_any j1 w hi1).mono ?_⟩
                rintro e w' ⟨v, rfl, hv, hb⟩
                rw [he1] at hv
                exact ⟨_, rfl, hC.trans (hb.mono hC.size), hb, hv⟩
              refine stepsL_cons (s_val fun a w hC hs => ?_) ?_
              · skip
                have ho := old_of hs 4 (by kernel_rfl) (by rfl)
                exact ⟨wanted_none rfl, _, run_mv (Or.inl rfl) (ev ho), rfl⟩
              refine stepsL_cons (s_val fun a w hC hs => ?_) ?_
              · skip
                exact ⟨wanted_none rfl, _, run_b (qs := #[(0, .int .u8 9)]) rfl (by simp [ev_const]) (by kernel_rfl), mk_in (by unfold U8; omega) (by unfold I64; omega) (by unfold I64; omega) (by unfold I64; omega) (by unfold I64; omega) nums_nil⟩
              refine stepsL_cons (s_new fun a w hC hs => ?_) ?_
              · skip
                obtain ⟨v0, hv0, hR0⟩ := got_of hs 55 109 (by kernel_rfl) (by rfl)
                replace hR0 : VI (⟨9, 0, 0, 0, 0, none, 0, []⟩ : Ins) v0 w := hR0
                obtain ⟨j0, he0, rfl, hi0⟩ := hR0
                exact ⟨wanted_none rfl, _, w.alloc (.cells ⟨inCells [j0]⟩ 31), run_bs (qs := #[(0, .agg ⟨j0.vals⟩)]) rfl (by simp [ev hv0]) (by kernel_rfl), hC.trans ((Ext.al w _).mono hC.size), Ext.al w _, inss_new (T := 31) (xs := [(⟨9, 0, 0, 0, 0, none, 0, []⟩ : Ins)]) [j0] (by simp only [List.map_cons, List.map_nil, he0]) (by simp) (fun x hx => by simp only [List.mem_cons, List.mem_nil_iff, or_false] at hx; rcases hx with rfl; exact hi0)⟩
              refine stepsL_cons (s_val fun a w hC hs => ?_) ?_
              · skip
                obtain ⟨v4, hv4, hR4⟩ := got_of hs 56 110 (by kernel_rfl) (by rfl)
                replace hR4 : VIs [(⟨9, 0, 0, 0, 0, none, 0, []⟩ : Ins)] v4 w := hR4
                obtain ⟨l4, a4, c4, e4, rfl, r4, i4⟩ := hR4
                exact ⟨wanted_none rfl, _, run_b (qs := #[(0, .string ⟨#[102]⟩), (3, .int .i64 1), (4, .slice a4 l4.length c4)]) rfl (by simp [ev_const, ev hv4]) (by kernel_rfl), mk_fn (by unfold maxLen; decide) (by unfold I64; omega) (by unfold I64; omega) ⟨l4, a4, c4, e4, rfl, r4, i4⟩⟩
              refine stepsL_cons (s_call fun a w hC hs => ?_) ?_
              · skip
                obtain ⟨v0, hv0, hR0⟩ := got_of hs 54 108 (by kernel_rfl) (by rfl)
                replace hR0 : VK (Value.func (_root_.Go.Fn.func 28) #[] #[]) v0 w := hR0
                replace hR0 : v0 = _ := hR0
                subst hR0
                obtain ⟨v1, hv1, hR1⟩ := got_of hs 57 111 (by kernel_rfl) (by rfl)
                replace hR1 : VF (⟨⟨#[102]⟩, false, 0, 1, none, 0, [(⟨9, 0, 0, 0, 0, none, 0, []⟩ : Ins)]⟩ : Fn) v1 w := hR1
                obtain ⟨j1, he1, rfl, hi1⟩ := hR1
                refine ⟨wanted_none rfl, 28, _, run_calld rfl (ev hv0) (ev hv1) (fun _ _ => rfl), (fun_any j1 w hi1).mono ?_⟩
                rintro e w' ⟨v, rfl, hv, hb⟩
                rw [he1] at hv
                exact ⟨_, rfl, hC.trans (hb.mono hC.size), hb, hv⟩
              refine stepsL_cons (s_val fun a w hC hs => ?_) ?_
              · skip
                have ho := old_of hs 4 (by kernel_rfl) (by rfl)
                exact ⟨wanted_none rfl, _, run_mv (Or.inl rfl) (ev ho), rfl⟩
              refine stepsL_cons (s_val fun a w hC hs => ?_) ?_
              · skip
                exact ⟨wanted_none rfl, _, run_b (qs := #[(0, .int .u8 13)]) rfl (by simp [ev_const]) (by kernel_rfl), mk_in (by unfold U8; omega) (by unfold I64; omega) (by unfold I64; omega) (by unfold I64; omega) (by unfold I64; omega) nums_nil⟩
              refine stepsL_cons (s_val fun a w hC hs => ?_) ?_
              · skip
                exact ⟨wanted_none rfl, _, run_b (qs := #[(0, .int .u8 99)]) rfl (by simp [ev_const]) (by kernel_rfl), mk_in (by unfold U8; omega) (by unfold I64; omega) (by unfold I64; omega) (by unfold I64; omega) (by unfold I64; omega) nums_nil⟩
              refine stepsL_cons (s_val fun a w hC hs => ?_) ?_
              · skip
                exact ⟨wanted_none rfl, _, run_b (qs := #[(0, .int .u8 13)]) rfl (by simp [ev_const]) (by kernel_rfl), mk_in (by unfold U8; omega) (by unfold I64; omega) (by unfold I64; omega) (by unfold I64; omega) (by unfold I64; omega) nums_nil⟩
              refine stepsL_cons (s_new fun a w hC hs => ?_) ?_
              · skip
                obtain ⟨v0, hv0, hR0⟩ := got_of hs 60 114 (by kernel_rfl) (by rfl)
                replace hR0 : VI (⟨13, 0, 0, 0, 0, none, 0, []⟩ : Ins) v0 w := hR0
                obtain ⟨j0, he0, rfl, hi0⟩ := hR0
                obtain ⟨v1, hv1, hR1⟩ := got_of hs 61 115 (by kernel_rfl) (by rfl)
                replace hR1 : VI (⟨99, 0, 0, 0, 0, none, 0, []⟩ : Ins) v1 w := hR1
                obtain ⟨j1, he1, rfl, hi1⟩ := hR1
                obtain ⟨v2, hv2, hR2⟩ := got_of hs 62 116 (by kernel_rfl) (by rfl)
                replace hR2 : VI (⟨13, 0, 0, 0, 0, none, 0, []⟩ : Ins) v2 w := hR2
                obtain ⟨j2, he2, rfl, hi2⟩ := hR2
                exact ⟨wanted_none rfl, _, w.alloc (.cells ⟨inCells [j0, j1, j2]⟩ 31), run_bs (qs := #[(0, .agg ⟨j0.vals⟩), (1, .agg ⟨j1.vals⟩), (2, .agg ⟨j2.vals⟩)]) rfl (by simp [ev hv0, ev hv1, ev hv2]) (by kernel_rfl), hC.trans ((Ext.al w _).mono hC.size), Ext.al w _, inss_new (T := 31) (xs := [(⟨13, 0, 0, 0, 0, none, 0, []⟩ : Ins), (⟨99, 0, 0, 0, 0, none, 0, []⟩ : Ins), (⟨13, 0, 0, 0, 0, none, 0, []⟩ : Ins)]) [j0, j1, j2] (by simp only [List.map_cons, List.map_nil, he0, he1, he2]) (by simp) (fun x hx => by
                    simp only [List.mem_cons, List.mem_nil_iff, or_false] at hx
                    rcases hx with rfl | rfl | rfl
                    · exact hi0
                    · exact hi1
                    · exact hi2)⟩
              refine stepsL_cons (s_val fun a w hC hs => ?_) ?_
              · skip
                obtain ⟨v4, hv4, hR4⟩ := got_of hs 63 117 (by kernel_rfl) (by rfl)
                replace hR4 : VIs [(⟨13, 0, 0, 0, 0, none, 0, []⟩ : Ins), (⟨99, 0, 0, 0, 0, none, 0, []⟩ : Ins), (⟨13, 0, 0, 0, 0, none, 0, []⟩ : Ins)] v4 w := hR4
                obtain ⟨l4, a4, c4, e4, rfl, r4, i4⟩ := hR4
                exact ⟨wanted_none rfl, _, run_b (qs := #[(0, .string ⟨#[102]⟩), (3, .int .i64 1), (4, .slice a4 l4.length c4)]) rfl (by simp [ev_const, ev hv4]) (by kernel_rfl), mk_fn (by unfold maxLen; decide) (by unfold I64; omega) (by unfold I64; omega) ⟨l4, a4, c4, e4, rfl, r4, i4⟩⟩
              refine stepsL_cons (s_call fun a w hC hs => ?_) ?_
              · skip
                obtain ⟨v0, hv0, hR0⟩ := got_of hs 59 113 (by kernel_rfl) (by rfl)
                replace hR0 : VK (Value.func (_root_.Go.Fn.func 28) #[] #[]) v0 w := hR0
                replace hR0 : v0 = _ := hR0
                subst hR0
                obtain ⟨v1, hv1, hR1⟩ := got_of hs 64 118 (by kernel_rfl) (by rfl)
                replace hR1 : VF (⟨⟨#[102]⟩, false, 0, 1, none, 0, [(⟨13, 0, 0, 0, 0, none, 0, []⟩ : Ins), (⟨99, 0, 0, 0, 0, none, 0, []⟩ : Ins), (⟨13, 0, 0, 0, 0, none, 0, []⟩ : Ins)]⟩ : Fn) v1 w := hR1
                obtain ⟨j1, he1, rfl, hi1⟩ := hR1
                refine ⟨wanted_none rfl, 28, _, run_calld rfl (ev hv0) (ev hv1) (fun _ _ => rfl), (fun_any j1 w hi1).mono ?_⟩
                rintro e w' ⟨v, rfl, hv, hb⟩
                rw [he1] at hv
                exact ⟨_, rfl, hC.trans (hb.mono hC.size), hb, hv⟩
              refine stepsL_cons (s_val fun a w hC hs => ?_) ?_
              · skip
                have ho := old_of hs 4 (by kernel_rfl) (by rfl)
                exact ⟨wanted_none rfl, _, run_mv (Or.inl rfl) (ev ho), rfl⟩
              refine stepsL_cons (s_val fun a w hC hs => ?_) ?_
              · skip
                have ho := old_of hs 1 (by kernel_rfl) (by rfl)
                exact ⟨wanted_none rfl, _, run_mv (Or.inl rfl) (ev ho), hbV.out w hC⟩
              refine stepsL_cons (s_val fun a w hC hs => ?_) ?_
              · skip
                obtain ⟨v4, hv4, hR4⟩ := got_of hs 67 121 (by kernel_rfl) (by rfl)
                replace hR4 : VIs [bk] v4 w := hR4
                obtain ⟨l4, a4, c4, e4, rfl, r4, i4⟩ := hR4
                exact ⟨wanted_none rfl, _, run_b (qs := #[(3, .int .i64 1), (4, .slice a4 l4.length c4)]) rfl (by simp [ev_const, ev hv4]) (by kernel_rfl), mk_fn (by unfold maxLen; decide) (by unfold I64; omega) (by unfold I64; omega) ⟨l4, a4, c4, e4, rfl, r4, i4⟩⟩
              refine stepsL_cons (s_call fun a w hC hs => ?_) ?_
              · skip
                obtain ⟨v0, hv0, hR0⟩ := got_of hs 66 120 (by kernel_rfl) (by rfl)
                replace hR0 : VK (Value.func (_root_.Go.Fn.func 28) #[] #[]) v0 w := hR0
                replace hR0 : v0 = _ := hR0
                subst hR0
                obtain ⟨v1, hv1, hR1⟩ := got_of hs 68 122 (by kernel_rfl) (by rfl)
                replace hR1 : VF (⟨⟨#[]⟩, false, 0, 1, none, 0, [bk]⟩ : Fn) v1 w := hR1
                obtain ⟨j1, he1, rfl, hi1⟩ := hR1
                refine ⟨wanted_none rfl, 28, _, run_calld rfl (ev hv0) (ev hv1) (fun _ _ => rfl), (fun_any j1 w hi1).mono ?_⟩
                rintro e w' ⟨v, rfl, hv, hb⟩
                rw [he1] at hv
                exact ⟨_, rfl, hC.trans (hb.mono hC.size), hb, hv⟩
              refine stepsL_cons (s_new fun a w hC hs => ?_) ?_
              · skip
                obtain ⟨v0, hv0, hR0⟩ := got_of hs 0 54 (by kernel_rfl) (by rfl)
                replace hR0 : VP (⟨none, 0, [], none, 0, (List.range 257).map lockNm, none, 0, []⟩ : Pg) v0 w := hR0
                obtain ⟨j0, he0, rfl, hi0⟩ := hR0
                obtain ⟨v1, hv1, hR1⟩ := got_of hs 1 55 (by kernel_rfl) (by rfl)
                replace hR1 : VP (⟨none, 0, [], none, 0, [], none, 0, (List.range 17).map thrE⟩ : Pg) v1 w := hR1
                obtain ⟨j1, he1, rfl, hi1⟩ := hR1
                obtain ⟨v2, hv2, hR2⟩ := got_of hs 4 58 (by kernel_rfl) (by rfl)
                replace hR2 : VP (⟨none, 0, [(⟨⟨#[97]⟩, 1025, 0⟩ : Mm)], none, 0, [], none, 0, []⟩ : Pg) v2 w := hR2
                obtain ⟨j2, he2, rfl, hi2⟩ := hR2
                obtain ⟨v3, hv3, hR3⟩ := got_of hs 7 61 (by kernel_rfl) (by rfl)
                replace hR3 : VP (⟨none, 0, [(⟨⟨#[97]⟩, 0, 0⟩ : Mm)], none, 0, [], none, 0, []⟩ : Pg) v3 w := hR3
                obtain ⟨j3, he3, rfl, hi3⟩ := hR3
                obtain ⟨v4, hv4, hR4⟩ := got_of hs 9 63 (by kernel_rfl) (by rfl)
                replace hR4 : VP (⟨none, 0, [], none, 0, [⟨#[105, 102]⟩], none, 0, []⟩ : Pg) v4 w := hR4
                obtain ⟨j4, he4, rfl, hi4⟩ := hR4
                obtain ⟨v5, hv5, hR5⟩ := got_of hs 11 65 (by kernel_rfl) (by rfl)
                replace hR5 : VP (⟨none, 0, [], none, 0, [⟨#[97]⟩, ⟨#[97]⟩], none, 0, []⟩ : Pg) v5 w := hR5
                obtain ⟨j5, he5, rfl, hi5⟩ := hR5
                obtain ⟨v6, hv6, hR6⟩ := got_of hs 15 69 (by kernel_rfl) (by rfl)
                replace hR6 : VP (⟨none, 0, [(⟨⟨#[97]⟩, 1, 0⟩ : Mm)], none, 0, [⟨#[97]⟩], none, 0, []⟩ : Pg) v6 w := hR6
                obtain ⟨j6, he6, rfl, hi6⟩ := hR6
                obtain ⟨v7, hv7, hR7⟩ := got_of hs 20 74 (by kernel_rfl) (by rfl)
                replace hR7 : VP (⟨none, 0, [], none, 0, [⟨#[102]⟩], none, 0, [(⟨⟨#[102]⟩, false, 0, 1, none, 0, [bk]⟩ : Fn)]⟩ : Pg) v7 w := hR7
                obtain ⟨j7, he7, rfl, hi7⟩ := hR7
                obtain ⟨v8, hv8, hR8⟩ := got_of hs 24 78 (by kernel_rfl) (by rfl)
                replace hR8 : VP (⟨none, 0, [], none, 0, [], none, 0, [(⟨⟨#[102]⟩, false, 9, 9, none, 0, [bk]⟩ : Fn)]⟩ : Pg) v8 w := hR8
                obtain ⟨j8, he8, rfl, hi8⟩ := hR8
                obtain ⟨v9, hv9, hR9⟩ := got_of hs 28 82 (by kernel_rfl) (by rfl)
                replace hR9 : VP (⟨none, 0, [], none, 0, [], none, 0, [(⟨⟨#[102]⟩, false, (-1), 1, none, 0, [bk]⟩ : Fn)]⟩ : Pg) v9 w := hR9
                obtain ⟨j9, he9, rfl, hi9⟩ := hR9
                obtain ⟨v10, hv10, hR10⟩ := got_of hs 32 86 (by kernel_rfl) (by rfl)
                replace hR10 : VP (⟨none, 0, [], none, 0, [], none, 0, [(⟨⟨#[102]⟩, false, 2, 1, none, 0, [bk]⟩ : Fn)]⟩ : Pg) v10 w := hR10
                obtain ⟨j10, he10, rfl, hi10⟩ := hR10
                obtain ⟨v11, hv11, hR11⟩ := got_of hs 36 90 (by kernel_rfl) (by rfl)
                replace hR11 : VP (⟨none, 0, [], none, 0, [], none, 0, [(⟨⟨#[102]⟩, true, 1, 1, none, 0, [bk]⟩ : Fn)]⟩ : Pg) v11 w := hR11
                obtain ⟨j11, he11, rfl, hi11⟩ := hR11
                obtain ⟨v12, hv12, hR12⟩ := got_of hs 40 94 (by kernel_rfl) (by rfl)
                replace hR12 : VP (⟨none, 0, [], none, 0, [], none, 0, [(⟨⟨#[102]⟩, false, 0, 4097, none, 0, [bk]⟩ : Fn)]⟩ : Pg) v12 w := hR12
                obtain ⟨j12, he12, rfl, hi12⟩ := hR12
                obtain ⟨v13, hv13, hR13⟩ := got_of hs 44 98 (by kernel_rfl) (by rfl)
                replace hR13 : VP (⟨none, 0, [], none, 0, [], none, 0, [(⟨⟨#[102]⟩, false, 0, 0, none, 0, [bk]⟩ : Fn)]⟩ : Pg) v13 w := hR13
                obtain ⟨j13, he13, rfl, hi13⟩ := hR13
                obtain ⟨v14, hv14, hR14⟩ := got_of hs 47 101 (by kernel_rfl) (by rfl)
                replace hR14 : VP (⟨none, 0, [], none, 0, [], none, 0, [(⟨⟨#[102]⟩, false, 0, 1, none, 0, []⟩ : Fn)]⟩ : Pg) v14 w := hR14
                obtain ⟨j14, he14, rfl, hi14⟩ := hR14
                obtain ⟨v15, hv15, hR15⟩ := got_of hs 53 107 (by kernel_rfl) (by rfl)
                replace hR15 : VP (⟨none, 0, [], none, 0, [], none, 0, [(⟨⟨#[102]⟩, false, 0, 1, none, 0, ((List.replicate 16384 bk) ++ [bk])⟩ : Fn)]⟩ : Pg) v15 w := hR15
                obtain ⟨j15, he15, rfl, hi15⟩ := hR15
                obtain ⟨v16, hv16, hR16⟩ := got_of hs 58 112 (by kernel_rfl) (by rfl)
                replace hR16 : VP (⟨none, 0, [], none, 0, [], none, 0, [(⟨⟨#[102]⟩, false, 0, 1, none, 0, [(⟨9, 0, 0, 0, 0, none, 0, []⟩ : Ins)]⟩ : Fn)]⟩ : Pg) v16 w := hR16
                obtain ⟨j16, he16, rfl, hi16⟩ := hR16
                obtain ⟨v17, hv17, hR17⟩ := got_of hs 65 119 (by kernel_rfl) (by rfl)
                replace hR17 : VP (⟨none, 0, [], none, 0, [], none, 0, [(⟨⟨#[102]⟩, false, 0, 1, none, 0, [(⟨13, 0, 0, 0, 0, none, 0, []⟩ : Ins), (⟨99, 0, 0, 0, 0, none, 0, []⟩ : Ins), (⟨13, 0, 0, 0, 0, none, 0, []⟩ : Ins)]⟩ : Fn)]⟩ : Pg) v17 w := hR17
                obtain ⟨j17, he17, rfl, hi17⟩ := hR17
                obtain ⟨v18, hv18, hR18⟩ := got_of hs 69 123 (by kernel_rfl) (by rfl)
                replace hR18 : VP (⟨none, 0, [], none, 0, [], none, 0, [(⟨⟨#[]⟩, false, 0, 1, none, 0, [bk]⟩ : Fn)]⟩ : Pg) v18 w := hR18
                obtain ⟨j18, he18, rfl, hi18⟩ := hR18
                exact ⟨wanted_none rfl, _, w.alloc (.cells ⟨pgCells [j0, j1, j2, j3, j4, j5, j6, j7, j8, j9, j10, j11, j12, j13, j14, j15, j16, j17, j18]⟩ 27), run_bs (qs := #[(0, .agg ⟨j0.vals⟩), (1, .agg ⟨j1.vals⟩), (2, .agg ⟨j2.vals⟩), (3, .agg ⟨j3.vals⟩), (4, .agg ⟨j4.vals⟩), (5, .agg ⟨j5.vals⟩), (6, .agg ⟨j6.vals⟩), (7, .agg ⟨j7.vals⟩), (8, .agg ⟨j8.vals⟩), (9, .agg ⟨j9.vals⟩), (10, .agg ⟨j10.vals⟩), (11, .agg ⟨j11.vals⟩), (12, .agg ⟨j12.vals⟩), (13, .agg ⟨j13.vals⟩), (14, .agg ⟨j14.vals⟩), (15, .agg ⟨j15.vals⟩), (16, .agg ⟨j16.vals⟩), (17, .agg ⟨j17.vals⟩), (18, .agg ⟨j18.vals⟩)]) rfl (by simp [ev hv0, ev hv1, ev hv2, ev hv3, ev hv4, ev hv5, ev hv6, ev hv7, ev hv8, ev hv9, ev hv10, ev hv11, ev hv12, ev hv13, ev hv14, ev hv15, ev hv16, ev hv17, ev hv18]) (by kernel_rfl), hC.trans ((Ext.al w _).mono hC.size), Ext.al w _, pgs_new (T := 27) (xs := [(⟨none, 0, [], none, 0, (List.range 257).map lockNm, none, 0, []⟩ : Pg), (⟨none, 0, [], none, 0, [], none, 0, (List.range 17).map thrE⟩ : Pg), (⟨none, 0, [(⟨⟨#[97]⟩, 1025, 0⟩ : Mm)], none, 0, [], none, 0, []⟩ : Pg), (⟨none, 0, [(⟨⟨#[97]⟩, 0, 0⟩ : Mm)], none, 0, [], none, 0, []⟩ : Pg), (⟨none, 0, [], none, 0, [⟨#[105, 102]⟩], none, 0, []⟩ : Pg), (⟨none, 0, [], none, 0, [⟨#[97]⟩, ⟨#[97]⟩], none, 0, []⟩ : Pg), (⟨none, 0, [(⟨⟨#[97]⟩, 1, 0⟩ : Mm)], none, 0, [⟨#[97]⟩], none, 0, []⟩ : Pg), (⟨none, 0, [], none, 0, [⟨#[102]⟩], none, 0, [(⟨⟨#[102]⟩, false, 0, 1, none, 0, [bk]⟩ : Fn)]⟩ : Pg), (⟨none, 0, [], none, 0, [], none, 0, [(⟨⟨#[102]⟩, false, 9, 9, none, 0, [bk]⟩ : Fn)]⟩ : Pg), (⟨none, 0, [], none, 0, [], none, 0, [(⟨⟨#[102]⟩, false, (-1), 1, none, 0, [bk]⟩ : Fn)]⟩ : Pg), (⟨none, 0, [], none, 0, [], none, 0, [(⟨⟨#[102]⟩, false, 2, 1, none, 0, [bk]⟩ : Fn)]⟩ : Pg), (⟨none, 0, [], none, 0, [], none, 0, [(⟨⟨#[102]⟩, true, 1, 1, none, 0, [bk]⟩ : Fn)]⟩ : Pg), (⟨none, 0, [], none, 0, [], none, 0, [(⟨⟨#[102]⟩, false, 0, 4097, none, 0, [bk]⟩ : Fn)]⟩ : Pg), (⟨none, 0, [], none, 0, [], none, 0, [(⟨⟨#[102]⟩, false, 0, 0, none, 0, [bk]⟩ : Fn)]⟩ : Pg), (⟨none, 0, [], none, 0, [], none, 0, [(⟨⟨#[102]⟩, false, 0, 1, none, 0, []⟩ : Fn)]⟩ : Pg), (⟨none, 0, [], none, 0, [], none, 0, [(⟨⟨#[102]⟩, false, 0, 1, none, 0, ((List.replicate 16384 bk) ++ [bk])⟩ : Fn)]⟩ : Pg), (⟨none, 0, [], none, 0, [], none, 0, [(⟨⟨#[102]⟩, false, 0, 1, none, 0, [(⟨9, 0, 0, 0, 0, none, 0, []⟩ : Ins)]⟩ : Fn)]⟩ : Pg), (⟨none, 0, [], none, 0, [], none, 0, [(⟨⟨#[102]⟩, false, 0, 1, none, 0, [(⟨13, 0, 0, 0, 0, none, 0, []⟩ : Ins), (⟨99, 0, 0, 0, 0, none, 0, []⟩ : Ins), (⟨13, 0, 0, 0, 0, none, 0, []⟩ : Ins)]⟩ : Fn)]⟩ : Pg), (⟨none, 0, [], none, 0, [], none, 0, [(⟨⟨#[]⟩, false, 0, 1, none, 0, [bk]⟩ : Fn)]⟩ : Pg)]) [j0, j1, j2, j3, j4, j5, j6, j7, j8, j9, j10, j11, j12, j13, j14, j15, j16, j17, j18] (by simp only [List.map_cons, List.map_nil, he0, he1, he2, he3, he4, he5, he6, he7, he8, he9, he10, he11, he12, he13, he14, he15, he16, he17, he18]) (by simp) (fun x hx => by
                    simp only [List.mem_cons, List.mem_nil_iff, or_false] at hx
                    rcases hx with rfl | rfl | rfl | rfl | rfl | rfl | rfl | rfl | rfl | rfl | rfl | rfl | rfl | rfl | rfl | rfl | rfl | rfl | rfl
                    · exact hi0
                    · exact hi1
                    · exact hi2
                    · exact hi3
                    · exact hi4
                    · exact hi5
                    · exact hi6
                    · exact hi7
                    · exact hi8
                    · exact hi9
                    · exact hi10
                    · exact hi11
                    · exact hi12
                    · exact hi13
                    · exact hi14
                    · exact hi15
                    · exact hi16
                    · exact hi17
                    · exact hi18)⟩
              refine stepsL_cons (s_val fun a w hC hs => ?_) ?_
              · skip
                obtain ⟨v0, hv0, hR0⟩ := got_of hs 70 124 (by kernel_rfl) (by rfl)
                replace hR0 : VPs [(⟨none, 0, [], none, 0, (List.range 257).map lockNm, none, 0, []⟩ : Pg), (⟨none, 0, [], none, 0, [], none, 0, (List.range 17).map thrE⟩ : Pg), (⟨none, 0, [(⟨⟨#[97]⟩, 1025, 0⟩ : Mm)], none, 0, [], none, 0, []⟩ : Pg), (⟨none, 0, [(⟨⟨#[97]⟩, 0, 0⟩ : Mm)], none, 0, [], none, 0, []⟩ : Pg), (⟨none, 0, [], none, 0, [⟨#[105, 102]⟩], none, 0, []⟩ : Pg), (⟨none, 0, [], none, 0, [⟨#[97]⟩, ⟨#[97]⟩], none, 0, []⟩ : Pg), (⟨none, 0, [(⟨⟨#[97]⟩, 1, 0⟩ : Mm)], none, 0, [⟨#[97]⟩], none, 0, []⟩ : Pg), (⟨none, 0, [], none, 0, [⟨#[102]⟩], none, 0, [(⟨⟨#[102]⟩, false, 0, 1, none, 0, [bk]⟩ : Fn)]⟩ : Pg), (⟨none, 0, [], none, 0, [], none, 0, [(⟨⟨#[102]⟩, false, 9, 9, none, 0, [bk]⟩ : Fn)]⟩ : Pg), (⟨none, 0, [], none, 0, [], none, 0, [(⟨⟨#[102]⟩, false, (-1), 1, none, 0, [bk]⟩ : Fn)]⟩ : Pg), (⟨none, 0, [], none, 0, [], none, 0, [(⟨⟨#[102]⟩, false, 2, 1, none, 0, [bk]⟩ : Fn)]⟩ : Pg), (⟨none, 0, [], none, 0, [], none, 0, [(⟨⟨#[102]⟩, true, 1, 1, none, 0, [bk]⟩ : Fn)]⟩ : Pg), (⟨none, 0, [], none, 0, [], none, 0, [(⟨⟨#[102]⟩, false, 0, 4097, none, 0, [bk]⟩ : Fn)]⟩ : Pg), (⟨none, 0, [], none, 0, [], none, 0, [(⟨⟨#[102]⟩, false, 0, 0, none, 0, [bk]⟩ : Fn)]⟩ : Pg), (⟨none, 0, [], none, 0, [], none, 0, [(⟨⟨#[102]⟩, false, 0, 1, none, 0, []⟩ : Fn)]⟩ : Pg), (⟨none, 0, [], none, 0, [], none, 0, [(⟨⟨#[102]⟩, false, 0, 1, none, 0, ((List.replicate 16384 bk) ++ [bk])⟩ : Fn)]⟩ : Pg), (⟨none, 0, [], none, 0, [], none, 0, [(⟨⟨#[102]⟩, false, 0, 1, none, 0, [(⟨9, 0, 0, 0, 0, none, 0, []⟩ : Ins)]⟩ : Fn)]⟩ : Pg), (⟨none, 0, [], none, 0, [], none, 0, [(⟨⟨#[102]⟩, false, 0, 1, none, 0, [(⟨13, 0, 0, 0, 0, none, 0, []⟩ : Ins), (⟨99, 0, 0, 0, 0, none, 0, []⟩ : Ins), (⟨13, 0, 0, 0, 0, none, 0, []⟩ : Ins)]⟩ : Fn)]⟩ : Pg), (⟨none, 0, [], none, 0, [], none, 0, [(⟨⟨#[]⟩, false, 0, 1, none, 0, [bk]⟩ : Fn)]⟩ : Pg)] v0 w := hR0
                exact ⟨wanted_none rfl, _, run_mv (Or.inr rfl) (ev hv0), hR0⟩
              exact stepsL_nil
            case hend14 =>
              intro σ2 V9 hC9 hR9
              generalize hF : fillL _ _ _ _ _ = F
              simp [fillL, dstOf, List.range, List.range.loop, Act.put] at hF
              subst hF
              have hps : VPs noL (σ2 71) V9 := hR9 71 (by simp)
              obtain ⟨ly2, ay2, cy2, hey2, hvy2, hry2, hiy2⟩ := hps
              rw [hvy2]
              obtain ⟨dy1, dy2⟩ := len_i hry2
              have hYV : Hid (∀ V, Below V9.heap.size V9 V → RowAt V (fun _ => True) ay2 cy2 ly2.length (pgCells ly2) ∧ ∀ p ∈ ly2, Pg.In V (fun _ => True) p) := Lib.hid fun V hV => ⟨hry2.below (Kps.of_below hV), fun p hp => (hiy2 p hp).below (Kps.of_below hV)⟩
              have hno : Hid (∀ p ∈ ly2, mayP p = false ∧ p.mems.length + p.locks.length + p.funs.length ≤ 1000) := Lib.hid fun p hp => by
                have h1 : p.er ∈ noL := by rw [← hey2]; exact List.mem_map_of_mem hp
                obtain ⟨h2, h3⟩ := no_may p.er h1
                rw [mayP_er] at h2
                refine ⟨h2, ?_⟩
                have h4 : p.er.funs.length = p.funs.length := List.length_map _
                rw [← h4]
                exact h3
              have hC9' := Lib.hid hC9
              clear hR9 hvy2 hry2 hiy2 hey2 hC9 hbV hlV hLV
              go_wp2_with fail
              go_loopw [8] (fun t V => ∃ k : Nat, k ≤ ly2.length ∧ t = .int .i64 k ∧ Hid (Below V9.heap.size V9 V)) (fun t _ => ly2.length - (intOf t).toNat)
              case atStart => exact ⟨0, Nat.zero_le _, rfl, Lib.hid (Below.refl _ _)⟩
              case round =>
                obtain ⟨k, hk, rfl, hb⟩ := hrel
                have hbw : Hid (Below w.heap.size w _) := Lib.hid (hbw8.out.trans ((hC9'.out.trans (hb.out.mono hC9'.out.size)).mono hbw8.out.size))
                by_cases hkl : k < ly2.length
                · obtain ⟨x, hx⟩ : ∃ x, ly2[k]? = some x := ⟨_, List.getElem?_eq_getElem hkl⟩
                  obtain ⟨q1, q2⟩ := hYV.out _ hb.out
                  obtain ⟨b, off, ha, _, c0, c1, c2⟩ := pg_row q1 k x hx
                  have hpx := q2 x (List.mem_of_getElem? hx)
                  obtain ⟨hmx, hsx⟩ := hno.out x (List.mem_of_getElem? hx)
                  have hcm := Lib.hid (may_any x _ hpx (hTV.out _ hbw.out).1 (hTV.out _ hbw.out).2 (by omega))
                  rw [hmx] at hcm
                  unfold Pg.val at hcm
                  have hk0 : (0 : Int) ≤ (k : Int) := by omega
                  have hk1 : (k : Int) < (ly2.length : Int) := by omega
                  subst ha
                  clear hx q1 q2 hpx hmx hsx hYV hno
                  go_wp2_with (go_at_call 13; refine hcm.out.mono ?_; rintro e W2 ⟨rfl, hb2⟩; have hbn := Lib.hid (hb.out.trans (hb2.mono hb.out.size)))
                  go_roundw
                  case rel => exact ⟨k + 1, by omega, by go_num, hbn⟩
                  case measure => simp [intOf]; omega
                · have hk1 : ¬ (k : Int) < (ly2.length : Int) := by omega
                  clear hYV hno
                  go_wp2_with fail
                  go_ret
                  exact ⟨rfl, hbw.out⟩
end Go.Proofs.YtiicjbnocpphdaaDoor.Cd
