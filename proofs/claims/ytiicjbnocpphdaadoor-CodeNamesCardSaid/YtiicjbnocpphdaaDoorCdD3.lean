/- Walk of code.mayNumber. Conditions: the package's table holds its list. -/
import Derived.Test.YtiicjbnocpphdaaDoorCdD2
namespace Go.Proofs.YtiicjbnocpphdaaDoor.Cd
open Go Go.RowKit
open Go.Proofs.YtiicjbnocpphdaaDoor.Lx Go.Proofs.YtiicjbnocpphdaaDoor.Tr Go.Proofs.YtiicjbnocpphdaaDoor.Rg

set_option maxRecDepth 100000 in
set_option maxHeartbeats 8000000 in
theorem mayNum_call_yes (p : Pg) (f : Fn) (i : Ins) (w : World) (hi : U8 i.op) (hT : OpTab w) (hK : numK i.op = 6) (m : Nat) (hm : i.n = m) (g : Fn) (hg : p.funs[m]? = some g) (hin : inP i.n p.funs.length = true) (hrow : RowAt w (fun _ => True) p.fa p.fcap p.funs.length (fnCells p.funs)) (ht : g.thread = false) :
    Calls Tryd.prog 26 #[p.val, f.val, i.val] w fun e w' => e = .returned (.bool (numP p f i)) ∧ Below w.heap.size w w' := by
  have hn := fun W (hb : Below w.heap.size w W) => namesOf_any i.op W hi (hT.keep hb)
  unfold nmV at hn
  rw [hK] at hn
  have hfit : numP p f i = _ := fit_fin (fitP p f i) i.args.length true g.params (by unfold fitP; simp only [hK, hin]; rw [hm, Int.toNat_natCast, hg]; simp only [ht] <;> rfl)
  rw [hfit]
  clear hfit hT
  generalize hasR i.op = xR at *
  generalize hasA i.op = xA at *
  generalize hasB i.op = xB at *
  generalize hasF i.op = xF at *
  replace hn := Lib.hid hn
  have hwi := fun W => within_any i.n p.funs.length W
  rw [hin, hm] at hwi
  replace hwi := Lib.hid hwi
  have hml : m < p.funs.length := (List.getElem?_eq_some_iff.1 hg).1
  have hml2 : (m : Int) < p.funs.length := by omega
  have hm0 : (0 : Int) ≤ m := by omega
  obtain ⟨b, off, hfa, _, _, c1, c2, _, _⟩ := fn_row hrow m g hg
  have hbl : b < w.heap.size := World.block_lt_of_cell? _ _ c1
  unfold Pg.val Ins.val
  rw [hfa, hm]
  clear hg hrow hin hfa
  rw [ht] at c1
  go_enter Tryd.func26, Tryd.ntmps26
  go_wp2_with fail
  refine (hn.out _ (b_alloc3 _ _ _ _)).mono ?_
  rintro e w1 ⟨rfl, hb1⟩
  obtain ⟨hc, hf⟩ := bcell hb1
  have hlt : w.heap.size + 2 < w1.heap.size := by have := hb1.size; simp at this; omega
  have hlt1 : w.heap.size + 1 < w1.heap.size := by omega
  have hlt0 : w.heap.size < w1.heap.size := by omega
  have hfl := fl_nm4 w1
  have hbb := Lib.hid (b_next3 hb1)
  clear hb1
  go_wp2_with fail
  refine (hwi.out _).mono ?_
  rintro e w2 ⟨rfl, hb2⟩
  obtain ⟨hc2, hf2⟩ := bcell hb2
  have hl2 := hb2.size
  have hbb2 := Lib.hid (hbb.out.trans (hb2.mono hbb.out.size))
  clear hb2 hbb
  have d1 := (hbb2.out.cell (p := ⟨b, off + m * 5 + 1, none⟩) hbl).trans c1
  have d2 := (hbb2.out.cell (p := ⟨b, off + m * 5 + 2, none⟩) hbl).trans c2
  go_wp2_with fail
  go_ret
  exact ⟨ret_bool (by rw [Bool.eq_iff_iff] <;> simp [*]), hbb2.out⟩
theorem mayNum_any (p : Pg) (f : Fn) (i : Ins) (w : World) (hi : U8 i.op) (hT : OpTab w) (hrow : RowAt w (fun _ => True) p.fa p.fcap p.funs.length (fnCells p.funs)) :
    Calls Tryd.prog 26 #[p.val, f.val, i.val] w fun e w' => e = .returned (.bool (numP p f i)) ∧ Below w.heap.size w w' := by
  rcases numK_cases i.op with h | h | h | h | h | h | h | h
  · exact mayNum_none p f i w hi  hT h
  · exact mayNum_any1 p f i w hi  hT h
  · exact mayNum_one p f i w hi  hT h
  · exact mayNum_two p f i w hi  hT h
  · exact mayNum_mem p f i w hi  hT h
  · exact mayNum_lock p f i w hi  hT h
  · cases hin : inP i.n p.funs.length
    · exact mayNum_call_no p f i w hi  hT h hin
    · have h2 : 0 ≤ i.n ∧ i.n < p.funs.length := by simpa [inP] using hin
      obtain ⟨m, hm⟩ : ∃ m : Nat, i.n = m := ⟨i.n.toNat, by omega⟩
      obtain ⟨g, hg⟩ : ∃ g, p.funs[m]? = some g := ⟨p.funs[m]'(by omega), by simp⟩
      cases ht : g.thread
      · exact mayNum_call_yes p f i w hi  hT h m hm g hg hin hrow ht
      · exact mayNum_call_thr p f i w hi  hT h m hm g hg hin hrow ht
  · exact mayNum_goal p f i w hi  hT h
end Go.Proofs.YtiicjbnocpphdaaDoor.Cd
