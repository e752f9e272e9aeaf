/- THE STATEMENT TreeAsks, WHERE WHAT IT READS IS OF BULK AT MOST 1048576: for every two programs, every two expressions and every text the function TreeAsks returns true, and leaves its arguments as they were; the card ties the lists of kinds and signs to the program's text. Conditions: none beyond the statement's own. -/
import Derived.Test.YtolmhcdcfnoicaaDoorTrAsks
import Derived.Test.YtolmhcdcfnoicaaDoorTrV
namespace Go.Proofs.YtolmhcdcfnoicaaDoor.TreeAsks
open Go Go.RowKit Go.ChangeShapes Go.WideShapes Go.ChangeAt Go.ChangeMaps
open Go.Proofs.YtolmhcdcfnoicaaDoor.Lx Go.Proofs.YtolmhcdcfnoicaaDoor.Tr

theorem laidOut : laidOutB Tryd.prog = true := by kernel_rfl

section
variable {H : Type} {enc : TypeId × Value → H} {P : Program}
/-- Arguments that read as they did, at the places where they did; a result without places; nothing old turned: the specification's post holds. -/
theorem post_kept {f : Func} {s : ChangeSpec} {apart fresh handsOn again : Bool} {W W' : World} {args : Array Value} {v : Value} {ds : List (DataW H)} {ps : List MemPlace}
    (hW : DataW.Whole enc P f.params.toList s.vars apart W args.toList ds [] ps)
    (hres : ∀ (b : Nat) (sp : Nat → Bool) (hd : Bool), DataW.TrodAll enc P W' b sp hd f.resultTypes.toList (v.resultList f.resultTypes.size) (s.fn H (ds ++ [])).results [])
    (hargs : ∀ sp : Nat → Bool, (∀ p ∈ ps, sp p.block = true) → DataW.TrodAll enc P W' 0 sp true f.params.toList args.toList (s.fn H (ds ++ [])).args ps)
    (hvars : ∀ sp : Nat → Bool, DataW.TrodVars enc P W' sp s.vars (s.fn H (ds ++ [])).vars [])
    (hb : Below W.heap.size W W')
    (hok : ∀ (j : Nat) (t : TypeId) (r : Value), f.resultTypes[j]? = some t → (v.resultList f.resultTypes.size)[j]? = some r → Value.okWide P W' .any 0 t r) :
    s.post enc P f apart fresh handsOn again W args v W' := by
  have hlt : ∀ p ∈ ps, p.block < W.heap.size := fun p hp => hW.lt p hp
  have hin : ∀ p ∈ ps, (fun b => decide (b < W.heap.size)) p.block = true := fun p hp => by simpa using hlt p hp
  have hz : ∀ b off, MemPlace.cell b off ∈ ps → W'.frozen? ⟨b, off, none⟩ = W.frozen? ⟨b, off, none⟩ := fun b off hp => hb.frozen (hlt _ hp)
  refine ⟨ds, [], ps, [], ps, [], hW, hres _ _ _, hargs _ hin, hvars _, ?_, fun _ => ⟨hok, _, _, ps, ⟨ps, [], trodAll_append (hargs _ (fun _ _ => rfl)) (hres _ _ _), hvars _, (List.append_nil ps).symm, ?_, ?_⟩, ?_⟩⟩
  · exact World.keptBut_mono (fun p hp => ⟨hp, Or.inr (Or.inl hp)⟩) (hb.frame (· ∈ ps))
  · obtain ⟨_, _, _, _, _, h, _⟩ := hW
    intro b off hp
    rw [hz b off hp]
    exact h b off hp
  · obtain ⟨_, _, _, _, _, _, h⟩ := hW
    exact h
  · intro p hp _
    simpa using hp
end

theorem contract (H : Type) (enc : TypeId × Value → H) (W : World) (base : Nat) (args : Array Value) (ds gs : List (DataW H)) (before : List MemPlace)
    (hval : ∀ (j : Nat) t v, Tryd.f3.params[j]? = some t → args[j]? = some v → Value.okWide Tryd.prog W .any base t v)
    (hW : DataW.Whole enc Tryd.prog Tryd.f3.params.toList Rows.treeAsksSpec.vars false W args.toList ds gs before) (hL : laidMetH Tryd.prog Rows.treeAsksUptoRow.laid W)
    (hcond : Rows.uptoSmall H (ds ++ gs) = true) :
    Calls Tryd.prog 3 args W fun e W' => ∃ v, e = .returned v ∧ Rows.treeAsksSpec.post enc Tryd.prog Tryd.f3 false true false false W args v W' := by
  have hW' := hW
  obtain ⟨p, q, hA0, hV, rfl, hfz, hnd⟩ := hW
  have hA : DataW.TrodAll enc Tryd.prog W 0 (fun _ => true) true Tryd.f3.params.toList args.toList ds p := hA0
  rw [Tryd.params3] at hA hval
  obtain ⟨v0, vs0, d0, ds0, p0, q0, hargs0, rfl, rfl, h0, r0⟩ := trodAll_cons hA
  obtain ⟨v1, vs1, d1, ds1, p1, q1, hargs1, rfl, rfl, h1, r1⟩ := trodAll_cons r0
  subst hargs1
  obtain ⟨v2, vs2, d2, ds2, p2, q2, hargs2, rfl, rfl, h2, r2⟩ := trodAll_cons r1
  subst hargs2
  obtain ⟨v3, vs3, d3, ds3, p3, q3, hargs3, rfl, rfl, h3, r3⟩ := trodAll_cons r2
  subst hargs3
  obtain ⟨v4, vs4, d4, ds4, p4, q4, hargs4, rfl, rfl, h4, r4⟩ := trodAll_cons r3
  subst hargs4
  obtain ⟨rfl, rfl, rfl⟩ := trodAll_nil r4
  obtain rfl : args = #[v0, v1, v2, v3, v4] := by cases args; simp_all
  obtain ⟨rfl, rfl⟩ := trodVars_none hV
  have h0k := h0
  obtain ⟨x0, n0, c0, rfl⟩ := okWide_slice Tryd.underlying22 (hval 0 22 v0 rfl rfl)
  obtain ⟨fuel0, h0⟩ := h0
  obtain ⟨a0, cap0, l0, he0, rw0, in0, sz0⟩ := open_deL _ _ _ _ _ h0
  obtain ⟨rfl, rfl, rfl⟩ : x0 = a0 ∧ n0 = l0.length ∧ c0 = cap0 := by simpa [Value.cells] using he0
  have h1k := h1
  obtain ⟨x1, n1, c1, rfl⟩ := okWide_slice Tryd.underlying22 (hval 1 22 v1 rfl rfl)
  obtain ⟨fuel1, h1⟩ := h1
  obtain ⟨a1, cap1, l1, he1, rw1, in1, sz1⟩ := open_deL _ _ _ _ _ h1
  obtain ⟨rfl, rfl, rfl⟩ : x1 = a1 ∧ n1 = l1.length ∧ c1 = cap1 := by simpa [Value.cells] using he1
  have h2k := h2
  obtain ⟨cs2, rfl, _⟩ := okWide_struct Tryd.underlying25 (hval 2 25 v2 rfl rfl)
  obtain ⟨fuel2, h2⟩ := h2
  obtain ⟨e2, he2, in2, sz2⟩ := open_ex _ _ _ _ _ h2
  have hcs2 : cs2 = ⟨e2.vals⟩ := Array.toList_inj.1 he2
  subst hcs2
  have h3k := h3
  obtain ⟨cs3, rfl, _⟩ := okWide_struct Tryd.underlying25 (hval 3 25 v3 rfl rfl)
  obtain ⟨fuel3, h3⟩ := h3
  obtain ⟨e3, he3, in3, sz3⟩ := open_ex _ _ _ _ _ h3
  have hcs3 : cs3 = ⟨e3.vals⟩ := Array.toList_inj.1 he3
  subst hcs3
  have h4k := h4
  obtain ⟨s4, rfl⟩ := okWide_string Tryd.underlying9 (hval 4 9 v4 rfl rfl)
  obtain ⟨fuel4, h4⟩ := h4
  obtain ⟨m4, he4, _, hw4⟩ := DataW.trod_string Tryd.underlying9 h4
  obtain rfl : s4 = m4 := by simpa [Value.cells] using he4
  have hbulk : Rows.uptoBulk d0 + Rows.uptoBulk d1 + Rows.uptoBulk d2 + Rows.uptoBulk d3 + Rows.uptoBulk d4 ≤ 1048576 := by
    have h := of_decide_eq_true hcond
    simp only [List.append_nil, Rows.uptoBulkAll] at h
    omega
  simp only at sz0
  simp only at sz1
  simp only at sz2
  simp only at sz3
  clear hA0
  refine (asks_any l0 l1 _ _ _ _ e2 e3 s4 W rw0 rw1 in0 in1 in2 in3 (by omega) (by omega) (by omega) (by omega) hw4 (tabs_of_laid hL)).mono fun x W' ⟨hx, hg⟩ => ?_
  subst hx
  refine ⟨_, rfl, post_kept hW' (fun _ _ _ => trodAll_cons_mk (shut_bool Tryd.underlying4 _) trodAll_mk0) (fun sp hs => ?_) (fun _ => rfl) hg (ok_one (by kernel_rfl) rfl (okWide_bool_mk Tryd.underlying4 _))⟩
  have st4 := WideElems.Trod_stays laidOut (by kernel_rfl) (of_decide_eq_true (by kernel_rfl)) h4k (fun p hp => hg.same (hW'.lt p (by simp [hp]))) (sp' := sp) (fun p hp => hs p (by simp [hp]))
  have st3 := WideElems.Trod_stays laidOut (by kernel_rfl) (of_decide_eq_true (by kernel_rfl)) h3k (fun p hp => hg.same (hW'.lt p (by simp [hp]))) (sp' := sp) (fun p hp => hs p (by simp [hp]))
  have st2 := WideElems.Trod_stays laidOut (by kernel_rfl) (of_decide_eq_true (by kernel_rfl)) h2k (fun p hp => hg.same (hW'.lt p (by simp [hp]))) (sp' := sp) (fun p hp => hs p (by simp [hp]))
  have st1 := WideElems.Trod_stays laidOut (by kernel_rfl) (of_decide_eq_true (by kernel_rfl)) h1k (fun p hp => hg.same (hW'.lt p (by simp [hp]))) (sp' := sp) (fun p hp => hs p (by simp [hp]))
  have st0 := WideElems.Trod_stays laidOut (by kernel_rfl) (of_decide_eq_true (by kernel_rfl)) h0k (fun p hp => hg.same (hW'.lt p (by simp [hp]))) (sp' := sp) (fun p hp => hs p (by simp [hp]))
  rw [List.append_nil (p0 ++ (p1 ++ (p2 ++ (p3 ++ (p4 ++ ([]))))))]
  exact (trodAll_cons_mk (p := p0) (p' := p1 ++ (p2 ++ (p3 ++ (p4 ++ ([]))))) st0 (trodAll_cons_mk (p := p1) (p' := p2 ++ (p3 ++ (p4 ++ ([])))) st1 (trodAll_cons_mk (p := p2) (p' := p3 ++ (p4 ++ ([]))) st2 (trodAll_cons_mk (p := p3) (p' := p4 ++ ([])) st3 (trodAll_cons_mk (p := p4) (p' := []) st4 trodAll_mk0)))))

def laidIn (vs : Array Value) : Obj → Obj
  | .cells _ t frozen => .cells vs t frozen
  | o => o
/-- A WORLD FOR THE WITNESS: the settled one, the lists of kinds and signs holding what their initialisers lay. -/
noncomputable def laidWorld (os : Os) : World :=
  { World.holding Tryd.prog os ⟨#[], #[], []⟩ with
    heap := ((((World.holding Tryd.prog os ⟨#[], #[], []⟩).heap.modify 3 (laidIn sgVals)).modify 2 (laidIn exVals)).modify 1 (laidIn stVals)).modify 0 (laidIn deVals) }
def args0 : Array Value := #[.slice none 0 0, .slice none 0 0, .agg #[.int .u8 0, .string ⟨#[]⟩, .int .i64 0, .slice none 0 0, .int .i64 0], .agg #[.int .u8 0, .string ⟨#[]⟩, .int .i64 0, .slice none 0 0, .int .i64 0], .string ⟨#[]⟩]
theorem laid_met (os : Os) : laidMet Tryd.prog Rows.treeAsksUptoRow.laid ((laidWorld os).forCall (fun _ _ => 0) ⟨#[], args0, []⟩).memory :=
  laidMet_of_run' 8 (by kernel_rfl) (by kernel_rfl)
theorem reads (os : Os) {H : Type} (enc : TypeId × Value → H) : ∃ places, DataW.whole enc Tryd.prog ((laidWorld os).forCall (fun _ _ => 0) ⟨#[], args0, []⟩).memory Tryd.f3.params.toList Rows.treeAsksSpec.vars false args0.toList 8 = some ([.nil, .nil, .agg [.lit (.int .u8 0), .lit (.string []), .lit (.int .i64 0), .nil, .lit (.int .i64 0)], .agg [.lit (.int .u8 0), .lit (.string []), .lit (.int .i64 0), .nil, .lit (.int .i64 0)], .lit (.string [])], [], places) :=
  ⟨[], by kernel_rfl⟩

set_option maxRecDepth 100000 in
theorem lifted (os : Os) (started : os.Started) (H : Type) (enc : TypeId × Value → H) (F : Stop.Interp) :
    ReturnsInHanded {} Tryd.checked os 3 .any ((Rows.OpenSpec.upto Rows.treeAsksSpec).preRow enc Tryd.prog Tryd.f3 Rows.treeAsksUptoRow.domain false Rows.treeAsksUptoRow.laid) (((Rows.OpenSpec.upto Rows.treeAsksSpec).at F).post enc Tryd.prog Tryd.f3 false true false false) := by
  obtain ⟨places, hx⟩ := reads os enc
  refine returnsInHanded_of_row (C := Tryd.checked) (s := Rows.OpenSpec.upto Rows.treeAsksSpec) own started (by kernel_rfl) Tryd.func3
    (witness_row_at (enc := enc) (C := Tryd.checked) false (laidWorld os) args0 rfl (by kernel_rfl) (by kernel_rfl) (by kernel_rfl)
      (OpenSpec.preRow_of_cond 8 hx (by kernel_rfl) (fun k hk => by cases hk; kernel_rfl) (by kernel_rfl) (laid_met os))) ?_
  intro W base args ds gs before hval hW _ hcond _ hL _ _
  exact contract H enc W base args ds gs before hval hW hL (hcond _ rfl)

theorem said : Rows.TreeAsksUptoSaid :=
  OpenClaim.holds_of_cond 3 Tryd.f3 rfl rfl rfl rfl rfl rfl rfl ⟨rfl, rfl, rfl, rfl, rfl⟩ rfl rfl rfl rfl rfl (by kernel_rfl) Tryd.func3 (by kernel_rfl)
    (of_decide_eq_true (by kernel_rfl)) (by unfold Func.isWrapper; first | (rw [if_pos (by decide +kernel)]; kernel_rfl) | (rw [if_neg (by decide +kernel)]; exact ⟨rfl, rfl⟩))
    (fun os started H enc _ F => by rw [OpenClaim.pre_eq_preRow]; exact lifted os started H enc F)

theorem plain (f : FuncId) (fn : Func) (hf : Tryd.pinned.checked.prog.funcNamed "bobbin/bobbinlaw02.TreeAsks" = some f) (hfn : Tryd.pinned.checked.prog.funcs[f]? = some fn) :
    false = Tryd.pinned.checked.prog.looks [] ∧ ∀ (j : Nat) t, fn.params[j]? = some t → Tryd.pinned.checked.prog.wantsStandIn t = false := by
  obtain rfl : f = 3 := Option.some.inj ((show Tryd.prog.funcNamed "bobbin/bobbinlaw02.TreeAsks" = some 3 by kernel_rfl).symm.trans hf) |>.symm
  obtain rfl : fn = Tryd.f3 := (Option.some.inj (Tryd.func3.symm.trans hfn)).symm
  refine ⟨by kernel_rfl, fun j t ht => ?_⟩
  rw [Tryd.params3] at ht
  have hm := Array.mem_of_getElem? ht
  have hm' : t = 22 ∨ t = 25 ∨ t = 9 := by simpa using hm
  rcases hm' with rfl | rfl | rfl
  · exact (show Tryd.prog.wantsStandIn 22 = false by kernel_rfl)
  · exact (show Tryd.prog.wantsStandIn 25 = false by kernel_rfl)
  · exact (show Tryd.prog.wantsStandIn 9 = false by kernel_rfl)

theorem card : Rows.TreeAsksUptoCardSaid :=
  Claim7.holds_tied_plain_at .later [] _ _ _ _ said (fun _ h => by cases h) (by kernel_rfl) (fun _ h => by cases h) treeAsksUpto_row_tie rfl ⟨rfl, rfl⟩ (by kernel_rfl) rfl plain (by kernel_rfl)
end Go.Proofs.YtolmhcdcfnoicaaDoor.TreeAsks
