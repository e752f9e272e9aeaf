/- The blocks of a Fun, without memory: what Of makes of a program is the same as this. Conditions: none. What Of makes of a program lies in memory; its shape hangs on the instructions alone. Conditions: the instructions are such as may be. -/
import Derived.Test.YtkmlhijnkilfpaaDoorJOwT
import Derived.Test.YtkmlhijnkilfpaaDoorJShF
set_option linter.unusedVariables false
namespace Go.Proofs.YtkmlhijnkilfpaaDoor.Fw
open Go Go.RowKit
open Go.Proofs.YtkmlhijnkilfpaaDoor.Lx Go.Proofs.YtkmlhijnkilfpaaDoor.Tr Go.Proofs.YtkmlhijnkilfpaaDoor.Cd

theorem eqL_of {α : Type} {f : α → α → Bool} : ∀ {l m : List α}, l.length = m.length → (∀ (i : Nat) (x y : α), l[i]? = some x → m[i]? = some y → f x y = true) → eqL f l m = true
  | [], [], _, _ => rfl
  | [], _ :: _, h, _ => by simp at h
  | _ :: _, [], h, _ => by simp at h
  | x :: r, y :: s, h, k => by
    unfold eqL
    rw [k 0 x y rfl rfl, eqL_of (by simpa using h) (fun i a b h1 h2 => k (i + 1) a b (by simpa using h1) (by simpa using h2))]
    rfl
theorem sameB_parts {a b : Bk} (h : sameB a b = true) : eqL sameH a.phis b.phis = true ∧ eqL sameI a.code b.code = true ∧ a.fm = b.fm ∧ a.tt = b.tt := by
  unfold sameB at h
  simpa [Bool.and_eq_true] using h
theorem sameB_mk {a b : Bk} (h1 : eqL sameH a.phis b.phis = true) (h2 : eqL sameI a.code b.code = true) (h3 : a.fm = b.fm) (h4 : a.tt = b.tt) : sameB a b = true := by
  unfold sameB
  simp [h1, h2, h3, h4]
/-- an instruction that doesn't say where it goes to -/
def bareF (x : Ins) : Ins := { x with n := if (glP x).2 = true then 0 else x.n }
theorem bareR_same {x y : Ins} (h : bareR x y) : sameI y (bareF x) = true := by
  obtain ⟨h1, h2, h3, h4, h5, h6⟩ := h
  unfold sameI bareF
  simp [h1, h2, h3, h4, h5, h6]
def skB (l : List Ins) : List Bk := (List.range (begL l).length).map fun j => ⟨none, 0, [], none, 0, seg (l.map bareF) (stN l j) (enN l j), none, 0, [], none, 0, toL l j⟩
def skF (L : List Bk) : List Bk := L.mapIdx fun i x => putF none 0 (fromsP L (i : Int)) x
/-- the blocks of a Fun -/
def skG (l : List Ins) : List Bk := skF (stay (skB l))
theorem skB_get {l : List Ins} {j : Nat} (h : j < (begL l).length) : (skB l)[j]? = some ⟨none, 0, [], none, 0, seg (l.map bareF) (stN l j) (enN l j), none, 0, [], none, 0, toL l j⟩ := by
  unfold skB
  rw [List.getElem?_map, List.getElem?_range h]; rfl
theorem skB_len (l : List Ins) : (skB l).length = (begL l).length := by unfold skB; simp
theorem cut_same {a7 : Option Addr} {l m : List Ins} {bs : List Bk} (h : CutS a7 l m bs) : eqL sameB bs (skB l) = true := by
  refine eqL_of (by rw [skB_len, h.len]) fun j x y hx hy => ?_
  have hj : j < (begL l).length := by rw [← h.len]; exact (List.getElem?_eq_some_iff.1 hx).1
  rw [skB_get hj] at hy
  cases hy
  obtain ⟨h1, _, _, ⟨h2, _⟩, ⟨h3, _⟩, h4⟩ := h.row j x hx
  refine sameB_mk (by rw [h2]; rfl) ?_ h3 h4
  rw [h1]
  obtain ⟨s1, s2⟩ := st_en hj
  refine eqL_of (by rw [seg_len s1 (by rw [h.mlen]; exact s2), seg_len s1 (by rw [List.length_map]; exact s2)]) fun i u v hu hv => ?_
  have hu' := (seg_get hu).1
  have hv' := (seg_get hv).1
  rw [List.getElem?_map, Option.map_eq_some_iff] at hv'
  obtain ⟨z, hz, rfl⟩ := hv'
  exact bareR_same (h.bare _ z u hz hu')
theorem same_tt {a b : List Bk} (h : eqL sameB a b = true) (i : Nat) : (a.getD i Bk0).tt = (b.getD i Bk0).tt := by
  rw [List.getD_eq_getElem?_getD, List.getD_eq_getElem?_getD]
  have hl := eqL_len h
  by_cases hi : i < a.length
  · obtain ⟨x, hx⟩ : ∃ x, a[i]? = some x := ⟨_, List.getElem?_eq_getElem hi⟩
    obtain ⟨y, hy⟩ : ∃ y, b[i]? = some y := ⟨_, List.getElem?_eq_getElem (by omega)⟩
    rw [hx, hy]
    exact (sameB_parts (eqL_get h i x y hx hy)).2.2.2
  · rw [List.getElem?_eq_none (by omega), List.getElem?_eq_none (by omega)]
theorem same_met {a b : List Bk} (h : eqL sameB a b = true) : metF a = metF b := by
  unfold metF
  rw [eqL_len h, show toF a = toF b from funext fun i => same_tt h i]
theorem eqL_app {α : Type} {f : α → α → Bool} : ∀ {l m : List α} {l' m' : List α}, eqL f l m = true → eqL f l' m' = true → eqL f (l ++ l') (m ++ m') = true
  | [], [], _, _, _, h' => h'
  | [], _ :: _, _, _, h, _ => by cases h
  | _ :: _, [], _, _, h, _ => by cases h
  | x :: r, y :: s, _, _, h, h' => by
    unfold eqL at h
    rw [Bool.and_eq_true] at h
    rw [List.cons_append, List.cons_append]
    unfold eqL
    rw [h.1, eqL_app h.2 h']
    rfl
theorem same_pick (f : Nat → Bool) : ∀ (a b : List Bk) (i : Nat), eqL sameB a b = true → eqL sameB (pickF f i a) (pickF f i b) = true
  | [], [], _, _ => rfl
  | [], _ :: _, _, h => by cases h
  | _ :: _, [], _, h => by cases h
  | x :: r, y :: s, i, h => by
    unfold eqL at h
    rw [Bool.and_eq_true] at h
    unfold pickF
    refine eqL_app ?_ (same_pick f r s (i + 1) h.2)
    split
    · unfold eqL; rw [h.1]; rfl
    · rfl
theorem eqL_map {α : Type} {f : α → α → Bool} {g : α → α} (hg : ∀ x y, f x y = true → f (g x) (g y) = true) : ∀ (l m : List α), eqL f l m = true → eqL f (l.map g) (m.map g) = true
  | [], [], _ => rfl
  | [], _ :: _, h => by cases h
  | _ :: _, [], h => by cases h
  | x :: r, y :: s, h => by
    unfold eqL at h
    rw [Bool.and_eq_true] at h
    rw [List.map_cons, List.map_cons]
    unfold eqL
    rw [hg x y h.1, eqL_map hg r s h.2]
    rfl
theorem same_stay {a b : List Bk} (h : eqL sameB a b = true) : eqL sameB (stay a) (stay b) = true := by
  unfold stay
  rw [same_met h]
  refine eqL_map (fun x y hxy => ?_) _ _ (same_pick _ a b 0 h)
  obtain ⟨h1, h2, h3, h4⟩ := sameB_parts hxy
  exact sameB_mk h1 h2 h3 (by unfold reTo; rw [h4])
theorem same_froms (n : Int) : ∀ (a b : List Bk) (k : Nat), eqL sameB a b = true → fromsF k a n = fromsF k b n
  | [], [], _, _ => rfl
  | [], _ :: _, _, h => by cases h
  | _ :: _, [], _, h => by cases h
  | x :: r, y :: s, k, h => by
    unfold eqL at h
    rw [Bool.and_eq_true] at h
    unfold fromsF
    rw [(sameB_parts h.1).2.2.2, same_froms n r s (k + 1) h.2]
theorem same_tell {a b : List Bk} (h : eqL sameB a b = true) (fa : Nat → Option Addr) (fc : Nat → Nat) : eqL sameB (tellF fa fc a a.length) (skF b) = true := by
  have hl := eqL_len h
  refine eqL_of (by rw [tell_len]; unfold skF; simp [hl]) fun i x y hx hy => ?_
  have hi : i < a.length := by have := (List.getElem?_eq_some_iff.1 hx).1; rwa [tell_len] at this
  obtain ⟨u, hu⟩ : ∃ u, a[i]? = some u := ⟨_, List.getElem?_eq_getElem hi⟩
  obtain ⟨v, hv⟩ : ∃ v, b[i]? = some v := ⟨_, List.getElem?_eq_getElem (by omega)⟩
  rw [tell_get hu, if_pos hi] at hx
  unfold skF at hy
  rw [List.getElem?_mapIdx, hv] at hy
  cases hx
  cases hy
  obtain ⟨h1, h2, h3, h4⟩ := sameB_parts (eqL_get h i u v hu hv)
  refine sameB_mk h1 h2 ?_ h4
  show fromsP a (i : Int) = fromsP b (i : Int)
  exact same_froms _ a b 0 h
/-- what Of makes of a Fun is its blocks -/
theorem GrQ.same {B : Nat} {l : List Ins} {ba : Option Addr} {bcap : Nat} {L : List Bk} {W : World} (h : GrQ B l ba bcap L W) : eqL sameB L (skG l) = true := by
  obtain ⟨g, g2, bs, m, a7, c7, fa, fc, h1, h2, h3, h4, h5, h6, h7, h8⟩ := h
  rw [h7]
  exact same_tell (same_stay (cut_same h1)) fa fc
end Go.Proofs.YtkmlhijnkilfpaaDoor.Fw
set_option linter.unusedVariables false
namespace Go.Proofs.YtkmlhijnkilfpaaDoor.Fw
open Go Go.RowKit
open Go.Proofs.YtkmlhijnkilfpaaDoor.Lx Go.Proofs.YtkmlhijnkilfpaaDoor.Tr Go.Proofs.YtkmlhijnkilfpaaDoor.Cd

theorem fromsP_nat (L : List Bk) (n : Int) : ∀ t ∈ fromsP L n, 0 ≤ t ∧ t < (L.length : Int) := fun t ht => by
  have := fromsF_lt L 0 n t ht
  omega
theorem GrQ.mem {B : Nat} {l : List Ins} {ba : Option Addr} {bcap : Nat} {L : List Bk} {W : World} (h : GrQ B l ba bcap L W) (h0 : 0 < l.length) (hl : l.length ≤ 16384) (hlast : lastOp l = 11 ∨ lastOp l = 13) :
    RowAt W Tt ba bcap L.length (bkCells L) ∧ (∀ b ∈ L, Bk.In W b) ∧ (∀ b ∈ L, ∀ t ∈ b.tt, 0 ≤ t ∧ t < (L.length : Int)) ∧ (∀ b ∈ L, ∀ t ∈ b.fm, 0 ≤ t ∧ t < (L.length : Int)) ∧ L.length ≤ 16385 ∧ 0 < L.length := by
  obtain ⟨g, g2, bs, m, a7, c7, fa, fc, k1, k2, k3, k4, k5, k6, k7, k8⟩ := h
  have hto := k1.to hlast
  have hbl := begL_len l
  have hbp := begL_pos h0
  have hlen := k1.len
  obtain ⟨sp1, sp2⟩ := stay_pos hto (by omega)
  have hst := stay_to hto (by omega)
  have hin := stay_in k1 k2 k3 hst (by omega)
  have hLl : L.length = (stay bs).length := by rw [k7, tell_len]
  have key : ∀ b ∈ L, ∃ i x, (stay bs)[i]? = some x ∧ i < (stay bs).length ∧ b = putF (fa i) (fc i) (fromsP (stay bs) (i : Int)) x := fun b hb => by
    obtain ⟨i, hi⟩ := List.mem_iff_getElem?.1 hb
    have hil := (List.getElem?_eq_some_iff.1 hi).1
    rw [hLl] at hil
    obtain ⟨x, hx⟩ : ∃ x, (stay bs)[i]? = some x := ⟨_, List.getElem?_eq_getElem hil⟩
    rw [k7, tell_get hx, if_pos hil] at hi
    cases hi
    exact ⟨i, x, hx, hil, rfl⟩
  refine ⟨?_, fun b hb => ?_, fun b hb t ht => ?_, fun b hb t ht => ?_, by omega, by omega⟩
  · rw [k4]; exact k5.row.mono fun _ _ => trivial
  · obtain ⟨i, x, hx, hil, rfl⟩ := key b hb
    have hxI := hin x (List.mem_of_getElem? hx)
    obtain ⟨a', cap', e, hr⟩ := row_own1 (k8 i hil)
    injection e with e1 e2 e3
    subst e1 e3
    exact ⟨hxI.prow, hxI.phis, hxI.crow, hxI.code, hr, fun t ht => by
      have := fromsP_nat _ _ t ht
      unfold I64
      omega, hxI.trow, hxI.tnum⟩
  · obtain ⟨i, x, hx, hil, rfl⟩ := key b hb
    rw [hLl]
    exact hst x (List.mem_of_getElem? hx) t ht
  · obtain ⟨i, x, hx, hil, rfl⟩ := key b hb
    rw [hLl]
    exact fromsP_nat _ _ t ht
theorem ops_eq : ∀ {a b : List Ins}, eqL sameI a b = true → a.map (fun i => i.op) = b.map (fun i => i.op)
  | [], [], _ => rfl
  | [], _ :: _, h => by cases h
  | _ :: _, [], h => by cases h
  | x :: r, y :: s, h => by
    unfold eqL at h
    rw [Bool.and_eq_true] at h
    rw [List.map_cons, List.map_cons, ops_eq h.2]
    have : x.op = y.op := by
      have h1 := h.1
      unfold sameI at h1
      simp only [Bool.and_eq_true, decide_eq_true_eq] at h1
      exact h1.1.1.1.1.1
    rw [this]
theorem shp_same : ∀ {a b : List Bk}, eqL sameB a b = true → shpBs a = shpBs b
  | [], [], _ => rfl
  | [], _ :: _, h => by cases h
  | _ :: _, [], h => by cases h
  | x :: r, y :: s, h => by
    unfold eqL at h
    rw [Bool.and_eq_true] at h
    obtain ⟨h1, h2, h3, h4⟩ := sameB_parts h.1
    show shpB x ++ shpBs r = shpB y ++ shpBs s
    rw [shp_same h.2]
    have e1 := ops_eq h2
    have e2 : x.code.map (fun i => chU i.op) = y.code.map (fun i => chU i.op) := by
      have := congrArg (List.map chU) e1
      rw [List.map_map, List.map_map] at this
      exact this
    unfold shpB
    rw [e2, h3, h4]
/-- operations of blocks are operations of instructions -/
theorem sk_ops {l : List Ins} : ∀ b ∈ skG l, ∀ i ∈ b.code, ∃ z ∈ l, i.op = z.op := by
  intro b hb i hi
  unfold skG skF at hb
  obtain ⟨k, hk⟩ := List.mem_iff_getElem?.1 hb
  rw [List.getElem?_mapIdx, Option.map_eq_some_iff] at hk
  obtain ⟨x, hx, rfl⟩ := hk
  obtain ⟨q, y, _, hy, _, _, rfl⟩ := stay_of hx
  have hq : q < (begL l).length := by have := (List.getElem?_eq_some_iff.1 hy).1; rwa [skB_len] at this
  rw [skB_get hq] at hy
  cases hy
  have hi' : i ∈ seg (l.map bareF) (stN l q) (enN l q) := hi
  obtain ⟨j, hj⟩ := List.mem_iff_getElem?.1 hi'
  have := (seg_get hj).1
  rw [List.getElem?_map, Option.map_eq_some_iff] at this
  obtain ⟨z, hz, rfl⟩ := this
  exact ⟨z, List.mem_of_getElem? hz, rfl⟩
theorem GrQ.ops {B : Nat} {l : List Ins} {ba : Option Addr} {bcap : Nat} {L : List Bk} {W : World} (h : GrQ B l ba bcap L W) (ho : ∀ z ∈ l, 0 ≤ z.op ∧ z.op < 14) : ∀ b ∈ L, ∀ i ∈ b.code, 0 ≤ i.op ∧ i.op < 14 := by
  intro b hb i hi
  have hs := h.same
  obtain ⟨k, hk⟩ := List.mem_iff_getElem?.1 hb
  obtain ⟨c, hc⟩ : ∃ c, (skG l)[k]? = some c := ⟨_, List.getElem?_eq_getElem (by rw [← eqL_len hs]; exact (List.getElem?_eq_some_iff.1 hk).1)⟩
  obtain ⟨_, h2, _, _⟩ := sameB_parts (eqL_get hs k b c hk hc)
  obtain ⟨j, hj⟩ := List.mem_iff_getElem?.1 hi
  obtain ⟨u, hu⟩ : ∃ u, c.code[j]? = some u := ⟨_, List.getElem?_eq_getElem (by rw [← eqL_len h2]; exact (List.getElem?_eq_some_iff.1 hj).1)⟩
  obtain ⟨z, hz, e⟩ := sk_ops c (List.mem_of_getElem? hc) u (List.mem_of_getElem? hu)
  have h3 := eqL_get h2 j i u hj hu
  unfold sameI at h3
  simp only [Bool.and_eq_true, decide_eq_true_eq] at h3
  rw [h3.1.1.1.1.1, e]
  exact ho z hz
/-- the shape of what Of makes of a Fun -/
theorem shape_of {B : Nat} {f : Cd.Fn} {x : Gr} {W : World} (h : GrO B f x W) (h0 : 0 < f.code.length) (hl : f.code.length ≤ 16384) (hlast : lastOp f.code = 11 ∨ lastOp f.code = 13) (ho : ∀ z ∈ f.code, 0 ≤ z.op ∧ z.op < 14) (hsz : (shpBs (skG f.code)).length ≤ 1000000) :
    Calls Tryd.prog 45 #[.slice x.ba x.blocks.length x.bcap] W fun e w' => e = .returned (.string (strU (shpBs (skG f.code)))) ∧ Below W.heap.size W w' := by
  obtain ⟨h1, h2, h3, h4, _⟩ := h.q.mem h0 hl hlast
  have h5 := shp_same h.q.same
  have := shape_c x.blocks x.ba x.bcap W h1 h2 (h.q.ops ho) (fun b hb t ht => (h3 b hb t ht).1) (fun b hb t ht => (h4 b hb t ht).1) (by rw [h5]; exact hsz)
  rw [h5] at this
  exact this
end Go.Proofs.YtkmlhijnkilfpaaDoor.Fw
