/- Walk of shape, of blocks. Conditions: the blocks lie in memory, operations are such as may be, numbers are none below zero, the text is of bounded length. -/
import Derived.Laws.Concat
import Derived.Deep.RegionHeld
import Derived.Test.YthiiahlgncngoaaDoorRRJM10
set_option maxHeartbeats 16000000
set_option maxRecDepth 100000
set_option linter.unusedVariables false
set_option linter.unusedSimpArgs false
namespace Go.Proofs.YthiiahlgncngoaaDoorRR.Fw
open Go Go.RowKit
open Go.Proofs.YthiiahlgncngoaaDoorRR.Lx Go.Proofs.YthiiahlgncngoaaDoorRR.Tr Go.Proofs.YthiiahlgncngoaaDoorRR.Cd
theorem map_take {α : Type} (f : α → UInt8) {l : List α} {j : Nat} {x : α} (h : l[j]? = some x) : (l.take (j + 1)).map f = (l.take j).map f ++ [f x] := by
 rw [List.take_add_one, h]; simp
end Go.Proofs.YthiiahlgncngoaaDoorRR.Fw
set_option linter.unusedVariables false
namespace Go.Proofs.YthiiahlgncngoaaDoorRR.Fw
open Go Go.RowKit
open Go.Proofs.YthiiahlgncngoaaDoorRR.Lx Go.Proofs.YthiiahlgncngoaaDoorRR.Tr Go.Proofs.YthiiahlgncngoaaDoorRR.Cd
theorem eqL_of {α : Type} {f : α → α → Bool} : ∀ {l m : List α}, l.length = m.length → (∀ (i : Nat) (x y : α), l[i]? = some x → m[i]? = some y → f x y = true) → eqL f l m = true
 | [], [], _, _ => rfl
 | [], _ :: _, h, _ => by simp at h
 | _ :: _, [], h, _ => by simp at h
 | x :: r, y :: s, h, k => by
   unfold eqL
   rw [k 0 x y rfl rfl, eqL_of (by simpa using h) (fun i a b h1 h2 => k (i + 1) a b (by simpa using h1) (by simpa using h2))]
   rfl
theorem X7 {a b : Bk} (h : Zz a b = true) : eqL sameH a.phis b.phis = true ∧ eqL Zi a.code b.code = true ∧ a.fm = b.fm ∧ a.tt = b.tt := by
 unfold Zz at h
 simpa [Bool.and_eq_true] using h
theorem sameB_mk {a b : Bk} (h1 : eqL sameH a.phis b.phis = true) (h2 : eqL Zi a.code b.code = true) (h3 : a.fm = b.fm) (h4 : a.tt = b.tt) : Zz a b = true := by
 unfold Zz
 simp [h1, h2, h3, h4]
/-- an instruction that doesn't say where it goes to -/
def Zs (x : Ins) : Ins := { x with n := if (glP x).2 = true then 0 else x.n }
theorem bareR_same {x y : Ins} (h : bareR x y) : Zi y (Zs x) = true := by
 obtain ⟨h1, h2, h3, h4, h5, h6⟩ := h
 unfold Zi Zs
 simp [h1, h2, h3, h4, h5, h6]
def skB (l : List Ins) : List Bk := (List.range (begL l).length).map fun j => ⟨none, 0, [], none, 0, seg (l.map Zs) (stN l j) (enN l j), none, 0, [], none, 0, toL l j⟩
def skF (L : List Bk) : List Bk := L.mapIdx fun i x => putF none 0 (Zt L (i : Int)) x
/-- the blocks of a Fun -/
def skG (l : List Ins) : List Bk := skF (stay (skB l))
theorem skB_get {l : List Ins} {j : Nat} (h : j < (begL l).length) : (skB l)[j]? = some ⟨none, 0, [], none, 0, seg (l.map Zs) (stN l j) (enN l j), none, 0, [], none, 0, toL l j⟩ := by
 unfold skB
 rw [List.getElem?_map, List.getElem?_range h]; rfl
theorem skB_len (l : List Ins) : (skB l).length = (begL l).length := by unfold skB; simp
theorem cut_same {a7 : Option Addr} {l m : List Ins} {bs : List Bk} (h : CutS a7 l m bs) : eqL Zz bs (skB l) = true := by
 refine eqL_of (by rw [skB_len, h.len]) fun j x y hx hy => ?_
 have hj : j < (begL l).length := by rw [← h.len]; exact (List.getElem?_eq_some_iff.1 hx).1
 rw [skB_get hj] at hy
 cases hy
 obtain ⟨h1, _, _, ⟨h2, _⟩, ⟨h3, _⟩, h4⟩ := h.row j x hx
 refine sameB_mk (by rw [h2]; rfl) ?_ h3 h4
 rw [h1]
 obtain ⟨s1, s2⟩ := st_en hj
 refine eqL_of (by rw [seg_len s1 (by rw [h.mlen]; exact s2), seg_len s1 (by rw [List.length_map]; exact s2)]) fun i u v hu hv => ?_
 have hu' := (seg_get hu).1
 have hv' := (seg_get hv).1
 rw [List.getElem?_map, Option.map_eq_some_iff] at hv'
 obtain ⟨z, hz, rfl⟩ := hv'
 exact bareR_same (h.bare _ z u hz hu')
theorem same_tt {a b : List Bk} (h : eqL Zz a b = true) (i : Nat) : (a.getD i Bk0).tt = (b.getD i Bk0).tt := by
 rw [List.getD_eq_getElem?_getD, List.getD_eq_getElem?_getD]
 have hl := eqL_len h
 by_cases hi : i < a.length
 · obtain ⟨x, hx⟩ : ∃ x, a[i]? = some x := ⟨_, List.getElem?_eq_getElem hi⟩
   obtain ⟨y, hy⟩ : ∃ y, b[i]? = some y := ⟨_, List.getElem?_eq_getElem (by omega)⟩
   rw [hx, hy]
   exact (X7 (eqL_get h i x y hx hy)).2.2.2
 · rw [List.getElem?_eq_none (by omega), List.getElem?_eq_none (by omega)]
theorem same_met {a b : List Bk} (h : eqL Zz a b = true) : metF a = metF b := by
 unfold metF
 rw [eqL_len h, show toF a = toF b from funext fun i => same_tt h i]
theorem eqL_app {α : Type} {f : α → α → Bool} : ∀ {l m : List α} {l' m' : List α}, eqL f l m = true → eqL f l' m' = true → eqL f (l ++ l') (m ++ m') = true
 | [], [], _, _, _, h' => h'
 | [], _ :: _, _, _, h, _ => by cases h
 | _ :: _, [], _, _, h, _ => by cases h
 | x :: r, y :: s, _, _, h, h' => by
   unfold eqL at h
   rw [Bool.and_eq_true] at h
   rw [List.cons_append, List.cons_append]
   unfold eqL
   rw [h.1, eqL_app h.2 h']
   rfl
theorem same_pick (f : Nat → Bool) : ∀ (a b : List Bk) (i : Nat), eqL Zz a b = true → eqL Zz (Zq f i a) (Zq f i b) = true
 | [], [], _, _ => rfl
 | [], _ :: _, _, h => by cases h
 | _ :: _, [], _, h => by cases h
 | x :: r, y :: s, i, h => by
   unfold eqL at h
   rw [Bool.and_eq_true] at h
   unfold Zq
   refine eqL_app ?_ (same_pick f r s (i + 1) h.2)
   split
   · unfold eqL; rw [h.1]; rfl
   · rfl
theorem eqL_map {α : Type} {f : α → α → Bool} {g : α → α} (hg : ∀ x y, f x y = true → f (g x) (g y) = true) : ∀ (l m : List α), eqL f l m = true → eqL f (l.map g) (m.map g) = true
 | [], [], _ => rfl
 | [], _ :: _, h => by cases h
 | _ :: _, [], h => by cases h
 | x :: r, y :: s, h => by
   unfold eqL at h
   rw [Bool.and_eq_true] at h
   rw [List.map_cons, List.map_cons]
   unfold eqL
   rw [hg x y h.1, eqL_map hg r s h.2]
   rfl
theorem same_stay {a b : List Bk} (h : eqL Zz a b = true) : eqL Zz (stay a) (stay b) = true := by
 unfold stay
 rw [same_met h]
 refine eqL_map (fun x y hxy => ?_) _ _ (same_pick _ a b 0 h)
 obtain ⟨h1, h2, h3, h4⟩ := X7 hxy
 exact sameB_mk h1 h2 h3 (by unfold reTo; rw [h4])
theorem same_froms (n : Int) : ∀ (a b : List Bk) (k : Nat), eqL Zz a b = true → Zo k a n = Zo k b n
 | [], [], _, _ => rfl
 | [], _ :: _, _, h => by cases h
 | _ :: _, [], _, h => by cases h
 | x :: r, y :: s, k, h => by
   unfold eqL at h
   rw [Bool.and_eq_true] at h
   unfold Zo
   rw [(X7 h.1).2.2.2, same_froms n r s (k + 1) h.2]
theorem same_tell {a b : List Bk} (h : eqL Zz a b = true) (fa : Nat → Option Addr) (fc : Nat → Nat) : eqL Zz (X6 fa fc a a.length) (skF b) = true := by
 have hl := eqL_len h
 refine eqL_of (by rw [Xi]; unfold skF; simp [hl]) fun i x y hx hy => ?_
 have hi : i < a.length := by have := (List.getElem?_eq_some_iff.1 hx).1; rwa [Xi] at this
 obtain ⟨u, hu⟩ : ∃ u, a[i]? = some u := ⟨_, List.getElem?_eq_getElem hi⟩
 obtain ⟨v, hv⟩ : ∃ v, b[i]? = some v := ⟨_, List.getElem?_eq_getElem (by omega)⟩
 rw [X9 hu, if_pos hi] at hx
 unfold skF at hy
 rw [List.getElem?_mapIdx, hv] at hy
 cases hx
 cases hy
 obtain ⟨h1, h2, h3, h4⟩ := X7 (eqL_get h i u v hu hv)
 refine sameB_mk h1 h2 ?_ h4
 show Zt a (i : Int) = Zt b (i : Int)
 exact same_froms _ a b 0 h
/-- what Of makes of a Fun is its blocks -/
theorem GrQ.same {B : Nat} {l : List Ins} {ba : Option Addr} {bcap : Nat} {L : List Bk} {W : World} (h : GrQ B l ba bcap L W) : eqL Zz L (skG l) = true := by
 obtain ⟨g, g2, bs, m, a7, c7, fa, fc, h1, h2, h3, h4, h5, h6, h7, h8⟩ := h
 rw [h7]
 exact same_tell (same_stay (cut_same h1)) fa fc
theorem fromsP_nat (L : List Bk) (n : Int) : ∀ t ∈ Zt L n, 0 ≤ t ∧ t < (L.length : Int) := fun t ht => by
 have := fromsF_lt L 0 n t ht
 omega
theorem GrQ.mem {B : Nat} {l : List Ins} {ba : Option Addr} {bcap : Nat} {L : List Bk} {W : World} (h : GrQ B l ba bcap L W) (h0 : 0 < l.length) (hl : l.length ≤ 16384) (hlast : Zv l = 11 ∨ Zv l = 13) :
 RowAt W Tt ba bcap L.length (Qu L) ∧ (∀ b ∈ L, Bk.In W b) ∧ (∀ b ∈ L, ∀ t ∈ b.tt, 0 ≤ t ∧ t < (L.length : Int)) ∧ (∀ b ∈ L, ∀ t ∈ b.fm, 0 ≤ t ∧ t < (L.length : Int)) ∧ L.length ≤ 16385 ∧ 0 < L.length := by
 obtain ⟨g, g2, bs, m, a7, c7, fa, fc, k1, k2, k3, k4, k5, k6, k7, k8⟩ := h
 have hto := k1.to hlast
 have hbl := begL_len l
 have hbp := begL_pos h0
 have hlen := k1.len
 obtain ⟨sp1, sp2⟩ := stay_pos hto (by omega)
 have hst := stay_to hto (by omega)
 have hin := stay_in k1 k2 k3 hst (by omega)
 have hLl : L.length = (stay bs).length := by rw [k7, Xi]
 have key : ∀ b ∈ L, ∃ i x, (stay bs)[i]? = some x ∧ i < (stay bs).length ∧ b = putF (fa i) (fc i) (Zt (stay bs) (i : Int)) x := fun b hb => by
  obtain ⟨i, hi⟩ := List.mem_iff_getElem?.1 hb
  have hil := (List.getElem?_eq_some_iff.1 hi).1
  rw [hLl] at hil
  obtain ⟨x, hx⟩ : ∃ x, (stay bs)[i]? = some x := ⟨_, List.getElem?_eq_getElem hil⟩
  rw [k7, X9 hx, if_pos hil] at hi
  cases hi
  exact ⟨i, x, hx, hil, rfl⟩
 refine ⟨?_, fun b hb => ?_, fun b hb t ht => ?_, fun b hb t ht => ?_, by omega, by omega⟩
 · rw [k4]; exact k5.row.mono fun _ _ => trivial
 · obtain ⟨i, x, hx, hil, rfl⟩ := key b hb
   have hxI := hin x (List.mem_of_getElem? hx)
   obtain ⟨a', cap', e, hr⟩ := row_own1 (k8 i hil)
   injection e with e1 e2 e3
   subst e1 e3
   exact ⟨hxI.prow, hxI.phis, hxI.crow, hxI.code, hr, fun t ht => by
    have := fromsP_nat _ _ t ht
    unfold I64
    omega, hxI.trow, hxI.tnum⟩
 · obtain ⟨i, x, hx, hil, rfl⟩ := key b hb
   rw [hLl]
   exact hst x (List.mem_of_getElem? hx) t ht
 · obtain ⟨i, x, hx, hil, rfl⟩ := key b hb
   rw [hLl]
   exact fromsP_nat _ _ t ht
end Go.Proofs.YthiiahlgncngoaaDoorRR.Fw
namespace Go.Proofs.YthiiahlgncngoaaDoorRR.Cd
open Go Go.RowKit
open Go.Proofs.YthiiahlgncngoaaDoorRR.Lx Go.Proofs.YthiiahlgncngoaaDoorRR.Tr
theorem rgoal_o11 (r a b n : Int) (aa : Option Addr) (acap : Nat) (args : List Int) (w : World) (_ : I64 n) :
 Calls Tryd.prog 81 #[(⟨11, r, a, b, n, aa, acap, args⟩ : Ins).val] w fun e w' => e = .returned (.tuple #[.int .i64 (glP ⟨11, r, a, b, n, aa, acap, args⟩).1, .bool (glP ⟨11, r, a, b, n, aa, acap, args⟩).2]) ∧ Below w.heap.size w w' := by
 go_enter Tryd.func81, Tryd.ntmps81
 go_wp2_with fail
 go_ret2
 exact ⟨rfl, Qh _ _⟩
theorem rgoal_o12 (r a b n : Int) (aa : Option Addr) (acap : Nat) (args : List Int) (w : World) (_ : I64 n) :
 Calls Tryd.prog 81 #[(⟨12, r, a, b, n, aa, acap, args⟩ : Ins).val] w fun e w' => e = .returned (.tuple #[.int .i64 (glP ⟨12, r, a, b, n, aa, acap, args⟩).1, .bool (glP ⟨12, r, a, b, n, aa, acap, args⟩).2]) ∧ Below w.heap.size w w' := by
 go_enter Tryd.func81, Tryd.ntmps81
 go_wp2_with fail
 go_ret2
 exact ⟨rfl, Qh _ _⟩
theorem rgoal_no (op r a b n : Int) (aa : Option Addr) (acap : Nat) (args : List Int) (w : World) (h : ¬ op = 11 ∧ ¬ op = 12) :
 Calls Tryd.prog 81 #[(⟨op, r, a, b, n, aa, acap, args⟩ : Ins).val] w fun e w' => e = .returned (.tuple #[.int .i64 (glP ⟨op, r, a, b, n, aa, acap, args⟩).1, .bool (glP ⟨op, r, a, b, n, aa, acap, args⟩).2]) ∧ Below w.heap.size w w' := by
 obtain ⟨h11, h12⟩ := h
 have h7 : ¬ numK op = 7 := by
  unfold numK
  repeat' split
  all_goals first | omega | simp
 have hp : glP ⟨op, r, a, b, n, aa, acap, args⟩ = (0, false) := by simp [glP, h7]
 rw [hp]
 clear hp
 have e11 := ne_b h11
 have e12 := ne_b h12
 clear h11 h12
 go_enter Tryd.func81, Tryd.ntmps81
 go_wp2_with fail
 go_ret2
 exact ⟨rfl, Qh _ _⟩
theorem rgoal_any (i : Ins) (w : World) (hn : I64 i.n) :
 Calls Tryd.prog 81 #[i.val] w fun e w' => e = .returned (.tuple #[.int .i64 (glP i).1, .bool (glP i).2]) ∧ Below w.heap.size w w' := by
 obtain ⟨op, r, a, b, n, aa, acap, args⟩ := i
 by_cases h : ¬ op = 11 ∧ ¬ op = 12
 · exact rgoal_no op r a b n aa acap args w h
 · have h' : op = 11 ∨ op = 12 := by omega
   rcases h' with rfl | rfl
   · exact rgoal_o11 r a b n aa acap args w hn
   · exact rgoal_o12 r a b n aa acap args w hn
end Go.Proofs.YthiiahlgncngoaaDoorRR.Cd
namespace Go.Proofs.YthiiahlgncngoaaDoorRR.Fw
open Go Go.RowKit
open Go.Proofs.YthiiahlgncngoaaDoorRR.Lx Go.Proofs.YthiiahlgncngoaaDoorRR.Tr Go.Proofs.YthiiahlgncngoaaDoorRR.Cd
theorem rends_c (op : Int) (w : World) : Calls Tryd.prog 101 #[.int .u8 op] w fun e w' => e = .returned (.bool (Xr op)) ∧ Below w.heap.size w w' := by
 by_cases h : ¬ op = 11 ∧ ¬ op = 12 ∧ ¬ op = 13
 · obtain ⟨h1, h2, h3⟩ := h
   have he : Xr op = false := by simp [Xr, h1, h2, h3]
   rw [he]
   have e1 := ne_b h1
   have e2 := ne_b h2
   have e3 := ne_b h3
   clear h1 h2 h3 he
   go_enter Tryd.func101, Tryd.ntmps101
   go_wp2_with fail
   go_ret
   exact ⟨rfl, Below.refl _ _⟩
 · have h' : op = 11 ∨ op = 12 ∨ op = 13 := by omega
   rcases h' with rfl | rfl | rfl
   · go_enter Tryd.func101, Tryd.ntmps101
     go_wp2_with fail
     go_ret
     exact ⟨rfl, Below.refl _ _⟩
   · go_enter Tryd.func101, Tryd.ntmps101
     go_wp2_with fail
     go_ret
     exact ⟨rfl, Below.refl _ _⟩
   · go_enter Tryd.func101, Tryd.ntmps101
     go_wp2_with fail
     go_ret
     exact ⟨rfl, Below.refl _ _⟩
theorem rhas_c (l : List Int) (n : Int) (a : Option Addr) (cap : Nat) (w : World) (hrow : RowAt w Tt a cap l.length (Qc l)) :
 Calls Tryd.prog 82 #[.slice a l.length cap, .int .i64 n] w fun e w' => e = .returned (.bool (l.contains n)) ∧ Below w.heap.size w w' := by
 obtain ⟨hc1, hc2⟩ := Q2 hrow
 have hany : Hid (l.contains n = l.any fun x => decide (x = n)) := Lh (by rw [Bool.eq_iff_iff]; simp)
 rw [hany.out]
 clear hany
 go_enter Tryd.func82, Tryd.ntmps82
 go_wp2_with fail
 go_loopw [5] (fun i wr => ∃ k : Nat, k ≤ l.length ∧ i = .int .i64 k ∧ Hid ((l.take k).any (fun x => decide (x = n)) = false) ∧ Hid (Below w.heap.size w wr)) (fun i _ => l.length - (intOf i).toNat)
 case atStart => exact ⟨0, Nat.zero_le _, rfl, Lh rfl, Lh (Below.refl _ _)⟩
 case round =>
  obtain ⟨k, hk, rfl, hall, hb⟩ := hrel
  by_cases hlt : k < l.length
  · obtain ⟨x, hx⟩ : ∃ x, l[k]? = some x := ⟨_, List.getElem?_eq_getElem hlt⟩
    obtain ⟨b, off, ha, _, c0⟩ := Xa (hrow.below (Kps.of_below hb.out)) k x hx
    subst ha
    have hi0' : (0 : Int) ≤ (k : Int) := by omega
    have hi1 : (k : Int) < (l.length : Int) := by omega
    have hyes := Lh (anyN_take (P := fun x => decide (x = n)) hx)
    have hmem := Lh (List.mem_of_getElem? hx)
    clear hx hrow
    by_cases hxn : x = n
    · have hfin : Hid ((l.any fun x => decide (x = n)) = true) := Lh (List.any_eq_true.2 ⟨x, hmem.out, by simp [hxn]⟩)
      have he : (x == n) = true := by simp [hxn]
      clear hxn hyes hall
      go_wp2_with fail
      go_ret
      exact ⟨Qi hfin.out.symm, hb.out⟩
    · have hn : Hid ((l.take (k + 1)).any (fun x => decide (x = n)) = false) := Lh (by rw [hyes.out, hall.out]; simp [hxn])
      have he := ne_b hxn
      clear hxn hyes hall
      go_wp2_with fail
      go_roundw
      case rel => exact ⟨k + 1, by omega, by go_num, hn, hb⟩
      case measure => simp [intOf]; omega
  · have hk2 : k = l.length := by omega
    subst hk2
    rw [List.take_length] at hall
    go_wp2_with fail
    go_ret
    exact ⟨Qi hall.out.symm, hb.out⟩
theorem rints_c (l l' : List Int) (a a' : Option Addr) (cap cap' : Nat) (w : World) (hrow : RowAt w (fun _ => True) a cap l.length (Qc l)) (hrow' : RowAt w (fun _ => True) a' cap' l'.length (Qc l')) :
 Calls Tryd.prog 55 #[.slice a l.length cap, .slice a' l'.length cap'] w fun x w' => x = .returned (.bool (decide (l = l'))) ∧ Below w.heap.size w w' := by
 obtain ⟨hc11, hc12⟩ := Q2 hrow
 obtain ⟨hc21, hc22⟩ := Q2 hrow'
 by_cases hle : l.length = l'.length
 · have hne : ((l.length : Int) != (l'.length : Int)) = false := by rw [hle]; simp
   have hle' := Lh hle
   go_enter Tryd.func55, Tryd.ntmps55
   clear hle
   go_wp2
   go_loopw [5] (fun i wr => ∃ k : Nat, k ≤ l.length ∧ i = .int .i64 k ∧ l.take k = l'.take k ∧ ∃ m, wr = w.drewN m) (fun i _ => l.length - (intOf i).toNat)
   case atStart => exact ⟨0, Nat.zero_le _, rfl, rfl, 0, rfl⟩
   case round =>
    obtain ⟨k, hk, rfl, htk, m, rfl⟩ := hrel
    replace htk := Lh htk
    by_cases hlt : k < l.length
    · have hlt' : k < l'.length := by rw [← hle'.out]; exact hlt
      obtain ⟨x, hx⟩ : ∃ e, l[k]? = some e := ⟨l[k], by simp [hlt]⟩
      obtain ⟨y, hy⟩ : ∃ e, l'[k]? = some e := ⟨l'[k], by simp [hlt']⟩
      obtain ⟨b, off, rfl, _, hcell⟩ := hrow.at_ k (.int .i64 x) (by unfold Qc; rw [List.getElem?_map, hx]; rfl)
      obtain ⟨b', off', rfl, _, hcell'⟩ := hrow'.at_ k (.int .i64 y) (by unfold Qc; rw [List.getElem?_map, hy]; rfl)
      replace hx := Lh hx
      replace hy := Lh hy
      have hkl' : k < l'.length := hlt'
      by_cases hxy : x = y
      · have HT : Hid (l.take (k + 1) = l'.take (k + 1)) := Lh (by rw [List.take_add_one, List.take_add_one, htk.out, hx.out, hy.out, hxy])
        subst hxy
        go_wp2
        go_quiet (fail)
        go_wp2
        go_roundw
        case rel => exact ⟨k + 1, by omega, by go_num, HT.out, _, rfl⟩
        case measure => simp [intOf]; omega
      · have HN : Hid (decide (l = l') = false) := Lh (by
         rw [decide_eq_false_iff_not]; intro e; apply hxy
         have h3 := hx.out; rw [e, hy.out] at h3
         exact (Option.some.inj h3).symm)
        have hs1 := ne_n hxy
        clear hxy
        go_wp2
        go_quiet (fail)
        go_wp2
        go_ret
        exact ⟨Qi HN.out.symm, ⟨rfl, rfl, rfl, Nat.le_refl _, fun _ _ => rfl⟩⟩
    · have HE : Hid (decide (l = l') = true) := Lh (by
       have h3 := htk.out
       have h4 := hle'.out
       rw [List.take_of_length_le (by omega), List.take_of_length_le (by omega)] at h3
       simpa using h3)
      clear htk
      go_wp2
      go_ret
      exact ⟨Qi HE.out.symm, ⟨rfl, rfl, rfl, Nat.le_refl _, fun _ _ => rfl⟩⟩
 · have hne : ((l.length : Int) != (l'.length : Int)) = true := by simp; omega
   have hF : Hid (decide (l = l') = false) := Lh (by rw [decide_eq_false_iff_not]; intro h; exact hle (by rw [h]))
   go_enter Tryd.func55, Tryd.ntmps55
   go_wp2
   go_ret
   exact ⟨Qi hF.out.symm, Below.refl _ _⟩
theorem rfroms_c (l : List Bk) (n : Int) (a : Option Addr) (cap : Nat) (w : World) (hrow : RowAt w Tt a cap l.length (Qu l)) (hin : ∀ b ∈ l, Bk.In w b) (hlen : l.length ≤ 8796093022208) :
 Calls Tryd.prog 51 #[.slice a l.length cap, .int .i64 n] w fun e w' => ∃ v, e = .returned v ∧ w'.ownsRow w.heap.size 3 1 v (Zt l n).length (Qc (Zt l n)) ∧ Below w.heap.size w w' := by
 obtain ⟨hc1, hc2⟩ := Q2 hrow
 obtain ⟨i0, hi0, hz0, hz1, hz2⟩ := Xn
 have hH := Lh (fun (b : Bk) V (hb : b ∈ l) (hv : Below w.heap.size w V) => rhas_c b.tt n b.ta b.tcap V (((hin b hb).keep hv).trow))
 have hR := Lh (fun V (hv : Below w.heap.size w V) => hrow.below (Kps.of_below hv))
 clear hrow hin
 unfold Zt
 go_enter Tryd.func51, Tryd.ntmps51
 go_wp2_with fail
 go_loopw [5, 6] (fun v i wr => ∃ k : Nat, k ≤ l.length ∧ i = .int .i64 k ∧ Hid (wr.ownsRow w.heap.size 3 1 v (Zo 0 (l.take k) n).length (Qc (Zo 0 (l.take k) n))) ∧ Hid (Below w.heap.size w wr)) (fun _ i _ => l.length - (intOf i).toNat)
 case atStart => exact ⟨0, Nat.zero_le _, rfl, Lh (World.ownsRow_nil _ _ _ _), Lh (Below.refl _ _)⟩
 case round =>
  obtain ⟨k, hk, rfl, hown, hb⟩ := hrel
  by_cases hlt : k < l.length
  · obtain ⟨x, hx⟩ : ∃ x, l[k]? = some x := ⟨_, List.getElem?_eq_getElem hlt⟩
    obtain ⟨b, off, ha, _, c0, c1, c2, c3⟩ := X4 (hR.out _ hb.out) k x hx
    subst ha
    have htk := fromsF_take hx n
    have hln := fromsF_len (l.take k) 0 n
    rw [List.length_take] at hln
    have hi0' : (0 : Int) ≤ (k : Int) := by omega
    have hi1 : (k : Int) < (l.length : Int) := by omega
    have hHx := hH.out x _ (List.mem_of_getElem? hx) hb.out
    clear hx hH
    cases ht : x.tt.contains n
    · rw [ht] at htk hHx
      rw [if_neg (by simp), List.append_nil] at htk
      replace hHx := Lh hHx
      clear ht
      go_wp2_with fail
      refine hHx.out.mono ?_
      rintro e w1 ⟨rfl, hb1⟩
      have hown2 := Lh (Qn hown.out hb1)
      rw [← htk] at hown2
      have hb2 := Lh (hb.out.trans (hb1.mono hb.out.size))
      clear hb1 hown htk
      go_wp2_with fail
      go_roundw
      case rel => exact ⟨k + 1, by omega, by go_num, hown2, hb2⟩
      case measure => simp [intOf]; omega
    · rw [ht] at htk hHx
      rw [if_pos rfl] at htk
      replace hHx := Lh hHx
      clear ht
      go_wp2_with fail
      refine hHx.out.mono ?_
      rintro e w1 ⟨rfl, hb1⟩
      have hown2 := Lh (Qn hown.out hb1)
      have hb2 := Lh (hb.out.trans (hb1.mono hb.out.size))
      generalize Zo 0 (l.take k) n = T at *
      replace htk := Lh htk
      clear hb1 hown
      go_wp2_with (at_builtin; refine wpList_append_own_at _ rfl _ _ 40 rfl w.heap.size 3 i0 _ 1 8 Tryd.underlying40 hi0 hz0 hz1 hz2 rfl (by decide) _ _ _ rfl (Qn hown2.out (Qh _ _)) _ 1 1 [.int .i64 k] rfl rfl (one_at _ _ _ _ (by first | rfl | simp)) (by simp [Value.oneCell']) ?c1 ?c2 ?c3 ?_)
      case c1 => unfold maxLen; omega
      case c2 => omega
      case c3 => have := hb2.out.size; simp; omega
      intro v' w3 hown3 hg3 _ hat3
      have hfin : Hid (w3.ownsRow w.heap.size 3 1 v' (Zo 0 (l.take (k + 1)) n).length (Qc (Zo 0 (l.take (k + 1)) n))) := Lh (by
       rw [htk.out, List.length_append]
       have he : Qc (T ++ [(k : Int)]) = Qc T ++ [.int .i64 k] := by unfold Qc; rw [List.map_append]; rfl
       rw [he]; exact hown3)
      have hbz : Hid (Below w.heap.size w w3) := Lh ((hb2.out.alloc hb2.out.size _).grown hg3 (by have := hb2.out.size; simp; omega) (fun q e => (hown2.out.lt q e).1))
      clear hown3 hg3 hat3 hown2 htk
      go_wp2_with fail
      go_roundw
      case rel => exact ⟨k + 1, by omega, by go_num, hfin, hbz⟩
      case measure => simp [intOf]; omega
  · have hk2 : k = l.length := by omega
    subst hk2
    rw [List.take_length] at hown
    go_wp2_with fail
    go_ret
    exact ⟨_, rfl, hown.out, hb.out⟩
end Go.Proofs.YthiiahlgncngoaaDoorRR.Fw
