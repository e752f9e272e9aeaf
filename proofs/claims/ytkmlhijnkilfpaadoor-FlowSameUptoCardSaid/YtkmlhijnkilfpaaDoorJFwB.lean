/- Walks of slices.EqualFunc at Phis, blocks, graphs, of samePhi, sameBlock, SameGraph, Same. Conditions: what is held against one another lies in memory. -/
import Derived.Test.YtkmlhijnkilfpaaDoorJFwA
import Derived.Test.YtkmlhijnkilfpaaDoorJaG
import Derived.Test.YtkmlhijnkilfpaaDoorJaE
import Derived.Deep.Cut
import Derived.Deep.QuietTactic
import Derived.BigQuiet
namespace Go.Proofs.YtkmlhijnkilfpaaDoor.Fw
open Go Go.RowKit
open Go.Proofs.YtkmlhijnkilfpaaDoor.Lx Go.Proofs.YtkmlhijnkilfpaaDoor.Tr Go.Proofs.YtkmlhijnkilfpaaDoor.Cd

set_option maxHeartbeats 1600000 in
set_option maxRecDepth 100000 in
theorem equalPhF (l l' : List Ph) (a a' : Option Addr) (cap cap' : Nat) (w : World) (hrow : RowAt w (fun _ => True) a cap l.length (phCells l)) (hrow' : RowAt w (fun _ => True) a' cap' l'.length (phCells l'))
    (hcall : ∀ e e' W, e ∈ l → e' ∈ l' → Below w.heap.size w W → Calls Tryd.prog 79 #[.agg ⟨e.vals⟩, .agg ⟨e'.vals⟩] W fun x W' => x = .returned (.bool (sameH e e')) ∧ Below W.heap.size W W') :
    Calls Tryd.prog 78 #[.slice a l.length cap, .slice a' l'.length cap', .func (.func 79) #[] #[]] w fun x w' => x = .returned (.bool (eqL sameH l l')) ∧ Below w.heap.size w w' := by
  obtain ⟨hc11, hc12⟩ := len_i hrow
  obtain ⟨hc21, hc22⟩ := len_i hrow'
  by_cases hle : l.length = l'.length
  · have hne : ((l.length : Int) != (l'.length : Int)) = false := by rw [hle]; simp
    have hle' := Lib.hid hle
    go_enter Tryd.func78, Tryd.ntmps78
    clear hle
    go_wp2
    go_loopw [17] (fun i wr => ∃ k : Nat, k ≤ l.length ∧ i = .int .i64 k ∧ eqL sameH l l' = eqL sameH (l.drop k) (l'.drop k) ∧ Below w.heap.size w wr) (fun i _ => l.length - (intOf i).toNat)
    case atStart => exact ⟨0, Nat.zero_le _, rfl, rfl, Below.refl _ _⟩
    case round =>
      obtain ⟨k, hk, rfl, hsame, hbr⟩ := hrel
      by_cases hlt : k < l.length
      · have hlt' : k < l'.length := by rw [← hle'.out]; exact hlt
        obtain ⟨e, he⟩ : ∃ e, l[k]? = some e := ⟨l[k], by simp [hlt]⟩
        obtain ⟨e', he'⟩ : ∃ e, l'[k]? = some e := ⟨l'[k], by simp [hlt']⟩
        obtain ⟨b, off, rfl, _, c0, c1⟩ := ph_row hrow k e he
        obtain ⟨b', off', rfl, _, e0, e1⟩ := ph_row hrow' k e' he'
        have hcl := fun W hb => hcall e e' W (List.mem_of_getElem? he) (List.mem_of_getElem? he') hb
        rw [eqL_drop l l' k e e' he he'] at hsame
        unfold Ph.vals at hcl
        have d0 := below_in hbr c0
        have d1 := below_in hbr c1
        have f0 := fun o => below_in ((Below.refl _ _).alloc (Nat.le_refl _) o) (below_in hbr e0)
        have f1 := fun o => below_in ((Below.refl _ _).alloc (Nat.le_refl _) o) (below_in hbr e1)
        clear c0 c1 e0 e1 he he' hrow hrow' hcall
        generalize sameH e e' = sv at *
        replace hsame := Lib.hid hsame
        replace hcl := Lib.hid hcl
        cases sv
        · have hF : Hid (eqL sameH l l' = false) := Lib.hid (by rw [hsame.out]; rfl)
          go_wp2_with fail
          refine (hcl.out _ ((hbr.alloc hbr.size _).alloc (by have := hbr.size; simp; omega) _)).mono ?_
          rintro x W3 ⟨rfl, hb3⟩
          go_wp2_with fail
          go_ret
          exact ⟨ret_bool hF.out.symm, ((hbr.alloc hbr.size _).alloc (by have := hbr.size; simp; omega) _).trans (hb3.mono (by have := hbr.size; simp; omega))⟩
        · have hF : Hid (eqL sameH l l' = eqL sameH (l.drop (k + 1)) (l'.drop (k + 1))) := Lib.hid (by rw [hsame.out]; rfl)
          go_wp2_with fail
          refine (hcl.out _ ((hbr.alloc hbr.size _).alloc (by have := hbr.size; simp; omega) _)).mono ?_
          rintro x W3 ⟨rfl, hb3⟩
          go_wp2_with fail
          go_roundw
          case rel => exact ⟨k + 1, by omega, by go_num, hF.out, ((hbr.alloc hbr.size _).alloc (by have := hbr.size; simp; omega) _).trans (hb3.mono (by have := hbr.size; simp; omega))⟩
          case measure => simp [intOf]; omega
      · have hF : Hid (eqL sameH l l' = true) := Lib.hid (by
          rw [hsame, List.drop_of_length_le (by omega), List.drop_of_length_le (by have := hle'.out; omega)]; rfl)
        clear hsame
        go_wp2
        go_ret
        exact ⟨ret_bool hF.out.symm, hbr⟩
  · have hne : ((l.length : Int) != (l'.length : Int)) = true := by simp; omega
    have hF : Hid (eqL sameH l l' = false) := Lib.hid (by rw [Bool.eq_false_iff]; intro h; exact hle (eqL_len h))
    go_enter Tryd.func78, Tryd.ntmps78
    go_wp2
    go_ret
    exact ⟨ret_bool hF.out.symm, Below.refl _ _⟩

set_option maxHeartbeats 1600000 in
set_option maxRecDepth 100000 in
theorem equalBkF (l l' : List Bk) (a a' : Option Addr) (cap cap' : Nat) (w : World) (hrow : RowAt w (fun _ => True) a cap l.length (bkCells l)) (hrow' : RowAt w (fun _ => True) a' cap' l'.length (bkCells l'))
    (hcall : ∀ e e' W, e ∈ l → e' ∈ l' → Below w.heap.size w W → Calls Tryd.prog 35 #[.agg ⟨e.vals⟩, .agg ⟨e'.vals⟩] W fun x W' => x = .returned (.bool (sameB e e')) ∧ Below W.heap.size W W') :
    Calls Tryd.prog 34 #[.slice a l.length cap, .slice a' l'.length cap', .func (.func 35) #[] #[]] w fun x w' => x = .returned (.bool (eqL sameB l l')) ∧ Below w.heap.size w w' := by
  obtain ⟨hc11, hc12⟩ := len_i hrow
  obtain ⟨hc21, hc22⟩ := len_i hrow'
  by_cases hle : l.length = l'.length
  · have hne : ((l.length : Int) != (l'.length : Int)) = false := by rw [hle]; simp
    have hle' := Lib.hid hle
    go_enter Tryd.func34, Tryd.ntmps34
    clear hle
    go_wp2
    go_loopw [17] (fun i wr => ∃ k : Nat, k ≤ l.length ∧ i = .int .i64 k ∧ eqL sameB l l' = eqL sameB (l.drop k) (l'.drop k) ∧ Below w.heap.size w wr) (fun i _ => l.length - (intOf i).toNat)
    case atStart => exact ⟨0, Nat.zero_le _, rfl, rfl, Below.refl _ _⟩
    case round =>
      obtain ⟨k, hk, rfl, hsame, hbr⟩ := hrel
      by_cases hlt : k < l.length
      · have hlt' : k < l'.length := by rw [← hle'.out]; exact hlt
        obtain ⟨e, he⟩ : ∃ e, l[k]? = some e := ⟨l[k], by simp [hlt]⟩
        obtain ⟨e', he'⟩ : ∃ e, l'[k]? = some e := ⟨l'[k], by simp [hlt']⟩
        obtain ⟨b, off, rfl, _, c0, c1, c2, c3⟩ := bk_row hrow k e he
        obtain ⟨b', off', rfl, _, e0, e1, e2, e3⟩ := bk_row hrow' k e' he'
        have hcl := fun W hb => hcall e e' W (List.mem_of_getElem? he) (List.mem_of_getElem? he') hb
        rw [eqL_drop l l' k e e' he he'] at hsame
        unfold Bk.vals at hcl
        have d0 := below_in hbr c0
        have d1 := below_in hbr c1
        have d2 := below_in hbr c2
        have d3 := below_in hbr c3
        have f0 := fun o => below_in ((Below.refl _ _).alloc (Nat.le_refl _) o) (below_in hbr e0)
        have f1 := fun o => below_in ((Below.refl _ _).alloc (Nat.le_refl _) o) (below_in hbr e1)
        have f2 := fun o => below_in ((Below.refl _ _).alloc (Nat.le_refl _) o) (below_in hbr e2)
        have f3 := fun o => below_in ((Below.refl _ _).alloc (Nat.le_refl _) o) (below_in hbr e3)
        clear c0 c1 c2 c3 e0 e1 e2 e3 he he' hrow hrow' hcall
        generalize sameB e e' = sv at *
        replace hsame := Lib.hid hsame
        replace hcl := Lib.hid hcl
        cases sv
        · have hF : Hid (eqL sameB l l' = false) := Lib.hid (by rw [hsame.out]; rfl)
          go_wp2_with fail
          refine (hcl.out _ ((hbr.alloc hbr.size _).alloc (by have := hbr.size; simp; omega) _)).mono ?_
          rintro x W3 ⟨rfl, hb3⟩
          go_wp2_with fail
          go_ret
          exact ⟨ret_bool hF.out.symm, ((hbr.alloc hbr.size _).alloc (by have := hbr.size; simp; omega) _).trans (hb3.mono (by have := hbr.size; simp; omega))⟩
        · have hF : Hid (eqL sameB l l' = eqL sameB (l.drop (k + 1)) (l'.drop (k + 1))) := Lib.hid (by rw [hsame.out]; rfl)
          go_wp2_with fail
          refine (hcl.out _ ((hbr.alloc hbr.size _).alloc (by have := hbr.size; simp; omega) _)).mono ?_
          rintro x W3 ⟨rfl, hb3⟩
          go_wp2_with fail
          go_roundw
          case rel => exact ⟨k + 1, by omega, by go_num, hF.out, ((hbr.alloc hbr.size _).alloc (by have := hbr.size; simp; omega) _).trans (hb3.mono (by have := hbr.size; simp; omega))⟩
          case measure => simp [intOf]; omega
      · have hF : Hid (eqL sameB l l' = true) := Lib.hid (by
          rw [hsame, List.drop_of_length_le (by omega), List.drop_of_length_le (by have := hle'.out; omega)]; rfl)
        clear hsame
        go_wp2
        go_ret
        exact ⟨ret_bool hF.out.symm, hbr⟩
  · have hne : ((l.length : Int) != (l'.length : Int)) = true := by simp; omega
    have hF : Hid (eqL sameB l l' = false) := Lib.hid (by rw [Bool.eq_false_iff]; intro h; exact hle (eqL_len h))
    go_enter Tryd.func34, Tryd.ntmps34
    go_wp2
    go_ret
    exact ⟨ret_bool hF.out.symm, Below.refl _ _⟩

set_option maxHeartbeats 1600000 in
set_option maxRecDepth 100000 in
theorem equalGrF (l l' : List Gr) (a a' : Option Addr) (cap cap' : Nat) (w : World) (hrow : RowAt w (fun _ => True) a cap l.length (grCells l)) (hrow' : RowAt w (fun _ => True) a' cap' l'.length (grCells l'))
    (hcall : ∀ e e' W, e ∈ l → e' ∈ l' → Below w.heap.size w W → Calls Tryd.prog 13 #[.agg ⟨e.vals⟩, .agg ⟨e'.vals⟩] W fun x W' => x = .returned (.bool (sameG e e')) ∧ Below W.heap.size W W') :
    Calls Tryd.prog 44 #[.slice a l.length cap, .slice a' l'.length cap', .func (.func 13) #[] #[]] w fun x w' => x = .returned (.bool (eqL sameG l l')) ∧ Below w.heap.size w w' := by
  obtain ⟨hc11, hc12⟩ := len_i hrow
  obtain ⟨hc21, hc22⟩ := len_i hrow'
  by_cases hle : l.length = l'.length
  · have hne : ((l.length : Int) != (l'.length : Int)) = false := by rw [hle]; simp
    have hle' := Lib.hid hle
    go_enter Tryd.func44, Tryd.ntmps44
    clear hle
    go_wp2
    go_loopw [17] (fun i wr => ∃ k : Nat, k ≤ l.length ∧ i = .int .i64 k ∧ eqL sameG l l' = eqL sameG (l.drop k) (l'.drop k) ∧ Below w.heap.size w wr) (fun i _ => l.length - (intOf i).toNat)
    case atStart => exact ⟨0, Nat.zero_le _, rfl, rfl, Below.refl _ _⟩
    case round =>
      obtain ⟨k, hk, rfl, hsame, hbr⟩ := hrel
      by_cases hlt : k < l.length
      · have hlt' : k < l'.length := by rw [← hle'.out]; exact hlt
        obtain ⟨e, he⟩ : ∃ e, l[k]? = some e := ⟨l[k], by simp [hlt]⟩
        obtain ⟨e', he'⟩ : ∃ e, l'[k]? = some e := ⟨l'[k], by simp [hlt']⟩
        obtain ⟨b, off, rfl, _, c0, c1, c2, c3, c4⟩ := gr_row hrow k e he
        obtain ⟨b', off', rfl, _, e0, e1, e2, e3, e4⟩ := gr_row hrow' k e' he'
        have hcl := fun W hb => hcall e e' W (List.mem_of_getElem? he) (List.mem_of_getElem? he') hb
        rw [eqL_drop l l' k e e' he he'] at hsame
        unfold Gr.vals at hcl
        have d0 := below_in hbr c0
        have d1 := below_in hbr c1
        have d2 := below_in hbr c2
        have d3 := below_in hbr c3
        have d4 := below_in hbr c4
        have f0 := fun o => below_in ((Below.refl _ _).alloc (Nat.le_refl _) o) (below_in hbr e0)
        have f1 := fun o => below_in ((Below.refl _ _).alloc (Nat.le_refl _) o) (below_in hbr e1)
        have f2 := fun o => below_in ((Below.refl _ _).alloc (Nat.le_refl _) o) (below_in hbr e2)
        have f3 := fun o => below_in ((Below.refl _ _).alloc (Nat.le_refl _) o) (below_in hbr e3)
        have f4 := fun o => below_in ((Below.refl _ _).alloc (Nat.le_refl _) o) (below_in hbr e4)
        clear c0 c1 c2 c3 c4 e0 e1 e2 e3 e4 he he' hrow hrow' hcall
        generalize sameG e e' = sv at *
        replace hsame := Lib.hid hsame
        replace hcl := Lib.hid hcl
        cases sv
        · have hF : Hid (eqL sameG l l' = false) := Lib.hid (by rw [hsame.out]; rfl)
          go_wp2_with fail
          refine (hcl.out _ ((hbr.alloc hbr.size _).alloc (by have := hbr.size; simp; omega) _)).mono ?_
          rintro x W3 ⟨rfl, hb3⟩
          go_wp2_with fail
          go_ret
          exact ⟨ret_bool hF.out.symm, ((hbr.alloc hbr.size _).alloc (by have := hbr.size; simp; omega) _).trans (hb3.mono (by have := hbr.size; simp; omega))⟩
        · have hF : Hid (eqL sameG l l' = eqL sameG (l.drop (k + 1)) (l'.drop (k + 1))) := Lib.hid (by rw [hsame.out]; rfl)
          go_wp2_with fail
          refine (hcl.out _ ((hbr.alloc hbr.size _).alloc (by have := hbr.size; simp; omega) _)).mono ?_
          rintro x W3 ⟨rfl, hb3⟩
          go_wp2_with fail
          go_roundw
          case rel => exact ⟨k + 1, by omega, by go_num, hF.out, ((hbr.alloc hbr.size _).alloc (by have := hbr.size; simp; omega) _).trans (hb3.mono (by have := hbr.size; simp; omega))⟩
          case measure => simp [intOf]; omega
      · have hF : Hid (eqL sameG l l' = true) := Lib.hid (by
          rw [hsame, List.drop_of_length_le (by omega), List.drop_of_length_le (by have := hle'.out; omega)]; rfl)
        clear hsame
        go_wp2
        go_ret
        exact ⟨ret_bool hF.out.symm, hbr⟩
  · have hne : ((l.length : Int) != (l'.length : Int)) = true := by simp; omega
    have hF : Hid (eqL sameG l l' = false) := Lib.hid (by rw [Bool.eq_false_iff]; intro h; exact hle (eqL_len h))
    go_enter Tryd.func44, Tryd.ntmps44
    go_wp2
    go_ret
    exact ⟨ret_bool hF.out.symm, Below.refl _ _⟩

set_option maxHeartbeats 1600000 in
set_option maxRecDepth 100000 in
theorem samePhi_any (i k : Ph) (w : World) (hi : RowAt w Tt i.aa i.acap i.args.length (numCells i.args)) (hk : RowAt w Tt k.aa k.acap k.args.length (numCells k.args)) :
    Calls Tryd.prog 79 #[.agg ⟨i.vals⟩, .agg ⟨k.vals⟩] w fun x w' => x = .returned (.bool (sameH i k)) ∧ Below w.heap.size w w' := by
  obtain ⟨r, aa, acap, args⟩ := i
  obtain ⟨r', aa', acap', args'⟩ := k
  unfold sameH Ph.vals
  simp only at hi hk ⊢
  have hc := fun W (hb : Below w.heap.size w W) => equalI_any args args' aa aa' acap acap' W (hi.below (Kps.of_below hb)) (hk.below (Kps.of_below hb))
  generalize decide (args = args') = dv at *
  clear hi hk
  replace hc := Lib.hid hc
  by_cases h1 : r = r'
  · subst h1
    go_enter Tryd.func79, Tryd.ntmps79
    go_wp2_with fail
    refine (hc.out _ (b_alloc2 _ _ _)).mono ?_
    rintro x w' ⟨rfl, hb⟩
    have hbb := Lib.hid (b_next2 hb)
    clear hb
    go_wp2_with fail
    go_ret
    exact ⟨ret_bool (by simp [*]), hbb.out⟩
  · have e1 := ne_b h1
    go_enter Tryd.func79, Tryd.ntmps79
    go_wp2_with fail
    go_ret
    exact ⟨ret_bool (by simp [*]), b_alloc2 _ _ _⟩
theorem box2B (w : World) (i k : Bk) : let W := (w.alloc (.cells #[.slice i.pa i.phis.length i.pcap, .slice i.ca i.code.length i.ccap, .slice i.fa i.fm.length i.fcap, .slice i.ta i.tt.length i.tcap] 42)).alloc (.cells #[.slice k.pa k.phis.length k.pcap, .slice k.ca k.code.length k.ccap, .slice k.fa k.fm.length k.fcap, .slice k.ta k.tt.length k.tcap] 42)
    W.cell? ⟨w.heap.size, 0, none⟩ = some (.slice i.pa i.phis.length i.pcap) ∧ W.cell? ⟨w.heap.size, 1, none⟩ = some (.slice i.ca i.code.length i.ccap) ∧ W.cell? ⟨w.heap.size, 2, none⟩ = some (.slice i.fa i.fm.length i.fcap) ∧ W.cell? ⟨w.heap.size, 3, none⟩ = some (.slice i.ta i.tt.length i.tcap) ∧ W.cell? ⟨w.heap.size + 1, 0, none⟩ = some (.slice k.pa k.phis.length k.pcap) ∧ W.cell? ⟨w.heap.size + 1, 1, none⟩ = some (.slice k.ca k.code.length k.ccap) ∧ W.cell? ⟨w.heap.size + 1, 2, none⟩ = some (.slice k.fa k.fm.length k.fcap) ∧ W.cell? ⟨w.heap.size + 1, 3, none⟩ = some (.slice k.ta k.tt.length k.tcap) := by
  intro W
  have h1 : ∀ j u, i.vals[j]? = some u → W.cell? ⟨w.heap.size, j, none⟩ = some u := fun j u hu => below_in (b_alloc _ _) (box_new w i.vals 42 j u hu)
  have h2 : ∀ j u, k.vals[j]? = some u → W.cell? ⟨w.heap.size + 1, j, none⟩ = some u := by
    intro j u hu
    have := box_new (w.alloc (.cells ⟨i.vals⟩ 42)) k.vals 42 j u hu
    rw [show (w.alloc (.cells ⟨i.vals⟩ 42)).heap.size = w.heap.size + 1 from by simp] at this
    exact this
  exact ⟨h1 0 _ rfl, h1 1 _ rfl, h1 2 _ rfl, h1 3 _ rfl, h2 0 _ rfl, h2 1 _ rfl, h2 2 _ rfl, h2 3 _ rfl⟩
set_option maxHeartbeats 4000000 in
set_option maxRecDepth 100000 in
theorem sameBlock_any (i k : Bk) (w : World) (hi : Bk.In w i) (hk : Bk.In w k) :
    Calls Tryd.prog 35 #[.agg ⟨i.vals⟩, .agg ⟨k.vals⟩] w fun x w' => x = .returned (.bool (sameB i k)) ∧ Below w.heap.size w w' := by
  have hc1 := Lib.hid fun W (hb : Below w.heap.size w W) => equalPhF i.phis k.phis i.pa k.pa i.pcap k.pcap W (hi.prow.below (Kps.of_below hb)) (hk.prow.below (Kps.of_below hb))
    (fun e e' W' he he' hb' => samePhi_any e e' W' ((hi.phis e he).keep (hb.trans (hb'.mono hb.size))).row ((hk.phis e' he').keep (hb.trans (hb'.mono hb.size))).row)
  have hc2 := Lib.hid fun W (hb : Below w.heap.size w W) => equalInsF i.code k.code i.ca k.ca i.ccap k.ccap W (hi.crow.below (Kps.of_below hb)) (hk.crow.below (Kps.of_below hb))
    (fun e e' W' he he' hb' => sameIns_any e e' W' ((hi.code e he).below (Kps.of_below (hb.trans (hb'.mono hb.size)))).row ((hk.code e' he').below (Kps.of_below (hb.trans (hb'.mono hb.size)))).row)
  have hc3 := Lib.hid fun W (hb : Below w.heap.size w W) => equalI_any i.fm k.fm i.fa k.fa i.fcap k.fcap W (hi.frow.below (Kps.of_below hb)) (hk.frow.below (Kps.of_below hb))
  have hc4 := Lib.hid fun W (hb : Below w.heap.size w W) => equalI_any i.tt k.tt i.ta k.ta i.tcap k.tcap W (hi.trow.below (Kps.of_below hb)) (hk.trow.below (Kps.of_below hb))
  unfold sameB Bk.vals
  generalize eqL sameH i.phis k.phis = v1 at *
  generalize eqL sameI i.code k.code = v2 at *
  generalize decide (i.fm = k.fm) = v3 at *
  generalize decide (i.tt = k.tt) = v4 at *
  have hst := Lib.hid (b_alloc2 w (.cells #[.slice i.pa i.phis.length i.pcap, .slice i.ca i.code.length i.ccap, .slice i.fa i.fm.length i.fcap, .slice i.ta i.tt.length i.tcap] 42) (.cells #[.slice k.pa k.phis.length k.pcap, .slice k.ca k.code.length k.ccap, .slice k.fa k.fm.length k.fcap, .slice k.ta k.tt.length k.tcap] 42))
  have hx1 := Lib.hid (box2B w i k)
  clear hi hk
  go_enter Tryd.func35, Tryd.ntmps35
  go_upto_region 1 with fail
  generalize hW0 : (w.alloc (.cells #[.slice i.pa i.phis.length i.pcap, .slice i.ca i.code.length i.ccap, .slice i.fa i.fm.length i.fcap, .slice i.ta i.tt.length i.tcap] 42)).alloc (.cells #[.slice k.pa k.phis.length k.pcap, .slice k.ca k.code.length k.ccap, .slice k.fa k.fm.length k.fcap, .slice k.ta k.tt.length k.tcap] 42) = W0 at *
  clear hW0
  have hK : Hid (∀ V, Below W0.heap.size W0 V → Below w.heap.size w V) := Lib.hid fun V hb => hst.out.trans (hb.mono hst.out.size)
  obtain ⟨a0, a1, a2, a3, b0, b1, b2, b3⟩ := hx1.out
  clear hx1
  cases v1
  · go_wp2_with fail
    refine (hc1.out _ hst.out).mono ?_
    rintro x w1 ⟨rfl, hb1⟩
    have g1 := Lib.hid (hK.out _ hb1)
    clear hb1
    go_wp2_with fail
    go_ret
    exact ⟨rfl, g1.out⟩
  · go_wp2_with fail
    refine (hc1.out _ hst.out).mono ?_
    rintro x w1 ⟨rfl, hb1⟩
    have g1 := Lib.hid (hK.out _ hb1)
    have p1 := below_in hb1 a1
    have q1 := below_in hb1 b1
    have p2 := below_in hb1 a2
    have q2 := below_in hb1 b2
    have p3 := below_in hb1 a3
    have q3 := below_in hb1 b3
    clear hb1 a0 a1 a2 a3 b0 b1 b2 b3
    cases v2
    · go_wp2_with fail
      refine (hc2.out _ g1.out).mono ?_
      rintro x w2 ⟨rfl, hb2⟩
      have g2 := Lib.hid (g1.out.trans (hb2.mono g1.out.size))
      clear hb2
      go_wp2_with fail
      go_ret
      exact ⟨rfl, g2.out⟩
    · go_wp2_with fail
      refine (hc2.out _ g1.out).mono ?_
      rintro x w2 ⟨rfl, hb2⟩
      have g2 := Lib.hid (g1.out.trans (hb2.mono g1.out.size))
      have r2 := below_in hb2 p2
      have s2 := below_in hb2 q2
      have r3 := below_in hb2 p3
      have s3 := below_in hb2 q3
      clear hb2 p1 q1 p2 q2 p3 q3
      cases v3
      · go_wp2_with fail
        refine (hc3.out _ g2.out).mono ?_
        rintro x w3 ⟨rfl, hb3⟩
        have g3 := Lib.hid (g2.out.trans (hb3.mono g2.out.size))
        clear hb3
        go_wp2_with fail
        go_ret
        exact ⟨rfl, g3.out⟩
      · go_wp2_with fail
        refine (hc3.out _ g2.out).mono ?_
        rintro x w3 ⟨rfl, hb3⟩
        have g3 := Lib.hid (g2.out.trans (hb3.mono g2.out.size))
        have m3 := below_in hb3 r3
        have n3 := below_in hb3 s3
        clear hb3 r2 s2 r3 s3
        go_wp2_with fail
        refine (hc4.out _ g3.out).mono ?_
        rintro x w4 ⟨rfl, hb4⟩
        have g4 := Lib.hid (g3.out.trans (hb4.mono g3.out.size))
        clear hb4
        go_wp2_with fail
        go_ret
        exact ⟨rfl, g4.out⟩
set_option maxHeartbeats 4000000 in
set_option maxRecDepth 100000 in
theorem sameGraph_any (i k : Gr) (w : World) (hi : Gr.In w i) (hk : Gr.In w k) :
    Calls Tryd.prog 13 #[.agg ⟨i.vals⟩, .agg ⟨k.vals⟩] w fun x w' => x = .returned (.bool (sameG i k)) ∧ Below w.heap.size w w' := by
  have hc := Lib.hid fun W (hb : Below w.heap.size w W) => equalBkF i.blocks k.blocks i.ba k.ba i.bcap k.bcap W (hi.row.below (Kps.of_below hb)) (hk.row.below (Kps.of_below hb))
    (fun e e' W' he he' hb' => sameBlock_any e e' W' ((hi.blocks e he).keep (hb.trans (hb'.mono hb.size))) ((hk.blocks e' he').keep (hb.trans (hb'.mono hb.size))))
  unfold sameG Gr.vals
  generalize eqL sameB i.blocks k.blocks = v1 at *
  obtain ⟨name, thread, params, regs, ba, bcap, blocks⟩ := i
  obtain ⟨name', thread', params', regs', ba', bcap', blocks'⟩ := k
  simp only at hc ⊢
  clear hi hk
  by_cases h0 : name = name'
  · subst h0
    by_cases h1 : thread = thread'
    · subst h1
      by_cases h2 : params = params'
      · subst h2
        by_cases h3 : regs = regs'
        · subst h3
          go_enter Tryd.func13, Tryd.ntmps13
          go_wp2_with fail
          refine (hc.out _ (b_alloc2 _ _ _)).mono ?_
          rintro x w' ⟨rfl, hb⟩
          have hbb := Lib.hid (b_next2 hb)
          clear hb
          go_wp2_with fail
          go_ret
          exact ⟨ret_bool (by simp), hbb.out⟩
        · have e3 := ne_b h3
          go_enter Tryd.func13, Tryd.ntmps13
          go_wp2_with fail
          go_ret
          exact ⟨ret_bool (by simp [h3]), b_alloc2 _ _ _⟩
      · have e2 := ne_b h2
        go_enter Tryd.func13, Tryd.ntmps13
        go_wp2_with fail
        go_ret
        exact ⟨ret_bool (by simp [h2]), b_alloc2 _ _ _⟩
    · have e1 := bool_b h1
      go_enter Tryd.func13, Tryd.ntmps13
      go_wp2_with fail
      go_ret
      exact ⟨ret_bool (by simp [h1]), b_alloc2 _ _ _⟩
  · have e0 := str_ne h0
    go_enter Tryd.func13, Tryd.ntmps13
    go_wp2_with fail
    go_ret
    exact ⟨ret_bool (by simp [h0]), b_alloc2 _ _ _⟩
set_option maxHeartbeats 4000000 in
set_option maxRecDepth 100000 in
theorem sameFm_any (p q : Fm) (w : World) (hp : Fm.In w p) (hq : Fm.In w q) :
    Calls Tryd.prog 17 #[.agg ⟨p.vals⟩, .agg ⟨q.vals⟩] w fun x w' => x = .returned (.bool (sameFm p q)) ∧ Below w.heap.size w w' := by
  have hm := fun W (hb : Below w.heap.size w W) => equalM_any p.mems q.mems p.ma q.ma p.mcap q.mcap W (hp.mrow.below (Kps.of_below hb)) (hq.mrow.below (Kps.of_below hb))
  have hl := fun W (hb : Below w.heap.size w W) => equalT_any p.locks q.locks p.la q.la p.lcap q.lcap W (hp.lrow.below (Kps.of_below hb)) (hq.lrow.below (Kps.of_below hb))
  have hf := fun W (hb : Below w.heap.size w W) => equalGrF p.funs q.funs p.fa q.fa p.fcap q.fcap W (hp.frow.below (Kps.of_below hb)) (hq.frow.below (Kps.of_below hb))
    (fun e e' V he he' hbv => sameGraph_any e e' V ((hp.funs e he).keep (hb.trans (hbv.mono hb.size))) ((hq.funs e' he').keep (hb.trans (hbv.mono hb.size))))
  unfold sameFm Fm.vals
  rw [eqL_eq (f := fun x y : ByteArray => decide (x = y)) (fun _ _ => rfl)]
  generalize eqL sameM p.mems q.mems = m1 at *
  generalize decide (p.locks = q.locks) = m2 at *
  generalize eqL sameG p.funs q.funs = m3 at *
  clear hp hq
  replace hm := Lib.hid hm
  replace hl := Lib.hid hl
  replace hf := Lib.hid hf
  cases m1
  · go_enter Tryd.func17, Tryd.ntmps17
    go_wp2_with fail
    refine (hm.out _ (b_alloc2 _ _ _)).mono ?_
    rintro x w1 ⟨rfl, hb⟩
    have hbb := Lib.hid (b_next2 hb)
    clear hb
    go_wp2_with fail
    go_ret
    exact ⟨ret_bool rfl, hbb.out⟩
  · cases m2
    · go_enter Tryd.func17, Tryd.ntmps17
      go_wp2_with fail
      refine (hm.out _ (b_alloc2 _ _ _)).mono ?_
      rintro x w1 ⟨rfl, hb⟩
      obtain ⟨hc1, hf1⟩ := bcell hb
      have hlt : w.heap.size + 1 < w1.heap.size := by have := hb.size; simp at this; omega
      have hlt0 : w.heap.size < w1.heap.size := by omega
      have hbb := Lib.hid (b_next2 hb)
      clear hb
      go_wp2_with fail
      refine (hl.out _ hbb.out).mono ?_
      rintro x w2 ⟨rfl, hb2⟩
      have hbb2 := Lib.hid (hbb.out.trans (hb2.mono hbb.out.size))
      clear hb2
      go_wp2_with fail
      go_ret
      exact ⟨ret_bool rfl, hbb2.out⟩
    · go_enter Tryd.func17, Tryd.ntmps17
      go_wp2_with fail
      refine (hm.out _ (b_alloc2 _ _ _)).mono ?_
      rintro x w1 ⟨rfl, hb⟩
      obtain ⟨hc1, hf1⟩ := bcell hb
      have hlt : w.heap.size + 1 < w1.heap.size := by have := hb.size; simp at this; omega
      have hlt0 : w.heap.size < w1.heap.size := by omega
      have hbb := Lib.hid (b_next2 hb)
      clear hb
      go_wp2_with fail
      refine (hl.out _ hbb.out).mono ?_
      rintro x w2 ⟨rfl, hb2⟩
      obtain ⟨hc2, hf2⟩ := bcell hb2
      have hltb : w.heap.size + 1 < w2.heap.size := by have := hb2.size; omega
      have hltb0 : w.heap.size < w2.heap.size := by omega
      have hbb2 := Lib.hid (hbb.out.trans (hb2.mono hbb.out.size))
      clear hb2
      go_wp2_with fail
      refine (hf.out _ hbb2.out).mono ?_
      rintro x w3 ⟨rfl, hb3⟩
      have hbb3 := Lib.hid (hbb2.out.trans (hb3.mono hbb2.out.size))
      clear hb3
      go_wp2_with fail
      go_ret
      exact ⟨ret_bool (by simp), hbb3.out⟩
end Go.Proofs.YtkmlhijnkilfpaaDoor.Fw
