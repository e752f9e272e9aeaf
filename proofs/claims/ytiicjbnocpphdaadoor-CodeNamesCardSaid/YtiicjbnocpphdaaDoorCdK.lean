/- Walks of slices.Equal at Mems, code.SameIns, sameFun, Same. Conditions: what is held against one another lies in memory. -/
import Derived.Test.YtiicjbnocpphdaaDoorCdJ
import Derived.Test.YtiicjbnocpphdaaDoorCdC
import Derived.Laws.StructEq
namespace Go.Proofs.YtiicjbnocpphdaaDoor.Cd
open Go Go.RowKit
open Go.Proofs.YtiicjbnocpphdaaDoor.Lx Go.Proofs.YtiicjbnocpphdaaDoor.Tr

theorem stoodM : Tryd.prog.stoodInHeld 50 = false := by kernel_rfl
theorem guardM : Tryd.prog.eqGuardType Tryd.prog.depth 50 = false := by kernel_rfl
theorem structM : Tryd.prog.underlying 50 = some (.struct (Tryd.prog.fieldsOf 50)) := by kernel_rfl
theorem str_dec (a b : ByteArray) : (a.toList == b.toList) = decide (a = b) := by
  by_cases h : a = b
  · subst h; simp
  · rw [str_ne h, decide_eq_false h]
theorem mem_neq (x y : Mm) (W : World) : (binOp .neq 50 (.agg #[.string x.name, .int .i64 x.size, .int .i64 x.first]) (.agg #[.string y.name, .int .i64 y.size, .int .i64 y.first])).run Tryd.prog W = .ok (.bool (!sameM x y)) W := by
  unfold sameM
  rw [run_neq_struct, ← str_dec]
  rw [show (10000 : Nat) = 9999 + 1 from rfl, run_equalIn_struct _ 9999 50 _ _ structM stoodM]
  cases h1 : (x.name.toList == y.name.toList) <;> by_cases h2 : x.size = y.size <;> by_cases h3 : x.first = y.first <;>
    simp [Program.fieldsOf, Tryd.underlying50, Tryd.underlying9, Tryd.underlying3, Tryd.underlying2, Op.eqFields, part, go_sem, h1, h2, h3]
set_option maxHeartbeats 800000 in
set_option maxRecDepth 100000 in
theorem equalM_any (l l' : List Mm) (a a' : Option Addr) (cap cap' : Nat) (w : World) (hrow : RowAt w (fun _ => True) a cap l.length (mmCells l)) (hrow' : RowAt w (fun _ => True) a' cap' l'.length (mmCells l')) :
    Calls Tryd.prog 38 #[.slice a l.length cap, .slice a' l'.length cap'] w fun x w' => x = .returned (.bool (eqL sameM l l')) ∧ Below w.heap.size w w' := by
  obtain ⟨hc11, hc12⟩ := len_i hrow
  obtain ⟨hc21, hc22⟩ := len_i hrow'
  by_cases hle : l.length = l'.length
  · have hne : ((l.length : Int) != (l'.length : Int)) = false := by rw [hle]; simp
    have hle' := Lib.hid hle
    go_enter Tryd.func38, Tryd.ntmps38
    clear hle
    go_wp2
    go_loopw [13] (fun i wr => ∃ k : Nat, k ≤ l.length ∧ i = .int .i64 k ∧ eqL sameM l l' = eqL sameM (l.drop k) (l'.drop k) ∧ ∃ m, wr = w.drewN m) (fun i _ => l.length - (intOf i).toNat)
    case atStart => exact ⟨0, Nat.zero_le _, rfl, rfl, 0, rfl⟩
    case round =>
      obtain ⟨k, hk, rfl, hsame, m, rfl⟩ := hrel
      by_cases hlt : k < l.length
      · have hlt' : k < l'.length := by rw [← hle'.out]; exact hlt
        obtain ⟨x, hx⟩ : ∃ e, l[k]? = some e := ⟨l[k], by simp [hlt]⟩
        obtain ⟨y, hy⟩ : ∃ e, l'[k]? = some e := ⟨l'[k], by simp [hlt']⟩
        obtain ⟨b, off, rfl, _, c0, c1, c2⟩ := mm_row hrow k x hx
        obtain ⟨b', off', rfl, _, e0, e1, e2⟩ := mm_row hrow' k y hy
        rw [eqL_drop l l' k x y hx hy] at hsame
        have hkl' : k < l'.length := hlt'
        have hgd := guardM
        have hcm := fun V => mem_neq x y V
        clear hx hy hrow hrow'
        cases hs : sameM x y
        · have HN : Hid (eqL sameM l l' = false) := Lib.hid (by rw [hsame, hs]; rfl)
          rw [hs] at hcm
          clear hs hsame
          go_wp2
          go_quiet (fail)
          go_wp2
          go_ret
          exact ⟨ret_bool HN.out.symm, ⟨rfl, rfl, rfl, Nat.le_refl _, fun _ _ => rfl⟩⟩
        · have HT : Hid (eqL sameM l l' = eqL sameM (l.drop (k + 1)) (l'.drop (k + 1))) := Lib.hid (by rw [hsame, hs]; rfl)
          rw [hs] at hcm
          clear hs hsame
          go_wp2
          go_quiet (fail)
          go_wp2
          go_roundw
          case rel => exact ⟨k + 1, by omega, by go_num, HT.out, _, rfl⟩
          case measure => simp [intOf]; omega
      · have HE : Hid (eqL sameM l l' = true) := Lib.hid (by
          rw [hsame, List.drop_of_length_le (by omega), List.drop_of_length_le (by have := hle'.out; omega)]; rfl)
        clear hsame
        go_wp2
        go_ret
        exact ⟨ret_bool HE.out.symm, ⟨rfl, rfl, rfl, Nat.le_refl _, fun _ _ => rfl⟩⟩
  · have hne : ((l.length : Int) != (l'.length : Int)) = true := by simp; omega
    have hF : Hid (eqL sameM l l' = false) := Lib.hid (by rw [Bool.eq_false_iff]; intro h; exact hle (eqL_len h))
    go_enter Tryd.func38, Tryd.ntmps38
    go_wp2
    go_ret
    exact ⟨ret_bool hF.out.symm, Below.refl _ _⟩

set_option maxHeartbeats 4000000 in
set_option maxRecDepth 100000 in
theorem sameIns_any (i k : Ins) (w : World) (hi : RowAt w (fun _ => True) i.aa i.acap i.args.length (numCells i.args)) (hk : RowAt w (fun _ => True) k.aa k.acap k.args.length (numCells k.args)) :
    Calls Tryd.prog 21 #[.agg ⟨i.vals⟩, .agg ⟨k.vals⟩] w fun x w' => x = .returned (.bool (sameI i k)) ∧ Below w.heap.size w w' := by
  obtain ⟨op, r, a, b, n, aa, acap, args⟩ := i
  obtain ⟨op', r', a', b', n', aa', acap', args'⟩ := k
  unfold sameI Ins.vals
  simp only at hi hk ⊢
  have hc := fun W (hb : Below w.heap.size w W) => equalI_any args args' aa aa' acap acap' W (hi.below (Kps.of_below hb)) (hk.below (Kps.of_below hb))
  generalize decide (args = args') = dv at *
  clear hi hk
  replace hc := Lib.hid hc
  by_cases h0 : op = op'
  · subst h0
    by_cases h1 : r = r'
    · subst h1
      by_cases h2 : a = a'
      · subst h2
        by_cases h3 : b = b'
        · subst h3
          by_cases h4 : n = n'
          · subst h4
            go_enter Tryd.func21, Tryd.ntmps21
            go_wp2_with fail
            refine (hc.out _ (b_alloc2 _ _ _)).mono ?_
            rintro x w' ⟨rfl, hb⟩
            have hbb := Lib.hid (b_next2 hb)
            clear hb
            go_wp2_with fail
            go_ret
            exact ⟨ret_bool (by simp [*]), hbb.out⟩
          · have e4 := ne_b h4
            go_enter Tryd.func21, Tryd.ntmps21
            go_wp2_with fail
            go_ret
            exact ⟨ret_bool (by simp [*]), b_alloc2 _ _ _⟩
        · have e3 := ne_b h3
          go_enter Tryd.func21, Tryd.ntmps21
          go_wp2_with fail
          go_ret
          exact ⟨ret_bool (by simp [*]), b_alloc2 _ _ _⟩
      · have e2 := ne_b h2
        go_enter Tryd.func21, Tryd.ntmps21
        go_wp2_with fail
        go_ret
        exact ⟨ret_bool (by simp [*]), b_alloc2 _ _ _⟩
    · have e1 := ne_b h1
      go_enter Tryd.func21, Tryd.ntmps21
      go_wp2_with fail
      go_ret
      exact ⟨ret_bool (by simp [*]), b_alloc2 _ _ _⟩
  · have e0 := ne_b h0
    go_enter Tryd.func21, Tryd.ntmps21
    go_wp2_with fail
    go_ret
    exact ⟨ret_bool (by simp [*]), b_alloc2 _ _ _⟩
set_option maxHeartbeats 1600000 in
set_option maxRecDepth 100000 in
theorem equalInsF (l l' : List Ins) (a a' : Option Addr) (cap cap' : Nat) (w : World) (hrow : RowAt w (fun _ => True) a cap l.length (inCells l)) (hrow' : RowAt w (fun _ => True) a' cap' l'.length (inCells l'))
    (hcall : ∀ e e' W, e ∈ l → e' ∈ l' → Below w.heap.size w W → Calls Tryd.prog 21 #[.agg ⟨e.vals⟩, .agg ⟨e'.vals⟩] W fun x W' => x = .returned (.bool (sameI e e')) ∧ Below W.heap.size W W') :
    Calls Tryd.prog 57 #[.slice a l.length cap, .slice a' l'.length cap', .func (.func 21) #[] #[]] w fun x w' => x = .returned (.bool (eqL sameI l l')) ∧ Below w.heap.size w w' := by
  obtain ⟨hc11, hc12⟩ := len_i hrow
  obtain ⟨hc21, hc22⟩ := len_i hrow'
  by_cases hle : l.length = l'.length
  · have hne : ((l.length : Int) != (l'.length : Int)) = false := by rw [hle]; simp
    have hle' := Lib.hid hle
    go_enter Tryd.func57, Tryd.ntmps57
    clear hle
    go_wp2
    go_loopw [17] (fun i wr => ∃ k : Nat, k ≤ l.length ∧ i = .int .i64 k ∧ eqL sameI l l' = eqL sameI (l.drop k) (l'.drop k) ∧ Below w.heap.size w wr) (fun i _ => l.length - (intOf i).toNat)
    case atStart => exact ⟨0, Nat.zero_le _, rfl, rfl, Below.refl _ _⟩
    case round =>
      obtain ⟨k, hk, rfl, hsame, hbr⟩ := hrel
      by_cases hlt : k < l.length
      · have hlt' : k < l'.length := by rw [← hle'.out]; exact hlt
        obtain ⟨e, he⟩ : ∃ e, l[k]? = some e := ⟨l[k], by simp [hlt]⟩
        obtain ⟨e', he'⟩ : ∃ e, l'[k]? = some e := ⟨l'[k], by simp [hlt']⟩
        obtain ⟨b, off, rfl, _, c0, c1, c2, c3, c4, c5⟩ := in_row hrow k e he
        obtain ⟨b', off', rfl, _, e0, e1, e2, e3, e4, e5⟩ := in_row hrow' k e' he'
        have hcl := fun W hb => hcall e e' W (List.mem_of_getElem? he) (List.mem_of_getElem? he') hb
        rw [eqL_drop l l' k e e' he he'] at hsame
        unfold Ins.vals at hcl
        have d0 := below_in hbr c0
        have d1 := below_in hbr c1
        have d2 := below_in hbr c2
        have d3 := below_in hbr c3
        have d4 := below_in hbr c4
        have d5 := below_in hbr c5
        have f0 := fun o => below_in ((Below.refl _ _).alloc (Nat.le_refl _) o) (below_in hbr e0)
        have f1 := fun o => below_in ((Below.refl _ _).alloc (Nat.le_refl _) o) (below_in hbr e1)
        have f2 := fun o => below_in ((Below.refl _ _).alloc (Nat.le_refl _) o) (below_in hbr e2)
        have f3 := fun o => below_in ((Below.refl _ _).alloc (Nat.le_refl _) o) (below_in hbr e3)
        have f4 := fun o => below_in ((Below.refl _ _).alloc (Nat.le_refl _) o) (below_in hbr e4)
        have f5 := fun o => below_in ((Below.refl _ _).alloc (Nat.le_refl _) o) (below_in hbr e5)
        clear c0 c1 c2 c3 c4 c5 e0 e1 e2 e3 e4 e5 he he' hrow hrow' hcall
        generalize sameI e e' = sv at *
        replace hsame := Lib.hid hsame
        replace hcl := Lib.hid hcl
        cases sv
        · have hF : Hid (eqL sameI l l' = false) := Lib.hid (by rw [hsame.out]; rfl)
          go_wp2_with fail
          refine (hcl.out _ ((hbr.alloc hbr.size _).alloc (by have := hbr.size; simp; omega) _)).mono ?_
          rintro x W3 ⟨rfl, hb3⟩
          go_wp2_with fail
          go_ret
          exact ⟨ret_bool hF.out.symm, ((hbr.alloc hbr.size _).alloc (by have := hbr.size; simp; omega) _).trans (hb3.mono (by have := hbr.size; simp; omega))⟩
        · have hF : Hid (eqL sameI l l' = eqL sameI (l.drop (k + 1)) (l'.drop (k + 1))) := Lib.hid (by rw [hsame.out]; rfl)
          go_wp2_with fail
          refine (hcl.out _ ((hbr.alloc hbr.size _).alloc (by have := hbr.size; simp; omega) _)).mono ?_
          rintro x W3 ⟨rfl, hb3⟩
          go_wp2_with fail
          go_roundw
          case rel => exact ⟨k + 1, by omega, by go_num, hF.out, ((hbr.alloc hbr.size _).alloc (by have := hbr.size; simp; omega) _).trans (hb3.mono (by have := hbr.size; simp; omega))⟩
          case measure => simp [intOf]; omega
      · have hF : Hid (eqL sameI l l' = true) := Lib.hid (by
          rw [hsame, List.drop_of_length_le (by omega), List.drop_of_length_le (by have := hle'.out; omega)]; rfl)
        clear hsame
        go_wp2
        go_ret
        exact ⟨ret_bool hF.out.symm, hbr⟩
  · have hne : ((l.length : Int) != (l'.length : Int)) = true := by simp; omega
    have hF : Hid (eqL sameI l l' = false) := Lib.hid (by rw [Bool.eq_false_iff]; intro h; exact hle (eqL_len h))
    go_enter Tryd.func57, Tryd.ntmps57
    go_wp2
    go_ret
    exact ⟨ret_bool hF.out.symm, Below.refl _ _⟩
set_option maxHeartbeats 1600000 in
set_option maxRecDepth 100000 in
theorem equalFnF (l l' : List Fn) (a a' : Option Addr) (cap cap' : Nat) (w : World) (hrow : RowAt w (fun _ => True) a cap l.length (fnCells l)) (hrow' : RowAt w (fun _ => True) a' cap' l'.length (fnCells l'))
    (hcall : ∀ e e' W, e ∈ l → e' ∈ l' → Below w.heap.size w W → Calls Tryd.prog 41 #[.agg ⟨e.vals⟩, .agg ⟨e'.vals⟩] W fun x W' => x = .returned (.bool (sameF e e')) ∧ Below W.heap.size W W') :
    Calls Tryd.prog 40 #[.slice a l.length cap, .slice a' l'.length cap', .func (.func 41) #[] #[]] w fun x w' => x = .returned (.bool (eqL sameF l l')) ∧ Below w.heap.size w w' := by
  obtain ⟨hc11, hc12⟩ := len_i hrow
  obtain ⟨hc21, hc22⟩ := len_i hrow'
  by_cases hle : l.length = l'.length
  · have hne : ((l.length : Int) != (l'.length : Int)) = false := by rw [hle]; simp
    have hle' := Lib.hid hle
    go_enter Tryd.func40, Tryd.ntmps40
    clear hle
    go_wp2
    go_loopw [17] (fun i wr => ∃ k : Nat, k ≤ l.length ∧ i = .int .i64 k ∧ eqL sameF l l' = eqL sameF (l.drop k) (l'.drop k) ∧ Below w.heap.size w wr) (fun i _ => l.length - (intOf i).toNat)
    case atStart => exact ⟨0, Nat.zero_le _, rfl, rfl, Below.refl _ _⟩
    case round =>
      obtain ⟨k, hk, rfl, hsame, hbr⟩ := hrel
      by_cases hlt : k < l.length
      · have hlt' : k < l'.length := by rw [← hle'.out]; exact hlt
        obtain ⟨e, he⟩ : ∃ e, l[k]? = some e := ⟨l[k], by simp [hlt]⟩
        obtain ⟨e', he'⟩ : ∃ e, l'[k]? = some e := ⟨l'[k], by simp [hlt']⟩
        obtain ⟨b, off, rfl, _, c0, c1, c2, c3, c4⟩ := fn_row hrow k e he
        obtain ⟨b', off', rfl, _, e0, e1, e2, e3, e4⟩ := fn_row hrow' k e' he'
        have hcl := fun W hb => hcall e e' W (List.mem_of_getElem? he) (List.mem_of_getElem? he') hb
        rw [eqL_drop l l' k e e' he he'] at hsame
        unfold Fn.vals at hcl
        have d0 := below_in hbr c0
        have d1 := below_in hbr c1
        have d2 := below_in hbr c2
        have d3 := below_in hbr c3
        have d4 := below_in hbr c4
        have f0 := fun o => below_in ((Below.refl _ _).alloc (Nat.le_refl _) o) (below_in hbr e0)
        have f1 := fun o => below_in ((Below.refl _ _).alloc (Nat.le_refl _) o) (below_in hbr e1)
        have f2 := fun o => below_in ((Below.refl _ _).alloc (Nat.le_refl _) o) (below_in hbr e2)
        have f3 := fun o => below_in ((Below.refl _ _).alloc (Nat.le_refl _) o) (below_in hbr e3)
        have f4 := fun o => below_in ((Below.refl _ _).alloc (Nat.le_refl _) o) (below_in hbr e4)
        clear c0 c1 c2 c3 c4 e0 e1 e2 e3 e4 he he' hrow hrow' hcall
        generalize sameF e e' = sv at *
        replace hsame := Lib.hid hsame
        replace hcl := Lib.hid hcl
        cases sv
        · have hF : Hid (eqL sameF l l' = false) := Lib.hid (by rw [hsame.out]; rfl)
          go_wp2_with fail
          refine (hcl.out _ ((hbr.alloc hbr.size _).alloc (by have := hbr.size; simp; omega) _)).mono ?_
          rintro x W3 ⟨rfl, hb3⟩
          go_wp2_with fail
          go_ret
          exact ⟨ret_bool hF.out.symm, ((hbr.alloc hbr.size _).alloc (by have := hbr.size; simp; omega) _).trans (hb3.mono (by have := hbr.size; simp; omega))⟩
        · have hF : Hid (eqL sameF l l' = eqL sameF (l.drop (k + 1)) (l'.drop (k + 1))) := Lib.hid (by rw [hsame.out]; rfl)
          go_wp2_with fail
          refine (hcl.out _ ((hbr.alloc hbr.size _).alloc (by have := hbr.size; simp; omega) _)).mono ?_
          rintro x W3 ⟨rfl, hb3⟩
          go_wp2_with fail
          go_roundw
          case rel => exact ⟨k + 1, by omega, by go_num, hF.out, ((hbr.alloc hbr.size _).alloc (by have := hbr.size; simp; omega) _).trans (hb3.mono (by have := hbr.size; simp; omega))⟩
          case measure => simp [intOf]; omega
      · have hF : Hid (eqL sameF l l' = true) := Lib.hid (by
          rw [hsame, List.drop_of_length_le (by omega), List.drop_of_length_le (by have := hle'.out; omega)]; rfl)
        clear hsame
        go_wp2
        go_ret
        exact ⟨ret_bool hF.out.symm, hbr⟩
  · have hne : ((l.length : Int) != (l'.length : Int)) = true := by simp; omega
    have hF : Hid (eqL sameF l l' = false) := Lib.hid (by rw [Bool.eq_false_iff]; intro h; exact hle (eqL_len h))
    go_enter Tryd.func40, Tryd.ntmps40
    go_wp2
    go_ret
    exact ⟨ret_bool hF.out.symm, Below.refl _ _⟩
set_option maxHeartbeats 4000000 in
set_option maxRecDepth 100000 in
theorem sameFun_any (i k : Fn) (w : World) (hi : Fn.In w (fun _ => True) i) (hk : Fn.In w (fun _ => True) k) :
    Calls Tryd.prog 41 #[.agg ⟨i.vals⟩, .agg ⟨k.vals⟩] w fun x w' => x = .returned (.bool (sameF i k)) ∧ Below w.heap.size w w' := by
  obtain ⟨nm, th, ps, rg, ca, ccap, code⟩ := i
  obtain ⟨nm', th', ps', rg', ca', ccap', code'⟩ := k
  have hc := fun W (hb : Below w.heap.size w W) => equalInsF code code' ca ca' ccap ccap' W (hi.row.below (Kps.of_below hb)) (hk.row.below (Kps.of_below hb))
    (fun e e' V he he' hbv => sameIns_any e e' V ((hi.code e he).row.below (Kps.of_below (hb.trans (hbv.mono hb.size)))) ((hk.code e' he').row.below (Kps.of_below (hb.trans (hbv.mono hb.size)))))
  unfold sameF Fn.vals
  simp only
  generalize eqL sameI code code' = dv at *
  clear hi hk
  replace hc := Lib.hid hc
  by_cases h0 : nm = nm'
  · subst h0
    by_cases h1 : th = th'
    · subst h1
      by_cases h2 : ps = ps'
      · subst h2
        by_cases h3 : rg = rg'
        · subst h3
          go_enter Tryd.func41, Tryd.ntmps41
          go_wp2_with fail
          refine (hc.out _ (b_alloc2 _ _ _)).mono ?_
          rintro x w' ⟨rfl, hb⟩
          have hbb := Lib.hid (b_next2 hb)
          clear hb
          go_wp2_with fail
          go_ret
          exact ⟨ret_bool (by simp [*]), hbb.out⟩
        · have e3 := ne_b h3
          go_enter Tryd.func41, Tryd.ntmps41
          go_wp2_with fail
          go_ret
          exact ⟨ret_bool (by simp [*]), b_alloc2 _ _ _⟩
      · have e2 := ne_b h2
        go_enter Tryd.func41, Tryd.ntmps41
        go_wp2_with fail
        go_ret
        exact ⟨ret_bool (by simp [*]), b_alloc2 _ _ _⟩
    · have e1 := bool_b h1
      go_enter Tryd.func41, Tryd.ntmps41
      go_wp2_with fail
      go_ret
      exact ⟨ret_bool (by simp [*]), b_alloc2 _ _ _⟩
  · have e0 := str_ne h0
    go_enter Tryd.func41, Tryd.ntmps41
    go_wp2_with fail
    go_ret
    exact ⟨ret_bool (by simp [*]), b_alloc2 _ _ _⟩
set_option maxHeartbeats 4000000 in
set_option maxRecDepth 100000 in
theorem same_any (p q : Pg) (w : World) (hp : Pg.In w (fun _ => True) p) (hq : Pg.In w (fun _ => True) q) :
    Calls Tryd.prog 15 #[p.val, q.val] w fun x w' => x = .returned (.bool (sameP p q)) ∧ Below w.heap.size w w' := by
  have hm := fun W (hb : Below w.heap.size w W) => equalM_any p.mems q.mems p.ma q.ma p.mcap q.mcap W (hp.mrow.below (Kps.of_below hb)) (hq.mrow.below (Kps.of_below hb))
  have hl := fun W (hb : Below w.heap.size w W) => equalT_any p.locks q.locks p.la q.la p.lcap q.lcap W (hp.lrow.below (Kps.of_below hb)) (hq.lrow.below (Kps.of_below hb))
  have hf := fun W (hb : Below w.heap.size w W) => equalFnF p.funs q.funs p.fa q.fa p.fcap q.fcap W (hp.frow.below (Kps.of_below hb)) (hq.frow.below (Kps.of_below hb))
    (fun e e' V he he' hbv => sameFun_any e e' V ((hp.funs e he).below (Kps.of_below (hb.trans (hbv.mono hb.size)))) ((hq.funs e' he').below (Kps.of_below (hb.trans (hbv.mono hb.size)))))
  unfold sameP
  rw [eqL_eq (f := fun x y : ByteArray => decide (x = y)) (fun _ _ => rfl)]
  generalize eqL sameM p.mems q.mems = m1 at *
  generalize decide (p.locks = q.locks) = m2 at *
  generalize eqL sameF p.funs q.funs = m3 at *
  clear hp hq
  replace hm := Lib.hid hm
  replace hl := Lib.hid hl
  replace hf := Lib.hid hf
  cases m1
  · go_enter Tryd.func15, Tryd.ntmps15
    go_wp2_with fail
    refine (hm.out _ (b_alloc2 _ _ _)).mono ?_
    rintro x w1 ⟨rfl, hb⟩
    have hbb := Lib.hid (b_next2 hb)
    clear hb
    go_wp2_with fail
    go_ret
    exact ⟨ret_bool rfl, hbb.out⟩
  · cases m2
    · go_enter Tryd.func15, Tryd.ntmps15
      go_wp2_with fail
      refine (hm.out _ (b_alloc2 _ _ _)).mono ?_
      rintro x w1 ⟨rfl, hb⟩
      obtain ⟨hc1, hf1⟩ := bcell hb
      have hlt : w.heap.size + 1 < w1.heap.size := by have := hb.size; simp at this; omega
      have hlt0 : w.heap.size < w1.heap.size := by omega
      have hbb := Lib.hid (b_next2 hb)
      clear hb
      go_wp2_with fail
      refine (hl.out _ hbb.out).mono ?_
      rintro x w2 ⟨rfl, hb2⟩
      have hbb2 := Lib.hid (hbb.out.trans (hb2.mono hbb.out.size))
      clear hb2
      go_wp2_with fail
      go_ret
      exact ⟨ret_bool rfl, hbb2.out⟩
    · go_enter Tryd.func15, Tryd.ntmps15
      go_wp2_with fail
      refine (hm.out _ (b_alloc2 _ _ _)).mono ?_
      rintro x w1 ⟨rfl, hb⟩
      obtain ⟨hc1, hf1⟩ := bcell hb
      have hlt : w.heap.size + 1 < w1.heap.size := by have := hb.size; simp at this; omega
      have hlt0 : w.heap.size < w1.heap.size := by omega
      have hbb := Lib.hid (b_next2 hb)
      clear hb
      go_wp2_with fail
      refine (hl.out _ hbb.out).mono ?_
      rintro x w2 ⟨rfl, hb2⟩
      obtain ⟨hc2, hf2⟩ := bcell hb2
      have hltb : w.heap.size + 1 < w2.heap.size := by have := hb2.size; omega
      have hltb0 : w.heap.size < w2.heap.size := by omega
      have hbb2 := Lib.hid (hbb.out.trans (hb2.mono hbb.out.size))
      clear hb2
      go_wp2_with fail
      refine (hf.out _ hbb2.out).mono ?_
      rintro x w3 ⟨rfl, hb3⟩
      have hbb3 := Lib.hid (hbb2.out.trans (hb3.mono hbb2.out.size))
      clear hb3
      go_wp2_with fail
      go_ret
      exact ⟨ret_bool (by simp), hbb3.out⟩
end Go.Proofs.YtiicjbnocpphdaaDoor.Cd
