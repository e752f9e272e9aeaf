/- MemCells answers true. Conditions: the lists lie in memory; the numbers fit their kinds. -/
import Derived.Test.YtimbhdekbceajaaMeS
import Derived.Deep.CutRange
import Derived.Deep.CutBlock
namespace Go.Proofs.Ytimbhdekbceajaa.Me
open Go Go.RowKit

/-- a step -/
structure Sp where
  kind : Int
  at_ : Int
  here : Int
  v : Int
def Sp.vals (s : Sp) : List Value := [.int .u8 s.kind, .int .i64 s.at_, .int .i64 s.here, .int .i64 s.v]
theorem Sp.vals_len (s : Sp) : s.vals.length = 4 := rfl
def spCells (l : List Sp) : List Value := l.flatMap Sp.vals
structure Sp.In (s : Sp) : Prop where
  kind : U8 s.kind
  at_ : I64 s.at_
  here : I64 s.here
  v : I64 s.v
theorem sp_row {w : World} {S : Nat → Prop} {a : Option Addr} {cap : Nat} {l : List Sp} (h : RowAt w S a cap l.length (spCells l)) (i : Nat) (e : Sp) (he : l[i]? = some e) :
    ∃ b off, a = some ⟨b, off, none⟩ ∧ S b ∧ w.cell? ⟨b, off + i * 4, none⟩ = some (.int .u8 e.kind) ∧ w.cell? ⟨b, off + i * 4 + 1, none⟩ = some (.int .i64 e.at_) ∧ w.cell? ⟨b, off + i * 4 + 2, none⟩ = some (.int .i64 e.here) ∧ w.cell? ⟨b, off + i * 4 + 3, none⟩ = some (.int .i64 e.v) := by
  obtain ⟨b, off, ha, hb, hcl⟩ := row_get Sp.vals 4 Sp.vals_len (by omega) h i e he
  refine ⟨b, off, ha, hb, ?_, ?_, ?_, ?_⟩
  · have := hcl 0 _ rfl; rwa [Nat.add_zero] at this
  · have := hcl 1 _ rfl; rwa [← Nat.add_assoc] at this
  · have := hcl 2 _ rfl; rwa [← Nat.add_assoc] at this
  · have := hcl 3 _ rfl; rwa [← Nat.add_assoc] at this
/-- is there a cell, and what is it at first? -/
theorem getP_first {l : List Gm} {a i : Int} {x : Gm} (ha : 0 ≤ a) (hx : l[a.toNat]? = some x) (hi : 0 ≤ i) (hs : i < x.size) : getP (firstC l) a i = (x.first, 0) := by
  have hk := (List.getElem?_eq_some_iff.1 hx).1
  unfold getP firstC
  rw [List.length_map, if_neg (by omega), List.getElem?_map, hx]
  simp only [Option.map_some]
  rw [List.length_replicate, if_neg (by omega), List.getD_eq_getElem?_getD, List.getElem?_replicate, if_pos (by omega)]
  rfl
theorem getP_first_none {l : List Gm} {a i : Int} {x : Gm} (hx : l[a.toNat]? = some x) (ha : 0 ≤ a) (hi : i < 0 ∨ x.size ≤ i) (hb : badG x = false) : getP (firstC l) a i = (0, 5) := by
  have hk := (List.getElem?_eq_some_iff.1 hx).1
  simp [badG] at hb
  unfold getP firstC
  rw [List.length_map, if_neg (by omega), List.getElem?_map, hx]
  simp only [Option.map_some]
  rw [List.length_replicate, if_pos (by omega)]
theorem getP_first_arg {l : List Gm} {a i : Int} (ha : a < 0 ∨ (l.length : Int) ≤ a) : getP (firstC l) a i = (0, 1) := by
  unfold getP firstC
  rw [List.length_map, if_pos ha]
set_option maxHeartbeats 8000000 in
set_option maxRecDepth 100000 in
theorem memCells_law (l : List Gm) (ga : Option Addr) (gc : Nat) (st : List Sp) (sa : Option Addr) (sc : Nat) (at_ here lock : Int) (w : World) (hg : RowAt w (fun _ => True) ga gc l.length (gmCells l)) (_hgi : ∀ g ∈ l, g.In) (hs : RowAt w (fun _ => True) sa sc st.length (spCells st)) (hsi : ∀ s ∈ st, s.In) (_ha : I64 at_) (_hh : I64 here) (hl : I64 lock) :
    Calls Try.prog 6 #[.slice ga l.length gc, .slice sa st.length sc, .int .i64 at_, .int .i64 here, .int .i64 lock] w fun e w' => e = .returned (.bool true) ∧ Below w.heap.size w w' := by
  obtain ⟨hc1, hc2⟩ := len_i hg
  obtain ⟨hd1, hd2⟩ := len_i hs
  have hA := Lib.hid (fun (V : World) (hV : Hid (Below w.heap.size w V)) => aw_c hV.out)
  have hb0 : Hid (Below w.heap.size w w) := Lib.hid (Below.refl _ _)
  by_cases hl1 : 20 < l.length
  · have hl1' : (20 : Int) < (l.length : Int) := by omega
    go_enter Try.func6, Try.ntmps6
    go_wp2_with (go_at_call 11; refine (hA.out _ (by assumption)).mono ?_; rintro e w1 ⟨rfl, hbx⟩)
    go_ret
    exact ⟨rfl, hbx⟩
  have hl1' : ¬ (20 : Int) < (l.length : Int) := by omega
  by_cases hl2 : 100 < st.length
  · have hl2' : (100 : Int) < (st.length : Int) := by omega
    go_enter Try.func6, Try.ntmps6
    go_wp2_with (go_at_call 11; refine (hA.out _ (by assumption)).mono ?_; rintro e w1 ⟨rfl, hbx⟩)
    go_ret
    exact ⟨rfl, hbx⟩
  have hl2' : ¬ (100 : Int) < (st.length : Int) := by omega
  go_enter Try.func6, Try.ntmps6
  go_upto_region 3 with (go_at_call 11; refine (hA.out _ (by assumption)).mono ?_; rintro e w1 ⟨rfl, hb1⟩)
  clear hA
  have hN := Lib.hid (New_c l 4 ga gc w1 (hg.below (Kps.of_below hb1)) (by omega))
  cases hbad : l.any badG with
  | true =>
    have hN2 : Hid (Calls Try.prog 12 #[.slice ga l.length gc, .int .i64 4] w1 fun e w' => e = .returned (.tuple #[.pointer none, .int .i64 4]) ∧ Below w.heap.size w w') := Lib.hid (hN.out.mono fun e w' ⟨h1, h2⟩ => by
      rw [if_pos hbad] at h2
      exact ⟨h2, hb1.trans (h1.mono hb1.size)⟩)
    clear hN hbad
    go_wp2_with (go_at_call 12; refine hN2.out.mono ?_; rintro e w2 ⟨rfl, hb2⟩)
    go_ret
    exact ⟨rfl, hb2⟩
  | false =>
    have hN2 : Hid (Calls Try.prog 12 #[.slice ga l.length gc, .int .i64 4] w1 fun e w' => ∃ mb, e = .returned (.tuple #[.pointer (some ⟨mb, 0, none⟩), .int .i64 0]) ∧ Below w.heap.size w w' ∧ ∀ want ee, getP (firstC l) at_ here = (want, ee) → Lp w w'.heap.size mb at_ here lock ee 0 want false 0 w') := Lib.hid (hN.out.mono fun e w' ⟨h1, h2⟩ => by
      rw [if_neg (by rw [hbad]; simp), if_neg (by omega)] at h2
      obtain ⟨m, q1, q2, q3, q4, q5, q6, q7⟩ := h2
      have hb2 := hb1.trans (h1.mono hb1.size)
      exact ⟨m.mb, q7, hb2, fun want ee hw => ⟨⟨m, rfl, q1, q3, by omega, fun b hb => ⟨Nat.le_trans hb1.size (q6 b hb), q1.foot_lt hb⟩, by rw [q2]; exact hw, by rw [q4]; rfl, fun u hu => (by rw [q4] at hu; cases hu), fun j _ => by rw [q4]⟩, hb2⟩⟩)
    clear hN
    go_upto_region 6 with (go_at_call 12; refine hN2.out.mono ?_; rintro e w3 ⟨mb, rfl, hb3, hLp⟩)
    clear hN2 hb1
    replace hb3 := Lib.hid hb3
    obtain ⟨want, ee, hw⟩ : ∃ want ee, getP (firstC l) at_ here = (want, ee) := ⟨_, _, rfl⟩
    replace hLp := Lib.hid (hLp want ee hw)
    replace hw := Lib.hid hw
    replace hbad := Lib.hid hbad
    go_cut [13] from 49 to 69 (fun t wx => t = .bool (decide (ee = 0)) ∧ wx = w3)
    case first =>
      by_cases h1 : at_ < 0
      · have he : ee = 1 := by have := hw.out; rw [getP_first_arg (.inl h1)] at this; cases this; rfl
        subst he
        clear hLp hs
        go_wp2_with fail
        go_meet
        case rel => exact ⟨rfl, rfl⟩
      by_cases h2 : (l.length : Int) ≤ at_
      · have he : ee = 1 := by have := hw.out; rw [getP_first_arg (.inr h2)] at this; cases this; rfl
        subst he
        clear hLp hs
        go_wp2_with fail
        go_meet
        case rel => exact ⟨rfl, rfl⟩
      obtain ⟨n, hn⟩ : ∃ n : Nat, at_ = n := ⟨at_.toNat, by omega⟩
      subst hn
      have h3 : n < l.length := by omega
      obtain ⟨x, hx⟩ : ∃ x, l[n]? = some x := ⟨_, List.getElem?_eq_getElem h3⟩
      have hbx : badG x = false := by
        have := hbad.out
        rw [List.any_eq_false] at this
        simpa using this x (List.mem_of_getElem? hx)
      have hi0 : (0 : Int) ≤ (n : Int) := by omega
      have hi1 : (n : Int) < (l.length : Int) := by omega
      by_cases h4 : here < 0
      · have he : ee = 5 := by have := hw.out; rw [getP_first_none (by simpa using hx) hi0 (.inl h4) hbx] at this; cases this; rfl
        subst he
        clear hLp hs hx hbx
        go_wp2_with fail
        go_meet
        case rel => exact ⟨rfl, rfl⟩
      obtain ⟨b, off, ha, _, c0, c1, c2⟩ := gm_row (hg.below (Kps.of_below hb3.out)) n x hx
      subst ha
      by_cases h5 : x.size ≤ here
      · have he : ee = 5 := by have := hw.out; rw [getP_first_none (by simpa using hx) hi0 (.inr h5) hbx] at this; cases this; rfl
        subst he
        clear hLp hs hx hbx hg
        go_wp2_with fail
        go_meet
        case rel => exact ⟨by simp; omega, rfl⟩
      · have he : ee = 0 := by have := hw.out; rw [getP_first hi0 (by simpa using hx) (by omega) (by omega)] at this; cases this; rfl
        subst he
        have h6 : here < x.size := by omega
        clear hLp hs hx hbx hg h5
        go_wp2_with fail
        go_meet
        case rel => exact ⟨rfl, rfl⟩
    case rest =>
    obtain ⟨rfl, rfl⟩ := hcut
    go_upto_if 70 with fail
    go_cut [14] from 71 to 75 (fun t wx => t = .int .i64 want ∧ wx = wc)
    case first =>
      by_cases he : ee = 0
      · subst he
        have key : ∃ (n : Nat) (x : Gm), at_ = n ∧ l[n]? = some x ∧ want = x.first := by
          have h0 := hw.out
          by_cases h1 : at_ < 0 ∨ (l.length : Int) ≤ at_
          · rw [getP_first_arg h1] at h0; simp at h0
          have h3 : at_.toNat < l.length := by omega
          have hx : l[at_.toNat]? = some l[at_.toNat] := List.getElem?_eq_getElem h3
          have hbx : badG l[at_.toNat] = false := by
            have := hbad.out
            rw [List.any_eq_false] at this
            simpa using this _ (List.mem_of_getElem? hx)
          refine ⟨at_.toNat, l[at_.toNat], by omega, hx, ?_⟩
          by_cases h5 : here < 0 ∨ (l[at_.toNat]).size ≤ here
          · rw [getP_first_none hx (by omega) h5 hbx] at h0; simp at h0
          · rw [getP_first (by omega) hx (by omega) (by omega)] at h0
            simpa using h0.symm
        obtain ⟨n, x, rfl, hx, rfl⟩ := key
        obtain ⟨b, off, ha, _, c0, c1, c2⟩ := gm_row (hg.below (Kps.of_below hb3.out)) n x hx
        have hi0 : (0 : Int) ≤ (n : Int) := by omega
        have hi1 : (n : Int) < (l.length : Int) := by have := (List.getElem?_eq_some_iff.1 hx).1; omega
        subst ha
        clear hLp hs hx hg
        go_wp2_with fail
        go_meet
        case rel => exact ⟨rfl, rfl⟩
      · have hw0 : want = 0 := by
          have h0 := hw.out
          by_cases h1 : at_ < 0 ∨ (l.length : Int) ≤ at_
          · rw [getP_first_arg h1] at h0; cases h0; rfl
          have h3 : at_.toNat < l.length := by omega
          have hx : l[at_.toNat]? = some l[at_.toNat] := List.getElem?_eq_getElem h3
          have hbx : badG l[at_.toNat] = false := by
            have := hbad.out
            rw [List.any_eq_false] at this
            simpa using this _ (List.mem_of_getElem? hx)
          by_cases h5 : here < 0 ∨ (l[at_.toNat]).size ≤ here
          · rw [getP_first_none hx (by omega) h5 hbx] at h0; cases h0; rfl
          · rw [getP_first (by omega) hx (by omega) (by omega)] at h0
            cases h0
            exact absurd rfl he
        subst hw0
        clear hLp hs hg
        go_wp2_with fail
        go_meet
        case rel => exact ⟨rfl, rfl⟩
    case rest =>
    obtain ⟨rfl, rfl⟩ := hcut
    go_upto_region 11 with fail
    go_cut [17] from 76 to 81 (fun t wx => t = .bool (decide (0 ≤ lock) && decide (lock < 4)) ∧ wx = wc)
    case first =>
      clear hLp hs hg
      by_cases h1 : lock < 0
      · have h2 : ¬ 0 ≤ lock := by omega
        go_wp2_with fail
        go_meet
        case rel => exact ⟨by simp; omega, rfl⟩
      · have h2 : 0 ≤ lock := by omega
        go_wp2_with fail
        go_meet
        case rel => exact ⟨by simp; omega, rfl⟩
    case rest =>
    obtain ⟨rfl, rfl⟩ := hcut
    clear hg hw hbad
    obtain ⟨tb, htb⟩ : ∃ tb, decide (ee = 0) = tb := ⟨_, rfl⟩
    obtain ⟨mn, hmn⟩ : ∃ mn, (decide (0 ≤ lock) && decide (lock < 4)) = mn := ⟨_, rfl⟩
    rw [htb, hmn]
    replace htb := Lib.hid htb
    replace hmn := Lib.hid hmn
    go_wp2_with fail
    go_loopw [14, 15, 16, 18] (fun t14 t15 t16 i wr => ∃ (k : Nat) (want who : Int) (held : Bool), k ≤ st.length ∧ i = .int .i64 k ∧ t14 = .int .i64 want ∧ t15 = .bool held ∧ t16 = .int .i64 who ∧ Hid (Lp w wr.heap.size mb at_ here lock ee k want held who wr)) (fun _ _ _ i _ => st.length - (intOf i).toNat)
    case atStart => exact ⟨0, want, 0, false, Nat.zero_le _, rfl, rfl, rfl, rfl, hLp⟩
    case round =>
      clear hLp hb3
      obtain ⟨k, want, who, held, hk, rfl, rfl, rfl, rfl, hLp⟩ := hrel
      by_cases hlt : k < st.length
      · obtain ⟨x, hx⟩ : ∃ x, st[k]? = some x := ⟨_, List.getElem?_eq_getElem hlt⟩
        obtain ⟨b, off, ha, _, c0, c1, c2, c3⟩ := sp_row (hs.below (Kps.of_below hLp.out.bl)) k x hx
        obtain ⟨i1, i2, i3, i4⟩ := hsi x (List.mem_of_getElem? hx)
        subst ha
        have hi0 : (0 : Int) ≤ (k : Int) := by omega
        have hi1 : (k : Int) < (st.length : Int) := by omega
        have hLp1 := Lib.hid (hLp.out.below (b_alloc wr (.cells #[.int .u8 x.kind, .int .i64 x.at_, .int .i64 x.here, .int .i64 x.v] 35)))
        have hcl : ∀ (j : Nat) (u : Value), #[Value.int .u8 x.kind, .int .i64 x.at_, .int .i64 x.here, .int .i64 x.v][j]? = some u → (wr.alloc (.cells #[.int .u8 x.kind, .int .i64 x.at_, .int .i64 x.here, .int .i64 x.v] 35)).cell? ⟨wr.heap.size, j, none⟩ = some u := fun j u hj => blk_cell (MapKept.heap_alloc wr _).1 hj
        obtain ⟨kd, A, I, v⟩ := x
        simp only at c0 c1 c2 c3 hLp1 i1 i2 i3 i4 hcl
        clear hs hx hLp
        go_upto_region 16 with fail
        have d0 := hcl 0 _ rfl
        have d1 := hcl 1 _ rfl
        have d2 := hcl 2 _ rfl
        have d3 := hcl 3 _ rfl
        clear c0 c1 c2 c3 hcl
        generalize wr.alloc (.cells #[.int .u8 kd, .int .i64 A, .int .i64 I, .int .i64 v] 35) = W at *
        generalize wr.heap.size = N at *
        have hfr : Hid (∀ V : World, (∀ b, N ≤ b → V.heap[b]? = W.heap[b]?) → V.cell? ⟨N, 0, none⟩ = some (.int .u8 kd) ∧ V.cell? ⟨N, 1, none⟩ = some (.int .i64 A) ∧ V.cell? ⟨N, 2, none⟩ = some (.int .i64 I) ∧ V.cell? ⟨N, 3, none⟩ = some (.int .i64 v)) := Lib.hid fun V hV =>
          have hc : ∀ j, V.cell? ⟨N, j, none⟩ = W.cell? ⟨N, j, none⟩ := fun j => World.cell?_of_block (w := W) (a := ⟨N, j, none⟩) (hV N (Nat.le_refl _))
          ⟨(hc 0).trans d0, (hc 1).trans d1, (hc 2).trans d2, (hc 3).trans d3⟩
        go_upto_block 2 with fail
        go_cut [14, 15, 16, 20, 21, 22] from 82 to 205 (fun t14 t15 t16 t20 t21 t22 wx => ∃ (want who : Int) (held : Bool), t14 = .int .i64 want ∧ t15 = .bool held ∧ t16 = .int .i64 who ∧ Hid (Lp w N mb at_ here lock ee (k + 1) want held who wx))
        case first =>
          by_cases k0 : kd = 0
          · subst k0
            cases tb with
            | false =>
              have he : ¬ ee = 0 := by simpa using htb.out
              have hS := Lib.hid (lp_set_no hLp1.out A I v (fun x => he x.2.2))
              clear hLp1 i1 i2 i3 i4 hk he
              go_wp2_with (go_at_call 26; refine hS.out.mono ?_; rintro e w5 ⟨⟨er, rfl⟩, hfin, hf5⟩; obtain ⟨f0, f1, f2, f3⟩ := hfr.out w5 hf5.out; clear hf5 hfr hS d0 d1 d2 d3)
              go_meet
              case rel => exact ⟨_, _, _, rfl, rfl, rfl, hfin⟩
            | true =>
              have he : ee = 0 := by simpa using htb.out
              by_cases hA : A = at_
              · by_cases hI : I = here
                · have hA' : (A == at_) = true := by simpa using hA
                  have hI' : (I == here) = true := by simpa using hI
                  have hS := Lib.hid (lp_set_yes hLp1.out A I v hA hI he)
                  clear hLp1 i1 i2 i3 i4 hk he hA hI
                  go_wp2_with (go_at_call 26; refine hS.out.mono ?_; rintro e w5 ⟨rfl, hfin, hf5⟩; obtain ⟨f0, f1, f2, f3⟩ := hfr.out w5 hf5.out; clear hf5 hfr hS d0 d1 d2 d3)
                  go_meet
                  case rel => exact ⟨_, _, _, rfl, rfl, rfl, hfin⟩
                · have hA' : (A == at_) = true := by simpa using hA
                  have hI' : (I == here) = false := by simpa using hI
                  have hS := Lib.hid (lp_set_no hLp1.out A I v (fun x => hI x.2.1))
                  clear hLp1 i1 i2 i3 i4 hk he hA hI
                  go_wp2_with (go_at_call 26; refine hS.out.mono ?_; rintro e w5 ⟨⟨er, rfl⟩, hfin, hf5⟩; obtain ⟨f0, f1, f2, f3⟩ := hfr.out w5 hf5.out; clear hf5 hfr hS d0 d1 d2 d3)
                  go_meet
                  case rel => exact ⟨_, _, _, rfl, rfl, rfl, hfin⟩
              · have hA' : (A == at_) = false := by simpa using hA
                have hS := Lib.hid (lp_set_no hLp1.out A I v (fun x => hA x.1))
                clear hLp1 i1 i2 i3 i4 hk he hA
                go_wp2_with (go_at_call 26; refine hS.out.mono ?_; rintro e w5 ⟨⟨er, rfl⟩, hfin, hf5⟩; obtain ⟨f0, f1, f2, f3⟩ := hfr.out w5 hf5.out; clear hf5 hfr hS d0 d1 d2 d3)
                go_meet
                case rel => exact ⟨_, _, _, rfl, rfl, rfl, hfin⟩
          have hbnd : k < 1000000 := by omega
          by_cases k1 : kd = 1
          · subst k1
            clear k0
            cases mn with
            | false =>
              have hm : ¬ (0 ≤ lock ∧ lock < 4) := by have := hmn.out; simp at this; omega
              have hS := Lib.hid (lp_take_no hLp1.out hbnd A I i3 (fun x => hm x.2))
              clear hLp1 i1 i2 i3 i4 hk hm hbnd
              go_wp2_with (go_at_call 27; refine hS.out.mono ?_; rintro e w5 ⟨⟨er, rfl⟩, hfin, hf5⟩; obtain ⟨f0, f1, f2, f3⟩ := hfr.out w5 hf5.out; clear hf5 hfr hS d0 d1 d2 d3)
              go_meet
              case rel => exact ⟨_, _, _, rfl, rfl, rfl, hfin⟩
            | true =>
              have hm : 0 ≤ lock ∧ lock < 4 := by have := hmn.out; simp at this; omega
              by_cases hA : A = lock
              · have hA' : (A == lock) = true := by simpa using hA
                cases held with
                | true =>
                  have hS := Lib.hid (lp_take_held hLp1.out hbnd A I i3 hA hm)
                  clear hLp1 i1 i2 i3 i4 hk hm hA hbnd
                  go_wp2_with (go_at_call 27; refine hS.out.mono ?_; rintro e w5 ⟨rfl, hfin, hf5⟩; obtain ⟨f0, f1, f2, f3⟩ := hfr.out w5 hf5.out; clear hf5 hfr hS d0 d1 d2 d3)
                  go_meet
                  case rel => exact ⟨_, _, _, rfl, rfl, rfl, hfin⟩
                | false =>
                  have hS := Lib.hid (lp_take_free hLp1.out hbnd A I i3 hA hm)
                  clear hLp1 i1 i2 i3 i4 hk hm hA hbnd
                  go_wp2_with (go_at_call 27; refine hS.out.mono ?_; rintro e w5 ⟨rfl, hfin, hf5⟩; obtain ⟨f0, f1, f2, f3⟩ := hfr.out w5 hf5.out; clear hf5 hfr hS d0 d1 d2 d3)
                  go_quiet (fail)
                  go_wp2_with fail
                  go_meet
                  case rel => exact ⟨_, _, _, rfl, rfl, rfl, Lib.hid (hfin.out.below ⟨rfl, rfl, rfl, Nat.le_refl _, fun _ _ => rfl⟩)⟩
              · have hA' : (A == lock) = false := by simpa using hA
                have hS := Lib.hid (lp_take_no hLp1.out hbnd A I i3 (fun x => hA x.1))
                clear hLp1 i1 i2 i3 i4 hk hm hA hbnd
                go_wp2_with (go_at_call 27; refine hS.out.mono ?_; rintro e w5 ⟨⟨er, rfl⟩, hfin, hf5⟩; obtain ⟨f0, f1, f2, f3⟩ := hfr.out w5 hf5.out; clear hf5 hfr hS d0 d1 d2 d3)
                go_meet
                case rel => exact ⟨_, _, _, rfl, rfl, rfl, hfin⟩
          by_cases k2 : kd = 2
          · subst k2
            clear k0 k1
            cases mn with
            | false =>
              have hm : ¬ (0 ≤ lock ∧ lock < 4) := by have := hmn.out; simp at this; omega
              have hS := Lib.hid (lp_give_no hLp1.out A I (fun x => hm x.2))
              clear hLp1 i1 i2 i3 i4 hk hm hbnd
              go_wp2_with (go_at_call 28; refine hS.out.mono ?_; rintro e w5 ⟨⟨er, rfl⟩, hfin, hf5⟩; obtain ⟨f0, f1, f2, f3⟩ := hfr.out w5 hf5.out; clear hf5 hfr hS d0 d1 d2 d3)
              go_meet
              case rel => exact ⟨_, _, _, rfl, rfl, rfl, hfin⟩
            | true =>
              have hm : 0 ≤ lock ∧ lock < 4 := by have := hmn.out; simp at this; omega
              by_cases hA : A = lock
              · have hA' : (A == lock) = true := by simpa using hA
                cases held with
                | false =>
                  have hS := Lib.hid (lp_give_not hLp1.out A I hA hm (fun x => by cases x.1))
                  clear hLp1 i1 i2 i3 i4 hk hm hA hbnd
                  go_wp2_with (go_at_call 28; refine hS.out.mono ?_; rintro e w5 ⟨rfl, hfin, hf5⟩; obtain ⟨f0, f1, f2, f3⟩ := hfr.out w5 hf5.out; clear hf5 hfr hS d0 d1 d2 d3)
                  go_meet
                  case rel => exact ⟨_, _, _, rfl, rfl, rfl, hfin⟩
                | true =>
                  by_cases hw : who = I
                  · have hw' : (who == I) = true := by simpa using hw
                    have hS := Lib.hid (lp_give_yes hLp1.out A I hA hm hw)
                    clear hLp1 i1 i2 i3 i4 hk hm hA hw hbnd
                    go_wp2_with (go_at_call 28; refine hS.out.mono ?_; rintro e w5 ⟨rfl, hfin, hf5⟩; obtain ⟨f0, f1, f2, f3⟩ := hfr.out w5 hf5.out; clear hf5 hfr hS d0 d1 d2 d3)
                    go_meet
                    case rel => exact ⟨_, _, _, rfl, rfl, rfl, hfin⟩
                  · have hw' : (who == I) = false := by simpa using hw
                    have hS := Lib.hid (lp_give_not hLp1.out A I hA hm (fun x => hw x.2))
                    clear hLp1 i1 i2 i3 i4 hk hm hA hw hbnd
                    go_wp2_with (go_at_call 28; refine hS.out.mono ?_; rintro e w5 ⟨rfl, hfin, hf5⟩; obtain ⟨f0, f1, f2, f3⟩ := hfr.out w5 hf5.out; clear hf5 hfr hS d0 d1 d2 d3)
                    go_meet
                    case rel => exact ⟨_, _, _, rfl, rfl, rfl, hfin⟩
              · have hA' : (A == lock) = false := by simpa using hA
                have hS := Lib.hid (lp_give_no hLp1.out A I (fun x => hA x.1))
                clear hLp1 i1 i2 i3 i4 hk hm hA hbnd
                go_wp2_with (go_at_call 28; refine hS.out.mono ?_; rintro e w5 ⟨⟨er, rfl⟩, hfin, hf5⟩; obtain ⟨f0, f1, f2, f3⟩ := hfr.out w5 hf5.out; clear hf5 hfr hS d0 d1 d2 d3)
                go_meet
                case rel => exact ⟨_, _, _, rfl, rfl, rfl, hfin⟩
          have hfin := Lib.hid hLp1.out.next
          clear hLp1 d0 d1 d2 d3 i1 i2 i3 i4 hk hbnd hfr
          go_wp2_with fail
          go_meet
          case rel => exact ⟨_, _, _, rfl, rfl, rfl, hfin⟩
        case rest =>
        obtain ⟨want, who, held, rfl, rfl, rfl, hL⟩ := hcut
        clear d0 d1 d2 d3 hLp1 hfr i1 i2 i3 i4
        have hG := Lib.hid (lp_get hL.out)
        have hH := Lib.hid (lp_holder hL.out hl)
        have hnow := Lib.hid hL.out.now
        clear hL
        cases tb with
        | true =>
          have he' : (ee == 0) = true := by have := htb.out; simpa using this
          cases held with
          | true =>
            simp only [if_true] at hH
            go_wp2_with (first | (go_at_call 24; refine hG.out.mono ?_; rintro e w6 ⟨rfl, hw6⟩; subst w6) | (go_at_call 25; refine hH.out.mono ?_; rintro e w7 ⟨rfl, hw7⟩; subst w7))
            go_roundw
            case rel => exact ⟨k + 1, _, _, _, by omega, by go_num, rfl, rfl, rfl, hnow⟩
            case measure => simp [intOf]; omega
          | false =>
            simp only [Bool.false_eq_true, if_false] at hH
            go_wp2_with (first | (go_at_call 24; refine hG.out.mono ?_; rintro e w6 ⟨rfl, hw6⟩; subst w6) | (go_at_call 25; refine hH.out.mono ?_; rintro e w7 ⟨rfl, hw7⟩; subst w7))
            go_roundw
            case rel => exact ⟨k + 1, _, _, _, by omega, by go_num, rfl, rfl, rfl, hnow⟩
            case measure => simp [intOf]; omega
        | false =>
          have he' : (ee == 0) = false := by have := htb.out; simpa using this
          cases held with
          | true =>
            simp only [if_true] at hH
            go_wp2_with (first | (go_at_call 24; refine hG.out.mono ?_; rintro e w6 ⟨rfl, hw6⟩; subst w6) | (go_at_call 25; refine hH.out.mono ?_; rintro e w7 ⟨rfl, hw7⟩; subst w7))
            go_roundw
            case rel => exact ⟨k + 1, _, _, _, by omega, by go_num, rfl, rfl, rfl, hnow⟩
            case measure => simp [intOf]; omega
          | false =>
            simp only [Bool.false_eq_true, if_false] at hH
            go_wp2_with (first | (go_at_call 24; refine hG.out.mono ?_; rintro e w6 ⟨rfl, hw6⟩; subst w6) | (go_at_call 25; refine hH.out.mono ?_; rintro e w7 ⟨rfl, hw7⟩; subst w7))
            go_roundw
            case rel => exact ⟨k + 1, _, _, _, by omega, by go_num, rfl, rfl, rfl, hnow⟩
            case measure => simp [intOf]; omega
      · have hkn : k = st.length := by omega
        subst hkn
        go_wp2_with fail
        go_ret
        exact ⟨rfl, hLp.out.bl⟩
end Go.Proofs.Ytimbhdekbceajaa.Me
