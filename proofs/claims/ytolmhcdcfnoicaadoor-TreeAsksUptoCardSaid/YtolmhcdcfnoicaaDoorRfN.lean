/- Walks of the document's own answers: stmt at each Kind. Conditions: none. -/
import Derived.Test.YtolmhcdcfnoicaaDoorRfK
namespace Go.Proofs.YtolmhcdcfnoicaaDoor.Tr
open Go Go.RowKit
open Go.Proofs.YtolmhcdcfnoicaaDoor.Lx

set_option linter.unusedVariables false
set_option maxHeartbeats 8000000 in
set_option maxRecDepth 100000 in
theorem refstmt_call (nm t2 : ByteArray) (nw : Bool) (ea : Option Addr) (ecap : Nat) (e : List Ex) (ba : Option Addr) (bcap : Nat) (body : List St) (la : Option Addr) (lcap : Nat) (els : List St) (pos : Int) (w : World) (hnm : nm.size ≤ maxLen) (ht2 : t2.size ≤ maxLen) (hel : e.length ≤ 4194304) (hbl : body.length ≤ 4194304) (hll : els.length ≤ 4194304)
    (cE : ∀ V, Below w.heap.size w V → Calls Tryd.prog 43 #[.slice ea e.length ecap] V fun x w' => x = .returned (.bool (e.all mayE)) ∧ Below V.heap.size V w')
    (cB : ∀ V, Below w.heap.size w V → Calls Tryd.prog 56 #[.slice ba body.length bcap] V fun x w' => x = .returned (.bool (body.all mayS)) ∧ Below V.heap.size V w')
    (cL : ∀ V, Below w.heap.size w V → Calls Tryd.prog 56 #[.slice la els.length lcap] V fun x w' => x = .returned (.bool (els.all mayS)) ∧ Below V.heap.size V w') :
    Calls Tryd.prog 69 #[.agg #[.int .u8 8, .string nm, .string t2, .bool nw, .slice ea e.length ecap, .slice ba body.length bcap, .slice la els.length lcap, .int .i64 pos]] w fun x w' => x = .returned (.bool (mayS (.mk 8 nm t2 nw ea ecap e ba bcap body la lcap els pos))) ∧ Below w.heap.size w w' := by
  have hb0 : Hid (Below w.heap.size w (w.alloc (.cells #[.int .u8 8, .string nm, .string t2, .bool nw, .slice ea e.length ecap, .slice ba body.length bcap, .slice la els.length lcap, .int .i64 pos] 38))) := Lib.hid ((Below.refl _ _).alloc (Nat.le_refl _) _)
  have hsz0 : Hid ((w.alloc (.cells #[.int .u8 8, .string nm, .string t2, .bool nw, .slice ea e.length ecap, .slice ba body.length bcap, .slice la els.length lcap, .int .i64 pos] 38)).heap.size = w.heap.size + 1) := Lib.hid (by simp)
  have hx4 : Hid (∀ V, Below (w.alloc (.cells #[.int .u8 8, .string nm, .string t2, .bool nw, .slice ea e.length ecap, .slice ba body.length bcap, .slice la els.length lcap, .int .i64 pos] 38)).heap.size (w.alloc (.cells #[.int .u8 8, .string nm, .string t2, .bool nw, .slice ea e.length ecap, .slice ba body.length bcap, .slice la els.length lcap, .int .i64 pos] 38)) V → V.cell? ⟨w.heap.size, 4, none⟩ = some (.slice ea e.length ecap) ∧ V.cell? ⟨w.heap.size, 5, none⟩ = some (.slice ba body.length bcap) ∧ V.cell? ⟨w.heap.size, 6, none⟩ = some (.slice la els.length lcap) ∧ V.cell? ⟨w.heap.size, 1, none⟩ = some (.string nm) ∧ V.cell? ⟨w.heap.size, 0, none⟩ = some (.int .u8 8)) := Lib.hid fun V h =>
    ⟨below_in h (blk_cell (blk_new _ _ rfl) rfl), below_in h (blk_cell (blk_new _ _ rfl) rfl), below_in h (blk_cell (blk_new _ _ rfl) rfl), below_in h (blk_cell (blk_new _ _ rfl) rfl), below_in h (blk_cell (blk_new _ _ rfl) rfl)⟩
  have hyes := @mayS_yes 8 nm t2 nw ea ecap e ba bcap body la lcap els pos
  have hno := @mayS_no 8 nm t2 nw ea ecap e ba bcap body la lcap els pos
  have cN := fun V => refname_any nm V hnm
  have cT := fun V => refname_any t2 V ht2
  have hfn := fitNm_f nm
  have hft := fitNm_t nm
  have htf := fitTo_f t2 nw
  have htt := fitTo_t t2 nw
  generalize mayS (.mk 8 nm t2 nw ea ecap e ba bcap body la lcap els pos) = res at *
  generalize e.all mayE = vE at *
  generalize body.all mayS = vB at *
  generalize els.all mayS = vL at *
  generalize nme nm.data.toList = vN at *
  generalize nme t2.data.toList = vT at *
  replace hyes := Lib.hid hyes
  replace hno := Lib.hid hno
  replace cN := Lib.hid cN
  replace cT := Lib.hid cT
  replace cE := Lib.hid cE
  replace cB := Lib.hid cB
  replace cL := Lib.hid cL
  replace hfn := Lib.hid hfn
  replace hft := Lib.hid hft
  replace htf := Lib.hid htf
  replace htt := Lib.hid htt
  replace hnm := Lib.hid hnm
  replace ht2 := Lib.hid ht2
  by_cases he8 : (8 : Int) < (e.length : Int)
  case pos =>
    go_enter Tryd.func69, Tryd.ntmps69
    go_wp2_with fail
    go_ret
    exact ⟨ret_bool (hno.out (fun h => by have h6 := h.2.2.2.2.2.1; rw [show stMost 8 = 8 from rfl] at h6; omega)).symm, hb0.out⟩
  case neg =>
    have he9 : (e.length : Int) ≤ 8 := by omega
    have heq : ((e.length : Int) == (e.length : Int)) = true := by simp
    by_cases ht : t2.toList = []
    case pos =>
      have ht1 : t2.toList.isEmpty = true := by rw [ht]; rfl
      have ht3 := Lib.hid ht1
      cases nw
      case true =>
        go_enter Tryd.func69, Tryd.ntmps69
        go_wp2_with fail
        go_ret
        exact ⟨ret_bool (hno.out (fun h => by have h4 := h.2.2.2.1; rw [show stTo 8 = true from rfl, htt.out, ht3.out] at h4; simp at h4)).symm, hb0.out⟩
      case false =>
        have h_to : Hid ((if t2.toList.isEmpty = true then !false else vT) = true) := Lib.hid (by rw [ht3.out]; rfl)
        cases vN
        case false =>
          go_enter Tryd.func69, Tryd.ntmps69
          go_wp2_with fail
          refine (cN.out _).mono ?_
          rintro x V1 ⟨rfl, hb1⟩
          have g1 := Lib.hid (hb0.out.trans ((hb1).mono (by simp)))
          go_wp2_with fail
          go_ret
          exact ⟨ret_bool (hno.out (fun h => by have h4 := h.2.2.1; rw [show stName 8 = true from rfl, hft.out] at h4; simp at h4)).symm, g1.out⟩
        case true =>
          by_cases hbz : body.length = 0
          case neg =>
            have hb1_ : ((body.length : Int) == 0) = false := ib_f (by omega)
            have hb2_ : ¬ body = [] := fun h => hbz (by rw [h]; rfl)
            go_enter Tryd.func69, Tryd.ntmps69
            go_wp2_with fail
            refine (cN.out _).mono ?_
            rintro x V1 ⟨rfl, hb1⟩
            obtain ⟨y4, y5, y6, y1, y0⟩ := hx4.out V1 (hb1)
            have g1 := Lib.hid (hb0.out.trans ((hb1).mono (by simp)))
            go_wp2_with fail
            all_goals
              go_ret
              exact ⟨ret_bool (hno.out (fun h => by rcases h.2.2.2.2.2.2.1 with h7 | h7; (exact absurd h7 (by decide)); (exact hbz h7))).symm, g1.out⟩
          case pos =>
            obtain rfl := List.eq_nil_of_length_eq_zero hbz
            have h_b := Lib.hid hbz
            clear hbz
            by_cases ho : els.length = 0
            case neg =>
              have ho1 : ((els.length : Int) == 0) = false := ib_f (by omega)
              have ho2 : ¬ els = [] := fun h => ho (by rw [h]; rfl)
              go_enter Tryd.func69, Tryd.ntmps69
              go_wp2_with fail
              refine (cN.out _).mono ?_
              rintro x V1 ⟨rfl, hb1⟩
              obtain ⟨y4, y5, y6, y1, y0⟩ := hx4.out V1 (hb1)
              have g1 := Lib.hid (hb0.out.trans ((hb1).mono (by simp)))
              go_wp2_with fail
              all_goals
                go_ret
                exact ⟨ret_bool (hno.out (fun h => by rcases h.2.2.2.2.2.2.2 with h7 | h7; (exact absurd h7 (by decide)); (exact ho h7))).symm, g1.out⟩
            case pos =>
              obtain rfl := List.eq_nil_of_length_eq_zero ho
              have h_o := Lib.hid ho
              clear ho
              cases vE
              case false =>
                go_enter Tryd.func69, Tryd.ntmps69
                go_wp2_with fail
                refine (cN.out _).mono ?_
                rintro x V1 ⟨rfl, hb1⟩
                obtain ⟨y4, y5, y6, y1, y0⟩ := hx4.out V1 (hb1)
                have g1 := Lib.hid (hb0.out.trans ((hb1).mono (by simp)))
                go_wp2_with fail
                refine (cE.out _ g1.out).mono ?_
                rintro x V2 ⟨rfl, hb2⟩
                go_wp2_with fail
                go_ret
                exact ⟨ret_bool ((hyes.out ⟨by omega, by omega, by rw [show stName 8 = true from rfl]; exact hft.out, by rw [show stTo 8 = true from rfl, htt.out]; exact h_to.out, by show (0 : Int) ≤ _; omega, by show _ ≤ (8 : Int); omega, .inr h_b.out, .inr h_o.out⟩).trans (by simp)).symm, g1.out.trans (hb2.mono g1.out.size)⟩
              case true =>
                cases vB
                case false =>
                  go_enter Tryd.func69, Tryd.ntmps69
                  go_wp2_with fail
                  refine (cN.out _).mono ?_
                  rintro x V1 ⟨rfl, hb1⟩
                  obtain ⟨y4, y5, y6, y1, y0⟩ := hx4.out V1 (hb1)
                  have g1 := Lib.hid (hb0.out.trans ((hb1).mono (by simp)))
                  go_wp2_with fail
                  refine (cE.out _ g1.out).mono ?_
                  rintro x V2 ⟨rfl, hb2⟩
                  have z5 := below_in hb2 y5
                  have z6 := below_in hb2 y6
                  have g2 := Lib.hid (g1.out.trans (hb2.mono g1.out.size))
                  go_wp2_with fail
                  refine (cB.out _ g2.out).mono ?_
                  rintro x V3 ⟨rfl, hb3⟩
                  go_wp2_with fail
                  go_ret
                  exact ⟨ret_bool ((hyes.out ⟨by omega, by omega, by rw [show stName 8 = true from rfl]; exact hft.out, by rw [show stTo 8 = true from rfl, htt.out]; exact h_to.out, by show (0 : Int) ≤ _; omega, by show _ ≤ (8 : Int); omega, .inr h_b.out, .inr h_o.out⟩).trans (by simp)).symm, g2.out.trans (hb3.mono g2.out.size)⟩
                case true =>
                  go_enter Tryd.func69, Tryd.ntmps69
                  go_wp2_with fail
                  refine (cN.out _).mono ?_
                  rintro x V1 ⟨rfl, hb1⟩
                  obtain ⟨y4, y5, y6, y1, y0⟩ := hx4.out V1 (hb1)
                  have g1 := Lib.hid (hb0.out.trans ((hb1).mono (by simp)))
                  go_wp2_with fail
                  refine (cE.out _ g1.out).mono ?_
                  rintro x V2 ⟨rfl, hb2⟩
                  have z5 := below_in hb2 y5
                  have z6 := below_in hb2 y6
                  have g2 := Lib.hid (g1.out.trans (hb2.mono g1.out.size))
                  go_wp2_with fail
                  refine (cB.out _ g2.out).mono ?_
                  rintro x V3 ⟨rfl, hb3⟩
                  have v6 := below_in hb3 z6
                  have g3 := Lib.hid (g2.out.trans (hb3.mono g2.out.size))
                  go_wp2_with fail
                  refine (cL.out _ g3.out).mono ?_
                  rintro x V4 ⟨rfl, hb4⟩
                  go_wp2_with fail
                  go_ret
                  exact ⟨ret_bool ((hyes.out ⟨by omega, by omega, by rw [show stName 8 = true from rfl]; exact hft.out, by rw [show stTo 8 = true from rfl, htt.out]; exact h_to.out, by show (0 : Int) ≤ _; omega, by show _ ≤ (8 : Int); omega, .inr h_b.out, .inr h_o.out⟩).trans (by simp)).symm, g3.out.trans (hb4.mono g3.out.size)⟩
    case neg =>
      have ht1 : t2.toList.isEmpty = false := by simpa using ht
      have ht3 := Lib.hid ht1
      cases vT
      case false =>
        go_enter Tryd.func69, Tryd.ntmps69
        go_wp2_with fail
        refine (cT.out _).mono ?_
        rintro x V0 ⟨rfl, hbT⟩
        have g0 := Lib.hid (hb0.out.trans (hbT.mono (by simp)))
        go_wp2_with fail
        go_ret
        exact ⟨ret_bool (hno.out (fun h => by have h4 := h.2.2.2.1; rw [show stTo 8 = true from rfl, htt.out, ht3.out] at h4; simp at h4)).symm, g0.out⟩
      case true =>
        have h_to : Hid ((if t2.toList.isEmpty = true then !nw else true) = true) := Lib.hid (by rw [ht3.out]; rfl)
        cases vN
        case false =>
          go_enter Tryd.func69, Tryd.ntmps69
          go_wp2_with fail
          refine (cT.out _).mono ?_
          rintro x V0 ⟨rfl, hbT⟩
          obtain ⟨u4, u5, u6, u1, u0⟩ := hx4.out V0 hbT
          go_wp2_with fail
          refine (cN.out _).mono ?_
          rintro x V1 ⟨rfl, hb1⟩
          have g1 := Lib.hid (hb0.out.trans ((hbT.trans (hb1.mono hbT.size)).mono (by simp)))
          go_wp2_with fail
          go_ret
          exact ⟨ret_bool (hno.out (fun h => by have h4 := h.2.2.1; rw [show stName 8 = true from rfl, hft.out] at h4; simp at h4)).symm, g1.out⟩
        case true =>
          by_cases hbz : body.length = 0
          case neg =>
            have hb1_ : ((body.length : Int) == 0) = false := ib_f (by omega)
            have hb2_ : ¬ body = [] := fun h => hbz (by rw [h]; rfl)
            go_enter Tryd.func69, Tryd.ntmps69
            go_wp2_with fail
            refine (cT.out _).mono ?_
            rintro x V0 ⟨rfl, hbT⟩
            obtain ⟨u4, u5, u6, u1, u0⟩ := hx4.out V0 hbT
            go_wp2_with fail
            refine (cN.out _).mono ?_
            rintro x V1 ⟨rfl, hb1⟩
            obtain ⟨y4, y5, y6, y1, y0⟩ := hx4.out V1 (hbT.trans (hb1.mono hbT.size))
            have g1 := Lib.hid (hb0.out.trans ((hbT.trans (hb1.mono hbT.size)).mono (by simp)))
            go_wp2_with fail
            all_goals
              go_ret
              exact ⟨ret_bool (hno.out (fun h => by rcases h.2.2.2.2.2.2.1 with h7 | h7; (exact absurd h7 (by decide)); (exact hbz h7))).symm, g1.out⟩
          case pos =>
            obtain rfl := List.eq_nil_of_length_eq_zero hbz
            have h_b := Lib.hid hbz
            clear hbz
            by_cases ho : els.length = 0
            case neg =>
              have ho1 : ((els.length : Int) == 0) = false := ib_f (by omega)
              have ho2 : ¬ els = [] := fun h => ho (by rw [h]; rfl)
              go_enter Tryd.func69, Tryd.ntmps69
              go_wp2_with fail
              refine (cT.out _).mono ?_
              rintro x V0 ⟨rfl, hbT⟩
              obtain ⟨u4, u5, u6, u1, u0⟩ := hx4.out V0 hbT
              go_wp2_with fail
              refine (cN.out _).mono ?_
              rintro x V1 ⟨rfl, hb1⟩
              obtain ⟨y4, y5, y6, y1, y0⟩ := hx4.out V1 (hbT.trans (hb1.mono hbT.size))
              have g1 := Lib.hid (hb0.out.trans ((hbT.trans (hb1.mono hbT.size)).mono (by simp)))
              go_wp2_with fail
              all_goals
                go_ret
                exact ⟨ret_bool (hno.out (fun h => by rcases h.2.2.2.2.2.2.2 with h7 | h7; (exact absurd h7 (by decide)); (exact ho h7))).symm, g1.out⟩
            case pos =>
              obtain rfl := List.eq_nil_of_length_eq_zero ho
              have h_o := Lib.hid ho
              clear ho
              cases vE
              case false =>
                go_enter Tryd.func69, Tryd.ntmps69
                go_wp2_with fail
                refine (cT.out _).mono ?_
                rintro x V0 ⟨rfl, hbT⟩
                obtain ⟨u4, u5, u6, u1, u0⟩ := hx4.out V0 hbT
                go_wp2_with fail
                refine (cN.out _).mono ?_
                rintro x V1 ⟨rfl, hb1⟩
                obtain ⟨y4, y5, y6, y1, y0⟩ := hx4.out V1 (hbT.trans (hb1.mono hbT.size))
                have g1 := Lib.hid (hb0.out.trans ((hbT.trans (hb1.mono hbT.size)).mono (by simp)))
                go_wp2_with fail
                refine (cE.out _ g1.out).mono ?_
                rintro x V2 ⟨rfl, hb2⟩
                go_wp2_with fail
                go_ret
                exact ⟨ret_bool ((hyes.out ⟨by omega, by omega, by rw [show stName 8 = true from rfl]; exact hft.out, by rw [show stTo 8 = true from rfl, htt.out]; exact h_to.out, by show (0 : Int) ≤ _; omega, by show _ ≤ (8 : Int); omega, .inr h_b.out, .inr h_o.out⟩).trans (by simp)).symm, g1.out.trans (hb2.mono g1.out.size)⟩
              case true =>
                cases vB
                case false =>
                  go_enter Tryd.func69, Tryd.ntmps69
                  go_wp2_with fail
                  refine (cT.out _).mono ?_
                  rintro x V0 ⟨rfl, hbT⟩
                  obtain ⟨u4, u5, u6, u1, u0⟩ := hx4.out V0 hbT
                  go_wp2_with fail
                  refine (cN.out _).mono ?_
                  rintro x V1 ⟨rfl, hb1⟩
                  obtain ⟨y4, y5, y6, y1, y0⟩ := hx4.out V1 (hbT.trans (hb1.mono hbT.size))
                  have g1 := Lib.hid (hb0.out.trans ((hbT.trans (hb1.mono hbT.size)).mono (by simp)))
                  go_wp2_with fail
                  refine (cE.out _ g1.out).mono ?_
                  rintro x V2 ⟨rfl, hb2⟩
                  have z5 := below_in hb2 y5
                  have z6 := below_in hb2 y6
                  have g2 := Lib.hid (g1.out.trans (hb2.mono g1.out.size))
                  go_wp2_with fail
                  refine (cB.out _ g2.out).mono ?_
                  rintro x V3 ⟨rfl, hb3⟩
                  go_wp2_with fail
                  go_ret
                  exact ⟨ret_bool ((hyes.out ⟨by omega, by omega, by rw [show stName 8 = true from rfl]; exact hft.out, by rw [show stTo 8 = true from rfl, htt.out]; exact h_to.out, by show (0 : Int) ≤ _; omega, by show _ ≤ (8 : Int); omega, .inr h_b.out, .inr h_o.out⟩).trans (by simp)).symm, g2.out.trans (hb3.mono g2.out.size)⟩
                case true =>
                  go_enter Tryd.func69, Tryd.ntmps69
                  go_wp2_with fail
                  refine (cT.out _).mono ?_
                  rintro x V0 ⟨rfl, hbT⟩
                  obtain ⟨u4, u5, u6, u1, u0⟩ := hx4.out V0 hbT
                  go_wp2_with fail
                  refine (cN.out _).mono ?_
                  rintro x V1 ⟨rfl, hb1⟩
                  obtain ⟨y4, y5, y6, y1, y0⟩ := hx4.out V1 (hbT.trans (hb1.mono hbT.size))
                  have g1 := Lib.hid (hb0.out.trans ((hbT.trans (hb1.mono hbT.size)).mono (by simp)))
                  go_wp2_with fail
                  refine (cE.out _ g1.out).mono ?_
                  rintro x V2 ⟨rfl, hb2⟩
                  have z5 := below_in hb2 y5
                  have z6 := below_in hb2 y6
                  have g2 := Lib.hid (g1.out.trans (hb2.mono g1.out.size))
                  go_wp2_with fail
                  refine (cB.out _ g2.out).mono ?_
                  rintro x V3 ⟨rfl, hb3⟩
                  have v6 := below_in hb3 z6
                  have g3 := Lib.hid (g2.out.trans (hb3.mono g2.out.size))
                  go_wp2_with fail
                  refine (cL.out _ g3.out).mono ?_
                  rintro x V4 ⟨rfl, hb4⟩
                  go_wp2_with fail
                  go_ret
                  exact ⟨ret_bool ((hyes.out ⟨by omega, by omega, by rw [show stName 8 = true from rfl]; exact hft.out, by rw [show stTo 8 = true from rfl, htt.out]; exact h_to.out, by show (0 : Int) ≤ _; omega, by show _ ≤ (8 : Int); omega, .inr h_b.out, .inr h_o.out⟩).trans (by simp)).symm, g3.out.trans (hb4.mono g3.out.size)⟩
end Go.Proofs.YtolmhcdcfnoicaaDoor.Tr
