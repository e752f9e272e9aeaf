/- Walks of the document's own answers: decl, May. Conditions: none. -/
import Derived.Test.YtolmhcdcfnoicaaDoorRfO
import Derived.Test.YtolmhcdcfnoicaaDoorRfP
namespace Go.Proofs.YtolmhcdcfnoicaaDoor.Tr
open Go Go.RowKit
open Go.Proofs.YtolmhcdcfnoicaaDoor.Lx

set_option linter.unusedVariables false
/-- may a declaration be, but for its depth? -/
def mayD (d : De) : Bool := fitD d && d.body.all mayS
theorem fitD_iff (k : Int) (nm : ByteArray) (n : Int) (pa : Option Addr) (pcap : Nat) (params : List ByteArray) (ba : Option Addr) (bcap : Nat) (body : List St) (pos : Int) :
    fitD ⟨k, nm, n, pa, pcap, params, ba, bcap, body, pos⟩ = true ↔ 1 ≤ k ∧ k ≤ 5 ∧ nme nm.data.toList = true ∧ deLeast k ≤ n ∧ n ≤ deMost k ∧ (params.length : Int) ≤ deParams k ∧ nmes params = true ∧ (deBody k = true ∨ body.length = 0) := by
  rw [fitD_eq]
  simp only [Bool.and_eq_true, Bool.or_eq_true, decide_eq_true_eq, and_assoc]
theorem mayD_val (k : Int) (nm : ByteArray) (n : Int) (pa : Option Addr) (pcap : Nat) (params : List ByteArray) (ba : Option Addr) (bcap : Nat) (body : List St) (pos : Int) (b : Bool)
    (h : b = true ↔ (1 ≤ k ∧ k ≤ 5 ∧ nme nm.data.toList = true ∧ deLeast k ≤ n ∧ n ≤ deMost k ∧ (params.length : Int) ≤ deParams k ∧ nmes params = true ∧ (deBody k = true ∨ body.length = 0)) ∧ body.all mayS = true) : mayD ⟨k, nm, n, pa, pcap, params, ba, bcap, body, pos⟩ = b := by
  rw [Bool.eq_iff_iff, h]
  unfold mayD
  rw [Bool.and_eq_true, fitD_iff]
theorem nmes_take (l : List ByteArray) (k : Nat) (x : ByteArray) (h : l[k]? = some x) : nmes (l.take (k + 1)) = (nmes (l.take k) && nme x.data.toList) := all_next _ l k x h
theorem nmes_no (l : List ByteArray) (k : Nat) (x : ByteArray) (h : l[k]? = some x) (hx : nme x.data.toList = false) : nmes l = false := all_no _ l k x h hx

set_option maxHeartbeats 16000000 in
set_option maxRecDepth 100000 in
theorem refdecl_any (d : De) (w : World) (hsz : St.szL d.body ≤ 4194304) (hin : De.In w (fun _ => True) d) :
    Calls Tryd.prog 36 #[.agg ⟨d.vals⟩] w fun x w' => x = .returned (.bool (mayD d)) ∧ Below w.heap.size w w' := by
  obtain ⟨k, nm, n, pa, pcap, xp, ba, bcap, body, pos⟩ := d
  obtain ⟨hk8, hnm, hn64, _, hrp, hip, hrb, hib⟩ := hin
  simp only at hk8 hnm hn64 hrp hip hrb hib hsz
  have hpl : xp.length ≤ 9223372036854775807 := by have := hrp.le; have := hrp.lim; unfold maxLen at this; omega
  have hbl : body.length ≤ 4194304 := by have := St.szL_len body; omega
  show Calls Tryd.prog 36 #[.agg #[.int .u8 k, .string nm, .int .i64 n, .slice pa xp.length pcap, .slice ba body.length bcap, .int .i64 pos]] w _
  have hb0 : Hid (Below w.heap.size w (w.alloc (.cells #[.int .u8 k, .string nm, .int .i64 n, .slice pa xp.length pcap, .slice ba body.length bcap, .int .i64 pos] 40))) := Lib.hid ((Below.refl _ _).alloc (Nat.le_refl _) _)
  have hx0 : Hid (∀ V, Below (w.alloc (.cells #[.int .u8 k, .string nm, .int .i64 n, .slice pa xp.length pcap, .slice ba body.length bcap, .int .i64 pos] 40)).heap.size (w.alloc (.cells #[.int .u8 k, .string nm, .int .i64 n, .slice pa xp.length pcap, .slice ba body.length bcap, .int .i64 pos] 40)) V → V.cell? ⟨w.heap.size, 0, none⟩ = some (.int .u8 k) ∧ V.cell? ⟨w.heap.size, 2, none⟩ = some (.int .i64 n) ∧ V.cell? ⟨w.heap.size, 3, none⟩ = some (.slice pa xp.length pcap) ∧ V.cell? ⟨w.heap.size, 4, none⟩ = some (.slice ba body.length bcap)) := Lib.hid fun V h =>
    ⟨below_in h (blk_cell (blk_new _ _ rfl) rfl), below_in h (blk_cell (blk_new _ _ rfl) rfl), below_in h (blk_cell (blk_new _ _ rfl) rfl), below_in h (blk_cell (blk_new _ _ rfl) rfl)⟩
  have cN := Lib.hid fun V => refname_any nm V hnm
  have cB := Lib.hid fun V (h : Below w.heap.size w V) => refstmts_any body ba bcap V hsz (hrb.below (Kps.of_below h)) (St.InL.below (Kps.of_below h) _ hib)
  have hval := Lib.hid (mayD_val k nm n pa pcap xp ba bcap body pos)
  generalize mayD ⟨k, nm, n, pa, pcap, xp, ba, bcap, body, pos⟩ = res at *
  generalize nme nm.data.toList = vN at *
  generalize body.all mayS = vB at *
  have hp8 : deParams k ≤ 8 := by unfold deParams; split <;> omega
  unfold U8 at hk8
  unfold I64 at hn64
  replace hnm := Lib.hid hnm
  replace hip := Lib.hid hip
  clear hrb hib
  cases vN
  case false =>
    go_enter Tryd.func36, Tryd.ntmps36
    go_wp2_with fail
    refine (cN.out _).mono ?_
    rintro x V1 ⟨rfl, hb1⟩
    have g1 := Lib.hid (hb0.out.trans (hb1.mono (by simp)))
    go_wp2_with fail
    go_ret
    exact ⟨ret_bool (hval.out false (by simp)).symm, g1.out⟩
  case true =>
    by_cases h8 : (8 : Int) < (xp.length : Int)
    case pos =>
      go_enter Tryd.func36, Tryd.ntmps36
      go_wp2_with fail
      refine (cN.out _).mono ?_
      rintro x V1 ⟨rfl, hb1⟩
      obtain ⟨y0, y2, y3, y4⟩ := hx0.out V1 hb1
      have g1 := Lib.hid (hb0.out.trans (hb1.mono (by simp)))
      go_wp2_with fail
      go_ret
      exact ⟨ret_bool (hval.out false (by simp; intros; omega)).symm, g1.out⟩
    case neg =>
      have h8' : (xp.length : Int) ≤ 8 := by omega
      cases vB
      case false =>
        go_enter Tryd.func36, Tryd.ntmps36
        go_wp2_with fail
        refine (cN.out _).mono ?_
        rintro x V1 ⟨rfl, hb1⟩
        obtain ⟨y0, y2, y3, y4⟩ := hx0.out V1 hb1
        have g1 := Lib.hid (hb0.out.trans (hb1.mono (by simp)))
        go_wp2_with fail
        refine (cB.out _ g1.out).mono ?_
        rintro x V2 ⟨rfl, hb2⟩
        have g2 := Lib.hid (g1.out.trans (hb2.mono g1.out.size))
        go_wp2_with fail
        go_ret
        exact ⟨ret_bool (hval.out false (by simp)).symm, g2.out⟩
      case true =>
        go_enter Tryd.func36, Tryd.ntmps36
        go_wp2_with fail
        refine (cN.out _).mono ?_
        rintro x V1 ⟨rfl, hb1⟩
        obtain ⟨y0, y2, y3, y4⟩ := hx0.out V1 hb1
        have g1 := Lib.hid (hb0.out.trans (hb1.mono (by simp)))
        go_wp2_with fail
        refine (cB.out _ g1.out).mono ?_
        rintro x V2 ⟨rfl, hb2⟩
        have z0 := below_in hb2 y0
        have z2 := below_in hb2 y2
        have z3 := below_in hb2 y3
        have z4 := below_in hb2 y4
        have g2 := Lib.hid (g1.out.trans (hb2.mono g1.out.size))
        clear y0 y2 y3 y4 hb1 hb2
        go_wp2_with fail
        go_loopw [3] (fun i wr => ∃ j : Nat, j ≤ xp.length ∧ i = .int .i64 j ∧ Hid (nmes (xp.take j) = true) ∧ Below V2.heap.size V2 wr) (fun i _ => xp.length - (intOf i).toNat)
        case atStart => exact ⟨0, Nat.zero_le _, rfl, Lib.hid (by simp [nmes]), Below.refl _ _⟩
        case round =>
          obtain ⟨j, hj, rfl, hok, hbr⟩ := hrel
          have u0 := below_in hbr z0
          have u2 := below_in hbr z2
          have u3 := below_in hbr z3
          have u4 := below_in hbr z4
          by_cases hlt : j < xp.length
          · obtain ⟨y, hy⟩ : ∃ e, xp[j]? = some e := ⟨xp[j], by simp [hlt]⟩
            obtain ⟨b, off, rfl, _, c0⟩ := str_row hrp j y hy
            have hc := refname_any y wr (hip.out y (List.mem_of_getElem? hy))
            have c0' := below_in (g2.out.trans (hbr.mono g2.out.size)) c0
            have hnx := nmes_take xp j y hy
            have hno := nmes_no xp j y hy
            generalize nme y.data.toList = v at *
            replace hc := Lib.hid hc
            replace hnx := Lib.hid hnx
            replace hno := Lib.hid hno
            replace hy := Lib.hid hy
            clear c0
            cases v
            · go_wp2_with fail
              refine hc.out.mono ?_
              rintro x W3 ⟨rfl, hb3⟩
              go_wp2_with fail
              go_ret
              exact ⟨ret_bool (hval.out false (by rw [hno.out trivial]; simp)).symm, g2.out.trans ((hbr.trans (hb3.mono hbr.size)).mono g2.out.size)⟩
            · go_wp2_with fail
              refine hc.out.mono ?_
              rintro x W3 ⟨rfl, hb3⟩
              replace hb3 := Lib.hid hb3
              go_wp2_with fail
              go_roundw
              case rel => exact ⟨j + 1, by omega, by go_num, Lib.hid (by rw [hnx.out, hok.out]; rfl), hbr.trans (hb3.out.mono hbr.size)⟩
              case measure => simp [intOf]; omega
          · have hall : Hid (nmes xp = true) := Lib.hid (by have := hok.out; rwa [List.take_of_length_le (by omega)] at this)
            have g3 := Lib.hid (g2.out.trans (hbr.mono g2.out.size))
            clear z0 z2 z3 z4 hbr
            have hpp : (xp = [] ∧ ((xp.length : Int) == 0) = true) ∨ (¬ xp = [] ∧ (1 : Int) ≤ xp.length ∧ ((xp.length : Int) == 0) = false) := by
              by_cases hp : xp = []
              · exact .inl ⟨hp, by rw [hp]; rfl⟩
              · have h1 : xp.length ≠ 0 := fun h => hp (List.eq_nil_of_length_eq_zero h)
                exact .inr ⟨hp, by omega, ib_f (by omega)⟩
            have hbb : (body = [] ∧ ((body.length : Int) == 0) = true) ∨ (¬ body = [] ∧ (1 : Int) ≤ body.length ∧ ((body.length : Int) == 0) = false) := by
              by_cases hp : body = []
              · exact .inl ⟨hp, by rw [hp]; rfl⟩
              · have h1 : body.length ≠ 0 := fun h => hp (List.eq_nil_of_length_eq_zero h)
                exact .inr ⟨hp, by omega, ib_f (by omega)⟩
            have hkc : k = 0 ∨ k = 1 ∨ k = 2 ∨ k = 3 ∨ k = 4 ∨ k = 5 ∨ 5 < k := by omega
            rcases hkc with rfl | rfl | rfl | rfl | rfl | rfl | hk5
            · go_wp2_with fail
              all_goals
                go_ret
                exact ⟨ret_bool (hval.out false (by constructor; (intro h; cases h); (intro h; exfalso; have := h.1.1; have := h.1.2.1; omega))).symm, g3.out⟩
            · rcases hpp with ⟨rfl, hp1⟩ | ⟨hp0, hp2, hp1⟩
              · rcases hbb with ⟨rfl, hq1⟩ | ⟨hq0, hq2, hq1⟩
                · go_wp2_with fail
                  all_goals
                    go_ret
                    exact ⟨ret_bool (hval.out true ⟨fun _ => ⟨⟨by omega, by omega, trivial, by show (-9223372036854775808 : Int) ≤ _; omega, by show _ ≤ (9223372036854775807 : Int); omega, by show _ ≤ (0 : Int); first | omega | simp, hall.out, .inr rfl⟩, trivial⟩, fun _ => rfl⟩).symm, g3.out⟩
                · go_wp2_with fail
                  all_goals
                    go_ret
                    exact ⟨ret_bool (hval.out false ⟨(fun h => by cases h), fun h => by exfalso; have q1 : (-9223372036854775808 : Int) ≤ _ := h.1.2.2.2.1; have q2 : _ ≤ (9223372036854775807 : Int) := h.1.2.2.2.2.1; have q3 : _ ≤ (0 : Int) := h.1.2.2.2.2.2.1; have q4 := h.1.2.2.2.2.2.2.2; first | omega | (rcases q4 with q4 | q4; (exact absurd q4 (by decide)); omega)⟩).symm, g3.out⟩
              · go_wp2_with fail
                all_goals
                  go_ret
                  exact ⟨ret_bool (hval.out false ⟨(fun h => by cases h), fun h => by exfalso; have q1 : (-9223372036854775808 : Int) ≤ _ := h.1.2.2.2.1; have q2 : _ ≤ (9223372036854775807 : Int) := h.1.2.2.2.2.1; have q3 : _ ≤ (0 : Int) := h.1.2.2.2.2.2.1; have q4 := h.1.2.2.2.2.2.2.2; first | omega | (rcases q4 with q4 | q4; (exact absurd q4 (by decide)); omega)⟩).symm, g3.out⟩
            · by_cases hn1 : 1 ≤ n
              · by_cases hn2 : n ≤ 1024
                · rcases hpp with ⟨rfl, hp1⟩ | ⟨hp0, hp2, hp1⟩
                  · rcases hbb with ⟨rfl, hq1⟩ | ⟨hq0, hq2, hq1⟩
                    · go_wp2_with fail
                      all_goals
                        go_ret
                        exact ⟨ret_bool (hval.out true ⟨fun _ => ⟨⟨by omega, by omega, trivial, by show (1 : Int) ≤ _; omega, by show _ ≤ (1024 : Int); omega, by show _ ≤ (0 : Int); first | omega | simp, hall.out, .inr rfl⟩, trivial⟩, fun _ => rfl⟩).symm, g3.out⟩
                    · go_wp2_with fail
                      all_goals
                        go_ret
                        exact ⟨ret_bool (hval.out false ⟨(fun h => by cases h), fun h => by exfalso; have q1 : (1 : Int) ≤ _ := h.1.2.2.2.1; have q2 : _ ≤ (1024 : Int) := h.1.2.2.2.2.1; have q3 : _ ≤ (0 : Int) := h.1.2.2.2.2.2.1; have q4 := h.1.2.2.2.2.2.2.2; first | omega | (rcases q4 with q4 | q4; (exact absurd q4 (by decide)); omega)⟩).symm, g3.out⟩
                  · go_wp2_with fail
                    all_goals
                      go_ret
                      exact ⟨ret_bool (hval.out false ⟨(fun h => by cases h), fun h => by exfalso; have q1 : (1 : Int) ≤ _ := h.1.2.2.2.1; have q2 : _ ≤ (1024 : Int) := h.1.2.2.2.2.1; have q3 : _ ≤ (0 : Int) := h.1.2.2.2.2.2.1; have q4 := h.1.2.2.2.2.2.2.2; first | omega | (rcases q4 with q4 | q4; (exact absurd q4 (by decide)); omega)⟩).symm, g3.out⟩
                · have hn3 : decide (n ≤ 1024) = false := decide_eq_false hn2
                  go_wp2_with fail
                  all_goals
                    go_ret
                    exact ⟨ret_bool (hval.out false ⟨(fun h => by cases h), fun h => by exfalso; have q1 : (1 : Int) ≤ _ := h.1.2.2.2.1; have q2 : _ ≤ (1024 : Int) := h.1.2.2.2.2.1; have q3 : _ ≤ (0 : Int) := h.1.2.2.2.2.2.1; have q4 := h.1.2.2.2.2.2.2.2; first | omega | (rcases q4 with q4 | q4; (exact absurd q4 (by decide)); omega)⟩).symm, g3.out⟩
              · have hn3 : decide (1 ≤ n) = false := decide_eq_false hn1
                go_wp2_with fail
                all_goals
                  go_ret
                  exact ⟨ret_bool (hval.out false ⟨(fun h => by cases h), fun h => by exfalso; have q1 : (1 : Int) ≤ _ := h.1.2.2.2.1; have q2 : _ ≤ (1024 : Int) := h.1.2.2.2.2.1; have q3 : _ ≤ (0 : Int) := h.1.2.2.2.2.2.1; have q4 := h.1.2.2.2.2.2.2.2; first | omega | (rcases q4 with q4 | q4; (exact absurd q4 (by decide)); omega)⟩).symm, g3.out⟩
            · by_cases hn0 : n = 0
              · subst hn0
                rcases hpp with ⟨rfl, hp1⟩ | ⟨hp0, hp2, hp1⟩
                · rcases hbb with ⟨rfl, hq1⟩ | ⟨hq0, hq2, hq1⟩
                  · go_wp2_with fail
                    all_goals
                      go_ret
                      exact ⟨ret_bool (hval.out true ⟨fun _ => ⟨⟨by omega, by omega, trivial, by show (0 : Int) ≤ _; omega, by show _ ≤ (0 : Int); omega, by show _ ≤ (0 : Int); first | omega | simp, hall.out, .inr rfl⟩, trivial⟩, fun _ => rfl⟩).symm, g3.out⟩
                  · go_wp2_with fail
                    all_goals
                      go_ret
                      exact ⟨ret_bool (hval.out false ⟨(fun h => by cases h), fun h => by exfalso; have q1 : (0 : Int) ≤ _ := h.1.2.2.2.1; have q2 : _ ≤ (0 : Int) := h.1.2.2.2.2.1; have q3 : _ ≤ (0 : Int) := h.1.2.2.2.2.2.1; have q4 := h.1.2.2.2.2.2.2.2; first | omega | (rcases q4 with q4 | q4; (exact absurd q4 (by decide)); omega)⟩).symm, g3.out⟩
                · go_wp2_with fail
                  all_goals
                    go_ret
                    exact ⟨ret_bool (hval.out false ⟨(fun h => by cases h), fun h => by exfalso; have q1 : (0 : Int) ≤ _ := h.1.2.2.2.1; have q2 : _ ≤ (0 : Int) := h.1.2.2.2.2.1; have q3 : _ ≤ (0 : Int) := h.1.2.2.2.2.2.1; have q4 := h.1.2.2.2.2.2.2.2; first | omega | (rcases q4 with q4 | q4; (exact absurd q4 (by decide)); omega)⟩).symm, g3.out⟩
              · have hn1 : (n == 0) = false := ib_f hn0
                go_wp2_with fail
                all_goals
                  go_ret
                  exact ⟨ret_bool (hval.out false ⟨(fun h => by cases h), fun h => by exfalso; have q1 : (0 : Int) ≤ _ := h.1.2.2.2.1; have q2 : _ ≤ (0 : Int) := h.1.2.2.2.2.1; have q3 : _ ≤ (0 : Int) := h.1.2.2.2.2.2.1; have q4 := h.1.2.2.2.2.2.2.2; first | omega | (rcases q4 with q4 | q4; (exact absurd q4 (by decide)); omega)⟩).symm, g3.out⟩
            · by_cases hn0 : n = 0
              · subst hn0
                go_wp2_with fail
                all_goals
                  go_ret
                  exact ⟨ret_bool (hval.out true ⟨fun _ => ⟨⟨by omega, by omega, trivial, by show (0 : Int) ≤ _; omega, by show _ ≤ (0 : Int); omega, by show _ ≤ (8 : Int); first | omega | simp, hall.out, .inl rfl⟩, trivial⟩, fun _ => rfl⟩).symm, g3.out⟩
              · have hn1 : (n == 0) = false := ib_f hn0
                go_wp2_with fail
                all_goals
                  go_ret
                  exact ⟨ret_bool (hval.out false ⟨(fun h => by cases h), fun h => by exfalso; have q1 : (0 : Int) ≤ _ := h.1.2.2.2.1; have q2 : _ ≤ (0 : Int) := h.1.2.2.2.2.1; have q3 : _ ≤ (8 : Int) := h.1.2.2.2.2.2.1; have q4 := h.1.2.2.2.2.2.2.2; first | omega | (rcases q4 with q4 | q4; (exact absurd q4 (by decide)); omega)⟩).symm, g3.out⟩
            · by_cases hn0 : n = 0
              · subst hn0
                rcases hpp with ⟨rfl, hp1⟩ | ⟨hp0, hp2, hp1⟩
                · go_wp2_with fail
                  all_goals
                    go_ret
                    exact ⟨ret_bool (hval.out true ⟨fun _ => ⟨⟨by omega, by omega, trivial, by show (0 : Int) ≤ _; omega, by show _ ≤ (0 : Int); omega, by show _ ≤ (0 : Int); first | omega | simp, hall.out, .inl rfl⟩, trivial⟩, fun _ => rfl⟩).symm, g3.out⟩
                · go_wp2_with fail
                  all_goals
                    go_ret
                    exact ⟨ret_bool (hval.out false ⟨(fun h => by cases h), fun h => by exfalso; have q1 : (0 : Int) ≤ _ := h.1.2.2.2.1; have q2 : _ ≤ (0 : Int) := h.1.2.2.2.2.1; have q3 : _ ≤ (0 : Int) := h.1.2.2.2.2.2.1; have q4 := h.1.2.2.2.2.2.2.2; first | omega | (rcases q4 with q4 | q4; (exact absurd q4 (by decide)); omega)⟩).symm, g3.out⟩
              · have hn1 : (n == 0) = false := ib_f hn0
                go_wp2_with fail
                all_goals
                  go_ret
                  exact ⟨ret_bool (hval.out false ⟨(fun h => by cases h), fun h => by exfalso; have q1 : (0 : Int) ≤ _ := h.1.2.2.2.1; have q2 : _ ≤ (0 : Int) := h.1.2.2.2.2.1; have q3 : _ ≤ (0 : Int) := h.1.2.2.2.2.2.1; have q4 := h.1.2.2.2.2.2.2.2; first | omega | (rcases q4 with q4 | q4; (exact absurd q4 (by decide)); omega)⟩).symm, g3.out⟩
            · have hk_1 : (k == 1) = false := ib_f (by omega)
              have hk_2 : (k == 2) = false := ib_f (by omega)
              have hk_3 : (k == 3) = false := ib_f (by omega)
              have hk_4 : (k == 4) = false := ib_f (by omega)
              have hk_5 : (k == 5) = false := ib_f (by omega)
              go_wp2_with fail
              all_goals
                go_ret
                exact ⟨ret_bool (hval.out false (by constructor; (intro h; cases h); (intro h; exfalso; have := h.1.1; have := h.1.2.1; omega))).symm, g3.out⟩

theorem allfit_D (l : List De) : (ptsD l).all fitPt = l.all fun d => d.body.all mayS := by
  unfold ptsD
  rw [List.all_flatMap]
  congr 1
  funext d
  have := all_ptsSL d.body (adB d.ba) (adO d.ba) 0
  simpa using this
theorem mayP_eq (l : List De) : mayP l = (decide (l.length ≤ 256) && l.all mayD && decide (deepest (ptsD l) ≤ 60)) := by
  unfold mayP
  rw [hold_all, allfit_D, Bool.eq_iff_iff]
  simp only [Bool.and_eq_true, List.all_eq_true, decide_eq_true_eq, mayD]
  constructor
  · rintro ⟨⟨h1, h2⟩, h3, h4⟩
    exact ⟨⟨h1, fun d hd => ⟨h2 d hd, h3 d hd⟩⟩, h4⟩
  · rintro ⟨⟨h1, h2⟩, h4⟩
    exact ⟨⟨h1, fun d hd => (h2 d hd).1⟩, fun d hd => (h2 d hd).2, h4⟩

set_option maxHeartbeats 4000000 in
set_option maxRecDepth 100000 in
theorem refMay_any (l : List De) (a : Option Addr) (cap : Nat) (w : World) (hsz : De.szL l ≤ 4194304) (hrow : RowAt w (fun _ => True) a cap l.length (deCells l)) (hin : De.InL w (fun _ => True) l) :
    Calls Tryd.prog 12 #[.slice a l.length cap] w fun x w' => x = .returned (.bool (mayP l)) ∧ Below w.heap.size w w' := by
  have hll : l.length ≤ 9223372036854775807 := by have := hrow.le; have := hrow.lim; unfold maxLen at this; omega
  have hval := Lib.hid (mayP_eq l)
  have hcall := fun (k : Nat) (x : De) (W : World) (hx : l[k]? = some x) (hb : Below w.heap.size w W) => refdecl_any x W (by have := De.sz_get hx; omega) (De.In.below (Kps.of_below (S := fun _ => True) hb) (hin x (List.mem_of_getElem? hx)))
  have cD := fun V (hb : Below w.heap.size w V) => refDepth_any l a cap V hsz (hrow.below (Kps.of_below hb)) (De.InL.below (Kps.of_below hb) hin)
  generalize deepest (ptsD l) = dd at *
  generalize mayP l = res at *
  replace hcall := Lib.hid hcall
  replace cD := Lib.hid cD
  clear hin
  by_cases h256 : 256 < l.length
  · go_enter Tryd.func12, Tryd.ntmps12
    go_wp2_with fail
    go_ret
    exact ⟨ret_bool (by rw [hval.out, decide_eq_false (by omega)]; rfl), Below.refl _ _⟩
  · go_enter Tryd.func12, Tryd.ntmps12
    go_wp2_with fail
    go_loopw [3] (fun i wr => ∃ k : Nat, k ≤ l.length ∧ i = .int .i64 k ∧ Hid ((l.take k).all mayD = true) ∧ Below w.heap.size w wr) (fun i _ => l.length - (intOf i).toNat)
    case atStart => exact ⟨0, Nat.zero_le _, rfl, Lib.hid (by simp), Below.refl _ _⟩
    case round =>
      obtain ⟨k, hk, rfl, hok, hbr⟩ := hrel
      by_cases hlt : k < l.length
      · obtain ⟨x, hx⟩ : ∃ e, l[k]? = some e := ⟨l[k], by simp [hlt]⟩
        obtain ⟨b, off, rfl, _, hcell⟩ := de_row hrow k x hx
        have hc := hcall.out k x wr hx hbr
        have hnx := all_next mayD l k x hx
        have hno := all_no mayD l k x hx
        obtain ⟨xk, xnm, xn, pa, pcap, xp, ba, bcap, xbody, xpos⟩ := x
        have hc : Calls Tryd.prog 36 #[.agg #[.int .u8 xk, .string xnm, .int .i64 xn, .slice pa xp.length pcap, .slice ba xbody.length bcap, .int .i64 xpos]] wr _ := hc
        simp only [← Nat.add_assoc] at hcell
        have d0 := below_in hbr (hcell 0 _ rfl)
        have d1 := below_in hbr (hcell 1 _ rfl)
        have d2 := below_in hbr (hcell 2 _ rfl)
        have d3 := below_in hbr (hcell 3 _ rfl)
        have d4 := below_in hbr (hcell 4 _ rfl)
        have d5 := below_in hbr (hcell 5 _ rfl)
        simp only [Nat.add_zero] at d0
        generalize mayD ⟨xk, xnm, xn, pa, pcap, xp, ba, bcap, xbody, xpos⟩ = v at *
        replace hc := Lib.hid hc
        replace hnx := Lib.hid hnx
        replace hno := Lib.hid hno
        replace hx := Lib.hid hx
        clear hcell
        cases v
        · go_wp2_with fail
          refine hc.out.mono ?_
          rintro x W3 ⟨rfl, hb3⟩
          go_wp2_with fail
          go_ret
          exact ⟨ret_bool (by rw [hval.out, hno.out trivial]; simp), hbr.trans (hb3.mono hbr.size)⟩
        · go_wp2_with fail
          refine hc.out.mono ?_
          rintro x W3 ⟨rfl, hb3⟩
          replace hb3 := Lib.hid hb3
          go_wp2_with fail
          go_roundw
          case rel => exact ⟨k + 1, by omega, by go_num, Lib.hid (by rw [hnx.out, hok.out]; rfl), hbr.trans (hb3.out.mono hbr.size)⟩
          case measure => simp [intOf]; omega
      · have hall : Hid (l.all mayD = true) := Lib.hid (by have := hok.out; rwa [List.take_of_length_le (by omega)] at this)
        go_wp2_with fail
        refine (cD.out _ hbr).mono ?_
        rintro x W3 ⟨rfl, hb3⟩
        go_wp2_with fail
        go_ret
        exact ⟨ret_bool (by rw [hval.out, hall.out, decide_eq_true (by omega : l.length ≤ 256)]; simp), hbr.trans (hb3.mono hbr.size)⟩
end Go.Proofs.YtolmhcdcfnoicaaDoor.Tr
