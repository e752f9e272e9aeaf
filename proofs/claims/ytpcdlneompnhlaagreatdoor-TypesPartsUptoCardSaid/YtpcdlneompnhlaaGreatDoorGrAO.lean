/- Walk of the reader's method withStmt. Conditions: the contracts of what it calls. · Walk of the reader's method ifStmt. Conditions: the contracts of what it calls. · Walk of list, of expressions. Conditions: the contracts of what it calls. · The contracts of stmt and block. Conditions: none but the reader's. · Walk of list, of names. Conditions: the contracts of what it calls. -/
import Derived.Test.YtpcdlneompnhlaaGreatDoorGrAJ
import Derived.Test.YtpcdlneompnhlaaGreatDoorGrAN
import Derived.Deep.Cut
import Derived.Test.YtpcdlneompnhlaaGreatDoorGrAI
import Derived.Test.YtpcdlneompnhlaaGreatDoorGrAK
import Derived.Test.YtpcdlneompnhlaaGreatDoorGrAL
namespace Go.Proofs.YtpcdlneompnhlaaGreatDoor.Pa
open Go Go.RowKit
open Go.Proofs.YtpcdlneompnhlaaGreatDoor.Lx Go.Proofs.YtpcdlneompnhlaaGreatDoor.Tr

set_option maxHeartbeats 4000000 in
set_option maxRecDepth 100000 in
theorem withStmt_c (f : Nat) (hB : ContB f) {c : Rc} {i : Nat} {w : World} (h : Rd c i w) (hm : Mp c w) (hf : 2 * (c.l.length - i) ≤ f) :
    Calls Tryz.prog 102 #[.pointer (some ⟨c.rb, 0, none⟩)] w (Post c (VT (fun b => w.heap.size ≤ b)) w (withR c.l f i)) := by
  generalize hr : withR c.l f i = r
  have h1 := (Fr.start h).alloc #[.int .u8 0, .string ⟨#[]⟩, .string ⟨#[]⟩, .bool false, .slice none 0 0, .slice none 0 0, .slice none 0 0, .int .i64 0] 60
  replace h1 := Lib.hid h1
  have hN := Lib.hid (fun W j (hW : Rd c j W) => name_c hW)
  have hBk := Lib.hid (fun W j (hW : Rd c j W) (hE : RE c.rb w W) (hj : 2 * (c.l.length - j) ≤ f) => hB c j W hW (hm.re hE) hj)
  unfold withR at hr
  replace hr := Lib.hid hr
  clear h hB hm
  go_enter Tryz.func102, Tryz.ntmps102
  go_wp2_with fail
  refine (hN.out _ i h1.out.rd).mono ?_
  intro e w2 hP
  rcases hP.two with ⟨p, hq, rfl, hre⟩ | ⟨x2, j2, v2, hq, rfl, hV, hR, hre⟩
  · have hr' := hr.out; rw [hq, Res.bind_bad] at hr'; subst hr'; exact ⟨rfl, rfl, h1.out.re.trans hre⟩
  have hr' := hr.out
  rw [hq, Res.bind_ok'] at hr'
  have hj2 := nameR_lt hq
  replace hr := Lib.hid hr'
  clear hr' hP hq
  obtain ⟨rfl, hsz⟩ := hV
  have h2 := h1.out.call hre hR
  clear hre hR h1
  have h3 := h2.alloc #[.int .u8 6, .string x2, .string ⟨#[]⟩, .bool false, .slice none 0 0, .slice none 0 0, .slice none 0 0, .int .i64 0] 60
  clear h2
  replace h3 := Lib.hid h3
  replace hsz := Lib.hid hsz
  go_wp2_with fail
  refine (hBk.out _ _ h3.out.rd h3.out.re (by omega)).mono ?_
  intro e w4 hP
  rcases hP.two with ⟨p, hq, rfl, hre⟩ | ⟨x4, j4, v4, hq, rfl, hV, hR, hre⟩
  · have hr' := hr.out; rw [hq, Res.bind_bad] at hr'; subst hr'; exact ⟨rfl, rfl, h3.out.re.trans hre⟩
  have hr' := hr.out
  rw [hq, Res.bind_ok'] at hr'
  replace hr := Lib.hid hr'
  clear hr' hP hq
  obtain ⟨l4, a4, c4, rfl, hx4, h4⟩ := h3.out.factTs hre hR hV
  replace hx4 := Lib.hid hx4
  clear hV hR hre h3
  obtain ⟨ce0, ce1, ce2, ce3, ce4, ce5, ce6, ce7, cz0, cz1, cz2, cz3, cz4, cz5, cz6, cz7⟩ := cells8 h4.hd
  have hz := h4.st8_5 (.slice a4 l4.length c4)
  clear hN hBk hf hj2
  clear h4
  go_upto_region 3 with fail
  clear ce0 ce1 ce2 ce3 ce4 ce5 ce6 ce7 cz0 cz1 cz2 cz3 cz4 cz5 cz6 cz7
  obtain ⟨Wz, hWz⟩ : ∃ W, w4.setCell ⟨w2.heap.size, 5, none⟩ (.slice a4 l4.length c4) = W := ⟨_, rfl⟩
  rw [hWz] at hz ⊢
  clear hWz
  obtain ⟨ce0, ce1, ce2, ce3, ce4, ce5, ce6, ce7, _, _, _, _, _, _, _, _⟩ := cells8 hz.hd
  obtain ⟨cg0, cg1, cg2, cg3, cg4, cg5, cg6, cg7, cf0, cf1, cf2, cf3, cf4, cf5, cf6, cf7⟩ := cells8 hz.hd2
  have hf := Lib.hid fun a b cc d e f g h => hz.swap.set8 a b cc d e f g h
  clear hz
  replace hr := hr.out
  go_wp2_with fail
  subst hr
  exact bodyPost_ret (v := .agg #[.int .u8 6, .string x2, .string ⟨#[]⟩, .bool false, .slice none 0 0, .slice a4 l4.length c4, .slice none 0 0, .int .i64 0]) (results_cell_row Tryz.results102 _ _ w.heap.size _ _ _ _ rfl (hf.out _ _ _ _ _ _ _ _).hd Tryz.underlying60 rfl (by kernel_rfl)) rfl ⟨_, rfl, ⟨.mk 6 x2 noB false none 0 [] a4 c4 l4 none 0 [] 0, rfl, stE_In (by unfold U8; decide) hsz.out (by decide) (by unfold I64; decide) (xs_nil _ _) ((hf.out _ _ _ _ _ _ _ _).fct (by simp)) (ts_nil _ _), by rw [sa_eq, eaL_nil, saL_nil, hx4.out]; rfl⟩, (hf.out _ _ _ _ _ _ _ _).rd, (hf.out _ _ _ _ _ _ _ _).re⟩
end Go.Proofs.YtpcdlneompnhlaaGreatDoor.Pa

namespace Go.Proofs.YtpcdlneompnhlaaGreatDoor.Pa
open Go Go.RowKit
open Go.Proofs.YtpcdlneompnhlaaGreatDoor.Lx Go.Proofs.YtpcdlneompnhlaaGreatDoor.Tr

set_option maxHeartbeats 4000000 in
set_option maxRecDepth 100000 in
theorem ifStmt_c (f : Nat) (hB : ContB f) {c : Rc} {i : Nat} {w : World} (h : Rd c i w) (hm : Mp c w) (hf : 2 * (c.l.length - i) ≤ f) :
    Calls Tryz.prog 100 #[.pointer (some ⟨c.rb, 0, none⟩)] w (Post c (VT (fun b => w.heap.size ≤ b)) w (ifR c.l f i)) := by
  generalize hr : ifR c.l f i = r
  have h1 := (Fr.start h).alloc #[.int .u8 0, .string ⟨#[]⟩, .string ⟨#[]⟩, .bool false, .slice none 0 0, .slice none 0 0, .slice none 0 0, .int .i64 0] 60
  replace h1 := Lib.hid h1
  have hX := Lib.hid (fun W j (hW : Rd c j W) => expr_c c j W hW)
  have hBk := Lib.hid (fun W j (hW : Rd c j W) (hE : RE c.rb w W) (hj : 2 * (c.l.length - j) ≤ f) => hB c j W hW (hm.re hE) hj)
  have hPe := Lib.hid (fun W j (hW : Rd c j W) => passes_c hW wElse (by decide))
  unfold ifR at hr
  replace hr := Lib.hid hr
  clear h hB hm
  go_enter Tryz.func100, Tryz.ntmps100
  go_wp2_with fail
  refine (hX.out _ i h1.out.rd).mono ?_
  intro e w2 hP
  rcases hP.two with ⟨p, hq, rfl, hre⟩ | ⟨x2, j2, v2, hq, rfl, hV, hR, hre⟩
  · have hr' := hr.out; rw [hq, Res.bind_bad] at hr'; subst hr'; exact ⟨rfl, rfl, h1.out.re.trans hre⟩
  have hr' := hr.out
  rw [hq, Res.bind_ok'] at hr'
  have hj2 := exprR_lt hq
  replace hr := Lib.hid hr'
  clear hr' hP hq
  obtain ⟨ex2, rfl, hx2, h2⟩ := h1.out.factX hre hR hV
  replace hx2 := Lib.hid hx2
  clear hV hR hre h1
  have h3 := (h2.row1 ex2 62 (by simp)).alloc #[.int .u8 4, .string ⟨#[]⟩, .string ⟨#[]⟩, .bool false, .slice (some ⟨w2.heap.size, 0, none⟩) 1 1, .slice none 0 0, .slice none 0 0, .int .i64 0] 60
  clear h2
  obtain ⟨k2, n2, y2, a2, c2, q2, p2⟩ := ex2
  have hB : (⟨(Ex.mk k2 n2 y2 a2 c2 q2 p2).vals⟩ : Array Value) = #[.int .u8 k2, .string n2, .int .i64 y2, .slice a2 q2.length c2, .int .i64 p2] := rfl
  have hC : (⟨exCells [Ex.mk k2 n2 y2 a2 c2 q2 p2]⟩ : Array Value) = #[.int .u8 k2, .string n2, .int .i64 y2, .slice a2 q2.length c2, .int .i64 p2] := rfl
  try rw [hC] at h3
  try rw [hB] at h3
  try rw [hB]
  clear hB hC
  replace h3 := Lib.hid h3
  go_wp2_with fail
  refine (hBk.out _ _ h3.out.rd h3.out.re (by omega)).mono ?_
  intro e w4 hP
  rcases hP.two with ⟨p, hq, rfl, hre⟩ | ⟨x4, j4, v4, hq, rfl, hV, hR, hre⟩
  · have hr' := hr.out; rw [hq, Res.bind_bad] at hr'; subst hr'; exact ⟨rfl, rfl, h3.out.re.trans hre⟩
  have hr' := hr.out
  rw [hq, Res.bind_ok'] at hr'
  have hj4 := blockR_lt hq
  replace hr := Lib.hid hr'
  clear hr' hP hq
  obtain ⟨l4, a4, c4, rfl, hx4, h4⟩ := h3.out.factTs hre hR hV
  replace hx4 := Lib.hid hx4
  clear hV hR hre h3
  rw [sz_alloc] at h4
  obtain ⟨ce0, ce1, ce2, ce3, ce4, ce5, ce6, ce7, cz0, cz1, cz2, cz3, cz4, cz5, cz6, cz7⟩ := cells8 h4.hd
  have h5 := h4.st8_5 (.slice a4 l4.length c4)
  clear h4
  replace h5 := Lib.hid h5
  go_wp2_with fail
  clear ce0 ce1 ce2 ce3 ce4 ce5 ce6 ce7 cz0 cz1 cz2 cz3 cz4 cz5 cz6 cz7
  refine (hPe.out _ _ h5.out.rd).mono ?_
  rintro e w6 ⟨hre, ⟨hc, rfl, hR⟩ | ⟨hc, rfl, hR⟩⟩
  · have hr' := hr.out
    rw [if_pos hc] at hr'
    replace hr := Lib.hid hr'
    clear hr' hc
    have h6 := h5.out.call hre hR
    clear hre hR h5
    replace h6 := Lib.hid h6
    go_wp2_with fail
    refine (hBk.out _ _ h6.out.rd h6.out.re (by omega)).mono ?_
    intro e w7 hP
    rcases hP.two with ⟨p, hq, rfl, hre⟩ | ⟨x7, j7, v7, hq, rfl, hV, hR, hre⟩
    · have hr' := hr.out; rw [hq, Res.bind_bad] at hr'; subst hr'; exact ⟨rfl, rfl, h6.out.re.trans hre⟩
    have hr' := hr.out
    rw [hq, Res.bind_ok'] at hr'
    replace hr := Lib.hid hr'
    clear hr' hP hq
    obtain ⟨l7, a7, c7, rfl, hx7, h7⟩ := h6.out.factTs hre hR hV
    replace hx7 := Lib.hid hx7
    clear hV hR hre h6
    obtain ⟨ce0, ce1, ce2, ce3, ce4, ce5, ce6, ce7, cz0, cz1, cz2, cz3, cz4, cz5, cz6, cz7⟩ := cells8 h7.hd
    have hz := h7.st8_6 (.slice a7 l7.length c7)
    clear hX hBk hPe hf hj2 hj4
    clear h7
    go_upto_region 5 with fail
    clear ce0 ce1 ce2 ce3 ce4 ce5 ce6 ce7 cz0 cz1 cz2 cz3 cz4 cz5 cz6 cz7
    obtain ⟨Wz, hWz⟩ : ∃ W, w7.setCell ⟨w2.heap.size + 1, 6, none⟩ (.slice a7 l7.length c7) = W := ⟨_, rfl⟩
    rw [hWz] at hz ⊢
    clear hWz
    obtain ⟨ce0, ce1, ce2, ce3, ce4, ce5, ce6, ce7, _, _, _, _, _, _, _, _⟩ := cells8 hz.hd
    obtain ⟨cg0, cg1, cg2, cg3, cg4, cg5, cg6, cg7, cf0, cf1, cf2, cf3, cf4, cf5, cf6, cf7⟩ := cells8 hz.hd2
    have hf := Lib.hid fun a b cc d e f g h => hz.swap.set8 a b cc d e f g h
    clear hz
    replace hr := hr.out
    go_wp2_with fail
    subst hr
    exact bodyPost_ret (v := .agg #[.int .u8 4, .string ⟨#[]⟩, .string ⟨#[]⟩, .bool false, .slice (some ⟨w2.heap.size, 0, none⟩) 1 1, .slice a4 l4.length c4, .slice a7 l7.length c7, .int .i64 0]) (results_cell_row Tryz.results100 _ _ w.heap.size _ _ _ _ rfl (hf.out _ _ _ _ _ _ _ _).hd Tryz.underlying60 rfl (by kernel_rfl)) rfl ⟨_, rfl, ⟨.mk 4 noB noB false (some ⟨w2.heap.size, 0, none⟩) 1 [.mk k2 n2 y2 a2 c2 q2 p2] a4 c4 l4 a7 c7 l7 0, rfl, stE_In (by unfold U8; decide) (by decide) (by decide) (by unfold I64; decide) ((hf.out _ _ _ _ _ _ _ _).fct (by simp)) ((hf.out _ _ _ _ _ _ _ _).fct (by simp)) ((hf.out _ _ _ _ _ _ _ _).fct (by simp)), by rw [sa_eq, eaL_cons, eaL_nil, hx2.out, hx4.out, hx7.out]; rfl⟩, (hf.out _ _ _ _ _ _ _ _).rd, (hf.out _ _ _ _ _ _ _ _).re⟩
  · have hr' := hr.out
    rw [if_neg hc] at hr'
    replace hr := Lib.hid hr'
    clear hr' hc
    have h6 := h5.out.call hre hR
    clear hre hR h5
    obtain ⟨ce0, ce1, ce2, ce3, ce4, ce5, ce6, ce7, cz0, cz1, cz2, cz3, cz4, cz5, cz6, cz7⟩ := cells8 h6.hd
    obtain ⟨cg0, cg1, cg2, cg3, cg4, cg5, cg6, cg7, cf0, cf1, cf2, cf3, cf4, cf5, cf6, cf7⟩ := cells8 h6.hd2
    clear hf hj2 hj4
    have hf := Lib.hid fun a b cc d e f g h => h6.swap.set8 a b cc d e f g h
    clear h6 hX hBk hPe
    replace hr := hr.out
    go_wp2_with fail
    subst hr
    exact bodyPost_ret (v := .agg #[.int .u8 4, .string ⟨#[]⟩, .string ⟨#[]⟩, .bool false, .slice (some ⟨w2.heap.size, 0, none⟩) 1 1, .slice a4 l4.length c4, .slice none 0 0, .int .i64 0]) (results_cell_row Tryz.results100 _ _ w.heap.size _ _ _ _ rfl (hf.out _ _ _ _ _ _ _ _).hd Tryz.underlying60 rfl (by kernel_rfl)) rfl ⟨_, rfl, ⟨.mk 4 noB noB false (some ⟨w2.heap.size, 0, none⟩) 1 [.mk k2 n2 y2 a2 c2 q2 p2] a4 c4 l4 none 0 [] 0, rfl, stE_In (by unfold U8; decide) (by decide) (by decide) (by unfold I64; decide) ((hf.out _ _ _ _ _ _ _ _).fct (by simp)) ((hf.out _ _ _ _ _ _ _ _).fct (by simp)) (ts_nil _ _), by rw [sa_eq, eaL_cons, eaL_nil, saL_nil, hx2.out, hx4.out]; rfl⟩, (hf.out _ _ _ _ _ _ _ _).rd, (hf.out _ _ _ _ _ _ _ _).re⟩
end Go.Proofs.YtpcdlneompnhlaaGreatDoor.Pa

namespace Go.Proofs.YtpcdlneompnhlaaGreatDoor.Pa
open Go Go.RowKit
open Go.Proofs.YtpcdlneompnhlaaGreatDoor.Lx Go.Proofs.YtpcdlneompnhlaaGreatDoor.Tr

set_option maxHeartbeats 4000000 in
set_option maxRecDepth 100000 in
theorem listX_c (c : Rc) (i : Nat) (w : World) (h : Rd c i w) : Calls Tryz.prog 151 #[.pointer (some ⟨c.rb, 0, none⟩), .func (.func 149) #[] #[]] w (Post c (VXs (fun b => w.heap.size ≤ b)) w (listE c.l i)) := by
  generalize hr : listE c.l i = r
  have hlo := h.low
  have h1 := Lib.hid (Fr.start h)
  have hX := Lib.hid (fun W j (hW : Rd c j W) => expr_c c j W hW)
  have hT1 := Lib.hid (fun W j (hW : Rd c j W) => take_c hW ⟨#[40]⟩ (by decide))
  have hT2 := Lib.hid (fun W j (hW : Rd c j W) => take_c hW ⟨#[44]⟩ (by decide))
  have hP2 := Lib.hid (fun W j (hW : Rd c j W) => passes_c hW ⟨#[41]⟩ (by decide))
  obtain ⟨i0, hi0, hz0, hz1, hz2⟩ := info_parts info_ex
  unfold listE at hr
  replace hr := Lib.hid hr
  replace hlo := Lib.hid hlo
  clear h
  go_enter Tryz.func151, Tryz.ntmps151
  go_wp2_with fail
  refine (hT1.out _ i h1.out.rd).mono ?_
  intro e w2 hP
  rcases hP.two with ⟨p, hq, rfl, hre⟩ | ⟨x2, j2, v2, hq, rfl, hV, hR, hre⟩
  · have hr' := hr.out; rw [hq, Res.bind_bad] at hr'; subst hr'; exact ⟨rfl, rfl, h1.out.re.trans hre⟩
  have hr' := hr.out
  rw [hq, Res.bind_ok'] at hr'
  have hj2 := takeR_lt hq
  replace hr := Lib.hid hr'
  clear hr' hP hq
  subst hV
  have h2 := Lib.hid (h1.out.call hre hR)
  clear hre hR h1
  go_wp2_with fail
  refine (hP2.out _ _ h2.out.rd).mono ?_
  rintro e w3 ⟨hre, ⟨hc, rfl, hR⟩ | ⟨hc, rfl, hR⟩⟩
  · have hr' := hr.out
    rw [if_pos hc] at hr'
    subst hr'
    have h3 := Lib.hid (h2.out.call hre hR)
    clear hre hR h2 hr
    go_wp2_with fail
    go_ret
    exact ⟨_, rfl, ⟨[], none, 0, rfl, row_nil _ _, by unfold Ex.InL; trivial, eaL_nil⟩, h3.out.rd, h3.out.re⟩
  · have hr' := hr.out
    rw [if_neg hc] at hr'
    have h3 := h2.out.call hre hR
    clear hre hR h2 hr hc
    go_wp2_with fail
    go_loopw [5] (fun v wr => ∃ (acc : List Ex) (j f : Nat), c.l.length - j < f ∧ argsR c.l f (acc.map ea) j = r ∧ Rd c j wr ∧ RE c.rb w wr ∧ acc.length ≤ j ∧ Acc KE 62 w.heap.size wr v acc)
      (fun _ wr => c.l.length - nextOf c.rb wr)
    case atStart => exact ⟨[], j2, c.l.length + 1, by omega, hr', h3.rd, h3.re, Nat.zero_le _, Acc.nil _ _ _ _⟩
    case round =>
      obtain ⟨acc, j, f, hf, hr, hR, hre, hlen, hacc⟩ := hrel
      cases f with
      | zero => omega
      | succ f =>
        unfold argsR at hr
        have hnx := hR.next
        have hjl := hR.lt
        have hlim := hR.lim
        have hsz0 := hre.size
        replace hr := Lib.hid hr
        replace hacc := Lib.hid hacc
        replace hre := Lib.hid hre
        replace hR := Lib.hid hR
        clear h3 hr'
        go_wp2_with fail
        refine (hX.out _ j hR.out).mono ?_
        intro e w4 hP
        rcases hP.two with ⟨p, hq, rfl, hre4⟩ | ⟨x4, j4, v4, hq, rfl, hV, hR4, hre4⟩
        · have hr' := hr.out; rw [hq, Res.bind_bad] at hr'; subst hr'; exact ⟨rfl, rfl, hre.out.trans hre4⟩
        have hr' := hr.out
        rw [hq, Res.bind_ok'] at hr'
        have hj4 := exprR_lt hq
        replace hr := Lib.hid hr'
        clear hr' hP hq
        obtain ⟨ex, rfl, hin, rfl⟩ := hV
        have hacc4 := Lib.hid (Acc_re hacc.out hre4 hlo.out.rb)
        have hel4 := Lib.hid (Acc.fresh (K := KE) hacc.out hsz0 hin)
        have hrm := Lib.hid (show acc.map ea ++ [ea ex] = (acc ++ [ex]).map ea by rw [List.map_append]; rfl)
        obtain ⟨k1, n1, y1, a1, c1, q1, p1⟩ := ex
        have hB : (⟨(Ex.mk k1 n1 y1 a1 c1 q1 p1).vals⟩ : Array Value) = #[.int .u8 k1, .string n1, .int .i64 y1, .slice a1 q1.length c1, .int .i64 p1] := rfl
        rw [hB]
        clear hB
        have hre5 := hre.out.trans hre4
        have hsz4 := hre5.size
        replace hre5 := Lib.hid hre5
        replace hR4 := Lib.hid hR4
        have hlen4 : acc.length + 1 ≤ j4 := by omega
        clear hre4 hre hR hacc hin
        go_wp2_with (at_builtin; refine wpList_append_K KE rfl (.tmp 11) (.tmp 15) (.tmp 14) 58 rfl 62 i0 _ 5 64 Tryz.underlying58 hi0 hz0 hz1 hz2 rfl (by decide) rfl Ex.vals_one w.heap.size _ acc (.mk k1 n1 y1 a1 c1 q1 p1) rfl (hacc4.out.alloc _) (KE.below (Kps.alloc _ _) hel4.out) _ rfl rfl (0, 0) (Tr.blk_new _ _ rfl) ?c1 ?c2 ?c3 ?_)
        case c1 => unfold maxLen; omega
        case c2 => omega
        case c3 => simp; omega
        intro v5 w5 hacc5 hg5
        have hown := fun k hk => (hacc4.out.block k hk).1
        have hR5 := Lib.hid (hR4.out.grown hlo.out hsz4 hg5 hown)
        have hre6 := Lib.hid (hre5.out.grown hg5 hown)
        replace hacc5 := Lib.hid hacc5
        clear hg5 hown hacc4 hel4 hR4 hre5
        go_wp2_with fail
        refine (hP2.out _ _ hR5.out).mono ?_
        rintro e w6 ⟨hre, ⟨hc, rfl, hR⟩ | ⟨hc, rfl, hR⟩⟩
        · have hr' := hr.out
          rw [if_pos hc] at hr'
          rw [hrm.out] at hr'
          subst hr'
          have hv := Lib.hid (accX_out (Acc_re hacc5.out hre hlo.out.rb))
          have hE := Lib.hid (hre6.out.trans hre)
          replace hR := Lib.hid hR
          clear hre hR5 hre6 hacc5 hr hrm
          go_wp2_with fail
          go_ret
          exact ⟨_, rfl, hv.out, hR.out, hE.out⟩
        · have hr' := hr.out
          rw [if_neg hc] at hr'
          rw [hrm.out] at hr'
          replace hr := Lib.hid hr'
          have hacc6 := Lib.hid (Acc_re hacc5.out hre hlo.out.rb)
          have hE := Lib.hid (hre6.out.trans hre)
          replace hR := Lib.hid hR
          clear hre hR5 hre6 hacc5 hr' hc hrm
          go_wp2_with fail
          refine (hT2.out _ _ hR.out).mono ?_
          intro e w7 hP
          rcases hP.two with ⟨p, hq, rfl, hre⟩ | ⟨x7, j7, v7, hq, rfl, hV, hR7, hre⟩
          · have hr' := hr.out; rw [hq, Res.bind_bad] at hr'; subst hr'; exact ⟨rfl, rfl, hE.out.trans hre⟩
          have hr' := hr.out
          rw [hq, Res.bind_ok'] at hr'
          have hj7 := takeR_lt hq
          replace hr := Lib.hid hr'
          clear hr' hP hq
          subst hV
          have hnx7 := hR7.next
          have hjl7 := hR7.lt
          have hacc7 := Lib.hid (Acc_re hacc6.out hre hlo.out.rb)
          have hE7 := Lib.hid (hE.out.trans hre)
          replace hR7 := Lib.hid hR7
          clear hre hE hacc6 hR
          go_wp2_with fail
          go_roundw
          case rel => exact ⟨acc ++ [.mk k1 n1 y1 a1 c1 q1 p1], j7, f, by omega, hr.out, hR7.out, hE7.out, by rw [List.length_append]; simp only [List.length_cons, List.length_nil]; omega, hacc7.out⟩
          case measure => omega
end Go.Proofs.YtpcdlneompnhlaaGreatDoor.Pa

namespace Go.Proofs.YtpcdlneompnhlaaGreatDoor.Pa
open Go Go.RowKit
open Go.Proofs.YtpcdlneompnhlaaGreatDoor.Lx Go.Proofs.YtpcdlneompnhlaaGreatDoor.Tr

theorem list_XL : XL := fun c i w h => listX_c c i w h
theorem Rd.more' {c : Rc} {i : Nat} {w : World} (h : Rd c i w) {s : ByteArray} (hx : tx c.l i = s) (hs : s ≠ ⟨#[]⟩) : i + 1 < c.l.length := by
  obtain ⟨t, ht, h1, _⟩ := h.tok
  exact h.more ht (by rw [← h1, hx]; exact hs)
theorem stmt_zero : ContS 0 := by
  intro c i w _ _ hf
  omega
theorem stmt_step (f : Nat) (hB : ContB f) : ContS (f + 1) := by
  intro c i w h hm hf
  rw [stmtR_eq]
  by_cases h1 : tx c.l i = wVar
  · rw [if_pos h1]
    have hmo := h.more' h1 (by decide)
    exact stmt_var h hm hmo _ (by rw [h1]; rfl) fun W hW _ => varStmt_c expr_c list_XL hW
  rw [if_neg h1]
  by_cases h2 : tx c.l i = wIf
  · rw [if_pos h2]
    have hmo := h.more' h2 (by decide)
    exact stmt_if h hm hmo _ (by rw [h2]; rfl) fun W hW hE => ifStmt_c f hB hW (hm.re hE) (by omega)
  rw [if_neg h2]
  by_cases h3 : tx c.l i = wWhile
  · rw [if_pos h3]
    have hmo := h.more' h3 (by decide)
    exact stmt_while h hm hmo _ (by rw [h3]; rfl) fun W hW hE => whileStmt_c f hB hW (hm.re hE) (by omega)
  rw [if_neg h3]
  by_cases h4 : tx c.l i = wWith
  · rw [if_pos h4]
    have hmo := h.more' h4 (by decide)
    exact stmt_with h hm hmo _ (by rw [h4]; rfl) fun W hW hE => withStmt_c f hB hW (hm.re hE) (by omega)
  rw [if_neg h4]
  by_cases h5 : tx c.l i = wPrint
  · rw [if_pos h5]
    have hmo := h.more' h5 (by decide)
    exact stmt_print h hm hmo _ (by rw [h5]; rfl) fun W hW _ => printStmt_c expr_c hW
  rw [if_neg h5]
  by_cases h6 : tx c.l i = wCall
  · rw [if_pos h6]
    have hmo := h.more' h6 (by decide)
    exact stmt_call h hm hmo _ (by rw [h6]; rfl) fun W hW _ => callStmt_c list_XL hW
  rw [if_neg h6]
  by_cases h7 : tx c.l i = wReturn
  · rw [if_pos h7]
    have hmo := h.more' h7 (by decide)
    exact stmt_return h hm hmo _ (by rw [h7]; rfl) fun W hW _ => returnStmt_c expr_c hW
  rw [if_neg h7]
  exact stmt_other h hm _ (by
    unfold wordsS
    simp only [findW]
    rw [if_neg (Ne.symm h1), if_neg (Ne.symm h2), if_neg (Ne.symm h3), if_neg (Ne.symm h4), if_neg (Ne.symm h5), if_neg (Ne.symm h6), if_neg (Ne.symm h7)]) fun W hW _ => nameStmt_c expr_c list_XL hW
theorem contsS : ∀ f : Nat, (∀ g, g ≤ f → ContS g) ∧ (∀ g, g ≤ f → ContB g) := by
  intro f
  induction f with
  | zero =>
    refine ⟨fun g hg => ?_, fun g hg => ?_⟩
    · rw [Nat.le_zero.1 hg]; exact stmt_zero
    · rw [Nat.le_zero.1 hg]; exact block_step 0 fun g hg => by omega
  | succ f ih =>
    obtain ⟨hS, hB⟩ := ih
    have hS' : ∀ g, g ≤ f + 1 → ContS g := fun g hg => by
      by_cases hx : g ≤ f
      · exact hS g hx
      · rw [show g = f + 1 by omega]; exact stmt_step f (hB f (Nat.le_refl _))
    refine ⟨hS', fun g hg => ?_⟩
    by_cases hx : g ≤ f
    · exact hB g hx
    · rw [show g = f + 1 by omega]
      exact block_step (f + 1) fun g hg => hS' g (by omega)
/-- the contract of block -/
theorem block_c (f : Nat) : ContB f := (contsS f).2 f (Nat.le_refl _)
end Go.Proofs.YtpcdlneompnhlaaGreatDoor.Pa

namespace Go.Proofs.YtpcdlneompnhlaaGreatDoor.Pa
open Go Go.RowKit
open Go.Proofs.YtpcdlneompnhlaaGreatDoor.Lx Go.Proofs.YtpcdlneompnhlaaGreatDoor.Tr

set_option maxHeartbeats 4000000 in
set_option maxRecDepth 100000 in
theorem listN_c (c : Rc) (i : Nat) (w : World) (h : Rd c i w) : Calls Tryz.prog 146 #[.pointer (some ⟨c.rb, 0, none⟩), .func (.func 142) #[] #[]] w (Post c (VN (fun b => w.heap.size ≤ b)) w (listN c.l i)) := by
  generalize hr : listN c.l i = r
  have hlo := h.low
  have h1 := Lib.hid (Fr.start h)
  have hX := Lib.hid (fun W j (hW : Rd c j W) => name_c hW)
  have hT1 := Lib.hid (fun W j (hW : Rd c j W) => take_c hW ⟨#[40]⟩ (by decide))
  have hT2 := Lib.hid (fun W j (hW : Rd c j W) => take_c hW ⟨#[44]⟩ (by decide))
  have hP2 := Lib.hid (fun W j (hW : Rd c j W) => passes_c hW ⟨#[41]⟩ (by decide))
  obtain ⟨i0, hi0, hz0, hz1, hz2⟩ := info_parts info_str
  unfold listN at hr
  replace hr := Lib.hid hr
  replace hlo := Lib.hid hlo
  clear h
  go_enter Tryz.func146, Tryz.ntmps146
  go_wp2_with fail
  refine (hT1.out _ i h1.out.rd).mono ?_
  intro e w2 hP
  rcases hP.two with ⟨p, hq, rfl, hre⟩ | ⟨x2, j2, v2, hq, rfl, hV, hR, hre⟩
  · have hr' := hr.out; rw [hq, Res.bind_bad] at hr'; subst hr'; exact ⟨rfl, rfl, h1.out.re.trans hre⟩
  have hr' := hr.out
  rw [hq, Res.bind_ok'] at hr'
  have hj2 := takeR_lt hq
  replace hr := Lib.hid hr'
  clear hr' hP hq
  subst hV
  have h2 := Lib.hid (h1.out.call hre hR)
  clear hre hR h1
  go_wp2_with fail
  refine (hP2.out _ _ h2.out.rd).mono ?_
  rintro e w3 ⟨hre, ⟨hc, rfl, hR⟩ | ⟨hc, rfl, hR⟩⟩
  · have hr' := hr.out
    rw [if_pos hc] at hr'
    subst hr'
    have h3 := Lib.hid (h2.out.call hre hR)
    clear hre hR h2 hr
    go_wp2_with fail
    go_ret
    exact ⟨_, rfl, ⟨none, 0, rfl, row_nil _ _, by simp⟩, h3.out.rd, h3.out.re⟩
  · have hr' := hr.out
    rw [if_neg hc] at hr'
    have h3 := h2.out.call hre hR
    clear hre hR h2 hr hc
    go_wp2_with fail
    go_loopw [5] (fun v wr => ∃ (acc : List ByteArray) (j f : Nat), c.l.length - j < f ∧ parsR c.l f (acc) j = r ∧ Rd c j wr ∧ RE c.rb w wr ∧ acc.length ≤ j ∧ Acc KN 9 w.heap.size wr v acc)
      (fun _ wr => c.l.length - nextOf c.rb wr)
    case atStart => exact ⟨[], j2, c.l.length + 1, by omega, hr', h3.rd, h3.re, Nat.zero_le _, Acc.nil _ _ _ _⟩
    case round =>
      obtain ⟨acc, j, f, hf, hr, hR, hre, hlen, hacc⟩ := hrel
      cases f with
      | zero => omega
      | succ f =>
        unfold parsR at hr
        have hnx := hR.next
        have hjl := hR.lt
        have hlim := hR.lim
        have hsz0 := hre.size
        replace hr := Lib.hid hr
        replace hacc := Lib.hid hacc
        replace hre := Lib.hid hre
        replace hR := Lib.hid hR
        clear h3 hr'
        go_wp2_with fail
        refine (hX.out _ j hR.out).mono ?_
        intro e w4 hP
        rcases hP.two with ⟨p, hq, rfl, hre4⟩ | ⟨x4, j4, v4, hq, rfl, hV, hR4, hre4⟩
        · have hr' := hr.out; rw [hq, Res.bind_bad] at hr'; subst hr'; exact ⟨rfl, rfl, hre.out.trans hre4⟩
        have hr' := hr.out
        rw [hq, Res.bind_ok'] at hr'
        have hj4 := nameR_lt hq
        replace hr := Lib.hid hr'
        clear hr' hP hq
        obtain ⟨rfl, hin⟩ := hV
        have hacc4 := Lib.hid (Acc_re hacc.out hre4 hlo.out.rb)
        have hel4 : Hid (∀ v : Value, KN.In w4 (fun b => w.heap.size ≤ b ∧ v.ownBlock ≠ some b) x4) := Lib.hid fun _ => hin
        have hre5 := hre.out.trans hre4
        have hsz4 := hre5.size
        replace hre5 := Lib.hid hre5
        replace hR4 := Lib.hid hR4
        have hlen4 : acc.length + 1 ≤ j4 := by omega
        clear hre4 hre hR hacc hin
        go_wp2_with (at_builtin; refine wpList_append_V KN rfl (.tmp 11) (.tmp 15) 28 rfl 9 i0 _ 1 16 Tryz.underlying28 hi0 hz0 hz1 hz2 rfl (by decide) rfl KN.one w.heap.size _ acc x4 rfl (hacc4.out.alloc _) (KN.below (Kps.alloc _ _) (hel4.out _)) _ rfl (0, 0) (Tr.blk_new _ _ rfl) ?c1 ?c2 ?c3 ?_)
        case c1 => unfold maxLen; omega
        case c2 => omega
        case c3 => simp; omega
        intro v5 w5 hacc5 hg5
        have hown := fun k hk => (hacc4.out.block k hk).1
        have hR5 := Lib.hid (hR4.out.grown hlo.out hsz4 hg5 hown)
        have hre6 := Lib.hid (hre5.out.grown hg5 hown)
        replace hacc5 := Lib.hid hacc5
        clear hg5 hown hacc4 hel4 hR4 hre5
        go_wp2_with fail
        refine (hP2.out _ _ hR5.out).mono ?_
        rintro e w6 ⟨hre, ⟨hc, rfl, hR⟩ | ⟨hc, rfl, hR⟩⟩
        · have hr' := hr.out
          rw [if_pos hc] at hr'
          subst hr'
          have hv := Lib.hid (accN_out (Acc_re hacc5.out hre hlo.out.rb))
          have hE := Lib.hid (hre6.out.trans hre)
          replace hR := Lib.hid hR
          clear hre hR5 hre6 hacc5 hr
          go_wp2_with fail
          go_ret
          exact ⟨_, rfl, hv.out, hR.out, hE.out⟩
        · have hr' := hr.out
          rw [if_neg hc] at hr'
          replace hr := Lib.hid hr'
          have hacc6 := Lib.hid (Acc_re hacc5.out hre hlo.out.rb)
          have hE := Lib.hid (hre6.out.trans hre)
          replace hR := Lib.hid hR
          clear hre hR5 hre6 hacc5 hr' hc
          go_wp2_with fail
          refine (hT2.out _ _ hR.out).mono ?_
          intro e w7 hP
          rcases hP.two with ⟨p, hq, rfl, hre⟩ | ⟨x7, j7, v7, hq, rfl, hV, hR7, hre⟩
          · have hr' := hr.out; rw [hq, Res.bind_bad] at hr'; subst hr'; exact ⟨rfl, rfl, hE.out.trans hre⟩
          have hr' := hr.out
          rw [hq, Res.bind_ok'] at hr'
          have hj7 := takeR_lt hq
          replace hr := Lib.hid hr'
          clear hr' hP hq
          subst hV
          have hnx7 := hR7.next
          have hjl7 := hR7.lt
          have hacc7 := Lib.hid (Acc_re hacc6.out hre hlo.out.rb)
          have hE7 := Lib.hid (hE.out.trans hre)
          replace hR7 := Lib.hid hR7
          clear hre hE hacc6 hR
          go_wp2_with fail
          go_roundw
          case rel => exact ⟨acc ++ [x4], j7, f, by omega, hr.out, hR7.out, hE7.out, by rw [List.length_append]; simp only [List.length_cons, List.length_nil]; omega, hacc7.out⟩
          case measure => omega
end Go.Proofs.YtpcdlneompnhlaaGreatDoor.Pa
