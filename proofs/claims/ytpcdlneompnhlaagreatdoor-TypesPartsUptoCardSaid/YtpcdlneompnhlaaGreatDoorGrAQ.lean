/- Walk of the reader's method globalDecl. Conditions: the contracts of what it calls. · Walk of the reader's method threadDecl. Conditions: the contracts of what it calls. · Walk of the reader's method funcDecl. Conditions: the contracts of what it calls. · The contract of decl; the walk of program. Conditions: none but the reader's. · Walks of declReaders, stmtReaders: the maps of methods. Conditions: none. -/
import Derived.Test.YtpcdlneompnhlaaGreatDoorGrAP
import Derived.Deep.Cut
import Derived.IntWalk
import Derived.Test.YtpcdlneompnhlaaGreatDoorGrAJ
import Derived.Carry
namespace Go.Proofs.YtpcdlneompnhlaaGreatDoor.Pa
open Go Go.RowKit
open Go.Proofs.YtpcdlneompnhlaaGreatDoor.Lx Go.Proofs.YtpcdlneompnhlaaGreatDoor.Tr

set_option maxHeartbeats 4000000 in
set_option maxRecDepth 100000 in
theorem globalDecl_c {c : Rc} {i : Nat} {w : World} (h : Rd c i w) :
    Calls Tryz.prog 94 #[.pointer (some ⟨c.rb, 0, none⟩)] w (Post c (VD (fun b => w.heap.size ≤ b)) w (globalR c.l i)) := by
  generalize hr : globalR c.l i = r
  have h1 := (Fr.start h).alloc #[.int .u8 0, .string ⟨#[]⟩, .int .i64 0, .slice none 0 0, .slice none 0 0, .int .i64 0] 31
  replace h1 := Lib.hid h1
  have hN := Lib.hid (fun W j (hW : Rd c j W) => name_c hW)
  unfold globalR at hr
  replace hr := Lib.hid hr
  have hT1 := Lib.hid (fun W j (hW : Rd c j W) => take_c hW ⟨#[61]⟩ (by decide))
  have hT3 := Lib.hid (fun W j (hW : Rd c j W) => take_c hW ⟨#[59]⟩ (by decide))
  have hU := Lib.hid (fun W j (hW : Rd c j W) => number_c hW ⟨#[]⟩ (by decide))
  have hM := Lib.hid (fun W j (hW : Rd c j W) => number_c hW ⟨#[45]⟩ (by decide))
  have hPm := Lib.hid (fun W j (hW : Rd c j W) => passes_c hW ⟨#[45]⟩ (by decide))
  clear h
  go_enter Tryz.func94, Tryz.ntmps94
  go_wp2_with fail
  refine (hN.out _ i h1.out.rd).mono ?_
  intro e w2 hP
  rcases hP.two with ⟨p, hq, rfl, hre⟩ | ⟨x2, j2, v2, hq, rfl, hV, hR, hre⟩
  · have hr' := hr.out; rw [hq, Res.bind_bad] at hr'; subst hr'; exact ⟨rfl, rfl, h1.out.re.trans hre⟩
  have hr' := hr.out
  rw [hq, Res.bind_ok'] at hr'
  replace hr := Lib.hid hr'
  clear hr' hP hq
  obtain ⟨rfl, hsz⟩ := hV
  have h2 := h1.out.call hre hR
  clear hre hR h1
  replace h2 := h2.alloc #[.int .u8 1, .string x2, .int .i64 0, .slice none 0 0, .slice none 0 0, .int .i64 0] 31
  replace h2 := Lib.hid h2
  replace hsz := Lib.hid hsz
  go_wp2_with fail
  refine (hT1.out _ _ h2.out.rd).mono ?_
  intro e w3 hP
  rcases hP.two with ⟨p, hq, rfl, hre⟩ | ⟨x3, j3, v3, hq, rfl, hV, hR, hre⟩
  · have hr' := hr.out; rw [hq, Res.bind_bad] at hr'; subst hr'; exact ⟨rfl, rfl, h2.out.re.trans hre⟩
  have hr' := hr.out
  rw [hq, Res.bind_ok'] at hr'
  replace hr := Lib.hid hr'
  clear hr' hP hq
  subst hV
  have h3 := h2.out.call hre hR
  clear hre hR h2
  replace h3 := Lib.hid h3
  go_wp2_with fail
  refine (hPm.out _ _ h3.out.rd).mono ?_
  rintro e w4 ⟨hre, ⟨hc, rfl, hR⟩ | ⟨hc, rfl, hR⟩⟩
  · have hr' := hr.out
    rw [if_pos hc] at hr'
    replace hr := Lib.hid hr'
    clear hr' hc
    have h4 := h3.out.call hre hR
    clear hre hR h3
    replace h4 := Lib.hid h4
    go_wp2_with fail
    refine (hM.out _ _ h4.out.rd).mono ?_
    intro e w5 hP
    rcases hP.two with ⟨p, hq, rfl, hre⟩ | ⟨x5, j5, v5, hq, rfl, hV, hR, hre⟩
    · have hr' := hr.out; rw [hq, Res.bind_bad] at hr'; subst hr'; exact ⟨rfl, rfl, h4.out.re.trans hre⟩
    have hr' := hr.out
    rw [hq, Res.bind_ok'] at hr'
    replace hr := Lib.hid hr'
    clear hr' hP hq
    obtain ⟨rfl, hi5⟩ := hV
    have h5 := h4.out.call hre hR
    clear hre hR h4
    obtain ⟨ce0, ce1, ce2, ce3, ce4, ce5, cz0, cz1, cz2, cz3, cz4, cz5⟩ := cells6 h5.hd
    replace h5 := h5.st6_2 (.int .i64 x5)
    replace hi5 := Lib.hid hi5
    replace h5 := Lib.hid h5
    go_wp2_with fail
    clear ce0 ce1 ce2 ce3 ce4 ce5 cz0 cz1 cz2 cz3 cz4 cz5
    refine (hT3.out _ _ h5.out.rd).mono ?_
    intro e w6 hP
    rcases hP.two with ⟨p, hq, rfl, hre⟩ | ⟨x6, j6, v6, hq, rfl, hV, hR, hre⟩
    · have hr' := hr.out; rw [hq, Res.bind_bad] at hr'; subst hr'; exact ⟨rfl, rfl, h5.out.re.trans hre⟩
    have hr' := hr.out
    rw [hq, Res.bind_ok'] at hr'
    replace hr := Lib.hid hr'
    clear hr' hP hq
    subst hV
    have h6 := h5.out.call hre hR
    clear hre hR h5
    clear hN hT1 hT3 hU hM hPm
    obtain ⟨ce0, ce1, ce2, ce3, ce4, ce5, _, _, _, _, _, _⟩ := cells6 h6.hd
    obtain ⟨cg0, cg1, cg2, cg3, cg4, cg5, cf0, cf1, cf2, cf3, cf4, cf5⟩ := cells6 h6.hd2
    have hf := Lib.hid fun a b cc d e f => h6.swap.set6 a b cc d e f
    clear h6
    replace hr := hr.out
    go_wp2_with fail
    subst hr
    exact bodyPost_ret (v := .agg #[.int .u8 1, .string x2, .int .i64 x5, .slice none 0 0, .slice none 0 0, .int .i64 0]) (results_cell_row Tryz.results94 _ _ w.heap.size _ _ _ _ rfl (hf.out _ _ _ _ _ _).hd Tryz.underlying31 rfl (by kernel_rfl)) rfl ⟨_, rfl, ⟨⟨1, x2, x5, none, 0, [], none, 0, [], 0⟩, rfl, deE_In (by unfold U8; decide) hsz.out hi5.out (by unfold I64; decide) (ns_nil _ _) (by simp) (ts_nil _ _), by unfold da deE; rw [saL_nil]⟩, (hf.out _ _ _ _ _ _).rd, (hf.out _ _ _ _ _ _).re⟩
  · have hr' := hr.out
    rw [if_neg hc] at hr'
    replace hr := Lib.hid hr'
    clear hr' hc
    have h4 := h3.out.call hre hR
    clear hre hR h3
    replace h4 := Lib.hid h4
    go_wp2_with fail
    refine (hU.out _ _ h4.out.rd).mono ?_
    intro e w5 hP
    rcases hP.two with ⟨p, hq, rfl, hre⟩ | ⟨x5, j5, v5, hq, rfl, hV, hR, hre⟩
    · have hr' := hr.out; rw [hq, Res.bind_bad] at hr'; subst hr'; exact ⟨rfl, rfl, h4.out.re.trans hre⟩
    have hr' := hr.out
    rw [hq, Res.bind_ok'] at hr'
    replace hr := Lib.hid hr'
    clear hr' hP hq
    obtain ⟨rfl, hi5⟩ := hV
    have h5 := h4.out.call hre hR
    clear hre hR h4
    obtain ⟨ce0, ce1, ce2, ce3, ce4, ce5, cz0, cz1, cz2, cz3, cz4, cz5⟩ := cells6 h5.hd
    replace h5 := h5.st6_2 (.int .i64 x5)
    replace hi5 := Lib.hid hi5
    replace h5 := Lib.hid h5
    go_wp2_with fail
    clear ce0 ce1 ce2 ce3 ce4 ce5 cz0 cz1 cz2 cz3 cz4 cz5
    refine (hT3.out _ _ h5.out.rd).mono ?_
    intro e w6 hP
    rcases hP.two with ⟨p, hq, rfl, hre⟩ | ⟨x6, j6, v6, hq, rfl, hV, hR, hre⟩
    · have hr' := hr.out; rw [hq, Res.bind_bad] at hr'; subst hr'; exact ⟨rfl, rfl, h5.out.re.trans hre⟩
    have hr' := hr.out
    rw [hq, Res.bind_ok'] at hr'
    replace hr := Lib.hid hr'
    clear hr' hP hq
    subst hV
    have h6 := h5.out.call hre hR
    clear hre hR h5
    clear hN hT1 hT3 hU hM hPm
    obtain ⟨ce0, ce1, ce2, ce3, ce4, ce5, _, _, _, _, _, _⟩ := cells6 h6.hd
    obtain ⟨cg0, cg1, cg2, cg3, cg4, cg5, cf0, cf1, cf2, cf3, cf4, cf5⟩ := cells6 h6.hd2
    have hf := Lib.hid fun a b cc d e f => h6.swap.set6 a b cc d e f
    clear h6
    replace hr := hr.out
    go_wp2_with fail
    subst hr
    exact bodyPost_ret (v := .agg #[.int .u8 1, .string x2, .int .i64 x5, .slice none 0 0, .slice none 0 0, .int .i64 0]) (results_cell_row Tryz.results94 _ _ w.heap.size _ _ _ _ rfl (hf.out _ _ _ _ _ _).hd Tryz.underlying31 rfl (by kernel_rfl)) rfl ⟨_, rfl, ⟨⟨1, x2, x5, none, 0, [], none, 0, [], 0⟩, rfl, deE_In (by unfold U8; decide) hsz.out hi5.out (by unfold I64; decide) (ns_nil _ _) (by simp) (ts_nil _ _), by unfold da deE; rw [saL_nil]⟩, (hf.out _ _ _ _ _ _).rd, (hf.out _ _ _ _ _ _).re⟩
end Go.Proofs.YtpcdlneompnhlaaGreatDoor.Pa

namespace Go.Proofs.YtpcdlneompnhlaaGreatDoor.Pa
open Go Go.RowKit
open Go.Proofs.YtpcdlneompnhlaaGreatDoor.Lx Go.Proofs.YtpcdlneompnhlaaGreatDoor.Tr

set_option maxHeartbeats 4000000 in
set_option maxRecDepth 100000 in
theorem threadDecl_c {c : Rc} {i : Nat} {w : World} (h : Rd c i w) (hm : Mp c w) :
    Calls Tryz.prog 98 #[.pointer (some ⟨c.rb, 0, none⟩)] w (Post c (VD (fun b => w.heap.size ≤ b)) w (threadR c.l i)) := by
  generalize hr : threadR c.l i = r
  have h1 := (Fr.start h).alloc #[.int .u8 0, .string ⟨#[]⟩, .int .i64 0, .slice none 0 0, .slice none 0 0, .int .i64 0] 31
  replace h1 := Lib.hid h1
  have hN := Lib.hid (fun W j (hW : Rd c j W) => name_c hW)
  unfold threadR at hr
  replace hr := Lib.hid hr
  have hBk := Lib.hid (fun W j (hW : Rd c j W) (hE : RE c.rb w W) => block_c (SF c.l) c j W hW (hm.re hE) (by unfold SF; omega))
  clear h hm
  go_enter Tryz.func98, Tryz.ntmps98
  go_wp2_with fail
  refine (hN.out _ i h1.out.rd).mono ?_
  intro e w2 hP
  rcases hP.two with ⟨p, hq, rfl, hre⟩ | ⟨x2, j2, v2, hq, rfl, hV, hR, hre⟩
  · have hr' := hr.out; rw [hq, Res.bind_bad] at hr'; subst hr'; exact ⟨rfl, rfl, h1.out.re.trans hre⟩
  have hr' := hr.out
  rw [hq, Res.bind_ok'] at hr'
  replace hr := Lib.hid hr'
  clear hr' hP hq
  obtain ⟨rfl, hsz⟩ := hV
  have h2 := h1.out.call hre hR
  clear hre hR h1
  replace h2 := h2.alloc #[.int .u8 5, .string x2, .int .i64 0, .slice none 0 0, .slice none 0 0, .int .i64 0] 31
  replace h2 := Lib.hid h2
  replace hsz := Lib.hid hsz
  go_wp2_with fail
  refine (hBk.out _ _ h2.out.rd h2.out.re).mono ?_
  intro e w3 hP
  rcases hP.two with ⟨p, hq, rfl, hre⟩ | ⟨x3, j3, v3, hq, rfl, hV, hR, hre⟩
  · have hr' := hr.out; rw [hq, Res.bind_bad] at hr'; subst hr'; exact ⟨rfl, rfl, h2.out.re.trans hre⟩
  have hr' := hr.out
  rw [hq, Res.bind_ok'] at hr'
  replace hr := Lib.hid hr'
  clear hr' hP hq
  obtain ⟨l3, a3, c3, rfl, hx3, h3⟩ := h2.out.factTs hre hR hV
  replace hx3 := Lib.hid hx3
  clear hV hR hre h2
  obtain ⟨ce0, ce1, ce2, ce3, ce4, ce5, cz0, cz1, cz2, cz3, cz4, cz5⟩ := cells6 h3.hd
  have hz := h3.st6_4 (.slice a3 l3.length c3)
  clear hN hBk
  clear h3
  go_upto_region 3 with fail
  clear ce0 ce1 ce2 ce3 ce4 ce5 cz0 cz1 cz2 cz3 cz4 cz5
  obtain ⟨Wz, hWz⟩ : ∃ W, w3.setCell ⟨w2.heap.size, 4, none⟩ (.slice a3 l3.length c3) = W := ⟨_, rfl⟩
  rw [hWz] at hz ⊢
  clear hWz
  obtain ⟨ce0, ce1, ce2, ce3, ce4, ce5, _, _, _, _, _, _⟩ := cells6 hz.hd
  obtain ⟨cg0, cg1, cg2, cg3, cg4, cg5, cf0, cf1, cf2, cf3, cf4, cf5⟩ := cells6 hz.hd2
  have hf := Lib.hid fun a b cc d e f => hz.swap.set6 a b cc d e f
  clear hz
  replace hr := hr.out
  go_wp2_with fail
  subst hr
  exact bodyPost_ret (v := .agg #[.int .u8 5, .string x2, .int .i64 0, .slice none 0 0, .slice a3 l3.length c3, .int .i64 0]) (results_cell_row Tryz.results98 _ _ w.heap.size _ _ _ _ rfl (hf.out _ _ _ _ _ _).hd Tryz.underlying31 rfl (by kernel_rfl)) rfl ⟨_, rfl, ⟨⟨5, x2, 0, none, 0, [], a3, c3, l3, 0⟩, rfl, deE_In (by unfold U8; decide) hsz.out (by unfold I64; decide) (by unfold I64; decide) (ns_nil _ _) (by simp) ((hf.out _ _ _ _ _ _).fct (by simp)), by unfold da deE; rw [← hx3.out]⟩, (hf.out _ _ _ _ _ _).rd, (hf.out _ _ _ _ _ _).re⟩
end Go.Proofs.YtpcdlneompnhlaaGreatDoor.Pa

namespace Go.Proofs.YtpcdlneompnhlaaGreatDoor.Pa
open Go Go.RowKit
open Go.Proofs.YtpcdlneompnhlaaGreatDoor.Lx Go.Proofs.YtpcdlneompnhlaaGreatDoor.Tr

set_option maxHeartbeats 4000000 in
set_option maxRecDepth 100000 in
theorem funcDecl_c {c : Rc} {i : Nat} {w : World} (h : Rd c i w) (hm : Mp c w) :
    Calls Tryz.prog 97 #[.pointer (some ⟨c.rb, 0, none⟩)] w (Post c (VD (fun b => w.heap.size ≤ b)) w (funcR c.l i)) := by
  generalize hr : funcR c.l i = r
  have h1 := (Fr.start h).alloc #[.int .u8 0, .string ⟨#[]⟩, .int .i64 0, .slice none 0 0, .slice none 0 0, .int .i64 0] 31
  replace h1 := Lib.hid h1
  have hN := Lib.hid (fun W j (hW : Rd c j W) => name_c hW)
  unfold funcR at hr
  replace hr := Lib.hid hr
  have hBk := Lib.hid (fun W j (hW : Rd c j W) (hE : RE c.rb w W) => block_c (SF c.l) c j W hW (hm.re hE) (by unfold SF; omega))
  have hLn := Lib.hid (fun W j (hW : Rd c j W) => listN_c c j W hW)
  clear h hm
  go_enter Tryz.func97, Tryz.ntmps97
  go_wp2_with fail
  refine (hN.out _ i h1.out.rd).mono ?_
  intro e w2 hP
  rcases hP.two with ⟨p, hq, rfl, hre⟩ | ⟨x2, j2, v2, hq, rfl, hV, hR, hre⟩
  · have hr' := hr.out; rw [hq, Res.bind_bad] at hr'; subst hr'; exact ⟨rfl, rfl, h1.out.re.trans hre⟩
  have hr' := hr.out
  rw [hq, Res.bind_ok'] at hr'
  replace hr := Lib.hid hr'
  clear hr' hP hq
  obtain ⟨rfl, hsz⟩ := hV
  have h2 := h1.out.call hre hR
  clear hre hR h1
  replace h2 := h2.alloc #[.int .u8 4, .string x2, .int .i64 0, .slice none 0 0, .slice none 0 0, .int .i64 0] 31
  replace h2 := Lib.hid h2
  replace hsz := Lib.hid hsz
  go_wp2_with fail
  refine (hLn.out _ _ h2.out.rd).mono ?_
  intro e w3 hP
  rcases hP.two with ⟨p, hq, rfl, hre⟩ | ⟨x3, j3, v3, hq, rfl, hV, hR, hre⟩
  · have hr' := hr.out; rw [hq, Res.bind_bad] at hr'; subst hr'; exact ⟨rfl, rfl, h2.out.re.trans hre⟩
  have hr' := hr.out
  rw [hq, Res.bind_ok'] at hr'
  replace hr := Lib.hid hr'
  clear hr' hP hq
  obtain ⟨a3, c3, rfl, hps, h3⟩ := h2.out.factN hre hR hV
  replace hps := Lib.hid hps
  clear hV hR hre h2
  obtain ⟨ce0, ce1, ce2, ce3, ce4, ce5, cz0, cz1, cz2, cz3, cz4, cz5⟩ := cells6 h3.hd
  replace h3 := h3.st6_3 (.slice a3 x3.length c3)
  replace h3 := Lib.hid h3
  go_wp2_with fail
  clear ce0 ce1 ce2 ce3 ce4 ce5 cz0 cz1 cz2 cz3 cz4 cz5
  refine (hBk.out _ _ h3.out.rd h3.out.re).mono ?_
  intro e w4 hP
  rcases hP.two with ⟨p, hq, rfl, hre⟩ | ⟨x4, j4, v4, hq, rfl, hV, hR, hre⟩
  · have hr' := hr.out; rw [hq, Res.bind_bad] at hr'; subst hr'; exact ⟨rfl, rfl, h3.out.re.trans hre⟩
  have hr' := hr.out
  rw [hq, Res.bind_ok'] at hr'
  replace hr := Lib.hid hr'
  clear hr' hP hq
  obtain ⟨l4, a4, c4, rfl, hx4, h4⟩ := h3.out.factTs hre hR hV
  replace hx4 := Lib.hid hx4
  clear hV hR hre h3
  obtain ⟨ce0, ce1, ce2, ce3, ce4, ce5, cz0, cz1, cz2, cz3, cz4, cz5⟩ := cells6 h4.hd
  have hz := h4.st6_4 (.slice a4 l4.length c4)
  clear hN hBk hLn
  clear h4
  go_upto_region 4 with fail
  clear ce0 ce1 ce2 ce3 ce4 ce5 cz0 cz1 cz2 cz3 cz4 cz5
  obtain ⟨Wz, hWz⟩ : ∃ W, w4.setCell ⟨w2.heap.size, 4, none⟩ (.slice a4 l4.length c4) = W := ⟨_, rfl⟩
  rw [hWz] at hz ⊢
  clear hWz
  obtain ⟨ce0, ce1, ce2, ce3, ce4, ce5, _, _, _, _, _, _⟩ := cells6 hz.hd
  obtain ⟨cg0, cg1, cg2, cg3, cg4, cg5, cf0, cf1, cf2, cf3, cf4, cf5⟩ := cells6 hz.hd2
  have hf := Lib.hid fun a b cc d e f => hz.swap.set6 a b cc d e f
  clear hz
  replace hr := hr.out
  go_wp2_with fail
  subst hr
  exact bodyPost_ret (v := .agg #[.int .u8 4, .string x2, .int .i64 0, .slice a3 x3.length c3, .slice a4 l4.length c4, .int .i64 0]) (results_cell_row Tryz.results97 _ _ w.heap.size _ _ _ _ rfl (hf.out _ _ _ _ _ _).hd Tryz.underlying31 rfl (by kernel_rfl)) rfl ⟨_, rfl, ⟨⟨4, x2, 0, a3, c3, x3, a4, c4, l4, 0⟩, rfl, deE_In (by unfold U8; decide) hsz.out (by unfold I64; decide) (by unfold I64; decide) ((hf.out _ _ _ _ _ _).fct (by simp)) hps.out ((hf.out _ _ _ _ _ _).fct (by simp)), by unfold da deE; rw [← hx4.out]⟩, (hf.out _ _ _ _ _ _).rd, (hf.out _ _ _ _ _ _).re⟩
end Go.Proofs.YtpcdlneompnhlaaGreatDoor.Pa

namespace Go.Proofs.YtpcdlneompnhlaaGreatDoor.Pa
open Go Go.RowKit
open Go.Proofs.YtpcdlneompnhlaaGreatDoor.Lx Go.Proofs.YtpcdlneompnhlaaGreatDoor.Tr

theorem decl_c {c : Rc} {i : Nat} {w : World} (h : Rd c i w) (hm : Mp c w) : Calls Tryz.prog 106 #[.pointer (some ⟨c.rb, 0, none⟩)] w (Post c (VD (fun b => w.heap.size ≤ b)) w (declR c.l i)) := by
  rw [declR_eq]
  by_cases h1 : tx c.l i = wGlobal
  · rw [if_pos h1]
    exact decl_global h hm (h.more' h1 (by decide)) _ (by rw [h1]; rfl) fun W hW _ => globalDecl_c hW
  rw [if_neg h1]
  by_cases h2 : tx c.l i = wArray
  · rw [if_pos h2]
    exact decl_array h hm (h.more' h2 (by decide)) _ (by rw [h2]; rfl) fun W hW _ => arrayDecl_c hW
  rw [if_neg h2]
  by_cases h3 : tx c.l i = wLock
  · rw [if_pos h3]
    exact decl_lock h hm (h.more' h3 (by decide)) _ (by rw [h3]; rfl) fun W hW _ => lockDecl_c hW
  rw [if_neg h3]
  by_cases h4 : tx c.l i = wFunc
  · rw [if_pos h4]
    exact decl_func h hm (h.more' h4 (by decide)) _ (by rw [h4]; rfl) fun W hW hE => funcDecl_c hW (hm.re hE)
  rw [if_neg h4]
  by_cases h5 : tx c.l i = wThread
  · rw [if_pos h5]
    exact decl_thread h hm (h.more' h5 (by decide)) _ (by rw [h5]; rfl) fun W hW hE => threadDecl_c hW (hm.re hE)
  rw [if_neg h5]
  exact decl_none h hm (by
    unfold wordsD
    simp only [findW]
    rw [if_neg (Ne.symm h1), if_neg (Ne.symm h2), if_neg (Ne.symm h3), if_neg (Ne.symm h4), if_neg (Ne.symm h5)])
set_option maxHeartbeats 4000000 in
set_option maxRecDepth 100000 in
theorem program_c {c : Rc} {i : Nat} {w : World} (h : Rd c i w) (hm : Mp c w) : Calls Tryz.prog 62 #[.pointer (some ⟨c.rb, 0, none⟩)] w (Post c (VDs (fun b => w.heap.size ≤ b)) w (declsR c.l (c.l.length + 1) [] i)) := by
  generalize hr : declsR c.l (c.l.length + 1) [] i = r
  have hlo := h.low
  have h1 := Fr.start h
  have hX := Lib.hid (fun W j (hW : Rd c j W) (hE : RE c.rb w W) => decl_c hW (hm.re hE))
  obtain ⟨i0, hi0, hz0, hz1, hz2⟩ := info_parts info_de
  replace hlo := Lib.hid hlo
  clear h hm
  go_enter Tryz.func62, Tryz.ntmps62
  go_wp2_with fail
  go_loopw [3] (fun v wr => ∃ (acc : List De) (j f : Nat), c.l.length - j < f ∧ declsR c.l f (acc.map da) j = r ∧ Rd c j wr ∧ RE c.rb w wr ∧ acc.length ≤ j ∧ Acc KDe 31 w.heap.size wr v acc)
    (fun _ wr => c.l.length - nextOf c.rb wr)
  case atStart => exact ⟨[], i, c.l.length + 1, by omega, hr, h1.rd, h1.re, Nat.zero_le _, Acc.nil _ _ _ _⟩
  case round =>
    obtain ⟨acc, j, f, hf, hr2, hR, hre, hlen, hacc⟩ := hrel
    clear hr h1
    cases f with
    | zero => omega
    | succ f =>
      unfold declsR at hr2
      have hnx := hR.next
      have hjl := hR.lt
      have hlim := hR.lim
      have c0 : wr.cell? ⟨c.rb, 0, none⟩ = some (.slice c.ta c.l.length c.cap) := blk_cell hR.blk rfl
      have c1 : wr.cell? ⟨c.rb, 1, none⟩ = some (.int .i64 j) := blk_cell hR.blk rfl
      have hw1 : IntKind.i64.wrap ((c.l.length : Int) - 1) = (c.l.length : Int) - 1 := IntWalk.i64_in _ (by omega)
      by_cases hlt : j + 1 < c.l.length
      · rw [if_pos hlt] at hr2
        have hdec : decide ((j : Int) < (c.l.length : Int) - 1) = true := by rw [decide_eq_true_eq]; omega
        have hr := Lib.hid hr2
        have hsz0 := hre.size
        replace hacc := Lib.hid hacc
        replace hre := Lib.hid hre
        replace hR := Lib.hid hR
        have hlt' := Lib.hid hlt
        clear hr2 hlt
        replace hnx := Lib.hid hnx
        go_wp2_with fail
        go_quiet (fail)
        clear hw1 hdec c0 c1
        have hsz0 := Lib.hid hsz0
        have hR1 := Lib.hid (hR.out.drewN nq)
        have hre1 := Lib.hid (hre.out.trans (RE.drewN wr nq))
        have hacc1 := Lib.hid (Acc_re hacc.out (RE.drewN (rb := c.rb) wr nq) hlo.out.rb)
        obtain ⟨W1, hW1⟩ : ∃ W, wr.drewN nq = W := ⟨_, rfl⟩
        rw [hW1] at hR1 hre1 hacc1 ⊢
        clear hW1 hR hre hacc
        go_wp2_with fail
        refine (hX.out _ j hR1.out hre1.out).mono ?_
        intro e w4 hP
        rcases hP.two with ⟨p, hq, rfl, hre4⟩ | ⟨x4, j4, v4, hq, rfl, hV, hR4, hre4⟩
        · have hr' := hr.out; rw [hq, Res.bind_bad] at hr'; subst hr'; exact ⟨rfl, rfl, hre1.out.trans hre4⟩
        have hr' := hr.out
        rw [hq, Res.bind_ok'] at hr'
        have hj4 := declR_lt hq
        clear hP hq hr
        obtain ⟨ex, rfl, hin, rfl⟩ := hV
        have hacc4 := Lib.hid (Acc_re hacc1.out hre4 hlo.out.rb)
        have hel4 := Lib.hid (Acc.fresh (K := KDe) hacc1.out hre1.out.size hin)
        rw [show acc.map da ++ [da ex] = (acc ++ [ex]).map da by rw [List.map_append]; rfl] at hr'
        have hr := Lib.hid hr'
        have hjl4 := hR4.lt
        obtain ⟨k1, n1, y1, pa1, pc1, p1, ba1, bc1, b1, q1⟩ := ex
        have hB : (⟨(De.mk k1 n1 y1 pa1 pc1 p1 ba1 bc1 b1 q1).vals⟩ : Array Value) = #[.int .u8 k1, .string n1, .int .i64 y1, .slice pa1 p1.length pc1, .slice ba1 b1.length bc1, .int .i64 q1] := rfl
        rw [hB]
        have hE4 := hre1.out.trans hre4
        have hsz4 := hE4.size
        replace hE4 := Lib.hid hE4
        replace hR4 := Lib.hid hR4
        clear hB hre4 hre1 hR1 hacc1 hin hr' hsz0
        go_wp2_with (at_builtin; refine wpList_append_K KDe rfl (.tmp 15) (.tmp 18) (.tmp 17) 22 rfl 31 i0 _ 6 88 Tryz.underlying22 hi0 hz0 hz1 hz2 rfl (by decide) rfl De.vals_one w.heap.size _ acc (De.mk k1 n1 y1 pa1 pc1 p1 ba1 bc1 b1 q1) rfl (hacc4.out.alloc _) (KDe.below (Kps.alloc _ _) hel4.out) _ rfl rfl (0, 0) (Tr.blk_new _ _ rfl) ?c1 ?c2 ?c3 ?_)
        case c1 => unfold maxLen; omega
        case c2 => omega
        case c3 => simp; omega
        intro v5 w5 hacc5 hg5
        have hown := fun k hk => (hacc4.out.block k hk).1
        have hR5 := hR4.out.grown hlo.out hsz4 hg5 hown
        have hE5 := Lib.hid (hE4.out.grown hg5 hown)
        have hnx5 := hR5.next
        replace hR5 := Lib.hid hR5
        replace hacc5 := Lib.hid hacc5
        clear hg5 hown hacc4 hel4 hR4 hE4
        go_wp2_with fail
        go_roundw
        case rel => exact ⟨acc ++ [De.mk k1 n1 y1 pa1 pc1 p1 ba1 bc1 b1 q1], j4, f, by omega, hr.out, hR5.out, hE5.out, by rw [List.length_append]; simp only [List.length_cons, List.length_nil]; omega, hacc5.out⟩
        case measure => have := hnx.out; omega
      · rw [if_neg hlt] at hr2
        have hdec : decide ((j : Int) < (c.l.length : Int) - 1) = false := by rw [decide_eq_false_iff_not]; omega
        subst hr2
        replace hacc := Lib.hid hacc
        replace hre := Lib.hid hre
        replace hR := Lib.hid hR
        clear hlt hnx
        go_wp2_with fail
        go_quiet (fail)
        clear hw1 hdec c0 c1
        have hR1 := Lib.hid (hR.out.drewN nq)
        have hre1 := Lib.hid (hre.out.trans (RE.drewN wr nq))
        have hv1 := Lib.hid (accD_out (Acc_re hacc.out (RE.drewN (rb := c.rb) wr nq) hlo.out.rb))
        clear hR hre hacc
        go_wp2_with fail
        go_ret
        exact ⟨_, rfl, hv1.out, hR1.out, hre1.out⟩
end Go.Proofs.YtpcdlneompnhlaaGreatDoor.Pa

namespace Go.Proofs.YtpcdlneompnhlaaGreatDoor.Pa
open Go Go.RowKit
open Go.Proofs.YtpcdlneompnhlaaGreatDoor.Lx Go.Proofs.YtpcdlneompnhlaaGreatDoor.Tr
open Go.WideMaps (string_law keyOf_string_mk)
open Go.WideShapes Go.MapKept

theorem entries_snoc (L : List (ByteArray × Nat)) (s : ByteArray) (F : Nat) : entries (L ++ [(s, F)]) = entries L ++ [⟨.string s, .func (.func F) #[] #[], L.length⟩] := by
  unfold entries
  rw [List.zipIdx_append, List.map_append]
  simp
theorem map_up {P : Program} {V : World} {t k e : TypeId} {b B : Nat} (L : List (ByteArray × Nat)) (hk : P.underlying k = some .string) (ht : P.underlying t = some (.map k e)) (hb : V.heap[b]? = some (.map ⟨entries L⟩ L.length)) (hL : ∀ x ∈ L, x.1.size ≤ maxLen) (hB : B ≤ b) (s : ByteArray) (hs : s.size ≤ maxLen) (hn : ∀ x ∈ L, x.1 ≠ s) (F : Nat) :
    ∃ V', (Instr.mapUpdate t (.map (some b)) (.string s) (.func (.func F) #[] #[])).run P V = .ok () V' ∧ V'.heap[b]? = some (.map ⟨entries (L ++ [(s, F)])⟩ (L ++ [(s, F)]).length) ∧ Below B V V' := by
  have K := string_law hk
  have hkey := keyOf_string_mk hk hs
  have hF : ∀ e ∈ entries L, ∃ l, keyOf P k e.key = some l := fun e he => by
    obtain ⟨x, hx, h1, _⟩ := mem_entries he
    rw [h1]
    exact ⟨_, keyOf_string_mk hk (hL x hx)⟩
  rcases K.find V hkey (entries L) hF with ⟨h1, h2⟩ | ⟨j, e0, h1, h2, h3⟩
  · refine ⟨{ V with heap := V.heap.setIfInBounds b (.map (Array.push ⟨entries L⟩ ⟨.string s, .func (.func F) #[] #[], L.length⟩) (L.length + 1)) }, ?_, ?_, ?_⟩
    · simp [Instr.mapUpdate, run_underlying ht, MapKept.run_getObj_map hb, K.check V false hkey, h1, MapKept.run_setObj_map _ hb, Result.andThen]
    · rw [(MapKept.heap_set hb).1, entries_snoc]
      simp
    · exact ⟨rfl, rfl, rfl, by simp, fun q hq => (MapKept.heap_set hb).2 q (by omega)⟩
  · exfalso
    obtain ⟨x, hx, hx1, _⟩ := mem_entries (List.mem_of_getElem? h2)
    rw [hx1] at h3
    cases h3
    exact hn x hx rfl

set_option maxHeartbeats 4000000 in
set_option maxRecDepth 100000 in
theorem declReaders_c (w : World) : Calls Tryz.prog 60 #[] w fun e w' => e = .returned (.map (some w.heap.size)) ∧ (∃ k, w'.heap[w.heap.size]? = some (.map ⟨entries wordsD⟩ k)) ∧ Below w.heap.size w w' := by
  have hmk := run_makeMap (P := Tryz.prog) 87 w
  have hb0 : Below w.heap.size w (w.alloc (.map #[] 0)) := (Below.refl _ _).alloc (Nat.le_refl _) _
  have h0 : (w.alloc (.map #[] 0)).heap[w.heap.size]? = some (.map ⟨entries []⟩ ([] : List (ByteArray × Nat)).length) := World.alloc_heap_new w _
  obtain ⟨W1, e1, h1, hb1⟩ := map_up (P := Tryz.prog) (t := 87) (k := 9) (e := 131) [] (by kernel_rfl) (by kernel_rfl) h0 (by unfold maxLen; decide) (Nat.le_refl _) wGlobal (by unfold maxLen; decide) (by decide) 94
  replace e1 : (Instr.mapUpdate 87 (.map (some w.heap.size)) (.string ⟨#[103, 108, 111, 98, 97, 108]⟩) (.func (.func 94) #[] #[])).run Tryz.prog _ = .ok () W1 := e1
  replace h1 : W1.heap[w.heap.size]? = some (.map ⟨entries [(wGlobal, 94)]⟩ 1) := h1
  obtain ⟨W2, e2, h2, hb2⟩ := map_up (P := Tryz.prog) (t := 87) (k := 9) (e := 131) [(wGlobal, 94)] (by kernel_rfl) (by kernel_rfl) h1 (by unfold maxLen; decide) (Nat.le_refl _) wArray (by unfold maxLen; decide) (by decide) 95
  replace e2 : (Instr.mapUpdate 87 (.map (some w.heap.size)) (.string ⟨#[97, 114, 114, 97, 121]⟩) (.func (.func 95) #[] #[])).run Tryz.prog _ = .ok () W2 := e2
  replace h2 : W2.heap[w.heap.size]? = some (.map ⟨entries [(wGlobal, 94), (wArray, 95)]⟩ 2) := h2
  obtain ⟨W3, e3, h3, hb3⟩ := map_up (P := Tryz.prog) (t := 87) (k := 9) (e := 131) [(wGlobal, 94), (wArray, 95)] (by kernel_rfl) (by kernel_rfl) h2 (by unfold maxLen; decide) (Nat.le_refl _) wLock (by unfold maxLen; decide) (by decide) 96
  replace e3 : (Instr.mapUpdate 87 (.map (some w.heap.size)) (.string ⟨#[108, 111, 99, 107]⟩) (.func (.func 96) #[] #[])).run Tryz.prog _ = .ok () W3 := e3
  replace h3 : W3.heap[w.heap.size]? = some (.map ⟨entries [(wGlobal, 94), (wArray, 95), (wLock, 96)]⟩ 3) := h3
  obtain ⟨W4, e4, h4, hb4⟩ := map_up (P := Tryz.prog) (t := 87) (k := 9) (e := 131) [(wGlobal, 94), (wArray, 95), (wLock, 96)] (by kernel_rfl) (by kernel_rfl) h3 (by unfold maxLen; decide) (Nat.le_refl _) wFunc (by unfold maxLen; decide) (by decide) 97
  replace e4 : (Instr.mapUpdate 87 (.map (some w.heap.size)) (.string ⟨#[102, 117, 110, 99]⟩) (.func (.func 97) #[] #[])).run Tryz.prog _ = .ok () W4 := e4
  replace h4 : W4.heap[w.heap.size]? = some (.map ⟨entries [(wGlobal, 94), (wArray, 95), (wLock, 96), (wFunc, 97)]⟩ 4) := h4
  obtain ⟨W5, e5, h5, hb5⟩ := map_up (P := Tryz.prog) (t := 87) (k := 9) (e := 131) [(wGlobal, 94), (wArray, 95), (wLock, 96), (wFunc, 97)] (by kernel_rfl) (by kernel_rfl) h4 (by unfold maxLen; decide) (Nat.le_refl _) wThread (by unfold maxLen; decide) (by decide) 98
  replace e5 : (Instr.mapUpdate 87 (.map (some w.heap.size)) (.string ⟨#[116, 104, 114, 101, 97, 100]⟩) (.func (.func 98) #[] #[])).run Tryz.prog _ = .ok () W5 := e5
  replace h5 : W5.heap[w.heap.size]? = some (.map ⟨entries [(wGlobal, 94), (wArray, 95), (wLock, 96), (wFunc, 97), (wThread, 98)]⟩ 5) := h5
  have hfin := Lib.hid (⟨⟨_, h5⟩, (((((hb0.trans hb1).trans hb2).trans hb3).trans hb4).trans hb5)⟩ : (∃ k, W5.heap[w.heap.size]? = some (.map ⟨entries wordsD⟩ k)) ∧ Below w.heap.size w W5)
  clear h0 hb0 h1 hb1 h2 hb2 h3 hb3 h4 hb4 h5 hb5
  go_enter Tryz.func60, Tryz.ntmps60
  go_wp2_with fail
  go_ret
  exact ⟨rfl, hfin.out⟩
set_option maxHeartbeats 4000000 in
set_option maxRecDepth 100000 in
theorem stmtReaders_c (w : World) : Calls Tryz.prog 61 #[] w fun e w' => e = .returned (.map (some w.heap.size)) ∧ (∃ k, w'.heap[w.heap.size]? = some (.map ⟨entries wordsS⟩ k)) ∧ Below w.heap.size w w' := by
  have hmk := run_makeMap (P := Tryz.prog) 89 w
  have hb0 : Below w.heap.size w (w.alloc (.map #[] 0)) := (Below.refl _ _).alloc (Nat.le_refl _) _
  have h0 : (w.alloc (.map #[] 0)).heap[w.heap.size]? = some (.map ⟨entries []⟩ ([] : List (ByteArray × Nat)).length) := World.alloc_heap_new w _
  obtain ⟨W1, e1, h1, hb1⟩ := map_up (P := Tryz.prog) (t := 89) (k := 9) (e := 132) [] (by kernel_rfl) (by kernel_rfl) h0 (by unfold maxLen; decide) (Nat.le_refl _) wVar (by unfold maxLen; decide) (by decide) 99
  replace e1 : (Instr.mapUpdate 89 (.map (some w.heap.size)) (.string ⟨#[118, 97, 114]⟩) (.func (.func 99) #[] #[])).run Tryz.prog _ = .ok () W1 := e1
  replace h1 : W1.heap[w.heap.size]? = some (.map ⟨entries [(wVar, 99)]⟩ 1) := h1
  obtain ⟨W2, e2, h2, hb2⟩ := map_up (P := Tryz.prog) (t := 89) (k := 9) (e := 132) [(wVar, 99)] (by kernel_rfl) (by kernel_rfl) h1 (by unfold maxLen; decide) (Nat.le_refl _) wIf (by unfold maxLen; decide) (by decide) 100
  replace e2 : (Instr.mapUpdate 89 (.map (some w.heap.size)) (.string ⟨#[105, 102]⟩) (.func (.func 100) #[] #[])).run Tryz.prog _ = .ok () W2 := e2
  replace h2 : W2.heap[w.heap.size]? = some (.map ⟨entries [(wVar, 99), (wIf, 100)]⟩ 2) := h2
  obtain ⟨W3, e3, h3, hb3⟩ := map_up (P := Tryz.prog) (t := 89) (k := 9) (e := 132) [(wVar, 99), (wIf, 100)] (by kernel_rfl) (by kernel_rfl) h2 (by unfold maxLen; decide) (Nat.le_refl _) wWhile (by unfold maxLen; decide) (by decide) 101
  replace e3 : (Instr.mapUpdate 89 (.map (some w.heap.size)) (.string ⟨#[119, 104, 105, 108, 101]⟩) (.func (.func 101) #[] #[])).run Tryz.prog _ = .ok () W3 := e3
  replace h3 : W3.heap[w.heap.size]? = some (.map ⟨entries [(wVar, 99), (wIf, 100), (wWhile, 101)]⟩ 3) := h3
  obtain ⟨W4, e4, h4, hb4⟩ := map_up (P := Tryz.prog) (t := 89) (k := 9) (e := 132) [(wVar, 99), (wIf, 100), (wWhile, 101)] (by kernel_rfl) (by kernel_rfl) h3 (by unfold maxLen; decide) (Nat.le_refl _) wWith (by unfold maxLen; decide) (by decide) 102
  replace e4 : (Instr.mapUpdate 89 (.map (some w.heap.size)) (.string ⟨#[119, 105, 116, 104]⟩) (.func (.func 102) #[] #[])).run Tryz.prog _ = .ok () W4 := e4
  replace h4 : W4.heap[w.heap.size]? = some (.map ⟨entries [(wVar, 99), (wIf, 100), (wWhile, 101), (wWith, 102)]⟩ 4) := h4
  obtain ⟨W5, e5, h5, hb5⟩ := map_up (P := Tryz.prog) (t := 89) (k := 9) (e := 132) [(wVar, 99), (wIf, 100), (wWhile, 101), (wWith, 102)] (by kernel_rfl) (by kernel_rfl) h4 (by unfold maxLen; decide) (Nat.le_refl _) wPrint (by unfold maxLen; decide) (by decide) 103
  replace e5 : (Instr.mapUpdate 89 (.map (some w.heap.size)) (.string ⟨#[112, 114, 105, 110, 116]⟩) (.func (.func 103) #[] #[])).run Tryz.prog _ = .ok () W5 := e5
  replace h5 : W5.heap[w.heap.size]? = some (.map ⟨entries [(wVar, 99), (wIf, 100), (wWhile, 101), (wWith, 102), (wPrint, 103)]⟩ 5) := h5
  obtain ⟨W6, e6, h6, hb6⟩ := map_up (P := Tryz.prog) (t := 89) (k := 9) (e := 132) [(wVar, 99), (wIf, 100), (wWhile, 101), (wWith, 102), (wPrint, 103)] (by kernel_rfl) (by kernel_rfl) h5 (by unfold maxLen; decide) (Nat.le_refl _) wCall (by unfold maxLen; decide) (by decide) 104
  replace e6 : (Instr.mapUpdate 89 (.map (some w.heap.size)) (.string ⟨#[99, 97, 108, 108]⟩) (.func (.func 104) #[] #[])).run Tryz.prog _ = .ok () W6 := e6
  replace h6 : W6.heap[w.heap.size]? = some (.map ⟨entries [(wVar, 99), (wIf, 100), (wWhile, 101), (wWith, 102), (wPrint, 103), (wCall, 104)]⟩ 6) := h6
  obtain ⟨W7, e7, h7, hb7⟩ := map_up (P := Tryz.prog) (t := 89) (k := 9) (e := 132) [(wVar, 99), (wIf, 100), (wWhile, 101), (wWith, 102), (wPrint, 103), (wCall, 104)] (by kernel_rfl) (by kernel_rfl) h6 (by unfold maxLen; decide) (Nat.le_refl _) wReturn (by unfold maxLen; decide) (by decide) 105
  replace e7 : (Instr.mapUpdate 89 (.map (some w.heap.size)) (.string ⟨#[114, 101, 116, 117, 114, 110]⟩) (.func (.func 105) #[] #[])).run Tryz.prog _ = .ok () W7 := e7
  replace h7 : W7.heap[w.heap.size]? = some (.map ⟨entries [(wVar, 99), (wIf, 100), (wWhile, 101), (wWith, 102), (wPrint, 103), (wCall, 104), (wReturn, 105)]⟩ 7) := h7
  have hfin := Lib.hid (⟨⟨_, h7⟩, (((((((hb0.trans hb1).trans hb2).trans hb3).trans hb4).trans hb5).trans hb6).trans hb7)⟩ : (∃ k, W7.heap[w.heap.size]? = some (.map ⟨entries wordsS⟩ k)) ∧ Below w.heap.size w W7)
  clear h0 hb0 h1 hb1 h2 hb2 h3 hb3 h4 hb4 h5 hb5 h6 hb6 h7 hb7
  go_enter Tryz.func61, Tryz.ntmps61
  go_wp2_with fail
  go_ret
  exact ⟨rfl, hfin.out⟩
end Go.Proofs.YtpcdlneompnhlaaGreatDoor.Pa
