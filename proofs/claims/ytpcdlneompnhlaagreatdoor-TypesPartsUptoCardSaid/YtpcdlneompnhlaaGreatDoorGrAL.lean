/- Walk of the reader's method becomes, of the Kind 1. Conditions: the contracts of what it calls. · Walk of the reader's method varStmt. Conditions: the contracts of what it calls. · Walk of the reader's method becomes, of the Kind 2. Conditions: the contracts of what it calls. · Walk of the reader's method nameStmt. Conditions: the contracts of what it calls. · Walk of the reader's method expr. Conditions: the contract of joined. -/
import Derived.Test.YtpcdlneompnhlaaGreatDoorGrAK
import Derived.Test.YtpcdlneompnhlaaGreatDoorPaJ
namespace Go.Proofs.YtpcdlneompnhlaaGreatDoor.Pa
open Go Go.RowKit
open Go.Proofs.YtpcdlneompnhlaaGreatDoor.Lx Go.Proofs.YtpcdlneompnhlaaGreatDoor.Tr

set_option maxHeartbeats 4000000 in
set_option maxRecDepth 100000 in
theorem becomes1_c (hE : XE) (hL : XL) {c : Rc} {i : Nat} {w : World} (h : Rd c i w) (nm : ByteArray) (hnm : nm.size ≤ maxLen) :
    Calls Tryz.prog 148 #[.pointer (some ⟨c.rb, 0, none⟩), .int .u8 1, .string nm] w (Post c (VT (fun b => w.heap.size ≤ b)) w (becomesR c.l 1 nm i)) := by
  generalize hr : becomesR c.l 1 nm i = r
  have h1 := (Fr.start h).alloc #[.int .u8 0, .string ⟨#[]⟩, .string ⟨#[]⟩, .bool false, .slice none 0 0, .slice none 0 0, .slice none 0 0, .int .i64 0] 60
  replace h1 := Lib.hid h1
  have hX := Lib.hid (fun W j (hW : Rd c j W) => hE c j W hW)
  have hT := Lib.hid (fun W j (hW : Rd c j W) => take_c hW ⟨#[59]⟩ (by decide))
  have hQ := Lib.hid (fun W j (hW : Rd c j W) => take_c hW ⟨#[61]⟩ (by decide))
  have hC := Lib.hid (fun W j (hW : Rd c j W) => passes_c hW ⟨#[99, 97, 108, 108]⟩ (by decide))
  have hK := Lib.hid (fun W j (hW : Rd c j W) => callStmt_c hL hW)
  replace hnm := Lib.hid hnm
  unfold becomesR at hr
  replace hr := Lib.hid hr
  clear h hE hL
  go_enter Tryz.func148, Tryz.ntmps148
  go_wp2_with fail
  refine (hQ.out _ i h1.out.rd).mono ?_
  intro e w2 hP
  rcases hP.two with ⟨p, hq, rfl, hre⟩ | ⟨x2, j2, v2, hq, rfl, hV, hR, hre⟩
  · have hr' := hr.out; rw [hq, Res.bind_bad] at hr'; subst hr'; exact ⟨rfl, rfl, h1.out.re.trans hre⟩
  have hr' := hr.out
  rw [hq, Res.bind_ok'] at hr'
  replace hr := Lib.hid hr'
  clear hr' hP hq
  subst hV
  have h2 := h1.out.call hre hR
  clear hre hR h1
  replace h2 := Lib.hid h2
  go_wp2_with fail
  refine (hC.out _ _ h2.out.rd).mono ?_
  rintro e w3 ⟨hre, ⟨hc, rfl, hR⟩ | ⟨hc, rfl, hR⟩⟩
  · have hr' := hr.out
    rw [if_pos hc] at hr'
    replace hr := Lib.hid hr'
    clear hr' hc
    have h3 := h2.out.call hre hR
    clear hre hR h2
    replace h3 := Lib.hid h3
    go_wp2_with fail
    refine (hK.out _ _ h3.out.rd).mono ?_
    intro e w4 hP
    rcases hP.two with ⟨p, hq, rfl, hre⟩ | ⟨x4, j4, v4, hq, rfl, hV, hR, hre⟩
    · have hr' := hr.out; rw [hq, Res.bind_bad] at hr'; subst hr'; exact ⟨rfl, rfl, h3.out.re.trans hre⟩
    have hr' := hr.out
    rw [hq, Res.bind_ok'] at hr'
    replace hr := Lib.hid hr'
    clear hr' hP hq
    obtain ⟨s4, rfl, hx4, h4⟩ := h3.out.factT hre hR hV
    replace hx4 := Lib.hid hx4
    clear hV hR hre h3
    obtain ⟨k4, n4, t4, w4n, ea4, ec4, e4, ba4, bc4, b4, la4, lc4, l4, p4⟩ := s4
    have hB : (⟨(St.mk k4 n4 t4 w4n ea4 ec4 e4 ba4 bc4 b4 la4 lc4 l4 p4).vals⟩ : Array Value) = #[.int .u8 k4, .string n4, .string t4, .bool w4n, .slice ea4 e4.length ec4, .slice ba4 b4.length bc4, .slice la4 l4.length lc4, .int .i64 p4] := rfl
    rw [hB]
    clear hB
    have h5 := h4.alloc #[.int .u8 k4, .string n4, .string nm, .bool true, .slice ea4 e4.length ec4, .slice ba4 b4.length bc4, .slice la4 l4.length lc4, .int .i64 p4] 60
    clear h4
    obtain ⟨cg0, cg1, cg2, cg3, cg4, cg5, cg6, cg7, cf0, cf1, cf2, cf3, cf4, cf5, cf6, cf7⟩ := cells8 h5.hd2
    have hf := Lib.hid fun a b cc d e f g h => h5.swap.set8 a b cc d e f g h
    clear h5 hC hK hT hQ hX
    replace hr := hr.out
    go_wp2_with fail
    subst hr
    exact bodyPost_ret (v := .agg #[.int .u8 k4, .string n4, .string nm, .bool true, .slice ea4 e4.length ec4, .slice ba4 b4.length bc4, .slice la4 l4.length lc4, .int .i64 p4]) (results_cell_row Tryz.results148 _ _ w.heap.size _ _ _ _ rfl (hf.out _ _ _ _ _ _ _ _).hd Tryz.underlying60 rfl (by kernel_rfl)) rfl ⟨_, rfl, ⟨.mk k4 n4 nm true ea4 ec4 e4 ba4 bc4 b4 la4 lc4 l4 p4, rfl, stTo_In hnm.out ((hf.out _ _ _ _ _ _ _ _).fct (f := Fact.T (.mk k4 n4 t4 w4n ea4 ec4 e4 ba4 bc4 b4 la4 lc4 l4 p4)) (by simp)), by rw [← hx4.out, sa_eq, sa_eq]; rfl⟩, (hf.out _ _ _ _ _ _ _ _).rd, (hf.out _ _ _ _ _ _ _ _).re⟩
  · have hr' := hr.out
    rw [if_neg hc] at hr'
    replace hr := Lib.hid hr'
    clear hr' hc
    have h3 := h2.out.call hre hR
    clear hre hR h2
    replace h3 := Lib.hid h3
    go_wp2_with fail
    refine (hX.out _ _ h3.out.rd).mono ?_
    intro e w4 hP
    rcases hP.two with ⟨p, hq, rfl, hre⟩ | ⟨x4, j4, v4, hq, rfl, hV, hR, hre⟩
    · have hr' := hr.out; rw [hq, Res.bind_bad] at hr'; subst hr'; exact ⟨rfl, rfl, h3.out.re.trans hre⟩
    have hr' := hr.out
    rw [hq, Res.bind_ok'] at hr'
    replace hr := Lib.hid hr'
    clear hr' hP hq
    obtain ⟨ex4, rfl, hx4, h4⟩ := h3.out.factX hre hR hV
    replace hx4 := Lib.hid hx4
    clear hV hR hre h3
    have h5 := (h4.row1 ex4 62 (by simp)).alloc #[.int .u8 1, .string nm, .string ⟨#[]⟩, .bool false, .slice (some ⟨w4.heap.size, 0, none⟩) 1 1, .slice none 0 0, .slice none 0 0, .int .i64 0] 60
    clear h4
    obtain ⟨k4, n4, y4, a4, c4, q4, p4⟩ := ex4
    have hB : (⟨(Ex.mk k4 n4 y4 a4 c4 q4 p4).vals⟩ : Array Value) = #[.int .u8 k4, .string n4, .int .i64 y4, .slice a4 q4.length c4, .int .i64 p4] := rfl
    have hC : (⟨exCells [Ex.mk k4 n4 y4 a4 c4 q4 p4]⟩ : Array Value) = #[.int .u8 k4, .string n4, .int .i64 y4, .slice a4 q4.length c4, .int .i64 p4] := rfl
    try rw [hC] at h5
    try rw [hB] at h5
    try rw [hB]
    clear hB hC
    replace h5 := Lib.hid h5
    go_wp2_with fail
    refine (hT.out _ _ h5.out.rd).mono ?_
    intro e w6 hP
    rcases hP.two with ⟨p, hq, rfl, hre⟩ | ⟨x6, j6, v6, hq, rfl, hV, hR, hre⟩
    · have hr' := hr.out; rw [hq, Res.bind_bad] at hr'; subst hr'; exact ⟨rfl, rfl, h5.out.re.trans hre⟩
    have hr' := hr.out
    rw [hq, Res.bind_ok'] at hr'
    replace hr := Lib.hid hr'
    clear hr' hP hq
    subst hV
    have h6 := h5.out.call hre hR
    clear hre hR h5
    rw [sz_alloc] at h6
    obtain ⟨ce0, ce1, ce2, ce3, ce4, ce5, ce6, ce7, _, _, _, _, _, _, _, _⟩ := cells8 h6.hd
    obtain ⟨cg0, cg1, cg2, cg3, cg4, cg5, cg6, cg7, cf0, cf1, cf2, cf3, cf4, cf5, cf6, cf7⟩ := cells8 h6.hd2
    have hf := Lib.hid fun a b cc d e f g h => h6.swap.set8 a b cc d e f g h
    clear h6 hX hT hQ hC hK
    replace hr := hr.out
    go_wp2_with fail
    subst hr
    exact bodyPost_ret (v := .agg #[.int .u8 1, .string nm, .string ⟨#[]⟩, .bool false, .slice (some ⟨w4.heap.size, 0, none⟩) 1 1, .slice none 0 0, .slice none 0 0, .int .i64 0]) (results_cell_row Tryz.results148 _ _ w.heap.size _ _ _ _ rfl (hf.out _ _ _ _ _ _ _ _).hd Tryz.underlying60 rfl (by kernel_rfl)) rfl ⟨_, rfl, ⟨.mk 1 nm noB false (some ⟨w4.heap.size, 0, none⟩) 1 [.mk k4 n4 y4 a4 c4 q4 p4] none 0 [] none 0 [] 0, rfl, stE_In (by unfold U8; decide) hnm.out (by decide) (by unfold I64; decide) ((hf.out _ _ _ _ _ _ _ _).fct (by simp)) (ts_nil _ _) (ts_nil _ _), by rw [sa_eq, eaL_cons, eaL_nil, saL_nil, hx4.out]; rfl⟩, (hf.out _ _ _ _ _ _ _ _).rd, (hf.out _ _ _ _ _ _ _ _).re⟩
end Go.Proofs.YtpcdlneompnhlaaGreatDoor.Pa

namespace Go.Proofs.YtpcdlneompnhlaaGreatDoor.Pa
open Go Go.RowKit
open Go.Proofs.YtpcdlneompnhlaaGreatDoor.Lx Go.Proofs.YtpcdlneompnhlaaGreatDoor.Tr

set_option maxHeartbeats 4000000 in
set_option maxRecDepth 100000 in
theorem varStmt_c (hE : XE) (hL : XL) {c : Rc} {i : Nat} {w : World} (h : Rd c i w) :
    Calls Tryz.prog 99 #[.pointer (some ⟨c.rb, 0, none⟩)] w (Post c (VT (fun b => w.heap.size ≤ b)) w (varR c.l i)) := by
  generalize hr : varR c.l i = r
  have h1 := (Fr.start h).alloc #[.int .u8 0, .string ⟨#[]⟩, .string ⟨#[]⟩, .bool false, .slice none 0 0, .slice none 0 0, .slice none 0 0, .int .i64 0] 60
  replace h1 := Lib.hid h1
  have hN := Lib.hid (fun W j (hW : Rd c j W) => name_c hW)
  have hBe := Lib.hid (fun W j (hW : Rd c j W) nm (hn : ByteArray.size nm ≤ maxLen) => becomes1_c hE hL hW nm hn)
  unfold varR at hr
  replace hr := Lib.hid hr
  clear h hE hL
  go_enter Tryz.func99, Tryz.ntmps99
  go_wp2_with fail
  refine (hN.out _ i h1.out.rd).mono ?_
  intro e w2 hP
  rcases hP.two with ⟨p, hq, rfl, hre⟩ | ⟨x2, j2, v2, hq, rfl, hV, hR, hre⟩
  · have hr' := hr.out; rw [hq, Res.bind_bad] at hr'; subst hr'; exact ⟨rfl, rfl, h1.out.re.trans hre⟩
  have hr' := hr.out
  rw [hq, Res.bind_ok'] at hr'
  replace hr := Lib.hid hr'
  clear hr' hP hq
  obtain ⟨rfl, hsz⟩ := hV
  have h2 := h1.out.call hre hR
  clear hre hR h1
  replace hsz := Lib.hid hsz
  replace h2 := Lib.hid h2
  go_wp2_with fail
  refine (hBe.out _ _ h2.out.rd _ hsz.out).mono ?_
  intro e w3 hP
  rcases hP.two with ⟨p, hq, rfl, hre⟩ | ⟨x3, j3, v3, hq, rfl, hV, hR, hre⟩
  · have hr' := hr.out; rw [hq] at hr'; subst hr'; exact ⟨rfl, rfl, h2.out.re.trans hre⟩
  have hr' := hr.out
  rw [hq] at hr'
  replace hr := Lib.hid hr'
  clear hr' hP hq
  obtain ⟨s3, rfl, hx3, hz⟩ := h2.out.factT hre hR hV
  replace hx3 := Lib.hid hx3
  clear hV hR hre h2
  obtain ⟨k3, n3, t3, w3n, ea3, ec3, e3, ba3, bc3, b3, la3, lc3, l3, p3⟩ := s3
  have hB : (⟨(St.mk k3 n3 t3 w3n ea3 ec3 e3 ba3 bc3 b3 la3 lc3 l3 p3).vals⟩ : Array Value) = #[.int .u8 k3, .string n3, .string t3, .bool w3n, .slice ea3 e3.length ec3, .slice ba3 b3.length bc3, .slice la3 l3.length lc3, .int .i64 p3] := rfl
  rw [hB]
  clear hB
  obtain ⟨cg0, cg1, cg2, cg3, cg4, cg5, cg6, cg7, cf0, cf1, cf2, cf3, cf4, cf5, cf6, cf7⟩ := cells8 hz.hd
  have hf := Lib.hid fun a b cc d e f g h => hz.set8 a b cc d e f g h
  clear hz hN hsz
  replace hr := hr.out
  go_wp2_with fail
  subst hr
  exact bodyPost_ret (v := .agg #[.int .u8 k3, .string n3, .string t3, .bool w3n, .slice ea3 e3.length ec3, .slice ba3 b3.length bc3, .slice la3 l3.length lc3, .int .i64 p3]) (results_cell_row Tryz.results99 _ _ w.heap.size _ _ _ _ rfl (hf.out _ _ _ _ _ _ _ _).hd Tryz.underlying60 rfl (by kernel_rfl)) rfl ⟨_, rfl, ⟨.mk k3 n3 t3 w3n ea3 ec3 e3 ba3 bc3 b3 la3 lc3 l3 p3, rfl, (hf.out _ _ _ _ _ _ _ _).fct (f := Fact.T (.mk k3 n3 t3 w3n ea3 ec3 e3 ba3 bc3 b3 la3 lc3 l3 p3)) (by simp), hx3.out⟩, (hf.out _ _ _ _ _ _ _ _).rd, (hf.out _ _ _ _ _ _ _ _).re⟩
end Go.Proofs.YtpcdlneompnhlaaGreatDoor.Pa

namespace Go.Proofs.YtpcdlneompnhlaaGreatDoor.Pa
open Go Go.RowKit
open Go.Proofs.YtpcdlneompnhlaaGreatDoor.Lx Go.Proofs.YtpcdlneompnhlaaGreatDoor.Tr

set_option maxHeartbeats 4000000 in
set_option maxRecDepth 100000 in
theorem becomes2_c (hE : XE) (hL : XL) {c : Rc} {i : Nat} {w : World} (h : Rd c i w) (nm : ByteArray) (hnm : nm.size ≤ maxLen) :
    Calls Tryz.prog 148 #[.pointer (some ⟨c.rb, 0, none⟩), .int .u8 2, .string nm] w (Post c (VT (fun b => w.heap.size ≤ b)) w (becomesR c.l 2 nm i)) := by
  generalize hr : becomesR c.l 2 nm i = r
  have h1 := (Fr.start h).alloc #[.int .u8 0, .string ⟨#[]⟩, .string ⟨#[]⟩, .bool false, .slice none 0 0, .slice none 0 0, .slice none 0 0, .int .i64 0] 60
  replace h1 := Lib.hid h1
  have hX := Lib.hid (fun W j (hW : Rd c j W) => hE c j W hW)
  have hT := Lib.hid (fun W j (hW : Rd c j W) => take_c hW ⟨#[59]⟩ (by decide))
  have hQ := Lib.hid (fun W j (hW : Rd c j W) => take_c hW ⟨#[61]⟩ (by decide))
  have hC := Lib.hid (fun W j (hW : Rd c j W) => passes_c hW ⟨#[99, 97, 108, 108]⟩ (by decide))
  have hK := Lib.hid (fun W j (hW : Rd c j W) => callStmt_c hL hW)
  replace hnm := Lib.hid hnm
  unfold becomesR at hr
  replace hr := Lib.hid hr
  clear h hE hL
  go_enter Tryz.func148, Tryz.ntmps148
  go_wp2_with fail
  refine (hQ.out _ i h1.out.rd).mono ?_
  intro e w2 hP
  rcases hP.two with ⟨p, hq, rfl, hre⟩ | ⟨x2, j2, v2, hq, rfl, hV, hR, hre⟩
  · have hr' := hr.out; rw [hq, Res.bind_bad] at hr'; subst hr'; exact ⟨rfl, rfl, h1.out.re.trans hre⟩
  have hr' := hr.out
  rw [hq, Res.bind_ok'] at hr'
  replace hr := Lib.hid hr'
  clear hr' hP hq
  subst hV
  have h2 := h1.out.call hre hR
  clear hre hR h1
  replace h2 := Lib.hid h2
  go_wp2_with fail
  refine (hC.out _ _ h2.out.rd).mono ?_
  rintro e w3 ⟨hre, ⟨hc, rfl, hR⟩ | ⟨hc, rfl, hR⟩⟩
  · have hr' := hr.out
    rw [if_pos hc] at hr'
    replace hr := Lib.hid hr'
    clear hr' hc
    have h3 := h2.out.call hre hR
    clear hre hR h2
    replace h3 := Lib.hid h3
    go_wp2_with fail
    refine (hK.out _ _ h3.out.rd).mono ?_
    intro e w4 hP
    rcases hP.two with ⟨p, hq, rfl, hre⟩ | ⟨x4, j4, v4, hq, rfl, hV, hR, hre⟩
    · have hr' := hr.out; rw [hq, Res.bind_bad] at hr'; subst hr'; exact ⟨rfl, rfl, h3.out.re.trans hre⟩
    have hr' := hr.out
    rw [hq, Res.bind_ok'] at hr'
    replace hr := Lib.hid hr'
    clear hr' hP hq
    obtain ⟨s4, rfl, hx4, h4⟩ := h3.out.factT hre hR hV
    replace hx4 := Lib.hid hx4
    clear hV hR hre h3
    obtain ⟨k4, n4, t4, w4n, ea4, ec4, e4, ba4, bc4, b4, la4, lc4, l4, p4⟩ := s4
    have hB : (⟨(St.mk k4 n4 t4 w4n ea4 ec4 e4 ba4 bc4 b4 la4 lc4 l4 p4).vals⟩ : Array Value) = #[.int .u8 k4, .string n4, .string t4, .bool w4n, .slice ea4 e4.length ec4, .slice ba4 b4.length bc4, .slice la4 l4.length lc4, .int .i64 p4] := rfl
    rw [hB]
    clear hB
    have h5 := h4.alloc #[.int .u8 k4, .string n4, .string nm, .bool false, .slice ea4 e4.length ec4, .slice ba4 b4.length bc4, .slice la4 l4.length lc4, .int .i64 p4] 60
    clear h4
    obtain ⟨cg0, cg1, cg2, cg3, cg4, cg5, cg6, cg7, cf0, cf1, cf2, cf3, cf4, cf5, cf6, cf7⟩ := cells8 h5.hd2
    have hf := Lib.hid fun a b cc d e f g h => h5.swap.set8 a b cc d e f g h
    clear h5 hC hK hT hQ hX
    replace hr := hr.out
    go_wp2_with fail
    subst hr
    exact bodyPost_ret (v := .agg #[.int .u8 k4, .string n4, .string nm, .bool false, .slice ea4 e4.length ec4, .slice ba4 b4.length bc4, .slice la4 l4.length lc4, .int .i64 p4]) (results_cell_row Tryz.results148 _ _ w.heap.size _ _ _ _ rfl (hf.out _ _ _ _ _ _ _ _).hd Tryz.underlying60 rfl (by kernel_rfl)) rfl ⟨_, rfl, ⟨.mk k4 n4 nm false ea4 ec4 e4 ba4 bc4 b4 la4 lc4 l4 p4, rfl, stTo_In hnm.out ((hf.out _ _ _ _ _ _ _ _).fct (f := Fact.T (.mk k4 n4 t4 w4n ea4 ec4 e4 ba4 bc4 b4 la4 lc4 l4 p4)) (by simp)), by rw [← hx4.out, sa_eq, sa_eq]; rfl⟩, (hf.out _ _ _ _ _ _ _ _).rd, (hf.out _ _ _ _ _ _ _ _).re⟩
  · have hr' := hr.out
    rw [if_neg hc] at hr'
    replace hr := Lib.hid hr'
    clear hr' hc
    have h3 := h2.out.call hre hR
    clear hre hR h2
    replace h3 := Lib.hid h3
    go_wp2_with fail
    refine (hX.out _ _ h3.out.rd).mono ?_
    intro e w4 hP
    rcases hP.two with ⟨p, hq, rfl, hre⟩ | ⟨x4, j4, v4, hq, rfl, hV, hR, hre⟩
    · have hr' := hr.out; rw [hq, Res.bind_bad] at hr'; subst hr'; exact ⟨rfl, rfl, h3.out.re.trans hre⟩
    have hr' := hr.out
    rw [hq, Res.bind_ok'] at hr'
    replace hr := Lib.hid hr'
    clear hr' hP hq
    obtain ⟨ex4, rfl, hx4, h4⟩ := h3.out.factX hre hR hV
    replace hx4 := Lib.hid hx4
    clear hV hR hre h3
    have h5 := (h4.row1 ex4 62 (by simp)).alloc #[.int .u8 2, .string nm, .string ⟨#[]⟩, .bool false, .slice (some ⟨w4.heap.size, 0, none⟩) 1 1, .slice none 0 0, .slice none 0 0, .int .i64 0] 60
    clear h4
    obtain ⟨k4, n4, y4, a4, c4, q4, p4⟩ := ex4
    have hB : (⟨(Ex.mk k4 n4 y4 a4 c4 q4 p4).vals⟩ : Array Value) = #[.int .u8 k4, .string n4, .int .i64 y4, .slice a4 q4.length c4, .int .i64 p4] := rfl
    have hC : (⟨exCells [Ex.mk k4 n4 y4 a4 c4 q4 p4]⟩ : Array Value) = #[.int .u8 k4, .string n4, .int .i64 y4, .slice a4 q4.length c4, .int .i64 p4] := rfl
    try rw [hC] at h5
    try rw [hB] at h5
    try rw [hB]
    clear hB hC
    replace h5 := Lib.hid h5
    go_wp2_with fail
    refine (hT.out _ _ h5.out.rd).mono ?_
    intro e w6 hP
    rcases hP.two with ⟨p, hq, rfl, hre⟩ | ⟨x6, j6, v6, hq, rfl, hV, hR, hre⟩
    · have hr' := hr.out; rw [hq, Res.bind_bad] at hr'; subst hr'; exact ⟨rfl, rfl, h5.out.re.trans hre⟩
    have hr' := hr.out
    rw [hq, Res.bind_ok'] at hr'
    replace hr := Lib.hid hr'
    clear hr' hP hq
    subst hV
    have h6 := h5.out.call hre hR
    clear hre hR h5
    rw [sz_alloc] at h6
    obtain ⟨ce0, ce1, ce2, ce3, ce4, ce5, ce6, ce7, _, _, _, _, _, _, _, _⟩ := cells8 h6.hd
    obtain ⟨cg0, cg1, cg2, cg3, cg4, cg5, cg6, cg7, cf0, cf1, cf2, cf3, cf4, cf5, cf6, cf7⟩ := cells8 h6.hd2
    have hf := Lib.hid fun a b cc d e f g h => h6.swap.set8 a b cc d e f g h
    clear h6 hX hT hQ hC hK
    replace hr := hr.out
    go_wp2_with fail
    subst hr
    exact bodyPost_ret (v := .agg #[.int .u8 2, .string nm, .string ⟨#[]⟩, .bool false, .slice (some ⟨w4.heap.size, 0, none⟩) 1 1, .slice none 0 0, .slice none 0 0, .int .i64 0]) (results_cell_row Tryz.results148 _ _ w.heap.size _ _ _ _ rfl (hf.out _ _ _ _ _ _ _ _).hd Tryz.underlying60 rfl (by kernel_rfl)) rfl ⟨_, rfl, ⟨.mk 2 nm noB false (some ⟨w4.heap.size, 0, none⟩) 1 [.mk k4 n4 y4 a4 c4 q4 p4] none 0 [] none 0 [] 0, rfl, stE_In (by unfold U8; decide) hnm.out (by decide) (by unfold I64; decide) ((hf.out _ _ _ _ _ _ _ _).fct (by simp)) (ts_nil _ _) (ts_nil _ _), by rw [sa_eq, eaL_cons, eaL_nil, saL_nil, hx4.out]; rfl⟩, (hf.out _ _ _ _ _ _ _ _).rd, (hf.out _ _ _ _ _ _ _ _).re⟩
end Go.Proofs.YtpcdlneompnhlaaGreatDoor.Pa

namespace Go.Proofs.YtpcdlneompnhlaaGreatDoor.Pa
open Go Go.RowKit
open Go.Proofs.YtpcdlneompnhlaaGreatDoor.Lx Go.Proofs.YtpcdlneompnhlaaGreatDoor.Tr

set_option maxHeartbeats 4000000 in
set_option maxRecDepth 100000 in
theorem nameStmt_c (hE : XE) (hL : XL) {c : Rc} {i : Nat} {w : World} (h : Rd c i w) :
    Calls Tryz.prog 179 #[.pointer (some ⟨c.rb, 0, none⟩)] w (Post c (VT (fun b => w.heap.size ≤ b)) w (nameStR c.l i)) := by
  generalize hr : nameStR c.l i = r
  have h1 := (Fr.start h).alloc #[.int .u8 0, .string ⟨#[]⟩, .string ⟨#[]⟩, .bool false, .slice none 0 0, .slice none 0 0, .slice none 0 0, .int .i64 0] 60
  replace h1 := Lib.hid h1
  have hN := Lib.hid (fun W j (hW : Rd c j W) => name_c hW)
  have hX := Lib.hid (fun W j (hW : Rd c j W) => hE c j W hW)
  have hT1 := Lib.hid (fun W j (hW : Rd c j W) => take_c hW ⟨#[93]⟩ (by decide))
  have hT2 := Lib.hid (fun W j (hW : Rd c j W) => take_c hW ⟨#[61]⟩ (by decide))
  have hT3 := Lib.hid (fun W j (hW : Rd c j W) => take_c hW ⟨#[59]⟩ (by decide))
  have hPb := Lib.hid (fun W j (hW : Rd c j W) => passes_c hW ⟨#[91]⟩ (by decide))
  have hBe := Lib.hid (fun W j (hW : Rd c j W) nm (hn : ByteArray.size nm ≤ maxLen) => becomes2_c hE hL hW nm hn)
  unfold nameStR at hr
  replace hr := Lib.hid hr
  clear h hE hL
  go_enter Tryz.func179, Tryz.ntmps179
  go_wp2_with fail
  refine (hN.out _ i h1.out.rd).mono ?_
  intro e w2 hP
  rcases hP.two with ⟨p, hq, rfl, hre⟩ | ⟨x2, j2, v2, hq, rfl, hV, hR, hre⟩
  · have hr' := hr.out; rw [hq, Res.bind_bad] at hr'; subst hr'; exact ⟨rfl, rfl, h1.out.re.trans hre⟩
  have hr' := hr.out
  rw [hq, Res.bind_ok'] at hr'
  replace hr := Lib.hid hr'
  clear hr' hP hq
  obtain ⟨rfl, hsz⟩ := hV
  have h2 := h1.out.call hre hR
  clear hre hR h1
  replace hsz := Lib.hid hsz
  replace h2 := Lib.hid h2
  go_wp2_with fail
  refine (hPb.out _ _ h2.out.rd).mono ?_
  rintro e w3 ⟨hre, ⟨hc, rfl, hR⟩ | ⟨hc, rfl, hR⟩⟩
  · have hr' := hr.out
    rw [if_pos hc] at hr'
    replace hr := Lib.hid hr'
    clear hr' hc
    have h3 := h2.out.call hre hR
    clear hre hR h2
    replace h3 := Lib.hid h3
    go_wp2_with fail
    refine (hX.out _ _ h3.out.rd).mono ?_
    intro e w4 hP
    rcases hP.two with ⟨p, hq, rfl, hre⟩ | ⟨x4, j4, v4, hq, rfl, hV, hR, hre⟩
    · have hr' := hr.out; rw [hq, Res.bind_bad] at hr'; subst hr'; exact ⟨rfl, rfl, h3.out.re.trans hre⟩
    have hr' := hr.out
    rw [hq, Res.bind_ok'] at hr'
    replace hr := Lib.hid hr'
    clear hr' hP hq
    obtain ⟨ex4, rfl, hx4, h4⟩ := h3.out.factX hre hR hV
    replace hx4 := Lib.hid hx4
    clear hV hR hre h3
    replace h4 := h4.alloc ⟨ex4.vals⟩ 62
    obtain ⟨k4, n4, y4, a4, c4, q4, p4⟩ := ex4
    have hB : (⟨(Ex.mk k4 n4 y4 a4 c4 q4 p4).vals⟩ : Array Value) = #[.int .u8 k4, .string n4, .int .i64 y4, .slice a4 q4.length c4, .int .i64 p4] := rfl
    have hC : (⟨exCells [Ex.mk k4 n4 y4 a4 c4 q4 p4]⟩ : Array Value) = #[.int .u8 k4, .string n4, .int .i64 y4, .slice a4 q4.length c4, .int .i64 p4] := rfl
    try rw [hC] at h4
    try rw [hB] at h4
    try rw [hB]
    clear hB hC
    replace h4 := Lib.hid h4
    go_wp2_with fail
    refine (hT1.out _ _ h4.out.rd).mono ?_
    intro e w5 hP
    rcases hP.two with ⟨p, hq, rfl, hre⟩ | ⟨x5, j5, v5, hq, rfl, hV, hR, hre⟩
    · have hr' := hr.out; rw [hq, Res.bind_bad] at hr'; subst hr'; exact ⟨rfl, rfl, h4.out.re.trans hre⟩
    have hr' := hr.out
    rw [hq, Res.bind_ok'] at hr'
    replace hr := Lib.hid hr'
    clear hr' hP hq
    subst hV
    have h5 := h4.out.call hre hR
    clear hre hR h4
    replace h5 := Lib.hid h5
    go_wp2_with fail
    refine (hT2.out _ _ h5.out.rd).mono ?_
    intro e w6 hP
    rcases hP.two with ⟨p, hq, rfl, hre⟩ | ⟨x6, j6, v6, hq, rfl, hV, hR, hre⟩
    · have hr' := hr.out; rw [hq, Res.bind_bad] at hr'; subst hr'; exact ⟨rfl, rfl, h5.out.re.trans hre⟩
    have hr' := hr.out
    rw [hq, Res.bind_ok'] at hr'
    replace hr := Lib.hid hr'
    clear hr' hP hq
    subst hV
    have h6 := h5.out.call hre hR
    clear hre hR h5
    replace h6 := Lib.hid h6
    go_wp2_with fail
    refine (hX.out _ _ h6.out.rd).mono ?_
    intro e w7 hP
    rcases hP.two with ⟨p, hq, rfl, hre⟩ | ⟨x7, j7, v7, hq, rfl, hV, hR, hre⟩
    · have hr' := hr.out; rw [hq, Res.bind_bad] at hr'; subst hr'; exact ⟨rfl, rfl, h6.out.re.trans hre⟩
    have hr' := hr.out
    rw [hq, Res.bind_ok'] at hr'
    replace hr := Lib.hid hr'
    clear hr' hP hq
    obtain ⟨ex7, rfl, hx7, h7⟩ := h6.out.factX hre hR hV
    replace hx7 := Lib.hid hx7
    clear hV hR hre h6
    replace h7 := h7.alloc ⟨ex7.vals⟩ 62
    obtain ⟨k7, n7, y7, a7, c7, q7, p7⟩ := ex7
    have hB : (⟨(Ex.mk k7 n7 y7 a7 c7 q7 p7).vals⟩ : Array Value) = #[.int .u8 k7, .string n7, .int .i64 y7, .slice a7 q7.length c7, .int .i64 p7] := rfl
    have hC : (⟨exCells [Ex.mk k7 n7 y7 a7 c7 q7 p7]⟩ : Array Value) = #[.int .u8 k7, .string n7, .int .i64 y7, .slice a7 q7.length c7, .int .i64 p7] := rfl
    try rw [hC] at h7
    try rw [hB] at h7
    try rw [hB]
    clear hB hC
    replace h7 := Lib.hid h7
    go_wp2_with fail
    refine (hT3.out _ _ h7.out.rd).mono ?_
    intro e w8 hP
    rcases hP.two with ⟨p, hq, rfl, hre⟩ | ⟨x8, j8, v8, hq, rfl, hV, hR, hre⟩
    · have hr' := hr.out; rw [hq, Res.bind_bad] at hr'; subst hr'; exact ⟨rfl, rfl, h7.out.re.trans hre⟩
    have hr' := hr.out
    rw [hq, Res.bind_ok'] at hr'
    replace hr := Lib.hid hr'
    clear hr' hP hq
    subst hV
    have h8 := h7.out.call hre hR
    clear hre hR h7
    obtain ⟨da0, da1, da2, da3, da4, _, _, _, _, _⟩ := cells5 h8.hd
    obtain ⟨db0, db1, db2, db3, db4, _, _, _, _, _⟩ := cells5 h8.hd2
    obtain ⟨cg0, cg1, cg2, cg3, cg4, cg5, cg6, cg7, cf0, cf1, cf2, cf3, cf4, cf5, cf6, cf7⟩ := cells8 h8.hd3
    have hs8 : w7.heap.size < w8.heap.size := cells_lt h8.hd
    have hs8b : w4.heap.size < w8.heap.size := cells_lt h8.hd2
    have hs8r : w.heap.size < w8.heap.size := cells_lt h8.hd3
    have hf := Lib.hid fun a b cc d e f g h => (h8.swap3.set8 a b cc d e f g h).row2 (.mk k4 n4 y4 a4 c4 q4 p4) (.mk k7 n7 y7 a7 c7 q7 p7) 62 (by simp) (by simp)
    have hcz := Lib.hid (set8_size w8 w.heap.size)
    have hro : (⟨exCells [Ex.mk k4 n4 y4 a4 c4 q4 p4, Ex.mk k7 n7 y7 a7 c7 q7 p7]⟩ : Array Value) = #[.int .u8 k4, .string n4, .int .i64 y4, .slice a4 q4.length c4, .int .i64 p4, .int .u8 k7, .string n7, .int .i64 y7, .slice a7 q7.length c7, .int .i64 p7] := rfl
    simp only [hcz.out, hro] at hf
    clear h8 hX hT1 hT2 hT3 hPb hBe hN hro hcz
    replace hr := hr.out
    go_wp2_with fail
    subst hr
    exact bodyPost_ret (v := .agg #[.int .u8 3, .string x2, .string ⟨#[]⟩, .bool false, .slice (some ⟨w8.heap.size, 0, none⟩) 2 2, .slice none 0 0, .slice none 0 0, .int .i64 0]) (results_cell_row Tryz.results179 _ _ w.heap.size _ _ _ _ rfl (hf.out _ _ _ _ _ _ _ _).hd Tryz.underlying60 rfl (by kernel_rfl)) rfl ⟨_, rfl, ⟨.mk 3 x2 noB false (some ⟨w8.heap.size, 0, none⟩) 2 [.mk k4 n4 y4 a4 c4 q4 p4, .mk k7 n7 y7 a7 c7 q7 p7] none 0 [] none 0 [] 0, rfl, stE_In (by unfold U8; decide) hsz.out (by decide) (by unfold I64; decide) ((hf.out _ _ _ _ _ _ _ _).fct (by simp)) (ts_nil _ _) (ts_nil _ _), by rw [sa_eq, eaL_cons, eaL_cons, eaL_nil, saL_nil, hx4.out, hx7.out]; rfl⟩, (hf.out _ _ _ _ _ _ _ _).rd, (hf.out _ _ _ _ _ _ _ _).re⟩
  · have hr' := hr.out
    rw [if_neg hc] at hr'
    replace hr := Lib.hid hr'
    clear hr' hc
    have h3 := h2.out.call hre hR
    clear hre hR h2
    replace h3 := Lib.hid h3
    go_wp2_with fail
    refine (hBe.out _ _ h3.out.rd _ hsz.out).mono ?_
    intro e w4 hP
    rcases hP.two with ⟨p, hq, rfl, hre⟩ | ⟨x4, j4, v4, hq, rfl, hV, hR, hre⟩
    · have hr' := hr.out; rw [hq] at hr'; subst hr'; exact ⟨rfl, rfl, h3.out.re.trans hre⟩
    have hr' := hr.out
    rw [hq] at hr'
    replace hr := Lib.hid hr'
    clear hr' hP hq
    obtain ⟨s4, rfl, hx4, hz⟩ := h3.out.factT hre hR hV
    replace hx4 := Lib.hid hx4
    clear hV hR hre h3
    obtain ⟨k4, n4, t4, w4n, ea4, ec4, e4, ba4, bc4, b4, la4, lc4, l4, p4⟩ := s4
    have hB : (⟨(St.mk k4 n4 t4 w4n ea4 ec4 e4 ba4 bc4 b4 la4 lc4 l4 p4).vals⟩ : Array Value) = #[.int .u8 k4, .string n4, .string t4, .bool w4n, .slice ea4 e4.length ec4, .slice ba4 b4.length bc4, .slice la4 l4.length lc4, .int .i64 p4] := rfl
    rw [hB]
    clear hB
    obtain ⟨cg0, cg1, cg2, cg3, cg4, cg5, cg6, cg7, cf0, cf1, cf2, cf3, cf4, cf5, cf6, cf7⟩ := cells8 hz.hd
    have hf := Lib.hid fun a b cc d e f g h => hz.set8 a b cc d e f g h
    clear hz hN hsz hX hT1 hT2 hT3 hPb
    replace hr := hr.out
    go_wp2_with fail
    subst hr
    exact bodyPost_ret (v := .agg #[.int .u8 k4, .string n4, .string t4, .bool w4n, .slice ea4 e4.length ec4, .slice ba4 b4.length bc4, .slice la4 l4.length lc4, .int .i64 p4]) (results_cell_row Tryz.results179 _ _ w.heap.size _ _ _ _ rfl (hf.out _ _ _ _ _ _ _ _).hd Tryz.underlying60 rfl (by kernel_rfl)) rfl ⟨_, rfl, ⟨.mk k4 n4 t4 w4n ea4 ec4 e4 ba4 bc4 b4 la4 lc4 l4 p4, rfl, (hf.out _ _ _ _ _ _ _ _).fct (f := Fact.T (.mk k4 n4 t4 w4n ea4 ec4 e4 ba4 bc4 b4 la4 lc4 l4 p4)) (by simp), hx4.out⟩, (hf.out _ _ _ _ _ _ _ _).rd, (hf.out _ _ _ _ _ _ _ _).re⟩
end Go.Proofs.YtpcdlneompnhlaaGreatDoor.Pa

namespace Go.Proofs.YtpcdlneompnhlaaGreatDoor.Pa
open Go Go.RowKit
open Go.Proofs.YtpcdlneompnhlaaGreatDoor.Lx Go.Proofs.YtpcdlneompnhlaaGreatDoor.Tr

def ContE (f : Nat) : Prop := ∀ (c : Rc) (i : Nat) (w : World) (r : Res Ex), Rd c i w → joinedP c.l f 1 i = some r → Calls Tryz.prog 149 #[.pointer (some ⟨c.rb, 0, none⟩)] w (Post c (VX (fun b => w.heap.size ≤ b)) w r)
set_option maxHeartbeats 4000000 in
set_option maxRecDepth 100000 in
theorem expr_step (f : Nat) (hJ : ContJ f) : ContE f := by
  intro c i w q h hq
  have hRec : Hid (∀ W, Below w.heap.size w W → Calls Tryz.prog 171 #[.pointer (some ⟨c.rb, 0, none⟩), .int .i64 1] W (Post c (VX (fun b => W.heap.size ≤ b)) W q)) := Lib.hid fun W hb => hJ c 1 i W q (by omega) (by omega) (h.ext hb) hq
  have h := Lib.hid h
  have hlow : Hid (w.heap.size ≠ c.rb) := Lib.hid (fun e => by have := h.out.low.rb; omega)
  clear hJ hq
  go_enter Tryz.func149, Tryz.ntmps149
  go_wp2_with fail
  obtain ⟨w1, hw1⟩ : ∃ W, w.alloc (.cells #[.int .u8 0, .string ⟨#[]⟩, .int .i64 0, .slice none 0 0, .int .i64 0] 62) = W := ⟨_, rfl⟩
  have hb1 : Below w.heap.size w w1 := by rw [← hw1]; exact (Below.refl _ _).alloc (Nat.le_refl _) _
  have hr1 : w1.heap[w.heap.size]? = some (.cells #[.int .u8 0, .string ⟨#[]⟩, .int .i64 0, .slice none 0 0, .int .i64 0] 62 (0, 0)) := by rw [← hw1]; exact World.alloc_heap_new w _
  rw [hw1]
  clear hw1
  have hE2' := Lib.hid (RE.of_below (rb := c.rb) hb1)
  replace hr1 := Lib.hid hr1
  refine (hRec.out w1 hb1).mono ?_
  rintro e w3 hP
  cases q with
  | bad p =>
    obtain ⟨rfl, hE3⟩ := hP
    exact ⟨rfl, rfl, hE2'.out.trans hE3⟩
  | ok x j =>
    obtain ⟨v, rfl, ⟨ex, rfl, hx, rfl⟩, hR3, hE3⟩ := hP
    have hr3 := hE3.blk (k := w.heap.size) hr1.out hlow.out
    have hs2 := cells_lt hr1.out
    have hx' : Ex.In w3 (fun b => w.heap.size < b) ex := Ex.In.mono (fun b hb => Nat.lt_of_lt_of_le hs2 hb) _ hx
    have hf : Hid (∀ a b cc d e : Value, _) := Lib.hid fun a b cc d e => none_end (i := i) (w := w) (w3 := w3) (j := j) ex h.out (hE2'.out.trans hE3) hR3 hx' (Stored0.mk5 hr3 a b cc d e).1
    have hm := Lib.hid fun (a b cc d e : Value) => (Stored0.mk5 hr3 a b cc d e).2
    obtain ⟨k1, n1, v1, a1, c1, q1, p1⟩ := ex
    have hB : (⟨(Ex.mk k1 n1 v1 a1 c1 q1 p1).vals⟩ : Array Value) = #[.int .u8 k1, .string n1, .int .i64 v1, .slice a1 q1.length c1, .int .i64 p1] := rfl
    rw [hB]
    have g0 : w3.cell? ⟨w.heap.size, 0, none⟩ = some (.int .u8 0) := blk_cell hr3 rfl
    have g1 : w3.cell? ⟨w.heap.size, 1, none⟩ = some (.string ⟨#[]⟩) := blk_cell hr3 rfl
    have g2 : w3.cell? ⟨w.heap.size, 2, none⟩ = some (.int .i64 0) := blk_cell hr3 rfl
    have g3 : w3.cell? ⟨w.heap.size, 3, none⟩ = some (.slice none 0 0) := blk_cell hr3 rfl
    have g4 : w3.cell? ⟨w.heap.size, 4, none⟩ = some (.int .i64 0) := blk_cell hr3 rfl
    have f0 := blk_free hr3 0
    have f1 := blk_free hr3 1
    have f2 := blk_free hr3 2
    have f3 := blk_free hr3 3
    have f4 := blk_free hr3 4
    clear hx hx' hR3 hE3 hr1 hr3 hE2' hRec hB
    go_wp2_with fail
    exact bodyPost_ret (v := .agg #[.int .u8 k1, .string n1, .int .i64 v1, .slice a1 q1.length c1, .int .i64 p1]) (results_cell_row Tryz.results149 _ _ w.heap.size _ _ _ _ rfl (hm.out _ _ _ _ _) Tryz.underlying62 rfl (by kernel_rfl)) rfl ⟨_, rfl, hf.out _ _ _ _ _⟩

end Go.Proofs.YtpcdlneompnhlaaGreatDoor.Pa
