/- Walk of the reader's method stmt. Conditions: the contracts of what it calls. · Walk of the reader's method told. Conditions: the contracts of what it calls. · Walk of the reader's method printStmt. Conditions: the contracts of what it calls. · Walk of the reader's method returnStmt. Conditions: the contracts of what it calls. · Walk of the reader's method callStmt. Conditions: the contracts of what it calls. -/
import Derived.Test.YtpcdlneompnhlaaGreatDoorGrAJ
import Derived.Deep.Cut
import Derived.Test.YtpcdlneompnhlaaGreatDoorGrAI
namespace Go.Proofs.YtpcdlneompnhlaaGreatDoor.Pa
open Go Go.RowKit
open Go.Proofs.YtpcdlneompnhlaaGreatDoor.Lx Go.Proofs.YtpcdlneompnhlaaGreatDoor.Tr

set_option maxHeartbeats 4000000 in
set_option maxRecDepth 100000 in
theorem stmt_print {c : Rc} {i : Nat} {w : World} (h : Rd c i w) (hm : Mp c w) (hmore : i + 1 < c.l.length) (R : Res St) (hfw : findW wordsS (tx c.l i) = some 103) (hF : ∀ W, Rd c (i + 1) W → RE c.rb w W → Calls Tryz.prog 103 #[.pointer (some ⟨c.rb, 0, none⟩)] W (Post c (VT (fun b => W.heap.size ≤ b)) W R)) :
    Calls Tryz.prog 170 #[.pointer (some ⟨c.rb, 0, none⟩)] w (Post c (VT (fun b => w.heap.size ≤ b)) w (Res.at (ps c.l i) R)) := by
  generalize hr : Res.at (ps c.l i) R = r
  have hp := Lib.hid h.ps_i64
  have hlim : i ≤ 100000 := by have := h.lim; have := h.lt; omega
  have hlk := look_s h hm
  rw [hfw] at hlk
  replace hlk := Lib.hid hlk
  have h1 := Lib.hid ((Fr.start h).alloc #[.int .u8 0, .string ⟨#[]⟩, .string ⟨#[]⟩, .bool false, .slice none 0 0, .slice none 0 0, .slice none 0 0, .int .i64 0] 60)
  have hA := Lib.hid (fun W (hW : Rd c i W) => at_c hW)
  have hX := Lib.hid (fun W (hW : Rd c i W) => text_c hW)
  replace hr := Lib.hid hr
  replace hF := Lib.hid hF
  clear h hm hfw
  go_enter Tryz.func170, Tryz.ntmps170
  go_wp2_with fail
  refine (hA.out _ h1.out.rd).mono ?_
  rintro e w' ⟨rfl, n, rfl⟩
  have h2 := h1.out.drewN n
  obtain ⟨W1, hW1⟩ : ∃ W, (w.alloc (.cells #[.int .u8 0, .string ⟨#[]⟩, .string ⟨#[]⟩, .bool false, .slice none 0 0, .slice none 0 0, .slice none 0 0, .int .i64 0] 60)).drewN n = W := ⟨_, rfl⟩
  rw [hW1] at h2 ⊢
  clear hW1 h1
  have c3 : W1.cell? ⟨c.rb, 3, none⟩ = some (.map (some c.sm)) := blk_cell h2.rd.blk rfl
  have c1 : W1.cell? ⟨c.rb, 1, none⟩ = some (.int .i64 i) := blk_cell h2.rd.blk rfl
  have f1 : W1.frozen? ⟨c.rb, 1, none⟩ = false := blk_free h2.rd.blk 1
  have hl2 : ∀ m, _ := fun m => hlk.out (W1.drewN m) (h2.re.trans (RE.drewN W1 m))
  have hx2 := Lib.hid fun m => hX.out (W1.drewN m) (h2.rd.drewN m)
  generalize hs : tx c.l i = s at hl2 hx2
  replace hs := Lib.hid hs
  generalize hq : ps c.l i = q at hr hp ⊢
  replace h2 := Lib.hid h2
  clear hlk hX hA
  go_wp2_with fail
  go_quiet ((go_at_call 153; exact Calls.quiet_of (hx2.out _)))
  clear hl2 hx2
  have h3 := (h2.out.drewN nq).step hmore
  obtain ⟨W3, hW3⟩ : ∃ W, (W1.drewN nq).setCell ⟨c.rb, 1, none⟩ (.int .i64 ((i : Int) + 1)) = W := ⟨_, rfl⟩
  go_wp2_with fail
  rw [hW3] at h3
  clear hW3 h2 c1 c3 f1
  replace h3 := Lib.hid h3
  refine (hF.out _ h3.out.rd h3.out.re).mono ?_
  intro e w4 hP
  rcases hP.two with ⟨p, hq2, rfl, hre⟩ | ⟨x4, j4, v4, hq2, rfl, hV, hR, hre⟩
  · have hr' := hr.out
    rw [hq2] at hr'
    subst hr'
    exact ⟨rfl, rfl, h3.out.re.trans hre⟩
  have hr' := hr.out
  rw [hq2] at hr'
  replace hr : Hid (Res.ok (stAt q x4) j4 = r) := Lib.hid hr'
  clear hr' hP hq2
  obtain ⟨s4, rfl, hx4, h4⟩ := h3.out.factT hre hR hV
  replace hx4 := Lib.hid hx4
  clear hV hR hre h3 hF
  obtain ⟨k4, n4, t4, w4n, ea4, ec4, e4, ba4, bc4, b4, la4, lc4, l4, p4⟩ := s4
  have hB : (⟨(St.mk k4 n4 t4 w4n ea4 ec4 e4 ba4 bc4 b4 la4 lc4 l4 p4).vals⟩ : Array Value) = #[.int .u8 k4, .string n4, .string t4, .bool w4n, .slice ea4 e4.length ec4, .slice ba4 b4.length bc4, .slice la4 l4.length lc4, .int .i64 p4] := rfl
  rw [hB]
  clear hB
  have h5 := h4.alloc #[.int .u8 k4, .string n4, .string t4, .bool w4n, .slice ea4 e4.length ec4, .slice ba4 b4.length bc4, .slice la4 l4.length lc4, .int .i64 q] 60
  clear h4
  obtain ⟨cg0, cg1, cg2, cg3, cg4, cg5, cg6, cg7, cf0, cf1, cf2, cf3, cf4, cf5, cf6, cf7⟩ := cells8 h5.hd2
  have hf := Lib.hid fun a b cc d e f g h => h5.swap.set8 a b cc d e f g h
  clear h5
  replace hr := hr.out
  go_wp2_with fail
  subst hr
  exact bodyPost_ret (v := .agg #[.int .u8 k4, .string n4, .string t4, .bool w4n, .slice ea4 e4.length ec4, .slice ba4 b4.length bc4, .slice la4 l4.length lc4, .int .i64 q]) (results_cell_row Tryz.results170 _ _ w.heap.size _ _ _ _ rfl (hf.out _ _ _ _ _ _ _ _).hd Tryz.underlying60 rfl (by kernel_rfl)) rfl ⟨_, rfl, ⟨stAt q (.mk k4 n4 t4 w4n ea4 ec4 e4 ba4 bc4 b4 la4 lc4 l4 p4), rfl, stAt_In hp.out ((hf.out _ _ _ _ _ _ _ _).fct (f := Fact.T (.mk k4 n4 t4 w4n ea4 ec4 e4 ba4 bc4 b4 la4 lc4 l4 p4)) (by simp)), by rw [sa_at, hx4.out]⟩, (hf.out _ _ _ _ _ _ _ _).rd, (hf.out _ _ _ _ _ _ _ _).re⟩

set_option maxHeartbeats 4000000 in
set_option maxRecDepth 100000 in
theorem stmt_call {c : Rc} {i : Nat} {w : World} (h : Rd c i w) (hm : Mp c w) (hmore : i + 1 < c.l.length) (R : Res St) (hfw : findW wordsS (tx c.l i) = some 104) (hF : ∀ W, Rd c (i + 1) W → RE c.rb w W → Calls Tryz.prog 104 #[.pointer (some ⟨c.rb, 0, none⟩)] W (Post c (VT (fun b => W.heap.size ≤ b)) W R)) :
    Calls Tryz.prog 170 #[.pointer (some ⟨c.rb, 0, none⟩)] w (Post c (VT (fun b => w.heap.size ≤ b)) w (Res.at (ps c.l i) R)) := by
  generalize hr : Res.at (ps c.l i) R = r
  have hp := Lib.hid h.ps_i64
  have hlim : i ≤ 100000 := by have := h.lim; have := h.lt; omega
  have hlk := look_s h hm
  rw [hfw] at hlk
  replace hlk := Lib.hid hlk
  have h1 := Lib.hid ((Fr.start h).alloc #[.int .u8 0, .string ⟨#[]⟩, .string ⟨#[]⟩, .bool false, .slice none 0 0, .slice none 0 0, .slice none 0 0, .int .i64 0] 60)
  have hA := Lib.hid (fun W (hW : Rd c i W) => at_c hW)
  have hX := Lib.hid (fun W (hW : Rd c i W) => text_c hW)
  replace hr := Lib.hid hr
  replace hF := Lib.hid hF
  clear h hm hfw
  go_enter Tryz.func170, Tryz.ntmps170
  go_wp2_with fail
  refine (hA.out _ h1.out.rd).mono ?_
  rintro e w' ⟨rfl, n, rfl⟩
  have h2 := h1.out.drewN n
  obtain ⟨W1, hW1⟩ : ∃ W, (w.alloc (.cells #[.int .u8 0, .string ⟨#[]⟩, .string ⟨#[]⟩, .bool false, .slice none 0 0, .slice none 0 0, .slice none 0 0, .int .i64 0] 60)).drewN n = W := ⟨_, rfl⟩
  rw [hW1] at h2 ⊢
  clear hW1 h1
  have c3 : W1.cell? ⟨c.rb, 3, none⟩ = some (.map (some c.sm)) := blk_cell h2.rd.blk rfl
  have c1 : W1.cell? ⟨c.rb, 1, none⟩ = some (.int .i64 i) := blk_cell h2.rd.blk rfl
  have f1 : W1.frozen? ⟨c.rb, 1, none⟩ = false := blk_free h2.rd.blk 1
  have hl2 : ∀ m, _ := fun m => hlk.out (W1.drewN m) (h2.re.trans (RE.drewN W1 m))
  have hx2 := Lib.hid fun m => hX.out (W1.drewN m) (h2.rd.drewN m)
  generalize hs : tx c.l i = s at hl2 hx2
  replace hs := Lib.hid hs
  generalize hq : ps c.l i = q at hr hp ⊢
  replace h2 := Lib.hid h2
  clear hlk hX hA
  go_wp2_with fail
  go_quiet ((go_at_call 153; exact Calls.quiet_of (hx2.out _)))
  clear hl2 hx2
  have h3 := (h2.out.drewN nq).step hmore
  obtain ⟨W3, hW3⟩ : ∃ W, (W1.drewN nq).setCell ⟨c.rb, 1, none⟩ (.int .i64 ((i : Int) + 1)) = W := ⟨_, rfl⟩
  go_wp2_with fail
  rw [hW3] at h3
  clear hW3 h2 c1 c3 f1
  replace h3 := Lib.hid h3
  refine (hF.out _ h3.out.rd h3.out.re).mono ?_
  intro e w4 hP
  rcases hP.two with ⟨p, hq2, rfl, hre⟩ | ⟨x4, j4, v4, hq2, rfl, hV, hR, hre⟩
  · have hr' := hr.out
    rw [hq2] at hr'
    subst hr'
    exact ⟨rfl, rfl, h3.out.re.trans hre⟩
  have hr' := hr.out
  rw [hq2] at hr'
  replace hr : Hid (Res.ok (stAt q x4) j4 = r) := Lib.hid hr'
  clear hr' hP hq2
  obtain ⟨s4, rfl, hx4, h4⟩ := h3.out.factT hre hR hV
  replace hx4 := Lib.hid hx4
  clear hV hR hre h3 hF
  obtain ⟨k4, n4, t4, w4n, ea4, ec4, e4, ba4, bc4, b4, la4, lc4, l4, p4⟩ := s4
  have hB : (⟨(St.mk k4 n4 t4 w4n ea4 ec4 e4 ba4 bc4 b4 la4 lc4 l4 p4).vals⟩ : Array Value) = #[.int .u8 k4, .string n4, .string t4, .bool w4n, .slice ea4 e4.length ec4, .slice ba4 b4.length bc4, .slice la4 l4.length lc4, .int .i64 p4] := rfl
  rw [hB]
  clear hB
  have h5 := h4.alloc #[.int .u8 k4, .string n4, .string t4, .bool w4n, .slice ea4 e4.length ec4, .slice ba4 b4.length bc4, .slice la4 l4.length lc4, .int .i64 q] 60
  clear h4
  obtain ⟨cg0, cg1, cg2, cg3, cg4, cg5, cg6, cg7, cf0, cf1, cf2, cf3, cf4, cf5, cf6, cf7⟩ := cells8 h5.hd2
  have hf := Lib.hid fun a b cc d e f g h => h5.swap.set8 a b cc d e f g h
  clear h5
  replace hr := hr.out
  go_wp2_with fail
  subst hr
  exact bodyPost_ret (v := .agg #[.int .u8 k4, .string n4, .string t4, .bool w4n, .slice ea4 e4.length ec4, .slice ba4 b4.length bc4, .slice la4 l4.length lc4, .int .i64 q]) (results_cell_row Tryz.results170 _ _ w.heap.size _ _ _ _ rfl (hf.out _ _ _ _ _ _ _ _).hd Tryz.underlying60 rfl (by kernel_rfl)) rfl ⟨_, rfl, ⟨stAt q (.mk k4 n4 t4 w4n ea4 ec4 e4 ba4 bc4 b4 la4 lc4 l4 p4), rfl, stAt_In hp.out ((hf.out _ _ _ _ _ _ _ _).fct (f := Fact.T (.mk k4 n4 t4 w4n ea4 ec4 e4 ba4 bc4 b4 la4 lc4 l4 p4)) (by simp)), by rw [sa_at, hx4.out]⟩, (hf.out _ _ _ _ _ _ _ _).rd, (hf.out _ _ _ _ _ _ _ _).re⟩

set_option maxHeartbeats 4000000 in
set_option maxRecDepth 100000 in
theorem stmt_return {c : Rc} {i : Nat} {w : World} (h : Rd c i w) (hm : Mp c w) (hmore : i + 1 < c.l.length) (R : Res St) (hfw : findW wordsS (tx c.l i) = some 105) (hF : ∀ W, Rd c (i + 1) W → RE c.rb w W → Calls Tryz.prog 105 #[.pointer (some ⟨c.rb, 0, none⟩)] W (Post c (VT (fun b => W.heap.size ≤ b)) W R)) :
    Calls Tryz.prog 170 #[.pointer (some ⟨c.rb, 0, none⟩)] w (Post c (VT (fun b => w.heap.size ≤ b)) w (Res.at (ps c.l i) R)) := by
  generalize hr : Res.at (ps c.l i) R = r
  have hp := Lib.hid h.ps_i64
  have hlim : i ≤ 100000 := by have := h.lim; have := h.lt; omega
  have hlk := look_s h hm
  rw [hfw] at hlk
  replace hlk := Lib.hid hlk
  have h1 := Lib.hid ((Fr.start h).alloc #[.int .u8 0, .string ⟨#[]⟩, .string ⟨#[]⟩, .bool false, .slice none 0 0, .slice none 0 0, .slice none 0 0, .int .i64 0] 60)
  have hA := Lib.hid (fun W (hW : Rd c i W) => at_c hW)
  have hX := Lib.hid (fun W (hW : Rd c i W) => text_c hW)
  replace hr := Lib.hid hr
  replace hF := Lib.hid hF
  clear h hm hfw
  go_enter Tryz.func170, Tryz.ntmps170
  go_wp2_with fail
  refine (hA.out _ h1.out.rd).mono ?_
  rintro e w' ⟨rfl, n, rfl⟩
  have h2 := h1.out.drewN n
  obtain ⟨W1, hW1⟩ : ∃ W, (w.alloc (.cells #[.int .u8 0, .string ⟨#[]⟩, .string ⟨#[]⟩, .bool false, .slice none 0 0, .slice none 0 0, .slice none 0 0, .int .i64 0] 60)).drewN n = W := ⟨_, rfl⟩
  rw [hW1] at h2 ⊢
  clear hW1 h1
  have c3 : W1.cell? ⟨c.rb, 3, none⟩ = some (.map (some c.sm)) := blk_cell h2.rd.blk rfl
  have c1 : W1.cell? ⟨c.rb, 1, none⟩ = some (.int .i64 i) := blk_cell h2.rd.blk rfl
  have f1 : W1.frozen? ⟨c.rb, 1, none⟩ = false := blk_free h2.rd.blk 1
  have hl2 : ∀ m, _ := fun m => hlk.out (W1.drewN m) (h2.re.trans (RE.drewN W1 m))
  have hx2 := Lib.hid fun m => hX.out (W1.drewN m) (h2.rd.drewN m)
  generalize hs : tx c.l i = s at hl2 hx2
  replace hs := Lib.hid hs
  generalize hq : ps c.l i = q at hr hp ⊢
  replace h2 := Lib.hid h2
  clear hlk hX hA
  go_wp2_with fail
  go_quiet ((go_at_call 153; exact Calls.quiet_of (hx2.out _)))
  clear hl2 hx2
  have h3 := (h2.out.drewN nq).step hmore
  obtain ⟨W3, hW3⟩ : ∃ W, (W1.drewN nq).setCell ⟨c.rb, 1, none⟩ (.int .i64 ((i : Int) + 1)) = W := ⟨_, rfl⟩
  go_wp2_with fail
  rw [hW3] at h3
  clear hW3 h2 c1 c3 f1
  replace h3 := Lib.hid h3
  refine (hF.out _ h3.out.rd h3.out.re).mono ?_
  intro e w4 hP
  rcases hP.two with ⟨p, hq2, rfl, hre⟩ | ⟨x4, j4, v4, hq2, rfl, hV, hR, hre⟩
  · have hr' := hr.out
    rw [hq2] at hr'
    subst hr'
    exact ⟨rfl, rfl, h3.out.re.trans hre⟩
  have hr' := hr.out
  rw [hq2] at hr'
  replace hr : Hid (Res.ok (stAt q x4) j4 = r) := Lib.hid hr'
  clear hr' hP hq2
  obtain ⟨s4, rfl, hx4, h4⟩ := h3.out.factT hre hR hV
  replace hx4 := Lib.hid hx4
  clear hV hR hre h3 hF
  obtain ⟨k4, n4, t4, w4n, ea4, ec4, e4, ba4, bc4, b4, la4, lc4, l4, p4⟩ := s4
  have hB : (⟨(St.mk k4 n4 t4 w4n ea4 ec4 e4 ba4 bc4 b4 la4 lc4 l4 p4).vals⟩ : Array Value) = #[.int .u8 k4, .string n4, .string t4, .bool w4n, .slice ea4 e4.length ec4, .slice ba4 b4.length bc4, .slice la4 l4.length lc4, .int .i64 p4] := rfl
  rw [hB]
  clear hB
  have h5 := h4.alloc #[.int .u8 k4, .string n4, .string t4, .bool w4n, .slice ea4 e4.length ec4, .slice ba4 b4.length bc4, .slice la4 l4.length lc4, .int .i64 q] 60
  clear h4
  obtain ⟨cg0, cg1, cg2, cg3, cg4, cg5, cg6, cg7, cf0, cf1, cf2, cf3, cf4, cf5, cf6, cf7⟩ := cells8 h5.hd2
  have hf := Lib.hid fun a b cc d e f g h => h5.swap.set8 a b cc d e f g h
  clear h5
  replace hr := hr.out
  go_wp2_with fail
  subst hr
  exact bodyPost_ret (v := .agg #[.int .u8 k4, .string n4, .string t4, .bool w4n, .slice ea4 e4.length ec4, .slice ba4 b4.length bc4, .slice la4 l4.length lc4, .int .i64 q]) (results_cell_row Tryz.results170 _ _ w.heap.size _ _ _ _ rfl (hf.out _ _ _ _ _ _ _ _).hd Tryz.underlying60 rfl (by kernel_rfl)) rfl ⟨_, rfl, ⟨stAt q (.mk k4 n4 t4 w4n ea4 ec4 e4 ba4 bc4 b4 la4 lc4 l4 p4), rfl, stAt_In hp.out ((hf.out _ _ _ _ _ _ _ _).fct (f := Fact.T (.mk k4 n4 t4 w4n ea4 ec4 e4 ba4 bc4 b4 la4 lc4 l4 p4)) (by simp)), by rw [sa_at, hx4.out]⟩, (hf.out _ _ _ _ _ _ _ _).rd, (hf.out _ _ _ _ _ _ _ _).re⟩
end Go.Proofs.YtpcdlneompnhlaaGreatDoor.Pa

namespace Go.Proofs.YtpcdlneompnhlaaGreatDoor.Pa
open Go Go.RowKit
open Go.Proofs.YtpcdlneompnhlaaGreatDoor.Lx Go.Proofs.YtpcdlneompnhlaaGreatDoor.Tr

set_option maxHeartbeats 4000000 in
set_option maxRecDepth 100000 in
theorem told_c (hE : XE) {c : Rc} {i : Nat} {w : World} (h : Rd c i w) (k : Int) (hk : U8 k) :
    Calls Tryz.prog 150 #[.pointer (some ⟨c.rb, 0, none⟩), .int .u8 k] w (Post c (VT (fun b => w.heap.size ≤ b)) w (toldR c.l k i)) := by
  generalize hr : toldR c.l k i = r
  have h1 := (Fr.start h).alloc #[.int .u8 0, .string ⟨#[]⟩, .string ⟨#[]⟩, .bool false, .slice none 0 0, .slice none 0 0, .slice none 0 0, .int .i64 0] 60
  replace h1 := Lib.hid h1
  have hX := Lib.hid (fun W j (hW : Rd c j W) => hE c j W hW)
  have hT := Lib.hid (fun W j (hW : Rd c j W) => take_c hW ⟨#[59]⟩ (by decide))
  replace hk := Lib.hid hk
  unfold toldR at hr
  replace hr := Lib.hid hr
  clear h hE
  go_enter Tryz.func150, Tryz.ntmps150
  go_wp2_with fail
  refine (hX.out _ i h1.out.rd).mono ?_
  intro e w2 hP
  rcases hP.two with ⟨p, hq, rfl, hre⟩ | ⟨x2, j2, v2, hq, rfl, hV, hR, hre⟩
  · have hr' := hr.out; rw [hq, Res.bind_bad] at hr'; subst hr'; exact ⟨rfl, rfl, h1.out.re.trans hre⟩
  have hr' := hr.out
  rw [hq, Res.bind_ok'] at hr'
  replace hr := Lib.hid hr'
  clear hr' hP hq
  obtain ⟨ex2, rfl, hx2, h2⟩ := h1.out.factX hre hR hV
  replace hx2 := Lib.hid hx2
  clear hV hR hre h1
  have h3 := (h2.row1 ex2 62 (by simp)).alloc #[.int .u8 k, .string ⟨#[]⟩, .string ⟨#[]⟩, .bool false, .slice (some ⟨w2.heap.size, 0, none⟩) 1 1, .slice none 0 0, .slice none 0 0, .int .i64 0] 60
  clear h2
  obtain ⟨k2, n2, y2, a2, c2, q2, p2⟩ := ex2
  have hB : (⟨(Ex.mk k2 n2 y2 a2 c2 q2 p2).vals⟩ : Array Value) = #[.int .u8 k2, .string n2, .int .i64 y2, .slice a2 q2.length c2, .int .i64 p2] := rfl
  have hC : (⟨exCells [Ex.mk k2 n2 y2 a2 c2 q2 p2]⟩ : Array Value) = #[.int .u8 k2, .string n2, .int .i64 y2, .slice a2 q2.length c2, .int .i64 p2] := rfl
  try rw [hC] at h3
  try rw [hB] at h3
  try rw [hB]
  clear hB hC
  replace h3 := Lib.hid h3
  go_wp2_with fail
  refine (hT.out _ _ h3.out.rd).mono ?_
  intro e w4 hP
  rcases hP.two with ⟨p, hq, rfl, hre⟩ | ⟨x4, j4, v4, hq, rfl, hV, hR, hre⟩
  · have hr' := hr.out; rw [hq, Res.bind_bad] at hr'; subst hr'; exact ⟨rfl, rfl, h3.out.re.trans hre⟩
  have hr' := hr.out
  rw [hq, Res.bind_ok'] at hr'
  replace hr := Lib.hid hr'
  clear hr' hP hq
  subst hV
  have h4 := h3.out.call hre hR
  clear hre hR h3
  rw [sz_alloc] at h4
  obtain ⟨ce0, ce1, ce2, ce3, ce4, ce5, ce6, ce7, _, _, _, _, _, _, _, _⟩ := cells8 h4.hd
  obtain ⟨cg0, cg1, cg2, cg3, cg4, cg5, cg6, cg7, cf0, cf1, cf2, cf3, cf4, cf5, cf6, cf7⟩ := cells8 h4.hd2
  have hf := Lib.hid fun a b cc d e f g h => h4.swap.set8 a b cc d e f g h
  clear h4 hX hT
  replace hr := hr.out
  go_wp2_with fail
  subst hr
  exact bodyPost_ret (v := .agg #[.int .u8 k, .string ⟨#[]⟩, .string ⟨#[]⟩, .bool false, .slice (some ⟨w2.heap.size, 0, none⟩) 1 1, .slice none 0 0, .slice none 0 0, .int .i64 0]) (results_cell_row Tryz.results150 _ _ w.heap.size _ _ _ _ rfl (hf.out _ _ _ _ _ _ _ _).hd Tryz.underlying60 rfl (by kernel_rfl)) rfl ⟨_, rfl, ⟨.mk k noB noB false (some ⟨w2.heap.size, 0, none⟩) 1 [.mk k2 n2 y2 a2 c2 q2 p2] none 0 [] none 0 [] 0, rfl, stE_In hk.out (by decide) (by decide) (by unfold I64; decide) ((hf.out _ _ _ _ _ _ _ _).fct (by simp)) (ts_nil _ _) (ts_nil _ _), by rw [sa_eq, eaL_cons, eaL_nil, saL_nil, hx2.out]; rfl⟩, (hf.out _ _ _ _ _ _ _ _).rd, (hf.out _ _ _ _ _ _ _ _).re⟩
end Go.Proofs.YtpcdlneompnhlaaGreatDoor.Pa

namespace Go.Proofs.YtpcdlneompnhlaaGreatDoor.Pa
open Go Go.RowKit
open Go.Proofs.YtpcdlneompnhlaaGreatDoor.Lx Go.Proofs.YtpcdlneompnhlaaGreatDoor.Tr

set_option maxHeartbeats 4000000 in
set_option maxRecDepth 100000 in
theorem printStmt_c (hE : XE) {c : Rc} {i : Nat} {w : World} (h : Rd c i w) :
    Calls Tryz.prog 103 #[.pointer (some ⟨c.rb, 0, none⟩)] w (Post c (VT (fun b => w.heap.size ≤ b)) w (toldR c.l 7 i)) := by
  generalize hr : toldR c.l 7 i = r
  have h1 := (Fr.start h).alloc #[.int .u8 0, .string ⟨#[]⟩, .string ⟨#[]⟩, .bool false, .slice none 0 0, .slice none 0 0, .slice none 0 0, .int .i64 0] 60
  replace h1 := Lib.hid h1
  have hX := Lib.hid (fun W j (hW : Rd c j W) => told_c hE hW 7 (by unfold U8; decide))
  replace hr := Lib.hid hr
  clear h hE
  go_enter Tryz.func103, Tryz.ntmps103
  go_wp2_with fail
  refine (hX.out _ i h1.out.rd).mono ?_
  intro e w2 hP
  rcases hP.two with ⟨p, hq, rfl, hre⟩ | ⟨x2, j2, v2, hq, rfl, hV, hR, hre⟩
  · have hr' := hr.out; rw [hq] at hr'; subst hr'; exact ⟨rfl, rfl, h1.out.re.trans hre⟩
  have hr' := hr.out
  rw [hq] at hr'
  replace hr := Lib.hid hr'
  clear hr' hP hq
  obtain ⟨s2, rfl, hx2, hz⟩ := h1.out.factT hre hR hV
  replace hx2 := Lib.hid hx2
  clear hV hR hre h1
  obtain ⟨k2, n2, t2, w2n, ea2, ec2, e2, ba2, bc2, b2, la2, lc2, l2, p2⟩ := s2
  have hB : (⟨(St.mk k2 n2 t2 w2n ea2 ec2 e2 ba2 bc2 b2 la2 lc2 l2 p2).vals⟩ : Array Value) = #[.int .u8 k2, .string n2, .string t2, .bool w2n, .slice ea2 e2.length ec2, .slice ba2 b2.length bc2, .slice la2 l2.length lc2, .int .i64 p2] := rfl
  rw [hB]
  clear hB
  obtain ⟨cg0, cg1, cg2, cg3, cg4, cg5, cg6, cg7, cf0, cf1, cf2, cf3, cf4, cf5, cf6, cf7⟩ := cells8 hz.hd
  have hf := Lib.hid fun a b cc d e f g h => hz.set8 a b cc d e f g h
  clear hz hX
  replace hr := hr.out
  go_wp2_with fail
  subst hr
  exact bodyPost_ret (v := .agg #[.int .u8 k2, .string n2, .string t2, .bool w2n, .slice ea2 e2.length ec2, .slice ba2 b2.length bc2, .slice la2 l2.length lc2, .int .i64 p2]) (results_cell_row Tryz.results103 _ _ w.heap.size _ _ _ _ rfl (hf.out _ _ _ _ _ _ _ _).hd Tryz.underlying60 rfl (by kernel_rfl)) rfl ⟨_, rfl, ⟨.mk k2 n2 t2 w2n ea2 ec2 e2 ba2 bc2 b2 la2 lc2 l2 p2, rfl, (hf.out _ _ _ _ _ _ _ _).fct (f := Fact.T (.mk k2 n2 t2 w2n ea2 ec2 e2 ba2 bc2 b2 la2 lc2 l2 p2)) (by simp), hx2.out⟩, (hf.out _ _ _ _ _ _ _ _).rd, (hf.out _ _ _ _ _ _ _ _).re⟩
end Go.Proofs.YtpcdlneompnhlaaGreatDoor.Pa

namespace Go.Proofs.YtpcdlneompnhlaaGreatDoor.Pa
open Go Go.RowKit
open Go.Proofs.YtpcdlneompnhlaaGreatDoor.Lx Go.Proofs.YtpcdlneompnhlaaGreatDoor.Tr

set_option maxHeartbeats 4000000 in
set_option maxRecDepth 100000 in
theorem returnStmt_c (hE : XE) {c : Rc} {i : Nat} {w : World} (h : Rd c i w) :
    Calls Tryz.prog 105 #[.pointer (some ⟨c.rb, 0, none⟩)] w (Post c (VT (fun b => w.heap.size ≤ b)) w (toldR c.l 9 i)) := by
  generalize hr : toldR c.l 9 i = r
  have h1 := (Fr.start h).alloc #[.int .u8 0, .string ⟨#[]⟩, .string ⟨#[]⟩, .bool false, .slice none 0 0, .slice none 0 0, .slice none 0 0, .int .i64 0] 60
  replace h1 := Lib.hid h1
  have hX := Lib.hid (fun W j (hW : Rd c j W) => told_c hE hW 9 (by unfold U8; decide))
  replace hr := Lib.hid hr
  clear h hE
  go_enter Tryz.func105, Tryz.ntmps105
  go_wp2_with fail
  refine (hX.out _ i h1.out.rd).mono ?_
  intro e w2 hP
  rcases hP.two with ⟨p, hq, rfl, hre⟩ | ⟨x2, j2, v2, hq, rfl, hV, hR, hre⟩
  · have hr' := hr.out; rw [hq] at hr'; subst hr'; exact ⟨rfl, rfl, h1.out.re.trans hre⟩
  have hr' := hr.out
  rw [hq] at hr'
  replace hr := Lib.hid hr'
  clear hr' hP hq
  obtain ⟨s2, rfl, hx2, hz⟩ := h1.out.factT hre hR hV
  replace hx2 := Lib.hid hx2
  clear hV hR hre h1
  obtain ⟨k2, n2, t2, w2n, ea2, ec2, e2, ba2, bc2, b2, la2, lc2, l2, p2⟩ := s2
  have hB : (⟨(St.mk k2 n2 t2 w2n ea2 ec2 e2 ba2 bc2 b2 la2 lc2 l2 p2).vals⟩ : Array Value) = #[.int .u8 k2, .string n2, .string t2, .bool w2n, .slice ea2 e2.length ec2, .slice ba2 b2.length bc2, .slice la2 l2.length lc2, .int .i64 p2] := rfl
  rw [hB]
  clear hB
  obtain ⟨cg0, cg1, cg2, cg3, cg4, cg5, cg6, cg7, cf0, cf1, cf2, cf3, cf4, cf5, cf6, cf7⟩ := cells8 hz.hd
  have hf := Lib.hid fun a b cc d e f g h => hz.set8 a b cc d e f g h
  clear hz hX
  replace hr := hr.out
  go_wp2_with fail
  subst hr
  exact bodyPost_ret (v := .agg #[.int .u8 k2, .string n2, .string t2, .bool w2n, .slice ea2 e2.length ec2, .slice ba2 b2.length bc2, .slice la2 l2.length lc2, .int .i64 p2]) (results_cell_row Tryz.results105 _ _ w.heap.size _ _ _ _ rfl (hf.out _ _ _ _ _ _ _ _).hd Tryz.underlying60 rfl (by kernel_rfl)) rfl ⟨_, rfl, ⟨.mk k2 n2 t2 w2n ea2 ec2 e2 ba2 bc2 b2 la2 lc2 l2 p2, rfl, (hf.out _ _ _ _ _ _ _ _).fct (f := Fact.T (.mk k2 n2 t2 w2n ea2 ec2 e2 ba2 bc2 b2 la2 lc2 l2 p2)) (by simp), hx2.out⟩, (hf.out _ _ _ _ _ _ _ _).rd, (hf.out _ _ _ _ _ _ _ _).re⟩
end Go.Proofs.YtpcdlneompnhlaaGreatDoor.Pa

namespace Go.Proofs.YtpcdlneompnhlaaGreatDoor.Pa
open Go Go.RowKit
open Go.Proofs.YtpcdlneompnhlaaGreatDoor.Lx Go.Proofs.YtpcdlneompnhlaaGreatDoor.Tr

set_option maxHeartbeats 4000000 in
set_option maxRecDepth 100000 in
theorem callStmt_c (hL : XL) {c : Rc} {i : Nat} {w : World} (h : Rd c i w) :
    Calls Tryz.prog 104 #[.pointer (some ⟨c.rb, 0, none⟩)] w (Post c (VT (fun b => w.heap.size ≤ b)) w (callR c.l i)) := by
  generalize hr : callR c.l i = r
  have h1 := (Fr.start h).alloc #[.int .u8 0, .string ⟨#[]⟩, .string ⟨#[]⟩, .bool false, .slice none 0 0, .slice none 0 0, .slice none 0 0, .int .i64 0] 60
  replace h1 := Lib.hid h1
  have hN := Lib.hid (fun W j (hW : Rd c j W) => name_c hW)
  have hL := Lib.hid (fun W j (hW : Rd c j W) => hL c j W hW)
  have hT := Lib.hid (fun W j (hW : Rd c j W) => take_c hW ⟨#[59]⟩ (by decide))
  unfold callR at hr
  replace hr := Lib.hid hr
  clear h
  go_enter Tryz.func104, Tryz.ntmps104
  go_wp2_with fail
  refine (hN.out _ i h1.out.rd).mono ?_
  intro e w2 hP
  rcases hP.two with ⟨p, hq, rfl, hre⟩ | ⟨x2, j2, v2, hq, rfl, hV, hR, hre⟩
  · have hr' := hr.out; rw [hq, Res.bind_bad] at hr'; subst hr'; exact ⟨rfl, rfl, h1.out.re.trans hre⟩
  have hr' := hr.out
  rw [hq, Res.bind_ok'] at hr'
  replace hr := Lib.hid hr'
  clear hr' hP hq
  obtain ⟨rfl, hsz⟩ := hV
  have h2 := h1.out.call hre hR
  clear hre hR h1
  have h3 := h2.alloc #[.int .u8 8, .string x2, .string ⟨#[]⟩, .bool false, .slice none 0 0, .slice none 0 0, .slice none 0 0, .int .i64 0] 60
  clear h2
  replace h3 := Lib.hid h3
  replace hsz := Lib.hid hsz
  go_wp2_with fail
  refine (hL.out _ _ h3.out.rd).mono ?_
  intro e w4 hP
  rcases hP.two with ⟨p, hq, rfl, hre⟩ | ⟨x4, j4, v4, hq, rfl, hV, hR, hre⟩
  · have hr' := hr.out; rw [hq, Res.bind_bad] at hr'; subst hr'; exact ⟨rfl, rfl, h3.out.re.trans hre⟩
  have hr' := hr.out
  rw [hq, Res.bind_ok'] at hr'
  replace hr := Lib.hid hr'
  clear hr' hP hq
  obtain ⟨l4, a4, c4, rfl, hx4, h4⟩ := h3.out.factXs hre hR hV
  replace hx4 := Lib.hid hx4
  clear hV hR hre h3
  obtain ⟨ce0, ce1, ce2, ce3, ce4, ce5, ce6, ce7, cz0, cz1, cz2, cz3, cz4, cz5, cz6, cz7⟩ := cells8 h4.hd
  have h5 := h4.st8_4 (.slice a4 l4.length c4)
  clear h4
  replace h5 := Lib.hid h5
  go_wp2_with fail
  clear ce0 ce1 ce2 ce3 ce4 ce5 ce6 ce7 cz0 cz1 cz2 cz3 cz4 cz5 cz6 cz7
  refine (hT.out _ _ h5.out.rd).mono ?_
  intro e w6 hP
  rcases hP.two with ⟨p, hq, rfl, hre⟩ | ⟨x6, j6, v6, hq, rfl, hV, hR, hre⟩
  · have hr' := hr.out; rw [hq, Res.bind_bad] at hr'; subst hr'; exact ⟨rfl, rfl, h5.out.re.trans hre⟩
  have hr' := hr.out
  rw [hq, Res.bind_ok'] at hr'
  replace hr := Lib.hid hr'
  clear hr' hP hq
  subst hV
  have h6 := h5.out.call hre hR
  clear hre hR h5
  obtain ⟨ce0, ce1, ce2, ce3, ce4, ce5, ce6, ce7, _, _, _, _, _, _, _, _⟩ := cells8 h6.hd
  obtain ⟨cg0, cg1, cg2, cg3, cg4, cg5, cg6, cg7, cf0, cf1, cf2, cf3, cf4, cf5, cf6, cf7⟩ := cells8 h6.hd2
  have hf := Lib.hid fun a b cc d e f g h => h6.swap.set8 a b cc d e f g h
  clear h6 hL hT hN
  replace hr := hr.out
  go_wp2_with fail
  subst hr
  exact bodyPost_ret (v := .agg #[.int .u8 8, .string x2, .string ⟨#[]⟩, .bool false, .slice a4 l4.length c4, .slice none 0 0, .slice none 0 0, .int .i64 0]) (results_cell_row Tryz.results104 _ _ w.heap.size _ _ _ _ rfl (hf.out _ _ _ _ _ _ _ _).hd Tryz.underlying60 rfl (by kernel_rfl)) rfl ⟨_, rfl, ⟨.mk 8 x2 noB false a4 c4 l4 none 0 [] none 0 [] 0, rfl, stE_In (by unfold U8; decide) hsz.out (by decide) (by unfold I64; decide) ((hf.out _ _ _ _ _ _ _ _).fct (by simp)) (ts_nil _ _) (ts_nil _ _), by rw [sa_eq, saL_nil, hx4.out]; rfl⟩, (hf.out _ _ _ _ _ _ _ _).rd, (hf.out _ _ _ _ _ _ _ _).re⟩
end Go.Proofs.YtpcdlneompnhlaaGreatDoor.Pa
