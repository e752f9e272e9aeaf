/- Declarations: what each one reads, as plain functions; words for their walks. Conditions: none. · Walk of the reader's method decl. Conditions: the contracts of what it calls. · Walk of the reader's method decl. Conditions: the contracts of what it calls. · Walk of the reader's method lockDecl. Conditions: the contracts of what it calls. · Walk of the reader's method arrayDecl. Conditions: the contracts of what it calls. -/
import Derived.Test.YtpcdlneompnhlaaGreatDoorGrAO
import Derived.Test.YtpcdlneompnhlaaGreatDoorGrAJ
import Derived.Deep.Cut
namespace Go.Proofs.YtpcdlneompnhlaaGreatDoor.Pa
open Go Go.RowKit
open Go.Proofs.YtpcdlneompnhlaaGreatDoor.Lx Go.Proofs.YtpcdlneompnhlaaGreatDoor.Tr

def deAt (p : Int) (d : De) : De := ⟨d.kind, d.name, d.n, d.pa, d.pcap, d.params, d.ba, d.bcap, d.body, p⟩
def Res.atD (p : Int) (r : Res De) : Res De := r.bind fun d j => .ok (deAt p d) j
def globalR (l : List Tk) (i : Nat) : Res De := (nameR l i).bind fun nm j => (takeR l j ⟨#[61]⟩).bind fun _ k => (if tx l k = ⟨#[45]⟩ then numR l (k + 1) ⟨#[45]⟩ else numR l k ⟨#[]⟩).bind fun n m => (takeR l m ⟨#[59]⟩).bind fun _ q => .ok (deE 1 nm n [] [] 0) q
def arrayR (l : List Tk) (i : Nat) : Res De := (nameR l i).bind fun nm j => (takeR l j ⟨#[91]⟩).bind fun _ k => (numR l k ⟨#[]⟩).bind fun n m => (takeR l m ⟨#[93]⟩).bind fun _ q => (takeR l q ⟨#[59]⟩).bind fun _ r => .ok (deE 2 nm n [] [] 0) r
def lockR (l : List Tk) (i : Nat) : Res De := (nameR l i).bind fun nm j => (takeR l j ⟨#[59]⟩).bind fun _ k => .ok (deE 3 nm 0 [] [] 0) k
def funcR (l : List Tk) (i : Nat) : Res De := (nameR l i).bind fun nm j => (listN l j).bind fun p k => (blockR l (SF l) k).bind fun b m => .ok (deE 4 nm 0 p b 0) m
def threadR (l : List Tk) (i : Nat) : Res De := (nameR l i).bind fun nm j => (blockR l (SF l) j).bind fun b m => .ok (deE 5 nm 0 [] b 0) m
theorem declR_eq (l : List Tk) (i : Nat) : declR l i = if tx l i = wGlobal then Res.atD (ps l i) (globalR l (i + 1)) else if tx l i = wArray then Res.atD (ps l i) (arrayR l (i + 1)) else if tx l i = wLock then Res.atD (ps l i) (lockR l (i + 1))
    else if tx l i = wFunc then Res.atD (ps l i) (funcR l (i + 1)) else if tx l i = wThread then Res.atD (ps l i) (threadR l (i + 1)) else .bad (ps l i) := by
  unfold declR Res.atD globalR arrayR lockR funcR threadR
  simp only [bind_assoc, Res.bind_ok', deAt, deE]
theorem deE_In {W : World} {S : Nat → Prop} {k n pos : Int} {nm : ByteArray} {pa : Option Addr} {pc : Nat} {p : List ByteArray} {ba : Option Addr} {bc : Nat} {b : List St} (hk : U8 k) (hn : nm.size ≤ maxLen) (hi : I64 n) (hp : I64 pos) (hpp : (Fact.N p pa pc).P S W) (hps : ∀ x ∈ p, x.size ≤ maxLen) (hb : (Fact.Ts b ba bc).P S W) : De.In W S ⟨k, nm, n, pa, pc, p, ba, bc, b, pos⟩ :=
  ⟨hk, hn, hi, hp, hpp, hps, hb.1, hb.2⟩
theorem ns_nil (S : Nat → Prop) (W : World) : (Fact.N [] none 0).P S W := row_nil _ _
theorem da_at (p : Int) (d : De) : da (deAt p d) = deAt p (da d) := rfl
theorem deAt_In {W : World} {S : Nat → Prop} {p : Int} {d : De} (hp : I64 p) (h : De.In W S d) : De.In W S (deAt p d) := ⟨h.1, h.2.1, h.2.2.1, hp, h.2.2.2.2⟩
end Go.Proofs.YtpcdlneompnhlaaGreatDoor.Pa

namespace Go.Proofs.YtpcdlneompnhlaaGreatDoor.Pa
open Go Go.RowKit
open Go.Proofs.YtpcdlneompnhlaaGreatDoor.Lx Go.Proofs.YtpcdlneompnhlaaGreatDoor.Tr

set_option maxHeartbeats 4000000 in
set_option maxRecDepth 100000 in
theorem decl_global {c : Rc} {i : Nat} {w : World} (h : Rd c i w) (hm : Mp c w) (hmore : i + 1 < c.l.length) (R : Res De) (hfw : findW wordsD (tx c.l i) = some 94) (hF : ∀ W, Rd c (i + 1) W → RE c.rb w W → Calls Tryz.prog 94 #[.pointer (some ⟨c.rb, 0, none⟩)] W (Post c (VD (fun b => W.heap.size ≤ b)) W R)) :
    Calls Tryz.prog 106 #[.pointer (some ⟨c.rb, 0, none⟩)] w (Post c (VD (fun b => w.heap.size ≤ b)) w (Res.atD (ps c.l i) R)) := by
  generalize hr : Res.atD (ps c.l i) R = r
  have hp := Lib.hid h.ps_i64
  have hlim : i ≤ 100000 := by have := h.lim; have := h.lt; omega
  have hlk := look_d h hm
  rw [hfw] at hlk
  replace hlk := Lib.hid hlk
  have h1 := Lib.hid ((Fr.start h).alloc #[.int .u8 0, .string ⟨#[]⟩, .int .i64 0, .slice none 0 0, .slice none 0 0, .int .i64 0] 31)
  have hA := Lib.hid (fun W (hW : Rd c i W) => at_c hW)
  have hX := Lib.hid (fun W (hW : Rd c i W) => text_c hW)
  replace hr := Lib.hid hr
  replace hF := Lib.hid hF
  clear h hm hfw
  go_enter Tryz.func106, Tryz.ntmps106
  go_wp2_with fail
  refine (hA.out _ h1.out.rd).mono ?_
  rintro e w' ⟨rfl, n, rfl⟩
  have h2 := h1.out.drewN n
  obtain ⟨W1, hW1⟩ : ∃ W, (w.alloc (.cells #[.int .u8 0, .string ⟨#[]⟩, .int .i64 0, .slice none 0 0, .slice none 0 0, .int .i64 0] 31)).drewN n = W := ⟨_, rfl⟩
  rw [hW1] at h2 ⊢
  clear hW1 h1
  have c3 : W1.cell? ⟨c.rb, 2, none⟩ = some (.map (some c.dm)) := blk_cell h2.rd.blk rfl
  have c1 : W1.cell? ⟨c.rb, 1, none⟩ = some (.int .i64 i) := blk_cell h2.rd.blk rfl
  have f1 : W1.frozen? ⟨c.rb, 1, none⟩ = false := blk_free h2.rd.blk 1
  have hl2 : ∀ m, _ := fun m => hlk.out (W1.drewN m) (h2.re.trans (RE.drewN W1 m))
  have hx2 := Lib.hid fun m => hX.out (W1.drewN m) (h2.rd.drewN m)
  generalize hs : tx c.l i = s at hl2 hx2
  replace hs := Lib.hid hs
  generalize hq : ps c.l i = q at hr hp ⊢
  replace h2 := Lib.hid h2
  clear hlk hX hA
  go_wp2_with fail
  go_quiet ((go_at_call 153; exact Calls.quiet_of (hx2.out _)))
  clear hl2 hx2
  have h3 := (h2.out.drewN nq).step hmore
  obtain ⟨W3, hW3⟩ : ∃ W, (W1.drewN nq).setCell ⟨c.rb, 1, none⟩ (.int .i64 ((i : Int) + 1)) = W := ⟨_, rfl⟩
  go_wp2_with fail
  rw [hW3] at h3
  clear hW3 h2 c1 c3 f1
  replace h3 := Lib.hid h3
  refine (hF.out _ h3.out.rd h3.out.re).mono ?_
  intro e w4 hP
  rcases hP.two with ⟨p, hq2, rfl, hre⟩ | ⟨x4, j4, v4, hq2, rfl, hV, hR, hre⟩
  · have hr' := hr.out
    rw [hq2] at hr'
    simp only [Res.atD, Res.bind_bad] at hr'
    subst hr'
    exact ⟨rfl, rfl, h3.out.re.trans hre⟩
  have hr' := hr.out
  rw [hq2] at hr'
  simp only [Res.atD, Res.bind_ok'] at hr'
  replace hr : Hid (Res.ok (deAt q x4) j4 = r) := Lib.hid hr'
  clear hr' hP hq2
  obtain ⟨s4, rfl, hx4, h4⟩ := h3.out.factD hre hR hV
  replace hx4 := Lib.hid hx4
  clear hV hR hre h3 hF
  obtain ⟨k4, n4, y4, pa4, pc4, p4, ba4, bc4, b4, q4⟩ := s4
  have hB : (⟨(De.mk k4 n4 y4 pa4 pc4 p4 ba4 bc4 b4 q4).vals⟩ : Array Value) = #[.int .u8 k4, .string n4, .int .i64 y4, .slice pa4 p4.length pc4, .slice ba4 b4.length bc4, .int .i64 q4] := rfl
  rw [hB]
  clear hB
  have h5 := h4.alloc #[.int .u8 k4, .string n4, .int .i64 y4, .slice pa4 p4.length pc4, .slice ba4 b4.length bc4, .int .i64 q] 31
  clear h4
  obtain ⟨cg0, cg1, cg2, cg3, cg4, cg5, cf0, cf1, cf2, cf3, cf4, cf5⟩ := cells6 h5.hd2
  have hf := Lib.hid fun a b cc d e f => h5.swap.set6 a b cc d e f
  clear h5
  replace hr := hr.out
  go_wp2_with fail
  subst hr
  exact bodyPost_ret (v := .agg #[.int .u8 k4, .string n4, .int .i64 y4, .slice pa4 p4.length pc4, .slice ba4 b4.length bc4, .int .i64 q]) (results_cell_row Tryz.results106 _ _ w.heap.size _ _ _ _ rfl (hf.out _ _ _ _ _ _).hd Tryz.underlying31 rfl (by kernel_rfl)) rfl ⟨_, rfl, ⟨deAt q (De.mk k4 n4 y4 pa4 pc4 p4 ba4 bc4 b4 q4), rfl, deAt_In hp.out ((hf.out _ _ _ _ _ _).fct (f := Fact.D (De.mk k4 n4 y4 pa4 pc4 p4 ba4 bc4 b4 q4)) (by simp)), by rw [da_at, hx4.out]⟩, (hf.out _ _ _ _ _ _).rd, (hf.out _ _ _ _ _ _).re⟩

set_option maxHeartbeats 4000000 in
set_option maxRecDepth 100000 in
theorem decl_array {c : Rc} {i : Nat} {w : World} (h : Rd c i w) (hm : Mp c w) (hmore : i + 1 < c.l.length) (R : Res De) (hfw : findW wordsD (tx c.l i) = some 95) (hF : ∀ W, Rd c (i + 1) W → RE c.rb w W → Calls Tryz.prog 95 #[.pointer (some ⟨c.rb, 0, none⟩)] W (Post c (VD (fun b => W.heap.size ≤ b)) W R)) :
    Calls Tryz.prog 106 #[.pointer (some ⟨c.rb, 0, none⟩)] w (Post c (VD (fun b => w.heap.size ≤ b)) w (Res.atD (ps c.l i) R)) := by
  generalize hr : Res.atD (ps c.l i) R = r
  have hp := Lib.hid h.ps_i64
  have hlim : i ≤ 100000 := by have := h.lim; have := h.lt; omega
  have hlk := look_d h hm
  rw [hfw] at hlk
  replace hlk := Lib.hid hlk
  have h1 := Lib.hid ((Fr.start h).alloc #[.int .u8 0, .string ⟨#[]⟩, .int .i64 0, .slice none 0 0, .slice none 0 0, .int .i64 0] 31)
  have hA := Lib.hid (fun W (hW : Rd c i W) => at_c hW)
  have hX := Lib.hid (fun W (hW : Rd c i W) => text_c hW)
  replace hr := Lib.hid hr
  replace hF := Lib.hid hF
  clear h hm hfw
  go_enter Tryz.func106, Tryz.ntmps106
  go_wp2_with fail
  refine (hA.out _ h1.out.rd).mono ?_
  rintro e w' ⟨rfl, n, rfl⟩
  have h2 := h1.out.drewN n
  obtain ⟨W1, hW1⟩ : ∃ W, (w.alloc (.cells #[.int .u8 0, .string ⟨#[]⟩, .int .i64 0, .slice none 0 0, .slice none 0 0, .int .i64 0] 31)).drewN n = W := ⟨_, rfl⟩
  rw [hW1] at h2 ⊢
  clear hW1 h1
  have c3 : W1.cell? ⟨c.rb, 2, none⟩ = some (.map (some c.dm)) := blk_cell h2.rd.blk rfl
  have c1 : W1.cell? ⟨c.rb, 1, none⟩ = some (.int .i64 i) := blk_cell h2.rd.blk rfl
  have f1 : W1.frozen? ⟨c.rb, 1, none⟩ = false := blk_free h2.rd.blk 1
  have hl2 : ∀ m, _ := fun m => hlk.out (W1.drewN m) (h2.re.trans (RE.drewN W1 m))
  have hx2 := Lib.hid fun m => hX.out (W1.drewN m) (h2.rd.drewN m)
  generalize hs : tx c.l i = s at hl2 hx2
  replace hs := Lib.hid hs
  generalize hq : ps c.l i = q at hr hp ⊢
  replace h2 := Lib.hid h2
  clear hlk hX hA
  go_wp2_with fail
  go_quiet ((go_at_call 153; exact Calls.quiet_of (hx2.out _)))
  clear hl2 hx2
  have h3 := (h2.out.drewN nq).step hmore
  obtain ⟨W3, hW3⟩ : ∃ W, (W1.drewN nq).setCell ⟨c.rb, 1, none⟩ (.int .i64 ((i : Int) + 1)) = W := ⟨_, rfl⟩
  go_wp2_with fail
  rw [hW3] at h3
  clear hW3 h2 c1 c3 f1
  replace h3 := Lib.hid h3
  refine (hF.out _ h3.out.rd h3.out.re).mono ?_
  intro e w4 hP
  rcases hP.two with ⟨p, hq2, rfl, hre⟩ | ⟨x4, j4, v4, hq2, rfl, hV, hR, hre⟩
  · have hr' := hr.out
    rw [hq2] at hr'
    simp only [Res.atD, Res.bind_bad] at hr'
    subst hr'
    exact ⟨rfl, rfl, h3.out.re.trans hre⟩
  have hr' := hr.out
  rw [hq2] at hr'
  simp only [Res.atD, Res.bind_ok'] at hr'
  replace hr : Hid (Res.ok (deAt q x4) j4 = r) := Lib.hid hr'
  clear hr' hP hq2
  obtain ⟨s4, rfl, hx4, h4⟩ := h3.out.factD hre hR hV
  replace hx4 := Lib.hid hx4
  clear hV hR hre h3 hF
  obtain ⟨k4, n4, y4, pa4, pc4, p4, ba4, bc4, b4, q4⟩ := s4
  have hB : (⟨(De.mk k4 n4 y4 pa4 pc4 p4 ba4 bc4 b4 q4).vals⟩ : Array Value) = #[.int .u8 k4, .string n4, .int .i64 y4, .slice pa4 p4.length pc4, .slice ba4 b4.length bc4, .int .i64 q4] := rfl
  rw [hB]
  clear hB
  have h5 := h4.alloc #[.int .u8 k4, .string n4, .int .i64 y4, .slice pa4 p4.length pc4, .slice ba4 b4.length bc4, .int .i64 q] 31
  clear h4
  obtain ⟨cg0, cg1, cg2, cg3, cg4, cg5, cf0, cf1, cf2, cf3, cf4, cf5⟩ := cells6 h5.hd2
  have hf := Lib.hid fun a b cc d e f => h5.swap.set6 a b cc d e f
  clear h5
  replace hr := hr.out
  go_wp2_with fail
  subst hr
  exact bodyPost_ret (v := .agg #[.int .u8 k4, .string n4, .int .i64 y4, .slice pa4 p4.length pc4, .slice ba4 b4.length bc4, .int .i64 q]) (results_cell_row Tryz.results106 _ _ w.heap.size _ _ _ _ rfl (hf.out _ _ _ _ _ _).hd Tryz.underlying31 rfl (by kernel_rfl)) rfl ⟨_, rfl, ⟨deAt q (De.mk k4 n4 y4 pa4 pc4 p4 ba4 bc4 b4 q4), rfl, deAt_In hp.out ((hf.out _ _ _ _ _ _).fct (f := Fact.D (De.mk k4 n4 y4 pa4 pc4 p4 ba4 bc4 b4 q4)) (by simp)), by rw [da_at, hx4.out]⟩, (hf.out _ _ _ _ _ _).rd, (hf.out _ _ _ _ _ _).re⟩

set_option maxHeartbeats 4000000 in
set_option maxRecDepth 100000 in
theorem decl_lock {c : Rc} {i : Nat} {w : World} (h : Rd c i w) (hm : Mp c w) (hmore : i + 1 < c.l.length) (R : Res De) (hfw : findW wordsD (tx c.l i) = some 96) (hF : ∀ W, Rd c (i + 1) W → RE c.rb w W → Calls Tryz.prog 96 #[.pointer (some ⟨c.rb, 0, none⟩)] W (Post c (VD (fun b => W.heap.size ≤ b)) W R)) :
    Calls Tryz.prog 106 #[.pointer (some ⟨c.rb, 0, none⟩)] w (Post c (VD (fun b => w.heap.size ≤ b)) w (Res.atD (ps c.l i) R)) := by
  generalize hr : Res.atD (ps c.l i) R = r
  have hp := Lib.hid h.ps_i64
  have hlim : i ≤ 100000 := by have := h.lim; have := h.lt; omega
  have hlk := look_d h hm
  rw [hfw] at hlk
  replace hlk := Lib.hid hlk
  have h1 := Lib.hid ((Fr.start h).alloc #[.int .u8 0, .string ⟨#[]⟩, .int .i64 0, .slice none 0 0, .slice none 0 0, .int .i64 0] 31)
  have hA := Lib.hid (fun W (hW : Rd c i W) => at_c hW)
  have hX := Lib.hid (fun W (hW : Rd c i W) => text_c hW)
  replace hr := Lib.hid hr
  replace hF := Lib.hid hF
  clear h hm hfw
  go_enter Tryz.func106, Tryz.ntmps106
  go_wp2_with fail
  refine (hA.out _ h1.out.rd).mono ?_
  rintro e w' ⟨rfl, n, rfl⟩
  have h2 := h1.out.drewN n
  obtain ⟨W1, hW1⟩ : ∃ W, (w.alloc (.cells #[.int .u8 0, .string ⟨#[]⟩, .int .i64 0, .slice none 0 0, .slice none 0 0, .int .i64 0] 31)).drewN n = W := ⟨_, rfl⟩
  rw [hW1] at h2 ⊢
  clear hW1 h1
  have c3 : W1.cell? ⟨c.rb, 2, none⟩ = some (.map (some c.dm)) := blk_cell h2.rd.blk rfl
  have c1 : W1.cell? ⟨c.rb, 1, none⟩ = some (.int .i64 i) := blk_cell h2.rd.blk rfl
  have f1 : W1.frozen? ⟨c.rb, 1, none⟩ = false := blk_free h2.rd.blk 1
  have hl2 : ∀ m, _ := fun m => hlk.out (W1.drewN m) (h2.re.trans (RE.drewN W1 m))
  have hx2 := Lib.hid fun m => hX.out (W1.drewN m) (h2.rd.drewN m)
  generalize hs : tx c.l i = s at hl2 hx2
  replace hs := Lib.hid hs
  generalize hq : ps c.l i = q at hr hp ⊢
  replace h2 := Lib.hid h2
  clear hlk hX hA
  go_wp2_with fail
  go_quiet ((go_at_call 153; exact Calls.quiet_of (hx2.out _)))
  clear hl2 hx2
  have h3 := (h2.out.drewN nq).step hmore
  obtain ⟨W3, hW3⟩ : ∃ W, (W1.drewN nq).setCell ⟨c.rb, 1, none⟩ (.int .i64 ((i : Int) + 1)) = W := ⟨_, rfl⟩
  go_wp2_with fail
  rw [hW3] at h3
  clear hW3 h2 c1 c3 f1
  replace h3 := Lib.hid h3
  refine (hF.out _ h3.out.rd h3.out.re).mono ?_
  intro e w4 hP
  rcases hP.two with ⟨p, hq2, rfl, hre⟩ | ⟨x4, j4, v4, hq2, rfl, hV, hR, hre⟩
  · have hr' := hr.out
    rw [hq2] at hr'
    simp only [Res.atD, Res.bind_bad] at hr'
    subst hr'
    exact ⟨rfl, rfl, h3.out.re.trans hre⟩
  have hr' := hr.out
  rw [hq2] at hr'
  simp only [Res.atD, Res.bind_ok'] at hr'
  replace hr : Hid (Res.ok (deAt q x4) j4 = r) := Lib.hid hr'
  clear hr' hP hq2
  obtain ⟨s4, rfl, hx4, h4⟩ := h3.out.factD hre hR hV
  replace hx4 := Lib.hid hx4
  clear hV hR hre h3 hF
  obtain ⟨k4, n4, y4, pa4, pc4, p4, ba4, bc4, b4, q4⟩ := s4
  have hB : (⟨(De.mk k4 n4 y4 pa4 pc4 p4 ba4 bc4 b4 q4).vals⟩ : Array Value) = #[.int .u8 k4, .string n4, .int .i64 y4, .slice pa4 p4.length pc4, .slice ba4 b4.length bc4, .int .i64 q4] := rfl
  rw [hB]
  clear hB
  have h5 := h4.alloc #[.int .u8 k4, .string n4, .int .i64 y4, .slice pa4 p4.length pc4, .slice ba4 b4.length bc4, .int .i64 q] 31
  clear h4
  obtain ⟨cg0, cg1, cg2, cg3, cg4, cg5, cf0, cf1, cf2, cf3, cf4, cf5⟩ := cells6 h5.hd2
  have hf := Lib.hid fun a b cc d e f => h5.swap.set6 a b cc d e f
  clear h5
  replace hr := hr.out
  go_wp2_with fail
  subst hr
  exact bodyPost_ret (v := .agg #[.int .u8 k4, .string n4, .int .i64 y4, .slice pa4 p4.length pc4, .slice ba4 b4.length bc4, .int .i64 q]) (results_cell_row Tryz.results106 _ _ w.heap.size _ _ _ _ rfl (hf.out _ _ _ _ _ _).hd Tryz.underlying31 rfl (by kernel_rfl)) rfl ⟨_, rfl, ⟨deAt q (De.mk k4 n4 y4 pa4 pc4 p4 ba4 bc4 b4 q4), rfl, deAt_In hp.out ((hf.out _ _ _ _ _ _).fct (f := Fact.D (De.mk k4 n4 y4 pa4 pc4 p4 ba4 bc4 b4 q4)) (by simp)), by rw [da_at, hx4.out]⟩, (hf.out _ _ _ _ _ _).rd, (hf.out _ _ _ _ _ _).re⟩
end Go.Proofs.YtpcdlneompnhlaaGreatDoor.Pa

namespace Go.Proofs.YtpcdlneompnhlaaGreatDoor.Pa
open Go Go.RowKit
open Go.Proofs.YtpcdlneompnhlaaGreatDoor.Lx Go.Proofs.YtpcdlneompnhlaaGreatDoor.Tr

set_option maxHeartbeats 4000000 in
set_option maxRecDepth 100000 in
theorem decl_func {c : Rc} {i : Nat} {w : World} (h : Rd c i w) (hm : Mp c w) (hmore : i + 1 < c.l.length) (R : Res De) (hfw : findW wordsD (tx c.l i) = some 97) (hF : ∀ W, Rd c (i + 1) W → RE c.rb w W → Calls Tryz.prog 97 #[.pointer (some ⟨c.rb, 0, none⟩)] W (Post c (VD (fun b => W.heap.size ≤ b)) W R)) :
    Calls Tryz.prog 106 #[.pointer (some ⟨c.rb, 0, none⟩)] w (Post c (VD (fun b => w.heap.size ≤ b)) w (Res.atD (ps c.l i) R)) := by
  generalize hr : Res.atD (ps c.l i) R = r
  have hp := Lib.hid h.ps_i64
  have hlim : i ≤ 100000 := by have := h.lim; have := h.lt; omega
  have hlk := look_d h hm
  rw [hfw] at hlk
  replace hlk := Lib.hid hlk
  have h1 := Lib.hid ((Fr.start h).alloc #[.int .u8 0, .string ⟨#[]⟩, .int .i64 0, .slice none 0 0, .slice none 0 0, .int .i64 0] 31)
  have hA := Lib.hid (fun W (hW : Rd c i W) => at_c hW)
  have hX := Lib.hid (fun W (hW : Rd c i W) => text_c hW)
  replace hr := Lib.hid hr
  replace hF := Lib.hid hF
  clear h hm hfw
  go_enter Tryz.func106, Tryz.ntmps106
  go_wp2_with fail
  refine (hA.out _ h1.out.rd).mono ?_
  rintro e w' ⟨rfl, n, rfl⟩
  have h2 := h1.out.drewN n
  obtain ⟨W1, hW1⟩ : ∃ W, (w.alloc (.cells #[.int .u8 0, .string ⟨#[]⟩, .int .i64 0, .slice none 0 0, .slice none 0 0, .int .i64 0] 31)).drewN n = W := ⟨_, rfl⟩
  rw [hW1] at h2 ⊢
  clear hW1 h1
  have c3 : W1.cell? ⟨c.rb, 2, none⟩ = some (.map (some c.dm)) := blk_cell h2.rd.blk rfl
  have c1 : W1.cell? ⟨c.rb, 1, none⟩ = some (.int .i64 i) := blk_cell h2.rd.blk rfl
  have f1 : W1.frozen? ⟨c.rb, 1, none⟩ = false := blk_free h2.rd.blk 1
  have hl2 : ∀ m, _ := fun m => hlk.out (W1.drewN m) (h2.re.trans (RE.drewN W1 m))
  have hx2 := Lib.hid fun m => hX.out (W1.drewN m) (h2.rd.drewN m)
  generalize hs : tx c.l i = s at hl2 hx2
  replace hs := Lib.hid hs
  generalize hq : ps c.l i = q at hr hp ⊢
  replace h2 := Lib.hid h2
  clear hlk hX hA
  go_wp2_with fail
  go_quiet ((go_at_call 153; exact Calls.quiet_of (hx2.out _)))
  clear hl2 hx2
  have h3 := (h2.out.drewN nq).step hmore
  obtain ⟨W3, hW3⟩ : ∃ W, (W1.drewN nq).setCell ⟨c.rb, 1, none⟩ (.int .i64 ((i : Int) + 1)) = W := ⟨_, rfl⟩
  go_wp2_with fail
  rw [hW3] at h3
  clear hW3 h2 c1 c3 f1
  replace h3 := Lib.hid h3
  refine (hF.out _ h3.out.rd h3.out.re).mono ?_
  intro e w4 hP
  rcases hP.two with ⟨p, hq2, rfl, hre⟩ | ⟨x4, j4, v4, hq2, rfl, hV, hR, hre⟩
  · have hr' := hr.out
    rw [hq2] at hr'
    simp only [Res.atD, Res.bind_bad] at hr'
    subst hr'
    exact ⟨rfl, rfl, h3.out.re.trans hre⟩
  have hr' := hr.out
  rw [hq2] at hr'
  simp only [Res.atD, Res.bind_ok'] at hr'
  replace hr : Hid (Res.ok (deAt q x4) j4 = r) := Lib.hid hr'
  clear hr' hP hq2
  obtain ⟨s4, rfl, hx4, h4⟩ := h3.out.factD hre hR hV
  replace hx4 := Lib.hid hx4
  clear hV hR hre h3 hF
  obtain ⟨k4, n4, y4, pa4, pc4, p4, ba4, bc4, b4, q4⟩ := s4
  have hB : (⟨(De.mk k4 n4 y4 pa4 pc4 p4 ba4 bc4 b4 q4).vals⟩ : Array Value) = #[.int .u8 k4, .string n4, .int .i64 y4, .slice pa4 p4.length pc4, .slice ba4 b4.length bc4, .int .i64 q4] := rfl
  rw [hB]
  clear hB
  have h5 := h4.alloc #[.int .u8 k4, .string n4, .int .i64 y4, .slice pa4 p4.length pc4, .slice ba4 b4.length bc4, .int .i64 q] 31
  clear h4
  obtain ⟨cg0, cg1, cg2, cg3, cg4, cg5, cf0, cf1, cf2, cf3, cf4, cf5⟩ := cells6 h5.hd2
  have hf := Lib.hid fun a b cc d e f => h5.swap.set6 a b cc d e f
  clear h5
  replace hr := hr.out
  go_wp2_with fail
  subst hr
  exact bodyPost_ret (v := .agg #[.int .u8 k4, .string n4, .int .i64 y4, .slice pa4 p4.length pc4, .slice ba4 b4.length bc4, .int .i64 q]) (results_cell_row Tryz.results106 _ _ w.heap.size _ _ _ _ rfl (hf.out _ _ _ _ _ _).hd Tryz.underlying31 rfl (by kernel_rfl)) rfl ⟨_, rfl, ⟨deAt q (De.mk k4 n4 y4 pa4 pc4 p4 ba4 bc4 b4 q4), rfl, deAt_In hp.out ((hf.out _ _ _ _ _ _).fct (f := Fact.D (De.mk k4 n4 y4 pa4 pc4 p4 ba4 bc4 b4 q4)) (by simp)), by rw [da_at, hx4.out]⟩, (hf.out _ _ _ _ _ _).rd, (hf.out _ _ _ _ _ _).re⟩

set_option maxHeartbeats 4000000 in
set_option maxRecDepth 100000 in
theorem decl_thread {c : Rc} {i : Nat} {w : World} (h : Rd c i w) (hm : Mp c w) (hmore : i + 1 < c.l.length) (R : Res De) (hfw : findW wordsD (tx c.l i) = some 98) (hF : ∀ W, Rd c (i + 1) W → RE c.rb w W → Calls Tryz.prog 98 #[.pointer (some ⟨c.rb, 0, none⟩)] W (Post c (VD (fun b => W.heap.size ≤ b)) W R)) :
    Calls Tryz.prog 106 #[.pointer (some ⟨c.rb, 0, none⟩)] w (Post c (VD (fun b => w.heap.size ≤ b)) w (Res.atD (ps c.l i) R)) := by
  generalize hr : Res.atD (ps c.l i) R = r
  have hp := Lib.hid h.ps_i64
  have hlim : i ≤ 100000 := by have := h.lim; have := h.lt; omega
  have hlk := look_d h hm
  rw [hfw] at hlk
  replace hlk := Lib.hid hlk
  have h1 := Lib.hid ((Fr.start h).alloc #[.int .u8 0, .string ⟨#[]⟩, .int .i64 0, .slice none 0 0, .slice none 0 0, .int .i64 0] 31)
  have hA := Lib.hid (fun W (hW : Rd c i W) => at_c hW)
  have hX := Lib.hid (fun W (hW : Rd c i W) => text_c hW)
  replace hr := Lib.hid hr
  replace hF := Lib.hid hF
  clear h hm hfw
  go_enter Tryz.func106, Tryz.ntmps106
  go_wp2_with fail
  refine (hA.out _ h1.out.rd).mono ?_
  rintro e w' ⟨rfl, n, rfl⟩
  have h2 := h1.out.drewN n
  obtain ⟨W1, hW1⟩ : ∃ W, (w.alloc (.cells #[.int .u8 0, .string ⟨#[]⟩, .int .i64 0, .slice none 0 0, .slice none 0 0, .int .i64 0] 31)).drewN n = W := ⟨_, rfl⟩
  rw [hW1] at h2 ⊢
  clear hW1 h1
  have c3 : W1.cell? ⟨c.rb, 2, none⟩ = some (.map (some c.dm)) := blk_cell h2.rd.blk rfl
  have c1 : W1.cell? ⟨c.rb, 1, none⟩ = some (.int .i64 i) := blk_cell h2.rd.blk rfl
  have f1 : W1.frozen? ⟨c.rb, 1, none⟩ = false := blk_free h2.rd.blk 1
  have hl2 : ∀ m, _ := fun m => hlk.out (W1.drewN m) (h2.re.trans (RE.drewN W1 m))
  have hx2 := Lib.hid fun m => hX.out (W1.drewN m) (h2.rd.drewN m)
  generalize hs : tx c.l i = s at hl2 hx2
  replace hs := Lib.hid hs
  generalize hq : ps c.l i = q at hr hp ⊢
  replace h2 := Lib.hid h2
  clear hlk hX hA
  go_wp2_with fail
  go_quiet ((go_at_call 153; exact Calls.quiet_of (hx2.out _)))
  clear hl2 hx2
  have h3 := (h2.out.drewN nq).step hmore
  obtain ⟨W3, hW3⟩ : ∃ W, (W1.drewN nq).setCell ⟨c.rb, 1, none⟩ (.int .i64 ((i : Int) + 1)) = W := ⟨_, rfl⟩
  go_wp2_with fail
  rw [hW3] at h3
  clear hW3 h2 c1 c3 f1
  replace h3 := Lib.hid h3
  refine (hF.out _ h3.out.rd h3.out.re).mono ?_
  intro e w4 hP
  rcases hP.two with ⟨p, hq2, rfl, hre⟩ | ⟨x4, j4, v4, hq2, rfl, hV, hR, hre⟩
  · have hr' := hr.out
    rw [hq2] at hr'
    simp only [Res.atD, Res.bind_bad] at hr'
    subst hr'
    exact ⟨rfl, rfl, h3.out.re.trans hre⟩
  have hr' := hr.out
  rw [hq2] at hr'
  simp only [Res.atD, Res.bind_ok'] at hr'
  replace hr : Hid (Res.ok (deAt q x4) j4 = r) := Lib.hid hr'
  clear hr' hP hq2
  obtain ⟨s4, rfl, hx4, h4⟩ := h3.out.factD hre hR hV
  replace hx4 := Lib.hid hx4
  clear hV hR hre h3 hF
  obtain ⟨k4, n4, y4, pa4, pc4, p4, ba4, bc4, b4, q4⟩ := s4
  have hB : (⟨(De.mk k4 n4 y4 pa4 pc4 p4 ba4 bc4 b4 q4).vals⟩ : Array Value) = #[.int .u8 k4, .string n4, .int .i64 y4, .slice pa4 p4.length pc4, .slice ba4 b4.length bc4, .int .i64 q4] := rfl
  rw [hB]
  clear hB
  have h5 := h4.alloc #[.int .u8 k4, .string n4, .int .i64 y4, .slice pa4 p4.length pc4, .slice ba4 b4.length bc4, .int .i64 q] 31
  clear h4
  obtain ⟨cg0, cg1, cg2, cg3, cg4, cg5, cf0, cf1, cf2, cf3, cf4, cf5⟩ := cells6 h5.hd2
  have hf := Lib.hid fun a b cc d e f => h5.swap.set6 a b cc d e f
  clear h5
  replace hr := hr.out
  go_wp2_with fail
  subst hr
  exact bodyPost_ret (v := .agg #[.int .u8 k4, .string n4, .int .i64 y4, .slice pa4 p4.length pc4, .slice ba4 b4.length bc4, .int .i64 q]) (results_cell_row Tryz.results106 _ _ w.heap.size _ _ _ _ rfl (hf.out _ _ _ _ _ _).hd Tryz.underlying31 rfl (by kernel_rfl)) rfl ⟨_, rfl, ⟨deAt q (De.mk k4 n4 y4 pa4 pc4 p4 ba4 bc4 b4 q4), rfl, deAt_In hp.out ((hf.out _ _ _ _ _ _).fct (f := Fact.D (De.mk k4 n4 y4 pa4 pc4 p4 ba4 bc4 b4 q4)) (by simp)), by rw [da_at, hx4.out]⟩, (hf.out _ _ _ _ _ _).rd, (hf.out _ _ _ _ _ _).re⟩

set_option maxHeartbeats 4000000 in
set_option maxRecDepth 100000 in
theorem decl_none {c : Rc} {i : Nat} {w : World} (h : Rd c i w) (hm : Mp c w) (hfw : findW wordsD (tx c.l i) = none) :
    Calls Tryz.prog 106 #[.pointer (some ⟨c.rb, 0, none⟩)] w (Post c (VD (fun b => w.heap.size ≤ b)) w (.bad (ps c.l i))) := by
  have hp := Lib.hid h.ps_i64
  have hlim : i ≤ 100000 := by have := h.lim; have := h.lt; omega
  have hlk := look_d h hm
  rw [hfw] at hlk
  replace hlk := Lib.hid hlk
  have h1 := Lib.hid ((Fr.start h).alloc #[.int .u8 0, .string ⟨#[]⟩, .int .i64 0, .slice none 0 0, .slice none 0 0, .int .i64 0] 31)
  have hA := Lib.hid (fun W (hW : Rd c i W) => at_c hW)
  have hX := Lib.hid (fun W (hW : Rd c i W) => text_c hW)
  have hF := Lib.hid (fun W (hW : Rd c i W) => refuse_c hW)
  clear h hm hfw
  go_enter Tryz.func106, Tryz.ntmps106
  go_wp2_with fail
  refine (hA.out _ h1.out.rd).mono ?_
  rintro e w' ⟨rfl, n, rfl⟩
  have h2 := h1.out.drewN n
  obtain ⟨W1, hW1⟩ : ∃ W, (w.alloc (.cells #[.int .u8 0, .string ⟨#[]⟩, .int .i64 0, .slice none 0 0, .slice none 0 0, .int .i64 0] 31)).drewN n = W := ⟨_, rfl⟩
  rw [hW1] at h2 ⊢
  clear hW1 h1
  have c3 : W1.cell? ⟨c.rb, 2, none⟩ = some (.map (some c.dm)) := blk_cell h2.rd.blk rfl
  have c1 : W1.cell? ⟨c.rb, 1, none⟩ = some (.int .i64 i) := blk_cell h2.rd.blk rfl
  have f1 : W1.frozen? ⟨c.rb, 1, none⟩ = false := blk_free h2.rd.blk 1
  have hl2 : ∀ m, _ := fun m => hlk.out (W1.drewN m) (h2.re.trans (RE.drewN W1 m))
  have hx2 := Lib.hid fun m => hX.out (W1.drewN m) (h2.rd.drewN m)
  generalize hs : tx c.l i = s at hl2 hx2
  replace hs := Lib.hid hs
  replace h2 := Lib.hid h2
  clear hlk hX hA
  go_wp2_with fail
  go_quiet ((go_at_call 153; exact Calls.quiet_of (hx2.out _)))
  clear hl2 hx2
  have h3 := h2.out.drewN nq
  obtain ⟨W3, hW3⟩ : ∃ W, W1.drewN nq = W := ⟨_, rfl⟩
  rw [hW3] at h3 ⊢
  go_wp2_with fail
  clear hW3 h2 c1 c3 f1
  refine (hF.out _ h3.rd).mono ?_
  rintro e w4 ⟨rfl, m, rfl⟩
  exact ⟨rfl, rfl, h3.re.trans (RE.drewN _ m)⟩
end Go.Proofs.YtpcdlneompnhlaaGreatDoor.Pa

namespace Go.Proofs.YtpcdlneompnhlaaGreatDoor.Pa
open Go Go.RowKit
open Go.Proofs.YtpcdlneompnhlaaGreatDoor.Lx Go.Proofs.YtpcdlneompnhlaaGreatDoor.Tr

set_option maxHeartbeats 4000000 in
set_option maxRecDepth 100000 in
theorem lockDecl_c {c : Rc} {i : Nat} {w : World} (h : Rd c i w) :
    Calls Tryz.prog 96 #[.pointer (some ⟨c.rb, 0, none⟩)] w (Post c (VD (fun b => w.heap.size ≤ b)) w (lockR c.l i)) := by
  generalize hr : lockR c.l i = r
  have h1 := (Fr.start h).alloc #[.int .u8 0, .string ⟨#[]⟩, .int .i64 0, .slice none 0 0, .slice none 0 0, .int .i64 0] 31
  replace h1 := Lib.hid h1
  have hN := Lib.hid (fun W j (hW : Rd c j W) => name_c hW)
  unfold lockR at hr
  replace hr := Lib.hid hr
  have hT := Lib.hid (fun W j (hW : Rd c j W) => take_c hW ⟨#[59]⟩ (by decide))
  clear h
  go_enter Tryz.func96, Tryz.ntmps96
  go_wp2_with fail
  refine (hN.out _ i h1.out.rd).mono ?_
  intro e w2 hP
  rcases hP.two with ⟨p, hq, rfl, hre⟩ | ⟨x2, j2, v2, hq, rfl, hV, hR, hre⟩
  · have hr' := hr.out; rw [hq, Res.bind_bad] at hr'; subst hr'; exact ⟨rfl, rfl, h1.out.re.trans hre⟩
  have hr' := hr.out
  rw [hq, Res.bind_ok'] at hr'
  replace hr := Lib.hid hr'
  clear hr' hP hq
  obtain ⟨rfl, hsz⟩ := hV
  have h2 := h1.out.call hre hR
  clear hre hR h1
  replace h2 := h2.alloc #[.int .u8 3, .string x2, .int .i64 0, .slice none 0 0, .slice none 0 0, .int .i64 0] 31
  replace h2 := Lib.hid h2
  replace hsz := Lib.hid hsz
  go_wp2_with fail
  refine (hT.out _ _ h2.out.rd).mono ?_
  intro e w3 hP
  rcases hP.two with ⟨p, hq, rfl, hre⟩ | ⟨x3, j3, v3, hq, rfl, hV, hR, hre⟩
  · have hr' := hr.out; rw [hq, Res.bind_bad] at hr'; subst hr'; exact ⟨rfl, rfl, h2.out.re.trans hre⟩
  have hr' := hr.out
  rw [hq, Res.bind_ok'] at hr'
  replace hr := Lib.hid hr'
  clear hr' hP hq
  subst hV
  have h3 := h2.out.call hre hR
  clear hre hR h2
  clear hN hT
  obtain ⟨ce0, ce1, ce2, ce3, ce4, ce5, _, _, _, _, _, _⟩ := cells6 h3.hd
  obtain ⟨cg0, cg1, cg2, cg3, cg4, cg5, cf0, cf1, cf2, cf3, cf4, cf5⟩ := cells6 h3.hd2
  have hf := Lib.hid fun a b cc d e f => h3.swap.set6 a b cc d e f
  clear h3
  replace hr := hr.out
  go_wp2_with fail
  subst hr
  exact bodyPost_ret (v := .agg #[.int .u8 3, .string x2, .int .i64 0, .slice none 0 0, .slice none 0 0, .int .i64 0]) (results_cell_row Tryz.results96 _ _ w.heap.size _ _ _ _ rfl (hf.out _ _ _ _ _ _).hd Tryz.underlying31 rfl (by kernel_rfl)) rfl ⟨_, rfl, ⟨⟨3, x2, 0, none, 0, [], none, 0, [], 0⟩, rfl, deE_In (by unfold U8; decide) hsz.out (by unfold I64; decide) (by unfold I64; decide) (ns_nil _ _) (by simp) (ts_nil _ _), by unfold da deE; rw [saL_nil]⟩, (hf.out _ _ _ _ _ _).rd, (hf.out _ _ _ _ _ _).re⟩
end Go.Proofs.YtpcdlneompnhlaaGreatDoor.Pa

namespace Go.Proofs.YtpcdlneompnhlaaGreatDoor.Pa
open Go Go.RowKit
open Go.Proofs.YtpcdlneompnhlaaGreatDoor.Lx Go.Proofs.YtpcdlneompnhlaaGreatDoor.Tr

set_option maxHeartbeats 4000000 in
set_option maxRecDepth 100000 in
theorem arrayDecl_c {c : Rc} {i : Nat} {w : World} (h : Rd c i w) :
    Calls Tryz.prog 95 #[.pointer (some ⟨c.rb, 0, none⟩)] w (Post c (VD (fun b => w.heap.size ≤ b)) w (arrayR c.l i)) := by
  generalize hr : arrayR c.l i = r
  have h1 := (Fr.start h).alloc #[.int .u8 0, .string ⟨#[]⟩, .int .i64 0, .slice none 0 0, .slice none 0 0, .int .i64 0] 31
  replace h1 := Lib.hid h1
  have hN := Lib.hid (fun W j (hW : Rd c j W) => name_c hW)
  unfold arrayR at hr
  replace hr := Lib.hid hr
  have hT1 := Lib.hid (fun W j (hW : Rd c j W) => take_c hW ⟨#[91]⟩ (by decide))
  have hT2 := Lib.hid (fun W j (hW : Rd c j W) => take_c hW ⟨#[93]⟩ (by decide))
  have hT3 := Lib.hid (fun W j (hW : Rd c j W) => take_c hW ⟨#[59]⟩ (by decide))
  have hU := Lib.hid (fun W j (hW : Rd c j W) => number_c hW ⟨#[]⟩ (by decide))
  clear h
  go_enter Tryz.func95, Tryz.ntmps95
  go_wp2_with fail
  refine (hN.out _ i h1.out.rd).mono ?_
  intro e w2 hP
  rcases hP.two with ⟨p, hq, rfl, hre⟩ | ⟨x2, j2, v2, hq, rfl, hV, hR, hre⟩
  · have hr' := hr.out; rw [hq, Res.bind_bad] at hr'; subst hr'; exact ⟨rfl, rfl, h1.out.re.trans hre⟩
  have hr' := hr.out
  rw [hq, Res.bind_ok'] at hr'
  replace hr := Lib.hid hr'
  clear hr' hP hq
  obtain ⟨rfl, hsz⟩ := hV
  have h2 := h1.out.call hre hR
  clear hre hR h1
  replace h2 := h2.alloc #[.int .u8 2, .string x2, .int .i64 0, .slice none 0 0, .slice none 0 0, .int .i64 0] 31
  replace h2 := Lib.hid h2
  replace hsz := Lib.hid hsz
  go_wp2_with fail
  refine (hT1.out _ _ h2.out.rd).mono ?_
  intro e w3 hP
  rcases hP.two with ⟨p, hq, rfl, hre⟩ | ⟨x3, j3, v3, hq, rfl, hV, hR, hre⟩
  · have hr' := hr.out; rw [hq, Res.bind_bad] at hr'; subst hr'; exact ⟨rfl, rfl, h2.out.re.trans hre⟩
  have hr' := hr.out
  rw [hq, Res.bind_ok'] at hr'
  replace hr := Lib.hid hr'
  clear hr' hP hq
  subst hV
  have h3 := h2.out.call hre hR
  clear hre hR h2
  replace h3 := Lib.hid h3
  go_wp2_with fail
  refine (hU.out _ _ h3.out.rd).mono ?_
  intro e w4 hP
  rcases hP.two with ⟨p, hq, rfl, hre⟩ | ⟨x4, j4, v4, hq, rfl, hV, hR, hre⟩
  · have hr' := hr.out; rw [hq, Res.bind_bad] at hr'; subst hr'; exact ⟨rfl, rfl, h3.out.re.trans hre⟩
  have hr' := hr.out
  rw [hq, Res.bind_ok'] at hr'
  replace hr := Lib.hid hr'
  clear hr' hP hq
  obtain ⟨rfl, hi4⟩ := hV
  have h4 := h3.out.call hre hR
  clear hre hR h3
  obtain ⟨ce0, ce1, ce2, ce3, ce4, ce5, cz0, cz1, cz2, cz3, cz4, cz5⟩ := cells6 h4.hd
  replace h4 := h4.st6_2 (.int .i64 x4)
  replace hi4 := Lib.hid hi4
  replace h4 := Lib.hid h4
  go_wp2_with fail
  clear ce0 ce1 ce2 ce3 ce4 ce5 cz0 cz1 cz2 cz3 cz4 cz5
  refine (hT2.out _ _ h4.out.rd).mono ?_
  intro e w5 hP
  rcases hP.two with ⟨p, hq, rfl, hre⟩ | ⟨x5, j5, v5, hq, rfl, hV, hR, hre⟩
  · have hr' := hr.out; rw [hq, Res.bind_bad] at hr'; subst hr'; exact ⟨rfl, rfl, h4.out.re.trans hre⟩
  have hr' := hr.out
  rw [hq, Res.bind_ok'] at hr'
  replace hr := Lib.hid hr'
  clear hr' hP hq
  subst hV
  have h5 := h4.out.call hre hR
  clear hre hR h4
  replace h5 := Lib.hid h5
  go_wp2_with fail
  refine (hT3.out _ _ h5.out.rd).mono ?_
  intro e w6 hP
  rcases hP.two with ⟨p, hq, rfl, hre⟩ | ⟨x6, j6, v6, hq, rfl, hV, hR, hre⟩
  · have hr' := hr.out; rw [hq, Res.bind_bad] at hr'; subst hr'; exact ⟨rfl, rfl, h5.out.re.trans hre⟩
  have hr' := hr.out
  rw [hq, Res.bind_ok'] at hr'
  replace hr := Lib.hid hr'
  clear hr' hP hq
  subst hV
  have h6 := h5.out.call hre hR
  clear hre hR h5
  clear hN hT1 hT2 hT3 hU
  obtain ⟨ce0, ce1, ce2, ce3, ce4, ce5, _, _, _, _, _, _⟩ := cells6 h6.hd
  obtain ⟨cg0, cg1, cg2, cg3, cg4, cg5, cf0, cf1, cf2, cf3, cf4, cf5⟩ := cells6 h6.hd2
  have hf := Lib.hid fun a b cc d e f => h6.swap.set6 a b cc d e f
  clear h6
  replace hr := hr.out
  go_wp2_with fail
  subst hr
  exact bodyPost_ret (v := .agg #[.int .u8 2, .string x2, .int .i64 x4, .slice none 0 0, .slice none 0 0, .int .i64 0]) (results_cell_row Tryz.results95 _ _ w.heap.size _ _ _ _ rfl (hf.out _ _ _ _ _ _).hd Tryz.underlying31 rfl (by kernel_rfl)) rfl ⟨_, rfl, ⟨⟨2, x2, x4, none, 0, [], none, 0, [], 0⟩, rfl, deE_In (by unfold U8; decide) hsz.out hi4.out (by unfold I64; decide) (ns_nil _ _) (by simp) (ts_nil _ _), by unfold da deE; rw [saL_nil]⟩, (hf.out _ _ _ _ _ _).rd, (hf.out _ _ _ _ _ _).re⟩
end Go.Proofs.YtpcdlneompnhlaaGreatDoor.Pa
