/- Walk of the reader's method atom: a place of an array. Conditions: the contracts of what it calls. · Walk of the reader's method atom: a number. Conditions: the contracts of what it calls. · Walk of the reader's method atom: a number, refused. Conditions: the contracts of what it calls. · The contract of the reader's methods that read expressions. Conditions: none but the reader's. · Walk of the reader's method whileStmt. Conditions: the contracts of what it calls. -/
import Derived.Test.YtpcdlneompnhlaaGreatDoorGrAM
import Derived.Test.YtpcdlneompnhlaaGreatDoorGrAI
import Derived.Test.YtpcdlneompnhlaaGreatDoorGrAJ
import Derived.Deep.Cut
namespace Go.Proofs.YtpcdlneompnhlaaGreatDoor.Pa
open Go Go.RowKit
open Go.Proofs.YtpcdlneompnhlaaGreatDoor.Lx Go.Proofs.YtpcdlneompnhlaaGreatDoor.Tr

set_option maxHeartbeats 4000000 in
set_option maxRecDepth 100000 in
theorem atom_index (f : Nat) (hE : ContE f) (c : Rc) (i : Nat) (t : Tk) (w : World) (h : Rd c i w) (ht : c.l[i]? = some t) (hk : ¬ t.kind = 2) (hx1 : ¬ t.txt = ⟨#[116, 114, 117, 101]⟩) (hx2 : ¬ t.txt = ⟨#[102, 97, 108, 115, 101]⟩) (hx3 : ¬ t.txt = ⟨#[40]⟩) (hn : nameR c.l i = .ok t.txt (i + 1)) (hb : tx c.l (i + 1) = ⟨#[91]⟩) (q : Res Ex) (hq : joinedP c.l f 1 (i + 1 + 1) = some q) (r : Res Ex) (hr : (q.bind fun e j => (takeR c.l j ⟨#[93]⟩).bind fun _ k => .ok (.mk 4 t.txt 0 none 0 [e] t.pos) k) = r) :
    Calls Tryz.prog 189 #[.pointer (some ⟨c.rb, 0, none⟩)] w (Post c (VX (fun b => w.heap.size ≤ b)) w r) := by
  have hEx : Hid (∀ W, Rd c (i + 1 + 1) W → Calls Tryz.prog 149 #[.pointer (some ⟨c.rb, 0, none⟩)] W (Post c (VX (fun b => W.heap.size ≤ b)) W q)) := Lib.hid fun W hW => hE c (i + 1 + 1) W q hW hq
  clear hq hE
  replace hb := Lib.hid hb
  have hPs : Hid (∀ W j s, s ≠ ⟨#[]⟩ → Rd c j W → Calls Tryz.prog 144 #[.pointer (some ⟨c.rb, 0, none⟩), .string s] W fun e w' => RE c.rb W w' ∧ ((tx c.l j = s ∧ e = .returned (.bool true) ∧ Rd c (j + 1) w') ∨ (¬ tx c.l j = s ∧ e = .returned (.bool false) ∧ Rd c j w'))) := Lib.hid fun W j s hs hW => passes_c hW s hs
  have hTk : Hid (∀ W j s, s ≠ ⟨#[]⟩ → Rd c j W → Calls Tryz.prog 143 #[.pointer (some ⟨c.rb, 0, none⟩), .string s] W (Post c (fun _ v _ => v = .tuple #[]) W (takeR c.l j s))) := Lib.hid fun W j s hs hW => take_c hW s hs
  have hNm : Hid (∀ W j, Rd c j W → Calls Tryz.prog 142 #[.pointer (some ⟨c.rb, 0, none⟩)] W (Post c (fun x v _ => v = .string x ∧ x.size ≤ maxLen) W (nameR c.l j))) := Lib.hid fun W j hW => name_c hW
  have h1 := (Fr.start h).alloc #[.int .u8 0, .string ⟨#[]⟩, .int .i64 0, .slice none 0 0, .int .i64 0] 62
  have htx : tx c.l i = t.txt := tx_of ht
  have hp : I64 t.pos := by have := (h.txs t (List.mem_of_getElem? ht)).2; unfold I64; omega
  obtain ⟨w1, hw1⟩ : ∃ W, w.alloc (.cells #[.int .u8 0, .string ⟨#[]⟩, .int .i64 0, .slice none 0 0, .int .i64 0] 62) = W := ⟨_, rfl⟩
  rw [hw1] at h1
  have h := h1.rd
  obtain ⟨b, off, ha, hSb, hcell⟩ := tk_row h.row i t ht
  have c0 : w1.cell? ⟨c.rb, 0, none⟩ = some (.slice c.ta c.l.length c.cap) := blk_cell h.blk rfl
  have c1 : w1.cell? ⟨c.rb, 1, none⟩ = some (.int .i64 i) := blk_cell h.blk rfl
  have t0 := hcell 0 _ rfl
  have t1 := hcell 1 _ rfl
  have t2 := hcell 2 _ rfl
  rw [← Nat.add_assoc] at t0 t1 t2
  rw [Nat.add_zero] at t0
  have hlt : (i : Int) < (c.l.length : Int) := by have := h.lt; omega
  have hlim : c.l.length ≤ 100000 := h.lim
  have hi0 : (0 : Int) ≤ (i : Int) := by omega
  rw [ha] at c0
  obtain ⟨tk, txt, pos⟩ := t
  simp only at t0 t1 t2 hk hp htx
  simp only at hx1 hx2 hx3 hr hn
  replace hr := Lib.hid hr
  replace hx1 := Lib.hid hx1
  replace hx2 := Lib.hid hx2
  replace hx3 := Lib.hid hx3
  replace hn := Lib.hid hn
  replace htx := Lib.hid htx
  replace hp := Lib.hid hp
  replace h1 := Lib.hid h1
  clear hcell ht h ha hSb
  go_enter Tryz.func189, Tryz.ntmps189
  go_wp2_with fail
  clear hw1
  go_region_held3 (fun V => V.cell? ⟨c.rb, 0, none⟩ = some (.slice (some ⟨b, off, none⟩) c.l.length c.cap) ∧ V.cell? ⟨c.rb, 1, none⟩ = some (.int .i64 i) ∧ V.cell? ⟨b, off + i * 3, none⟩ = some (.int .u8 tk) ∧ V.cell? ⟨b, off + i * 3 + 1, none⟩ = some (.string txt) ∧ V.cell? ⟨b, off + i * 3 + 2, none⟩ = some (.int .i64 pos)) (go_keep) (fail)
  go_wp2_with fail
  have h2 := (h1.out.alloc #[Value.int IntKind.u8 tk, Value.string txt, Value.int IntKind.i64 pos] 69).ext ((Below.refl _ _).drew)
  obtain ⟨V, hV⟩ : ∃ V, (w1.alloc (Obj.cells #[Value.int IntKind.u8 tk, Value.string txt, Value.int IntKind.i64 pos] 69)).drew = V := ⟨_, rfl⟩
  rw [hV] at h2 ⊢
  clear hV h1 c0 c1 t0 t1 t2
  replace h2 := Lib.hid h2
  refine (hPs.out _ i ⟨#[116, 114, 117, 101]⟩ (by decide) h2.out.rd).mono ?_
  rintro e w' ⟨hre, ⟨hc, _, _⟩ | ⟨_, rfl, hR⟩⟩
  · exact absurd (htx.out.symm.trans hc) (hx1.out)
  have h3 := Lib.hid (h2.out.call hre hR)
  clear hre hR h2
  go_wp2_with fail
  refine (hPs.out _ i ⟨#[102, 97, 108, 115, 101]⟩ (by decide) h3.out.rd).mono ?_
  rintro e w' ⟨hre, ⟨hc, _, _⟩ | ⟨_, rfl, hR⟩⟩
  · exact absurd (htx.out.symm.trans hc) (hx2.out)
  have h4 := Lib.hid (h3.out.call hre hR)
  clear hre hR h3
  go_wp2_with fail
  refine (hPs.out _ i ⟨#[40]⟩ (by decide) h4.out.rd).mono ?_
  rintro e w' ⟨hre, ⟨hc, _, _⟩ | ⟨_, rfl, hR⟩⟩
  · exact absurd (htx.out.symm.trans hc) (hx3.out)
  have h5 := Lib.hid (h4.out.call hre hR)
  clear hre hR h4
  go_wp2_with fail
  have hNi := hNm.out _ _ h5.out.rd
  rw [hn.out] at hNi
  replace hNi := Lib.hid hNi
  refine hNi.out.mono ?_
  rintro e w6 ⟨_, rfl, ⟨rfl, hsz⟩, hR, hre⟩
  have h6 := Lib.hid (h5.out.call hre hR)
  replace hsz := Lib.hid hsz
  clear hre hR h5 hNi
  go_wp2_with fail
  refine (hPs.out _ _ ⟨#[91]⟩ (by decide) h6.out.rd).mono ?_
  rintro e w7 ⟨hre, ⟨_, rfl, hR⟩ | ⟨hc, _, _⟩⟩
  case inr => exact absurd hb.out hc
  have h7 := Lib.hid (h6.out.call hre hR)
  clear hre hR h6
  go_wp2_with fail
  refine (hEx.out _ h7.out.rd).mono ?_
  intro e w8 hP
  rcases hP.two with ⟨p, hq, rfl, hre⟩ | ⟨x8, j8, v8, hq, rfl, hV, hR, hre⟩
  · have hr' := hr.out; rw [hq, Res.bind_bad] at hr'; subst hr'; exact ⟨rfl, rfl, h7.out.re.trans hre⟩
  have hr' := hr.out
  rw [hq, Res.bind_ok'] at hr'
  replace hr := Lib.hid hr'
  clear hr' hP hEx
  clear hq
  obtain ⟨ex8, rfl, hx8, h8⟩ := h7.out.factX hre hR hV
  replace hx8 := Lib.hid hx8
  clear hV hR hre h7
  replace h8 := h8.alloc ⟨ex8.vals⟩ 62
  obtain ⟨k8, n8, y8, a8, c8, q8, p8⟩ := ex8
  have hB : (⟨(Ex.mk k8 n8 y8 a8 c8 q8 p8).vals⟩ : Array Value) = #[.int .u8 k8, .string n8, .int .i64 y8, .slice a8 q8.length c8, .int .i64 p8] := rfl
  have hC : (⟨exCells [Ex.mk k8 n8 y8 a8 c8 q8 p8]⟩ : Array Value) = #[.int .u8 k8, .string n8, .int .i64 y8, .slice a8 q8.length c8, .int .i64 p8] := rfl
  try rw [hC] at h8
  try rw [hB] at h8
  try rw [hB]
  clear hB hC
  replace h8 := Lib.hid h8
  go_wp2_with fail
  refine (hTk.out _ _ ⟨#[93]⟩ (by decide) h8.out.rd).mono ?_
  intro e w9 hP
  rcases hP.two with ⟨p, hq, rfl, hre⟩ | ⟨x9, j9, v9, hq, rfl, hV, hR, hre⟩
  · have hr' := hr.out; rw [hq, Res.bind_bad] at hr'; subst hr'; exact ⟨rfl, rfl, h8.out.re.trans hre⟩
  have hr' := hr.out
  rw [hq, Res.bind_ok'] at hr'
  replace hr := Lib.hid hr'
  clear hr' hP hq
  subst hV
  have h9 := h8.out.call hre hR
  clear hre hR h8
  have k2 : w9.cell? ⟨w1.heap.size, 2, none⟩ = some (.int .i64 pos) := blk_cell h9.hd2 rfl
  have hs9 : w1.heap.size < w9.heap.size := cells_lt h9.hd2
  have hs9r : w.heap.size < w9.heap.size := cells_lt h9.hd3
  obtain ⟨ce0, ce1, ce2, ce3, ce4, _, _, _, _, _⟩ := cells5 h9.hd
  obtain ⟨cg0, cg1, cg2, cg3, cg4, cf0, cf1, cf2, cf3, cf4⟩ := cells5 h9.hd3
  have hf := Lib.hid fun a b cc d e => (h9.swap3.set5 a b cc d e).row1 (.mk k8 n8 y8 a8 c8 q8 p8) 62 (by simp)
  have hcz := Lib.hid (set5_size w9 w.heap.size)
  have hro : (⟨exCells [Ex.mk k8 n8 y8 a8 c8 q8 p8]⟩ : Array Value) = #[.int .u8 k8, .string n8, .int .i64 y8, .slice a8 q8.length c8, .int .i64 p8] := rfl
  simp only [hcz.out, hro] at hf
  clear h9 hPs hTk hNm hro hcz
  replace hr := hr.out
  go_wp2_with fail
  subst hr
  exact bodyPost_ret (v := .agg #[.int .u8 4, .string txt, .int .i64 0, .slice (some ⟨w9.heap.size, 0, none⟩) 1 1, .int .i64 pos]) (results_cell_row Tryz.results189 _ _ w.heap.size _ _ _ _ rfl (hf.out _ _ _ _ _).hd Tryz.underlying62 rfl (by kernel_rfl)) rfl ⟨_, rfl, ⟨.mk 4 txt 0 (some ⟨w9.heap.size, 0, none⟩) 1 [.mk k8 n8 y8 a8 c8 q8 p8] pos, rfl, exE_In (by unfold U8; decide) hsz.out (by unfold I64; decide) hp.out ((hf.out _ _ _ _ _).fct (f := Fact.Xs [.mk k8 n8 y8 a8 c8 q8 p8] (some ⟨w9.heap.size, 0, none⟩) 1) (by simp)), by rw [ea_eq, eaL_cons, eaL_nil, hx8.out]⟩, (hf.out _ _ _ _ _).rd, (hf.out _ _ _ _ _).re⟩
end Go.Proofs.YtpcdlneompnhlaaGreatDoor.Pa

namespace Go.Proofs.YtpcdlneompnhlaaGreatDoor.Pa
open Go Go.RowKit
open Go.Proofs.YtpcdlneompnhlaaGreatDoor.Lx Go.Proofs.YtpcdlneompnhlaaGreatDoor.Tr

set_option maxHeartbeats 4000000 in
set_option maxRecDepth 100000 in
theorem atom_num (c : Rc) (i : Nat) (t : Tk) (w : World) (h : Rd c i w) (ht : c.l[i]? = some t) (hk : t.kind = 2) (n : Int) (hn : numR c.l i ⟨#[]⟩ = .ok n (i + 1)) (r : Res Ex) (hr : .ok (.mk 1 ⟨#[]⟩ n none 0 [] t.pos) (i + 1) = r) :
    Calls Tryz.prog 189 #[.pointer (some ⟨c.rb, 0, none⟩)] w (Post c (VX (fun b => w.heap.size ≤ b)) w r) := by
  have hNu : Hid (∀ W, Rd c i W → Calls Tryz.prog 145 #[.pointer (some ⟨c.rb, 0, none⟩), .string ⟨#[]⟩] W (Post c (fun x v _ => v = .int .i64 x ∧ I64 x) W (.ok n (i + 1)))) := Lib.hid fun W hW => by rw [← hn]; exact number_c hW ⟨#[]⟩ (by decide)
  clear hn
  have h1 := (Fr.start h).alloc #[.int .u8 0, .string ⟨#[]⟩, .int .i64 0, .slice none 0 0, .int .i64 0] 62
  have htx : tx c.l i = t.txt := tx_of ht
  have hp : I64 t.pos := by have := (h.txs t (List.mem_of_getElem? ht)).2; unfold I64; omega
  obtain ⟨w1, hw1⟩ : ∃ W, w.alloc (.cells #[.int .u8 0, .string ⟨#[]⟩, .int .i64 0, .slice none 0 0, .int .i64 0] 62) = W := ⟨_, rfl⟩
  rw [hw1] at h1
  have h := h1.rd
  obtain ⟨b, off, ha, hSb, hcell⟩ := tk_row h.row i t ht
  have c0 : w1.cell? ⟨c.rb, 0, none⟩ = some (.slice c.ta c.l.length c.cap) := blk_cell h.blk rfl
  have c1 : w1.cell? ⟨c.rb, 1, none⟩ = some (.int .i64 i) := blk_cell h.blk rfl
  have t0 := hcell 0 _ rfl
  have t1 := hcell 1 _ rfl
  have t2 := hcell 2 _ rfl
  rw [← Nat.add_assoc] at t0 t1 t2
  rw [Nat.add_zero] at t0
  have hlt : (i : Int) < (c.l.length : Int) := by have := h.lt; omega
  have hlim : c.l.length ≤ 100000 := h.lim
  have hi0 : (0 : Int) ≤ (i : Int) := by omega
  rw [ha] at c0
  obtain ⟨tk, txt, pos⟩ := t
  simp only at t0 t1 t2 hk hp htx
  try simp only at hr
  subst hk
  replace hr := Lib.hid hr
  replace htx := Lib.hid htx
  replace hp := Lib.hid hp
  replace h1 := Lib.hid h1
  clear hcell ht h ha hSb
  go_enter Tryz.func189, Tryz.ntmps189
  go_wp2_with fail
  clear hw1
  go_region_held3 (fun V => V.cell? ⟨c.rb, 0, none⟩ = some (.slice (some ⟨b, off, none⟩) c.l.length c.cap) ∧ V.cell? ⟨c.rb, 1, none⟩ = some (.int .i64 i) ∧ V.cell? ⟨b, off + i * 3, none⟩ = some (.int .u8 2) ∧ V.cell? ⟨b, off + i * 3 + 1, none⟩ = some (.string txt) ∧ V.cell? ⟨b, off + i * 3 + 2, none⟩ = some (.int .i64 pos)) (go_keep) (fail)
  go_wp2_with fail
  have h2 := (h1.out.alloc #[Value.int IntKind.u8 2, Value.string txt, Value.int IntKind.i64 pos] 69).ext ((Below.refl _ _).drew)
  obtain ⟨V, hV⟩ : ∃ V, (w1.alloc (Obj.cells #[Value.int IntKind.u8 2, Value.string txt, Value.int IntKind.i64 pos] 69)).drew = V := ⟨_, rfl⟩
  rw [hV] at h2 ⊢
  clear hV h1 c0 c1 t0 t1 t2
  replace h2 := Lib.hid h2
  have h2d := h2.out.ext (Below.refl _ _).drew
  have hS : (fun X : World => X.cell? ⟨w1.heap.size, 2, none⟩ = some (.int .i64 pos)) V.drew := blk_cell h2d.hd rfl
  have hN := Lib.hid (hNu.out V.drew h2d.rd)
  clear hNu h2
  replace h2d := Lib.hid h2d
  refine wp_region_noPanic ?_
  refine wp_region_held_drew (S := (fun X : World => X.cell? ⟨w1.heap.size, 2, none⟩ = some (.int .i64 pos))) (by kernel_rfl) hS (fun hHeld => ?_)
  refine' wpAnyH_take (i := 0) (oi := _) (v := _) rfl (by kernel_rfl) (by kernel_rfl) (by kernel_rfl) (fun _ _ _ h => h) (Or.inl ⟨by rfl, ?hya0⟩) (by assumption) ?resta0
  case hya0 => (intro w hSw; go_simp; all_goals (with_reducible rfl))
  try simp only [Act.put, List.getElem_toArray, List.getElem_cons_zero, List.setIfInBounds_toArray, List.set_cons_zero, List.set_cons_succ]
  refine' wpAnyH_take (i := 2) (oi := _) (v := _) rfl (by kernel_rfl) (by kernel_rfl) (by kernel_rfl) (fun _ _ _ h => h) (Or.inl ⟨by rfl, ?hya2⟩) (by assumption) ?resta2
  case hya2 => (intro w hSw; go_simp; all_goals (with_reducible rfl))
  try simp only [Act.put, List.getElem_toArray, List.getElem_cons_zero, List.getElem_cons_succ, List.setIfInBounds_toArray, List.set_cons_zero, List.set_cons_succ]
  refine' wpAnyH_take (i := 3) (oi := _) (v := _) rfl (by kernel_rfl) (by kernel_rfl) (by kernel_rfl) (fun _ _ _ h => h) (Or.inl ⟨by rfl, ?hya3⟩) (by assumption) ?resta3
  case hya3 => (intro w hSw; go_simp; all_goals (with_reducible rfl))
  try simp only [Act.put, List.getElem_toArray, List.getElem_cons_zero, List.getElem_cons_succ, List.setIfInBounds_toArray, List.set_cons_zero, List.set_cons_succ]
  refine wpAnyH_ready (rs := [1]) (by kernel_rfl) (by simp) ?_
  refine AllReadyH.cons (o := _) rfl (fun K hK => ?_) AllReadyH.nil
  go_simp
  go_at_call 145
  refine hN.out.mono ?_
  rintro e w7 ⟨v, rfl, ⟨rfl, hi⟩, hR7, hE7⟩
  have h3 := h2d.out.call hE7 hR7
  clear hE7 hR7 hS
  have hS7 : (fun X : World => X.cell? ⟨w1.heap.size, 2, none⟩ = some (.int .i64 pos)) w7 := blk_cell h3.hd rfl
  refine hK.out _ _ hS7 (fun hHeld => ?_)
  clear hK K
  try simp only [Act.put, List.getElem_toArray, List.getElem_cons_zero, List.getElem_cons_succ, List.setIfInBounds_toArray, List.set_cons_zero, List.set_cons_succ]
  refine' wpAnyH_take (i := 4) (oi := _) (v := _) rfl (by kernel_rfl) (by kernel_rfl) (by kernel_rfl) (fun _ _ _ h => h) (Or.inl ⟨by rfl, ?hyb4⟩) (by assumption) ?restb4
  case hyb4 => (intro w hSw; go_simp; all_goals (with_reducible rfl))
  try simp only [Act.put, List.getElem_toArray, List.getElem_cons_zero, List.getElem_cons_succ, List.setIfInBounds_toArray, List.set_cons_zero, List.set_cons_succ]
  obtain ⟨cg0, cg1, cg2, cg3, cg4, cf0, cf1, cf2, cf3, cf4⟩ := cells5 h3.hd2
  have hf := Lib.hid fun a b cc d e => h3.swap.set5 a b cc d e
  have hS9 := (fun a b cc d e => (blk_cell (hf.out a b cc d e).hd2 rfl : (fun X : World => X.cell? ⟨w1.heap.size, 2, none⟩ = some (.int .i64 pos)) _))
  replace hi := Lib.hid hi
  clear h3 h2d hN
  refine wpAnyH_ready (rs := [5]) (by kernel_rfl) (by simp) ?_
  refine AllReadyH.cons (o := _) rfl (fun K hK => ?_) AllReadyH.nil
  go_simp
  refine hK.out _ _ (hS9 _ _ _ _ _) (fun hHeld => ?_)
  clear hK K
  refine wpAnyH_done (by kernel_rfl) ?_ _
  refine NoPanic.normal ?_
  clear hS9 hS7 hHeld
  replace hr := hr.out
  go_wp2_with fail
  subst hr
  exact bodyPost_ret (v := .agg #[.int .u8 1, .string ⟨#[]⟩, .int .i64 n, .slice none 0 0, .int .i64 pos]) (results_cell_row Tryz.results189 _ _ w.heap.size _ _ _ _ rfl (hf.out _ _ _ _ _).hd Tryz.underlying62 rfl (by kernel_rfl)) rfl ⟨_, rfl, ⟨.mk 1 ⟨#[]⟩ n none 0 [] pos, rfl, exE_In (by unfold U8; decide) (by decide) hi.out hp.out (xs_nil _ _), by rw [ea_eq, eaL_nil]⟩, (hf.out _ _ _ _ _).rd, (hf.out _ _ _ _ _).re⟩
end Go.Proofs.YtpcdlneompnhlaaGreatDoor.Pa

namespace Go.Proofs.YtpcdlneompnhlaaGreatDoor.Pa
open Go Go.RowKit
open Go.Proofs.YtpcdlneompnhlaaGreatDoor.Lx Go.Proofs.YtpcdlneompnhlaaGreatDoor.Tr

set_option maxHeartbeats 4000000 in
set_option maxRecDepth 100000 in
theorem atom_numbad (c : Rc) (i : Nat) (t : Tk) (w : World) (h : Rd c i w) (ht : c.l[i]? = some t) (hk : t.kind = 2) (p : Int) (hn : numR c.l i ⟨#[]⟩ = .bad p) (r : Res Ex) (hr : .bad p = r) :
    Calls Tryz.prog 189 #[.pointer (some ⟨c.rb, 0, none⟩)] w (Post c (VX (fun b => w.heap.size ≤ b)) w r) := by
  have hNu : Hid (∀ W, Rd c i W → Calls Tryz.prog 145 #[.pointer (some ⟨c.rb, 0, none⟩), .string ⟨#[]⟩] W (Post c (fun x v _ => v = .int .i64 x ∧ I64 x) W (.bad p))) := Lib.hid fun W hW => by rw [← hn]; exact number_c hW ⟨#[]⟩ (by decide)
  clear hn
  have h1 := (Fr.start h).alloc #[.int .u8 0, .string ⟨#[]⟩, .int .i64 0, .slice none 0 0, .int .i64 0] 62
  have htx : tx c.l i = t.txt := tx_of ht
  have hp : I64 t.pos := by have := (h.txs t (List.mem_of_getElem? ht)).2; unfold I64; omega
  obtain ⟨w1, hw1⟩ : ∃ W, w.alloc (.cells #[.int .u8 0, .string ⟨#[]⟩, .int .i64 0, .slice none 0 0, .int .i64 0] 62) = W := ⟨_, rfl⟩
  rw [hw1] at h1
  have h := h1.rd
  obtain ⟨b, off, ha, hSb, hcell⟩ := tk_row h.row i t ht
  have c0 : w1.cell? ⟨c.rb, 0, none⟩ = some (.slice c.ta c.l.length c.cap) := blk_cell h.blk rfl
  have c1 : w1.cell? ⟨c.rb, 1, none⟩ = some (.int .i64 i) := blk_cell h.blk rfl
  have t0 := hcell 0 _ rfl
  have t1 := hcell 1 _ rfl
  have t2 := hcell 2 _ rfl
  rw [← Nat.add_assoc] at t0 t1 t2
  rw [Nat.add_zero] at t0
  have hlt : (i : Int) < (c.l.length : Int) := by have := h.lt; omega
  have hlim : c.l.length ≤ 100000 := h.lim
  have hi0 : (0 : Int) ≤ (i : Int) := by omega
  rw [ha] at c0
  obtain ⟨tk, txt, pos⟩ := t
  simp only at t0 t1 t2 hk hp htx
  try simp only at hr
  subst hk
  replace hr := Lib.hid hr
  replace htx := Lib.hid htx
  replace hp := Lib.hid hp
  replace h1 := Lib.hid h1
  clear hcell ht h ha hSb
  go_enter Tryz.func189, Tryz.ntmps189
  go_wp2_with fail
  clear hw1
  go_region_held3 (fun V => V.cell? ⟨c.rb, 0, none⟩ = some (.slice (some ⟨b, off, none⟩) c.l.length c.cap) ∧ V.cell? ⟨c.rb, 1, none⟩ = some (.int .i64 i) ∧ V.cell? ⟨b, off + i * 3, none⟩ = some (.int .u8 2) ∧ V.cell? ⟨b, off + i * 3 + 1, none⟩ = some (.string txt) ∧ V.cell? ⟨b, off + i * 3 + 2, none⟩ = some (.int .i64 pos)) (go_keep) (fail)
  go_wp2_with fail
  have h2 := (h1.out.alloc #[Value.int IntKind.u8 2, Value.string txt, Value.int IntKind.i64 pos] 69).ext ((Below.refl _ _).drew)
  obtain ⟨V, hV⟩ : ∃ V, (w1.alloc (Obj.cells #[Value.int IntKind.u8 2, Value.string txt, Value.int IntKind.i64 pos] 69)).drew = V := ⟨_, rfl⟩
  rw [hV] at h2 ⊢
  clear hV h1 c0 c1 t0 t1 t2
  replace h2 := Lib.hid h2
  have h2d := h2.out.ext (Below.refl _ _).drew
  have hS : (fun X : World => X.cell? ⟨w1.heap.size, 2, none⟩ = some (.int .i64 pos)) V.drew := blk_cell h2d.hd rfl
  have hN := Lib.hid (hNu.out V.drew h2d.rd)
  clear hNu h2
  replace h2d := Lib.hid h2d
  have hfin : Hid (∀ w7, RE c.rb V.drew w7 → RE c.rb w w7) := Lib.hid fun w7 h7 => h2d.out.re.trans h7
  refine Code.wp_mono (Q := BadQ p c.rb V.drew) ?_ ?_
  · rintro e a w7 ⟨rfl, hd, hE7⟩
    have hr' := hr.out
    subst hr'
    exact ⟨hd, rfl, hfin.out w7 hE7⟩
  refine wp_region_held_drew (S := (fun X : World => X.cell? ⟨w1.heap.size, 2, none⟩ = some (.int .i64 pos))) (by kernel_rfl) hS (fun hHeld => ?_)
  refine' wpAnyH_take (i := 0) (oi := _) (v := _) rfl (by kernel_rfl) (by kernel_rfl) (by kernel_rfl) BadQ.put (Or.inl ⟨by rfl, ?hya0⟩) (by assumption) ?resta0
  case hya0 => (intro w hSw; go_simp; all_goals (with_reducible rfl))
  try simp only [Act.put, List.getElem_toArray, List.getElem_cons_zero, List.setIfInBounds_toArray, List.set_cons_zero, List.set_cons_succ]
  refine' wpAnyH_take (i := 2) (oi := _) (v := _) rfl (by kernel_rfl) (by kernel_rfl) (by kernel_rfl) BadQ.put (Or.inl ⟨by rfl, ?hya2⟩) (by assumption) ?resta2
  case hya2 => (intro w hSw; go_simp; all_goals (with_reducible rfl))
  try simp only [Act.put, List.getElem_toArray, List.getElem_cons_zero, List.getElem_cons_succ, List.setIfInBounds_toArray, List.set_cons_zero, List.set_cons_succ]
  refine' wpAnyH_take (i := 3) (oi := _) (v := _) rfl (by kernel_rfl) (by kernel_rfl) (by kernel_rfl) BadQ.put (Or.inl ⟨by rfl, ?hya3⟩) (by assumption) ?resta3
  case hya3 => (intro w hSw; go_simp; all_goals (with_reducible rfl))
  try simp only [Act.put, List.getElem_toArray, List.getElem_cons_zero, List.getElem_cons_succ, List.setIfInBounds_toArray, List.set_cons_zero, List.set_cons_succ]
  refine wpAnyH_ready (rs := [1]) (by kernel_rfl) (by simp) ?_
  refine AllReadyH.cons (o := _) rfl (fun K hK => ?_) AllReadyH.nil
  go_simp
  go_at_call 145
  refine hN.out.mono ?_
  rintro e w7 ⟨rfl, hE7⟩
  exact ⟨rfl, rfl, hE7⟩
end Go.Proofs.YtpcdlneompnhlaaGreatDoor.Pa

namespace Go.Proofs.YtpcdlneompnhlaaGreatDoor.Pa
open Go Go.RowKit
open Go.Proofs.YtpcdlneompnhlaaGreatDoor.Lx Go.Proofs.YtpcdlneompnhlaaGreatDoor.Tr

theorem atom_zero : ContA 0 := by
  intro c i w r _ hr
  unfold atomP at hr
  cases hr
theorem atom_step (f : Nat) (hJ : ContJ f) : ContA (f + 1) := by
  intro c i w r h hr
  have hE := expr_step f hJ
  obtain ⟨t, ht, h1, h2, h3⟩ := h.tok
  unfold atomP at hr
  rw [h1, h2, h3] at hr
  by_cases hk : t.kind = 2
  · rw [if_pos hk] at hr
    cases hn : numR c.l i ⟨#[]⟩ with
    | ok n j =>
      have hj := numR_lt hn
      subst hj
      rw [hn] at hr
      exact atom_num c i t w h ht hk n hn r (Option.some.inj hr)
    | bad p =>
      rw [hn] at hr
      exact atom_numbad c i t w h ht hk p hn r (Option.some.inj hr)
  · rw [if_neg hk] at hr
    by_cases hx1 : t.txt = ⟨#[116, 114, 117, 101]⟩
    · rw [if_pos hx1] at hr
      cases hr
      exact atom_true c i t w h ht hk hx1
    · rw [if_neg hx1] at hr
      by_cases hx2 : t.txt = ⟨#[102, 97, 108, 115, 101]⟩
      · rw [if_pos hx2] at hr
        cases hr
        exact atom_false c i t w h ht hk hx2
      · rw [if_neg hx2] at hr
        by_cases hx3 : t.txt = ⟨#[40]⟩
        · rw [if_pos hx3] at hr
          cases hq : joinedP c.l f 1 (i + 1) with
          | none => rw [hq] at hr; cases hr
          | some q =>
            rw [hq] at hr
            refine atom_paren f hE c i t w h ht hk hx3 q hq r ?_
            cases q with
            | bad p => cases hr; rfl
            | ok e j =>
              simp only [Option.some.injEq] at hr
              rw [← hr, Res.bind_ok']
              unfold takeR
              split <;> rfl
        · rw [if_neg hx3] at hr
          unfold nameR at hr
          rw [h1, h2] at hr
          cases hn : nme t.txt.data.toList with
          | false =>
            rw [hn, if_neg (by decide)] at hr
            cases hr
            exact atom_refused c i t w h ht hk hx1 hx2 hx3 hn
          | true =>
            rw [hn, if_pos rfl] at hr
            simp only at hr
            have hne : ¬ t.txt = ⟨#[]⟩ := fun e => by rw [e] at hn; exact absurd hn (by decide)
            have hmore := h.more ht hne
            by_cases hx4 : tx c.l (i + 1) = ⟨#[91]⟩
            · rw [if_pos hx4] at hr
              cases hq : joinedP c.l f 1 (i + 1 + 1) with
              | none => rw [hq] at hr; cases hr
              | some q =>
                rw [hq] at hr
                refine atom_index f hE c i t w h ht hk hx1 hx2 hx3 (by unfold nameR; rw [h1, hn, if_pos rfl]) hx4 q hq r ?_
                cases q with
                | bad p => cases hr; rfl
                | ok e j =>
                  simp only [Option.some.injEq] at hr
                  rw [← hr, Res.bind_ok']
                  unfold takeR
                  split <;> rfl
            · rw [if_neg hx4] at hr
              cases hr
              have hu : c.l[i + 1]? = some (c.l[i + 1]'hmore) := List.getElem?_eq_getElem hmore
              exact atom_var c i t _ w h ht hmore hu hk hx1 hx2 hx3 hn (by rw [← tx_of hu]; exact hx4)
theorem conts : ∀ f : Nat, (∀ g, g ≤ f → ContU g) ∧ (∀ g, g ≤ f → ContA g) ∧ (∀ g, g ≤ f → ContJ g) := by
  intro f
  induction f with
  | zero =>
    refine ⟨fun g hg => ?_, fun g hg => ?_, fun g hg => ?_⟩
    · rw [Nat.le_zero.1 hg]; exact unary_zero
    · rw [Nat.le_zero.1 hg]; exact atom_zero
    · rw [Nat.le_zero.1 hg]; exact joined_zero
  | succ f ih =>
    obtain ⟨hU, hA, hJ⟩ := ih
    refine ⟨fun g hg => ?_, fun g hg => ?_, fun g hg => ?_⟩
    · by_cases hx : g ≤ f
      · exact hU g hx
      · rw [show g = f + 1 by omega]; exact unary_step f (hU f (Nat.le_refl _)) (hA f (Nat.le_refl _))
    · by_cases hx : g ≤ f
      · exact hA g hx
      · rw [show g = f + 1 by omega]; exact atom_step f (hJ f (Nat.le_refl _))
    · by_cases hx : g ≤ f
      · exact hJ g hx
      · rw [show g = f + 1 by omega]; exact joined_step f (hU f (Nat.le_refl _)) fun f' hf' => hJ f' (by omega)
/-- the contract of expr -/
theorem expr_c : XE := by
  intro c i w h
  have hJ := (conts (FU c.l)).2.2 _ (Nat.le_refl _)
  exact expr_step _ hJ c i w _ h (exprR_some c.l i)
end Go.Proofs.YtpcdlneompnhlaaGreatDoor.Pa

namespace Go.Proofs.YtpcdlneompnhlaaGreatDoor.Pa
open Go Go.RowKit
open Go.Proofs.YtpcdlneompnhlaaGreatDoor.Lx Go.Proofs.YtpcdlneompnhlaaGreatDoor.Tr

set_option maxHeartbeats 4000000 in
set_option maxRecDepth 100000 in
theorem whileStmt_c (f : Nat) (hB : ContB f) {c : Rc} {i : Nat} {w : World} (h : Rd c i w) (hm : Mp c w) (hf : 2 * (c.l.length - i) ≤ f) :
    Calls Tryz.prog 101 #[.pointer (some ⟨c.rb, 0, none⟩)] w (Post c (VT (fun b => w.heap.size ≤ b)) w (whileR c.l f i)) := by
  generalize hr : whileR c.l f i = r
  have h1 := (Fr.start h).alloc #[.int .u8 0, .string ⟨#[]⟩, .string ⟨#[]⟩, .bool false, .slice none 0 0, .slice none 0 0, .slice none 0 0, .int .i64 0] 60
  replace h1 := Lib.hid h1
  have hX := Lib.hid (fun W j (hW : Rd c j W) => expr_c c j W hW)
  have hBk := Lib.hid (fun W j (hW : Rd c j W) (hE : RE c.rb w W) (hj : 2 * (c.l.length - j) ≤ f) => hB c j W hW (hm.re hE) hj)
  unfold whileR at hr
  replace hr := Lib.hid hr
  clear h hB hm
  go_enter Tryz.func101, Tryz.ntmps101
  go_wp2_with fail
  refine (hX.out _ i h1.out.rd).mono ?_
  intro e w2 hP
  rcases hP.two with ⟨p, hq, rfl, hre⟩ | ⟨x2, j2, v2, hq, rfl, hV, hR, hre⟩
  · have hr' := hr.out; rw [hq, Res.bind_bad] at hr'; subst hr'; exact ⟨rfl, rfl, h1.out.re.trans hre⟩
  have hr' := hr.out
  rw [hq, Res.bind_ok'] at hr'
  have hj2 := exprR_lt hq
  replace hr := Lib.hid hr'
  clear hr' hP hq
  obtain ⟨ex2, rfl, hx2, h2⟩ := h1.out.factX hre hR hV
  replace hx2 := Lib.hid hx2
  clear hV hR hre h1
  have h3 := (h2.row1 ex2 62 (by simp)).alloc #[.int .u8 5, .string ⟨#[]⟩, .string ⟨#[]⟩, .bool false, .slice (some ⟨w2.heap.size, 0, none⟩) 1 1, .slice none 0 0, .slice none 0 0, .int .i64 0] 60
  clear h2
  obtain ⟨k2, n2, y2, a2, c2, q2, p2⟩ := ex2
  have hB : (⟨(Ex.mk k2 n2 y2 a2 c2 q2 p2).vals⟩ : Array Value) = #[.int .u8 k2, .string n2, .int .i64 y2, .slice a2 q2.length c2, .int .i64 p2] := rfl
  have hC : (⟨exCells [Ex.mk k2 n2 y2 a2 c2 q2 p2]⟩ : Array Value) = #[.int .u8 k2, .string n2, .int .i64 y2, .slice a2 q2.length c2, .int .i64 p2] := rfl
  try rw [hC] at h3
  try rw [hB] at h3
  try rw [hB]
  clear hB hC
  replace h3 := Lib.hid h3
  go_wp2_with fail
  refine (hBk.out _ _ h3.out.rd h3.out.re (by omega)).mono ?_
  intro e w4 hP
  rcases hP.two with ⟨p, hq, rfl, hre⟩ | ⟨x4, j4, v4, hq, rfl, hV, hR, hre⟩
  · have hr' := hr.out; rw [hq, Res.bind_bad] at hr'; subst hr'; exact ⟨rfl, rfl, h3.out.re.trans hre⟩
  have hr' := hr.out
  rw [hq, Res.bind_ok'] at hr'
  replace hr := Lib.hid hr'
  clear hr' hP hq
  obtain ⟨l4, a4, c4, rfl, hx4, h4⟩ := h3.out.factTs hre hR hV
  replace hx4 := Lib.hid hx4
  clear hV hR hre h3
  rw [sz_alloc] at h4
  obtain ⟨ce0, ce1, ce2, ce3, ce4, ce5, ce6, ce7, cz0, cz1, cz2, cz3, cz4, cz5, cz6, cz7⟩ := cells8 h4.hd
  have hz := h4.st8_5 (.slice a4 l4.length c4)
  clear hX hBk hf hj2
  clear h4
  go_upto_region 3 with fail
  clear ce0 ce1 ce2 ce3 ce4 ce5 ce6 ce7 cz0 cz1 cz2 cz3 cz4 cz5 cz6 cz7
  obtain ⟨Wz, hWz⟩ : ∃ W, w4.setCell ⟨w2.heap.size + 1, 5, none⟩ (.slice a4 l4.length c4) = W := ⟨_, rfl⟩
  rw [hWz] at hz ⊢
  clear hWz
  obtain ⟨ce0, ce1, ce2, ce3, ce4, ce5, ce6, ce7, _, _, _, _, _, _, _, _⟩ := cells8 hz.hd
  obtain ⟨cg0, cg1, cg2, cg3, cg4, cg5, cg6, cg7, cf0, cf1, cf2, cf3, cf4, cf5, cf6, cf7⟩ := cells8 hz.hd2
  have hf := Lib.hid fun a b cc d e f g h => hz.swap.set8 a b cc d e f g h
  clear hz
  replace hr := hr.out
  go_wp2_with fail
  subst hr
  exact bodyPost_ret (v := .agg #[.int .u8 5, .string ⟨#[]⟩, .string ⟨#[]⟩, .bool false, .slice (some ⟨w2.heap.size, 0, none⟩) 1 1, .slice a4 l4.length c4, .slice none 0 0, .int .i64 0]) (results_cell_row Tryz.results101 _ _ w.heap.size _ _ _ _ rfl (hf.out _ _ _ _ _ _ _ _).hd Tryz.underlying60 rfl (by kernel_rfl)) rfl ⟨_, rfl, ⟨.mk 5 noB noB false (some ⟨w2.heap.size, 0, none⟩) 1 [.mk k2 n2 y2 a2 c2 q2 p2] a4 c4 l4 none 0 [] 0, rfl, stE_In (by unfold U8; decide) (by decide) (by decide) (by unfold I64; decide) ((hf.out _ _ _ _ _ _ _ _).fct (by simp)) ((hf.out _ _ _ _ _ _ _ _).fct (by simp)) (ts_nil _ _), by rw [sa_eq, eaL_cons, eaL_nil, saL_nil, hx2.out, hx4.out]; rfl⟩, (hf.out _ _ _ _ _ _ _ _).rd, (hf.out _ _ _ _ _ _ _ _).re⟩
end Go.Proofs.YtpcdlneompnhlaaGreatDoor.Pa
