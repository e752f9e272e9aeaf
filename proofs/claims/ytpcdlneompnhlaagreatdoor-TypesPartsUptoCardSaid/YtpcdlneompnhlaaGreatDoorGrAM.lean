/- Walk of the reader's method atom: true. Conditions: the next token is there. · Walk of the reader's method atom: false. Conditions: the next token is there. · Walk of the reader's method atom: a variable. Conditions: the next token is there. · Walk of the reader's method atom: no name. Conditions: the next token is there. · Walk of the reader's method atom: brackets. Conditions: the contracts of what it calls. -/
import Derived.Test.YtpcdlneompnhlaaGreatDoorGrAL
import Derived.Test.YtpcdlneompnhlaaGreatDoorGrAI
namespace Go.Proofs.YtpcdlneompnhlaaGreatDoor.Pa
open Go Go.RowKit
open Go.Proofs.YtpcdlneompnhlaaGreatDoor.Lx Go.Proofs.YtpcdlneompnhlaaGreatDoor.Tr

theorem leaf_end {c : Rc} {i j : Nat} {w w3 W : World} (k : Int) (nm : ByteArray) (n p : Int) (hk : U8 k) (hn : nm.size ≤ maxLen) (hI : I64 n) (hp : I64 p) (hw : Rd c i w) (he : RE c.rb w w3) (hR : Rd c j w3) (hs : Stored0 w.heap.size w3 W) :
    VX (fun b => w.heap.size ≤ b) (.mk k nm n none 0 [] p) (.agg ⟨(Ex.mk k nm n none 0 [] p).vals⟩) W ∧ Rd c j W ∧ RE c.rb w W := by
  have h := none_end (.mk k nm n none 0 [] p) hw he hR (by
    unfold Ex.In Ex.InL
    exact ⟨hk, hn, hI, hp, ⟨Nat.le_refl _, by decide, fun _ => rfl, fun j u hj => by simp [exCells] at hj⟩, trivial⟩) hs
  rw [ea_eq, eaL_nil] at h
  exact h

set_option maxHeartbeats 4000000 in
set_option maxRecDepth 100000 in
theorem atom_true (c : Rc) (i : Nat) (t : Tk) (w : World) (h : Rd c i w) (ht : c.l[i]? = some t) (hk : ¬ t.kind = 2) (hx : t.txt = ⟨#[116, 114, 117, 101]⟩) :
    Calls Tryz.prog 189 #[.pointer (some ⟨c.rb, 0, none⟩)] w (Post c (VX (fun b => w.heap.size ≤ b)) w (.ok (.mk 2 ⟨#[]⟩ 1 none 0 [] t.pos) (i + 1))) := by
  have hmore := h.more ht (by rw [hx]; decide)
  have hp : Hid (I64 t.pos) := Lib.hid (by have := (h.txs t (List.mem_of_getElem? ht)).2; unfold I64; omega)
  have hS : Hid (∀ W, Below w.heap.size w W → Calls Tryz.prog 144 #[.pointer (some ⟨c.rb, 0, none⟩), .string ⟨#[116, 114, 117, 101]⟩] W fun e w' => e = .returned (.bool true) ∧ Rd c (i + 1) w' ∧ RE c.rb W w') := Lib.hid fun W hb => by
    have := passes_yes c i t W (h.ext hb) ht hmore
    rw [hx] at this
    exact this
  have hw := Lib.hid h
  have hlow : Hid (w.heap.size ≠ c.rb) := Lib.hid (fun e => by have := h.low.rb; omega)
  obtain ⟨w1, hw1⟩ : ∃ W, w.alloc (.cells #[.int .u8 0, .string ⟨#[]⟩, .int .i64 0, .slice none 0 0, .int .i64 0] 62) = W := ⟨_, rfl⟩
  have hb1 : Below w.heap.size w w1 := by rw [← hw1]; exact (Below.refl _ _).alloc (Nat.le_refl _) _
  have hr1 : w1.heap[w.heap.size]? = some (.cells #[.int .u8 0, .string ⟨#[]⟩, .int .i64 0, .slice none 0 0, .int .i64 0] 62 (0, 0)) := by rw [← hw1]; exact World.alloc_heap_new w _
  have h := h.ext hb1
  obtain ⟨b, off, ha, hSb, hcell⟩ := tk_row h.row i t ht
  have c0 : w1.cell? ⟨c.rb, 0, none⟩ = some (.slice c.ta c.l.length c.cap) := blk_cell h.blk rfl
  have c1 : w1.cell? ⟨c.rb, 1, none⟩ = some (.int .i64 i) := blk_cell h.blk rfl
  have t0 := hcell 0 _ rfl
  have t1 := hcell 1 _ rfl
  have t2 := hcell 2 _ rfl
  rw [← Nat.add_assoc] at t0 t1 t2
  rw [Nat.add_zero] at t0
  have hlt : (i : Int) < (c.l.length : Int) := by have := h.lt; omega
  have hlim : c.l.length ≤ 100000 := h.lim
  have h0 : (0 : Int) ≤ (i : Int) := by omega
  rw [ha] at c0
  obtain ⟨tk, txt, pos⟩ := t
  simp only at t0 t1 t2 hk hp
  clear hcell ht h ha hSb hx hmore
  go_enter Tryz.func189, Tryz.ntmps189
  go_wp2_with fail
  clear hw1
  go_region_held3 (fun V => V.cell? ⟨c.rb, 0, none⟩ = some (.slice (some ⟨b, off, none⟩) c.l.length c.cap) ∧ V.cell? ⟨c.rb, 1, none⟩ = some (.int .i64 i) ∧ V.cell? ⟨b, off + i * 3, none⟩ = some (.int .u8 tk) ∧ V.cell? ⟨b, off + i * 3 + 1, none⟩ = some (.string txt) ∧ V.cell? ⟨b, off + i * 3 + 2, none⟩ = some (.int .i64 pos)) (go_keep) (fail)
  go_wp2_with fail
  obtain ⟨V, hV⟩ : ∃ V, (w1.alloc (Obj.cells #[Value.int IntKind.u8 tk, Value.string txt, Value.int IntKind.i64 pos] 69)).drew = V := ⟨_, rfl⟩
  have hbV : Below w.heap.size w V := by rw [← hV]; exact (hb1.alloc hb1.size _).drew
  have hgV : V.heap[w.heap.size]? = some (.cells #[.int .u8 0, .string ⟨#[]⟩, .int .i64 0, .slice none 0 0, .int .i64 0] 62 (0, 0)) := by rw [← hV]; exact (heap_alloc_old w1 _ (cells_lt hr1)).trans hr1
  have htV : V.heap[w1.heap.size]? = some (.cells #[Value.int IntKind.u8 tk, Value.string txt, Value.int IntKind.i64 pos] 69 (0, 0)) := by rw [← hV]; exact World.alloc_heap_new w1 _
  rw [hV]
  have hs1 := cells_lt hr1
  have htb : w1.heap.size ≠ c.rb := fun e => by have := hw.out.low.rb; omega
  clear hV hr1
  refine (hS.out V hbV).mono ?_
  rintro e w2 ⟨rfl, hR2, hE2⟩
  have hg2 := hE2.blk hgV hlow.out
  have ht2 := hE2.blk htV htb
  have k2 : w2.cell? ⟨w1.heap.size, 2, none⟩ = some (.int .i64 pos) := blk_cell ht2 rfl
  have g0 : w2.cell? ⟨w.heap.size, 0, none⟩ = some (.int .u8 0) := blk_cell hg2 rfl
  have g1 : w2.cell? ⟨w.heap.size, 1, none⟩ = some (.string ⟨#[]⟩) := blk_cell hg2 rfl
  have g2 : w2.cell? ⟨w.heap.size, 2, none⟩ = some (.int .i64 0) := blk_cell hg2 rfl
  have g3 : w2.cell? ⟨w.heap.size, 3, none⟩ = some (.slice none 0 0) := blk_cell hg2 rfl
  have g4 : w2.cell? ⟨w.heap.size, 4, none⟩ = some (.int .i64 0) := blk_cell hg2 rfl
  have f0 := blk_free hg2 0
  have f1 := blk_free hg2 1
  have f2 := blk_free hg2 2
  have f3 := blk_free hg2 3
  have f4 := blk_free hg2 4
  have hf : Hid (∀ a b cc d e : Value, _) := Lib.hid fun a b cc d e => leaf_end (i := i) (w := w) (w3 := w2) (j := i + 1) 2 ⟨#[]⟩ 1 pos (by unfold U8; decide) (by decide) (by unfold I64; decide) hp.out hw.out ((RE.of_below hbV).trans hE2) hR2 (Stored0.mk5 hg2 a b cc d e).1
  have hm := Lib.hid fun (a b cc d e : Value) => (Stored0.mk5 hg2 a b cc d e).2
  clear hg2 ht2 hE2 hR2 hgV htV hbV hS hb1 c0 c1 t0 t1 t2
  go_wp2_with fail
  exact bodyPost_ret (v := .agg #[.int .u8 2, .string ⟨#[]⟩, .int .i64 1, .slice none 0 0, .int .i64 pos]) (results_cell_row Tryz.results189 _ _ w.heap.size _ _ _ _ rfl (hm.out _ _ _ _ _) Tryz.underlying62 rfl (by kernel_rfl)) rfl ⟨_, rfl, hf.out _ _ _ _ _⟩
end Go.Proofs.YtpcdlneompnhlaaGreatDoor.Pa

namespace Go.Proofs.YtpcdlneompnhlaaGreatDoor.Pa
open Go Go.RowKit
open Go.Proofs.YtpcdlneompnhlaaGreatDoor.Lx Go.Proofs.YtpcdlneompnhlaaGreatDoor.Tr

set_option maxHeartbeats 4000000 in
set_option maxRecDepth 100000 in
theorem atom_false (c : Rc) (i : Nat) (t : Tk) (w : World) (h : Rd c i w) (ht : c.l[i]? = some t) (hk : ¬ t.kind = 2) (hx : t.txt = ⟨#[102, 97, 108, 115, 101]⟩) :
    Calls Tryz.prog 189 #[.pointer (some ⟨c.rb, 0, none⟩)] w (Post c (VX (fun b => w.heap.size ≤ b)) w (.ok (.mk 2 ⟨#[]⟩ 0 none 0 [] t.pos) (i + 1))) := by
  have hmore := h.more ht (by rw [hx]; decide)
  have hp : Hid (I64 t.pos) := Lib.hid (by have := (h.txs t (List.mem_of_getElem? ht)).2; unfold I64; omega)
  have hS : Hid (∀ W, Below w.heap.size w W → Calls Tryz.prog 144 #[.pointer (some ⟨c.rb, 0, none⟩), .string ⟨#[102, 97, 108, 115, 101]⟩] W fun e w' => e = .returned (.bool true) ∧ Rd c (i + 1) w' ∧ RE c.rb W w') := Lib.hid fun W hb => by
    have := passes_yes c i t W (h.ext hb) ht hmore
    rw [hx] at this
    exact this
  have hS0 : Hid (∀ W, Below w.heap.size w W → Calls Tryz.prog 144 #[.pointer (some ⟨c.rb, 0, none⟩), .string ⟨#[116, 114, 117, 101]⟩] W fun e w' => e = .returned (.bool false) ∧ ∃ m, w' = W.drewN m) := Lib.hid fun W hb => passes_no c i t _ W (h.ext hb) ht (by rw [hx]; decide)
  have hw := Lib.hid h
  have hlow : Hid (w.heap.size ≠ c.rb) := Lib.hid (fun e => by have := h.low.rb; omega)
  obtain ⟨w1, hw1⟩ : ∃ W, w.alloc (.cells #[.int .u8 0, .string ⟨#[]⟩, .int .i64 0, .slice none 0 0, .int .i64 0] 62) = W := ⟨_, rfl⟩
  have hb1 : Below w.heap.size w w1 := by rw [← hw1]; exact (Below.refl _ _).alloc (Nat.le_refl _) _
  have hr1 : w1.heap[w.heap.size]? = some (.cells #[.int .u8 0, .string ⟨#[]⟩, .int .i64 0, .slice none 0 0, .int .i64 0] 62 (0, 0)) := by rw [← hw1]; exact World.alloc_heap_new w _
  have h := h.ext hb1
  obtain ⟨b, off, ha, hSb, hcell⟩ := tk_row h.row i t ht
  have c0 : w1.cell? ⟨c.rb, 0, none⟩ = some (.slice c.ta c.l.length c.cap) := blk_cell h.blk rfl
  have c1 : w1.cell? ⟨c.rb, 1, none⟩ = some (.int .i64 i) := blk_cell h.blk rfl
  have t0 := hcell 0 _ rfl
  have t1 := hcell 1 _ rfl
  have t2 := hcell 2 _ rfl
  rw [← Nat.add_assoc] at t0 t1 t2
  rw [Nat.add_zero] at t0
  have hlt : (i : Int) < (c.l.length : Int) := by have := h.lt; omega
  have hlim : c.l.length ≤ 100000 := h.lim
  have h0 : (0 : Int) ≤ (i : Int) := by omega
  rw [ha] at c0
  obtain ⟨tk, txt, pos⟩ := t
  simp only at t0 t1 t2 hk hp
  clear hcell ht h ha hSb hx hmore
  go_enter Tryz.func189, Tryz.ntmps189
  go_wp2_with fail
  clear hw1
  go_region_held3 (fun V => V.cell? ⟨c.rb, 0, none⟩ = some (.slice (some ⟨b, off, none⟩) c.l.length c.cap) ∧ V.cell? ⟨c.rb, 1, none⟩ = some (.int .i64 i) ∧ V.cell? ⟨b, off + i * 3, none⟩ = some (.int .u8 tk) ∧ V.cell? ⟨b, off + i * 3 + 1, none⟩ = some (.string txt) ∧ V.cell? ⟨b, off + i * 3 + 2, none⟩ = some (.int .i64 pos)) (go_keep) (fail)
  go_wp2_with fail
  obtain ⟨V, hV⟩ : ∃ V, (w1.alloc (Obj.cells #[Value.int IntKind.u8 tk, Value.string txt, Value.int IntKind.i64 pos] 69)).drew = V := ⟨_, rfl⟩
  have hbV : Below w.heap.size w V := by rw [← hV]; exact (hb1.alloc hb1.size _).drew
  have hgV : V.heap[w.heap.size]? = some (.cells #[.int .u8 0, .string ⟨#[]⟩, .int .i64 0, .slice none 0 0, .int .i64 0] 62 (0, 0)) := by rw [← hV]; exact (heap_alloc_old w1 _ (cells_lt hr1)).trans hr1
  have htV : V.heap[w1.heap.size]? = some (.cells #[Value.int IntKind.u8 tk, Value.string txt, Value.int IntKind.i64 pos] 69 (0, 0)) := by rw [← hV]; exact World.alloc_heap_new w1 _
  rw [hV]
  have hs1 := cells_lt hr1
  have htb : w1.heap.size ≠ c.rb := fun e => by have := hw.out.low.rb; omega
  clear hV hr1
  refine (hS0.out V hbV).mono ?_
  rintro e w' ⟨rfl, m, rfl⟩
  replace hbV := Lib.hid hbV
  replace hS := Lib.hid (hS.out (V.drewN m) (by obtain ⟨q1, q2, q3, q4, q5⟩ := hbV.out; exact ⟨q1, q2, q3, q4, q5⟩))
  clear hS0
  go_wp2_with fail
  refine hS.out.mono ?_
  rintro e w2 ⟨rfl, hR2, hE2⟩
  have hg2 := ((RE.drewN V m).trans hE2).blk hgV hlow.out
  have ht2 := ((RE.drewN V m).trans hE2).blk htV htb
  have k2 : w2.cell? ⟨w1.heap.size, 2, none⟩ = some (.int .i64 pos) := blk_cell ht2 rfl
  have g0 : w2.cell? ⟨w.heap.size, 0, none⟩ = some (.int .u8 0) := blk_cell hg2 rfl
  have g1 : w2.cell? ⟨w.heap.size, 1, none⟩ = some (.string ⟨#[]⟩) := blk_cell hg2 rfl
  have g2 : w2.cell? ⟨w.heap.size, 2, none⟩ = some (.int .i64 0) := blk_cell hg2 rfl
  have g3 : w2.cell? ⟨w.heap.size, 3, none⟩ = some (.slice none 0 0) := blk_cell hg2 rfl
  have g4 : w2.cell? ⟨w.heap.size, 4, none⟩ = some (.int .i64 0) := blk_cell hg2 rfl
  have f0 := blk_free hg2 0
  have f1 := blk_free hg2 1
  have f2 := blk_free hg2 2
  have f3 := blk_free hg2 3
  have f4 := blk_free hg2 4
  have hf : Hid (∀ a b cc d e : Value, _) := Lib.hid fun a b cc d e => leaf_end (i := i) (w := w) (w3 := w2) (j := i + 1) 2 ⟨#[]⟩ 0 pos (by unfold U8; decide) (by decide) (by unfold I64; decide) hp.out hw.out ((RE.of_below hbV.out).trans ((RE.drewN V m).trans hE2)) hR2 (Stored0.mk5 hg2 a b cc d e).1
  have hm := Lib.hid fun (a b cc d e : Value) => (Stored0.mk5 hg2 a b cc d e).2
  clear hg2 ht2 hE2 hR2 hgV htV hbV hS hb1 c0 c1 t0 t1 t2
  go_wp2_with fail
  exact bodyPost_ret (v := .agg #[.int .u8 2, .string ⟨#[]⟩, .int .i64 0, .slice none 0 0, .int .i64 pos]) (results_cell_row Tryz.results189 _ _ w.heap.size _ _ _ _ rfl (hm.out _ _ _ _ _) Tryz.underlying62 rfl (by kernel_rfl)) rfl ⟨_, rfl, hf.out _ _ _ _ _⟩
end Go.Proofs.YtpcdlneompnhlaaGreatDoor.Pa

namespace Go.Proofs.YtpcdlneompnhlaaGreatDoor.Pa
open Go Go.RowKit
open Go.Proofs.YtpcdlneompnhlaaGreatDoor.Lx Go.Proofs.YtpcdlneompnhlaaGreatDoor.Tr

set_option maxHeartbeats 4000000 in
set_option maxRecDepth 100000 in
theorem atom_var (c : Rc) (i : Nat) (t u : Tk) (w : World) (h : Rd c i w) (ht : c.l[i]? = some t) (hmore : i + 1 < c.l.length) (hu : c.l[i + 1]? = some u) (hk : ¬ t.kind = 2) (hx1 : ¬ t.txt = ⟨#[116, 114, 117, 101]⟩) (hx2 : ¬ t.txt = ⟨#[102, 97, 108, 115, 101]⟩) (hx3 : ¬ t.txt = ⟨#[40]⟩) (hn : nme t.txt.data.toList = true) (hx4 : ¬ u.txt = ⟨#[91]⟩) :
    Calls Tryz.prog 189 #[.pointer (some ⟨c.rb, 0, none⟩)] w (Post c (VX (fun b => w.heap.size ≤ b)) w (.ok (.mk 3 t.txt 0 none 0 [] t.pos) (i + 1))) := by
  have hp : Hid (I64 t.pos) := Lib.hid (by have := (h.txs t (List.mem_of_getElem? ht)).2; unfold I64; omega)
  have hz : Hid (t.txt.size ≤ maxLen) := Lib.hid (by have := (h.txs t (List.mem_of_getElem? ht)).1; unfold maxLen; omega)
  have hS0 : Hid (∀ (s : ByteArray), ¬ t.txt = s → ∀ (V : World) (n : Nat), Below w.heap.size w V → Calls Tryz.prog 144 #[.pointer (some ⟨c.rb, 0, none⟩), .string s] (V.drewN n) fun e w' => e = .returned (.bool false) ∧ ∃ m, w' = (V.drewN n).drewN m) := Lib.hid fun s hs V n hb => passes_no c i t s (V.drewN n) ((h.ext hb).drewN n) ht hs
  have hN : Hid (∀ (V : World) (n : Nat), Below w.heap.size w V → Calls Tryz.prog 142 #[.pointer (some ⟨c.rb, 0, none⟩)] (V.drewN n) fun e w' => e = .returned (.string t.txt) ∧ Rd c (i + 1) w' ∧ RE c.rb (V.drewN n) w') := Lib.hid fun V n hb => name_yes c i t (V.drewN n) ((h.ext hb).drewN n) ht hmore hn
  have hB : Hid (∀ W, Rd c (i + 1) W → Calls Tryz.prog 144 #[.pointer (some ⟨c.rb, 0, none⟩), .string ⟨#[91]⟩] W fun e w' => e = .returned (.bool false) ∧ ∃ m, w' = W.drewN m) := Lib.hid fun W hW => passes_no c (i + 1) u _ W hW hu hx4
  have hw := Lib.hid h
  have hlow : Hid (w.heap.size ≠ c.rb) := Lib.hid (fun e => by have := h.low.rb; omega)
  obtain ⟨w1, hw1⟩ : ∃ W, w.alloc (.cells #[.int .u8 0, .string ⟨#[]⟩, .int .i64 0, .slice none 0 0, .int .i64 0] 62) = W := ⟨_, rfl⟩
  have hb1 : Below w.heap.size w w1 := by rw [← hw1]; exact (Below.refl _ _).alloc (Nat.le_refl _) _
  have hr1 : w1.heap[w.heap.size]? = some (.cells #[.int .u8 0, .string ⟨#[]⟩, .int .i64 0, .slice none 0 0, .int .i64 0] 62 (0, 0)) := by rw [← hw1]; exact World.alloc_heap_new w _
  have h := h.ext hb1
  obtain ⟨b, off, ha, hSb, hcell⟩ := tk_row h.row i t ht
  have c0 : w1.cell? ⟨c.rb, 0, none⟩ = some (.slice c.ta c.l.length c.cap) := blk_cell h.blk rfl
  have c1 : w1.cell? ⟨c.rb, 1, none⟩ = some (.int .i64 i) := blk_cell h.blk rfl
  have t0 := hcell 0 _ rfl
  have t1 := hcell 1 _ rfl
  have t2 := hcell 2 _ rfl
  rw [← Nat.add_assoc] at t0 t1 t2
  rw [Nat.add_zero] at t0
  have hlt : (i : Int) < (c.l.length : Int) := by have := h.lt; omega
  have hlim : c.l.length ≤ 100000 := h.lim
  have h0 : (0 : Int) ≤ (i : Int) := by omega
  rw [ha] at c0
  obtain ⟨tk, txt, pos⟩ := t
  simp only at t0 t1 t2 hk hp hz hS0 hN hx1 hx2 hx3
  have hS1 := Lib.hid fun V hb => hS0.out _ hx1 V 0 hb
  have hS2 := Lib.hid (hS0.out _ hx2)
  have hS3 := Lib.hid (hS0.out _ hx3)
  clear hcell ht h ha hSb hmore hu hn hx1 hx2 hx3 hx4 hS0
  go_enter Tryz.func189, Tryz.ntmps189
  go_wp2_with fail
  clear hw1
  go_region_held3 (fun V => V.cell? ⟨c.rb, 0, none⟩ = some (.slice (some ⟨b, off, none⟩) c.l.length c.cap) ∧ V.cell? ⟨c.rb, 1, none⟩ = some (.int .i64 i) ∧ V.cell? ⟨b, off + i * 3, none⟩ = some (.int .u8 tk) ∧ V.cell? ⟨b, off + i * 3 + 1, none⟩ = some (.string txt) ∧ V.cell? ⟨b, off + i * 3 + 2, none⟩ = some (.int .i64 pos)) (go_keep) (fail)
  go_wp2_with fail
  obtain ⟨V, hV⟩ : ∃ V, (w1.alloc (Obj.cells #[Value.int IntKind.u8 tk, Value.string txt, Value.int IntKind.i64 pos] 69)).drew = V := ⟨_, rfl⟩
  have hbV : Below w.heap.size w V := by rw [← hV]; exact (hb1.alloc hb1.size _).drew
  have hgV : V.heap[w.heap.size]? = some (.cells #[.int .u8 0, .string ⟨#[]⟩, .int .i64 0, .slice none 0 0, .int .i64 0] 62 (0, 0)) := by rw [← hV]; exact (heap_alloc_old w1 _ (cells_lt hr1)).trans hr1
  have htV : V.heap[w1.heap.size]? = some (.cells #[Value.int IntKind.u8 tk, Value.string txt, Value.int IntKind.i64 pos] 69 (0, 0)) := by rw [← hV]; exact World.alloc_heap_new w1 _
  rw [hV]
  have hs1 := cells_lt hr1
  have htb : w1.heap.size ≠ c.rb := fun e => by have := hw.out.low.rb; omega
  clear hV hr1
  replace hS1 := Lib.hid (hS1.out V hbV)
  replace hS2 := Lib.hid fun n => hS2.out V n hbV
  replace hS3 := Lib.hid fun n => hS3.out V n hbV
  replace hN := Lib.hid fun n => hN.out V n hbV
  replace hbV := Lib.hid hbV
  refine hS1.out.mono ?_
  rintro e w' ⟨rfl, m0, rfl⟩
  go_wp2_with fail
  refine (hS2.out m0).mono ?_
  rintro e w' ⟨rfl, m1, rfl⟩
  go_wp2_with fail
  refine (hS3.out (m0 + m1)).mono ?_
  rintro e w' ⟨rfl, m2, rfl⟩
  go_wp2_with fail
  refine (hN.out (m0 + m1 + m2)).mono ?_
  rintro e w2 ⟨rfl, hR2, hE2⟩
  have hg2 := ((RE.drewN V _).trans hE2).blk hgV hlow.out
  have ht2 := ((RE.drewN V _).trans hE2).blk htV htb
  have k2 : w2.cell? ⟨w1.heap.size, 2, none⟩ = some (.int .i64 pos) := blk_cell ht2 rfl
  have g0 : w2.cell? ⟨w.heap.size, 0, none⟩ = some (.int .u8 0) := blk_cell hg2 rfl
  have g1 : w2.cell? ⟨w.heap.size, 1, none⟩ = some (.string ⟨#[]⟩) := blk_cell hg2 rfl
  have g2 : w2.cell? ⟨w.heap.size, 2, none⟩ = some (.int .i64 0) := blk_cell hg2 rfl
  have g3 : w2.cell? ⟨w.heap.size, 3, none⟩ = some (.slice none 0 0) := blk_cell hg2 rfl
  have g4 : w2.cell? ⟨w.heap.size, 4, none⟩ = some (.int .i64 0) := blk_cell hg2 rfl
  have f0 := blk_free hg2 0
  have f1 := blk_free hg2 1
  have f2 := blk_free hg2 2
  have f3 := blk_free hg2 3
  have f4 := blk_free hg2 4
  have hf : Hid (∀ (m4 : Nat) (a b cc d e : Value), _) := Lib.hid fun m4 a b cc d e => leaf_end (i := i) (w := w) (w3 := w2.drewN m4) (j := i + 1) 3 txt 0 pos (by unfold U8; decide) hz.out (by unfold I64; decide) hp.out hw.out ((RE.of_below hbV.out).trans (((RE.drewN V _).trans hE2).trans (RE.drewN w2 m4))) (hR2.drewN m4) (Stored0.mk5 (A := w2.drewN m4) hg2 a b cc d e).1
  have hm := Lib.hid fun (m4 : Nat) (a b cc d e : Value) => (Stored0.mk5 (A := w2.drewN m4) hg2 a b cc d e).2
  clear hg2 ht2 hgV htV hbV hb1 c0 c1 t0 t1 t2
  replace hB := Lib.hid (hB.out w2 hR2)
  clear hE2 hR2 hS1 hS2 hS3 hN
  go_wp2_with fail
  refine hB.out.mono ?_
  rintro e w' ⟨rfl, m4, rfl⟩
  go_wp2_with fail
  exact bodyPost_ret (v := .agg #[.int .u8 3, .string txt, .int .i64 0, .slice none 0 0, .int .i64 pos]) (results_cell_row Tryz.results189 _ _ w.heap.size _ _ _ _ rfl (hm.out m4 _ _ _ _ _) Tryz.underlying62 rfl (by kernel_rfl)) rfl ⟨_, rfl, hf.out m4 _ _ _ _ _⟩
end Go.Proofs.YtpcdlneompnhlaaGreatDoor.Pa

namespace Go.Proofs.YtpcdlneompnhlaaGreatDoor.Pa
open Go Go.RowKit
open Go.Proofs.YtpcdlneompnhlaaGreatDoor.Lx Go.Proofs.YtpcdlneompnhlaaGreatDoor.Tr

set_option maxHeartbeats 4000000 in
set_option maxRecDepth 100000 in
theorem atom_refused (c : Rc) (i : Nat) (t : Tk) (w : World) (h : Rd c i w) (ht : c.l[i]? = some t) (hk : ¬ t.kind = 2) (hx1 : ¬ t.txt = ⟨#[116, 114, 117, 101]⟩) (hx2 : ¬ t.txt = ⟨#[102, 97, 108, 115, 101]⟩) (hx3 : ¬ t.txt = ⟨#[40]⟩) (hn : nme t.txt.data.toList = false) :
    Calls Tryz.prog 189 #[.pointer (some ⟨c.rb, 0, none⟩)] w (Post c (VX (fun b => w.heap.size ≤ b)) w (.bad t.pos)) := by
  have hS0 : Hid (∀ (s : ByteArray), ¬ t.txt = s → ∀ (V : World) (n : Nat), Below w.heap.size w V → Calls Tryz.prog 144 #[.pointer (some ⟨c.rb, 0, none⟩), .string s] (V.drewN n) fun e w' => e = .returned (.bool false) ∧ ∃ m, w' = (V.drewN n).drewN m) := Lib.hid fun s hs V n hb => passes_no c i t s (V.drewN n) ((h.ext hb).drewN n) ht hs
  have hN : Hid (∀ (V : World) (n : Nat), Below w.heap.size w V → Calls Tryz.prog 142 #[.pointer (some ⟨c.rb, 0, none⟩)] (V.drewN n) fun e w' => e = badE t.pos ∧ RE c.rb (V.drewN n) w') := Lib.hid fun V n hb => (name_no c i t (V.drewN n) ((h.ext hb).drewN n) ht hn).mono fun e w' h2 => ⟨h2.1, h2.2⟩
  have hw := Lib.hid h
  have hlow : Hid (w.heap.size ≠ c.rb) := Lib.hid (fun e => by have := h.low.rb; omega)
  obtain ⟨w1, hw1⟩ : ∃ W, w.alloc (.cells #[.int .u8 0, .string ⟨#[]⟩, .int .i64 0, .slice none 0 0, .int .i64 0] 62) = W := ⟨_, rfl⟩
  have hb1 : Below w.heap.size w w1 := by rw [← hw1]; exact (Below.refl _ _).alloc (Nat.le_refl _) _
  have hr1 : w1.heap[w.heap.size]? = some (.cells #[.int .u8 0, .string ⟨#[]⟩, .int .i64 0, .slice none 0 0, .int .i64 0] 62 (0, 0)) := by rw [← hw1]; exact World.alloc_heap_new w _
  have h := h.ext hb1
  obtain ⟨b, off, ha, hSb, hcell⟩ := tk_row h.row i t ht
  have c0 : w1.cell? ⟨c.rb, 0, none⟩ = some (.slice c.ta c.l.length c.cap) := blk_cell h.blk rfl
  have c1 : w1.cell? ⟨c.rb, 1, none⟩ = some (.int .i64 i) := blk_cell h.blk rfl
  have t0 := hcell 0 _ rfl
  have t1 := hcell 1 _ rfl
  have t2 := hcell 2 _ rfl
  rw [← Nat.add_assoc] at t0 t1 t2
  rw [Nat.add_zero] at t0
  have hlt : (i : Int) < (c.l.length : Int) := by have := h.lt; omega
  have hlim : c.l.length ≤ 100000 := h.lim
  have h0 : (0 : Int) ≤ (i : Int) := by omega
  rw [ha] at c0
  obtain ⟨tk, txt, pos⟩ := t
  simp only at t0 t1 t2 hk hS0 hN hx1 hx2 hx3
  have hS1 := Lib.hid fun V hb => hS0.out _ hx1 V 0 hb
  have hS2 := Lib.hid (hS0.out _ hx2)
  have hS3 := Lib.hid (hS0.out _ hx3)
  clear hcell ht h ha hSb hn hx1 hx2 hx3 hS0
  go_enter Tryz.func189, Tryz.ntmps189
  go_wp2_with fail
  clear hw1
  go_region_held3 (fun V => V.cell? ⟨c.rb, 0, none⟩ = some (.slice (some ⟨b, off, none⟩) c.l.length c.cap) ∧ V.cell? ⟨c.rb, 1, none⟩ = some (.int .i64 i) ∧ V.cell? ⟨b, off + i * 3, none⟩ = some (.int .u8 tk) ∧ V.cell? ⟨b, off + i * 3 + 1, none⟩ = some (.string txt) ∧ V.cell? ⟨b, off + i * 3 + 2, none⟩ = some (.int .i64 pos)) (go_keep) (fail)
  go_wp2_with fail
  obtain ⟨V, hV⟩ : ∃ V, (w1.alloc (Obj.cells #[Value.int IntKind.u8 tk, Value.string txt, Value.int IntKind.i64 pos] 69)).drew = V := ⟨_, rfl⟩
  have hbV : Below w.heap.size w V := by rw [← hV]; exact (hb1.alloc hb1.size _).drew
  have hgV : V.heap[w.heap.size]? = some (.cells #[.int .u8 0, .string ⟨#[]⟩, .int .i64 0, .slice none 0 0, .int .i64 0] 62 (0, 0)) := by rw [← hV]; exact (heap_alloc_old w1 _ (cells_lt hr1)).trans hr1
  have htV : V.heap[w1.heap.size]? = some (.cells #[Value.int IntKind.u8 tk, Value.string txt, Value.int IntKind.i64 pos] 69 (0, 0)) := by rw [← hV]; exact World.alloc_heap_new w1 _
  rw [hV]
  have hs1 := cells_lt hr1
  have htb : w1.heap.size ≠ c.rb := fun e => by have := hw.out.low.rb; omega
  clear hV hr1
  replace hS1 := Lib.hid (hS1.out V hbV)
  replace hS2 := Lib.hid fun n => hS2.out V n hbV
  replace hS3 := Lib.hid fun n => hS3.out V n hbV
  replace hN := Lib.hid fun n => hN.out V n hbV
  replace hbV := Lib.hid hbV
  refine hS1.out.mono ?_
  rintro e w' ⟨rfl, m0, rfl⟩
  go_wp2_with fail
  refine (hS2.out m0).mono ?_
  rintro e w' ⟨rfl, m1, rfl⟩
  go_wp2_with fail
  refine (hS3.out (m0 + m1)).mono ?_
  rintro e w' ⟨rfl, m2, rfl⟩
  go_wp2_with fail
  refine (hN.out (m0 + m1 + m2)).mono ?_
  rintro e w2 ⟨rfl, hE2⟩
  exact ⟨rfl, rfl, (RE.of_below hbV.out).trans ((RE.drewN V _).trans hE2)⟩
end Go.Proofs.YtpcdlneompnhlaaGreatDoor.Pa

namespace Go.Proofs.YtpcdlneompnhlaaGreatDoor.Pa
open Go Go.RowKit
open Go.Proofs.YtpcdlneompnhlaaGreatDoor.Lx Go.Proofs.YtpcdlneompnhlaaGreatDoor.Tr

set_option maxHeartbeats 4000000 in
set_option maxRecDepth 100000 in
theorem atom_paren (f : Nat) (hE : ContE f) (c : Rc) (i : Nat) (t : Tk) (w : World) (h : Rd c i w) (ht : c.l[i]? = some t) (hk : ¬ t.kind = 2) (hx : t.txt = ⟨#[40]⟩) (q : Res Ex) (hq : joinedP c.l f 1 (i + 1) = some q) (r : Res Ex) (hr : (q.bind fun e j => (takeR c.l j ⟨#[41]⟩).bind fun _ k => .ok e k) = r) :
    Calls Tryz.prog 189 #[.pointer (some ⟨c.rb, 0, none⟩)] w (Post c (VX (fun b => w.heap.size ≤ b)) w r) := by
  have hEx : Hid (∀ W, Rd c (i + 1) W → Calls Tryz.prog 149 #[.pointer (some ⟨c.rb, 0, none⟩)] W (Post c (VX (fun b => W.heap.size ≤ b)) W q)) := Lib.hid fun W hW => hE c (i + 1) W q hW hq
  replace hr := Lib.hid hr
  clear hq hE
  have hPs : Hid (∀ W j s, s ≠ ⟨#[]⟩ → Rd c j W → Calls Tryz.prog 144 #[.pointer (some ⟨c.rb, 0, none⟩), .string s] W fun e w' => RE c.rb W w' ∧ ((tx c.l j = s ∧ e = .returned (.bool true) ∧ Rd c (j + 1) w') ∨ (¬ tx c.l j = s ∧ e = .returned (.bool false) ∧ Rd c j w'))) := Lib.hid fun W j s hs hW => passes_c hW s hs
  have hTk : Hid (∀ W j s, s ≠ ⟨#[]⟩ → Rd c j W → Calls Tryz.prog 143 #[.pointer (some ⟨c.rb, 0, none⟩), .string s] W (Post c (fun _ v _ => v = .tuple #[]) W (takeR c.l j s))) := Lib.hid fun W j s hs hW => take_c hW s hs
  have hNm : Hid (∀ W j, Rd c j W → Calls Tryz.prog 142 #[.pointer (some ⟨c.rb, 0, none⟩)] W (Post c (fun x v _ => v = .string x ∧ x.size ≤ maxLen) W (nameR c.l j))) := Lib.hid fun W j hW => name_c hW
  have h1 := (Fr.start h).alloc #[.int .u8 0, .string ⟨#[]⟩, .int .i64 0, .slice none 0 0, .int .i64 0] 62
  have htx : tx c.l i = t.txt := tx_of ht
  have hp : I64 t.pos := by have := (h.txs t (List.mem_of_getElem? ht)).2; unfold I64; omega
  obtain ⟨w1, hw1⟩ : ∃ W, w.alloc (.cells #[.int .u8 0, .string ⟨#[]⟩, .int .i64 0, .slice none 0 0, .int .i64 0] 62) = W := ⟨_, rfl⟩
  rw [hw1] at h1
  have h := h1.rd
  obtain ⟨b, off, ha, hSb, hcell⟩ := tk_row h.row i t ht
  have c0 : w1.cell? ⟨c.rb, 0, none⟩ = some (.slice c.ta c.l.length c.cap) := blk_cell h.blk rfl
  have c1 : w1.cell? ⟨c.rb, 1, none⟩ = some (.int .i64 i) := blk_cell h.blk rfl
  have t0 := hcell 0 _ rfl
  have t1 := hcell 1 _ rfl
  have t2 := hcell 2 _ rfl
  rw [← Nat.add_assoc] at t0 t1 t2
  rw [Nat.add_zero] at t0
  have hlt : (i : Int) < (c.l.length : Int) := by have := h.lt; omega
  have hlim : c.l.length ≤ 100000 := h.lim
  have hi0 : (0 : Int) ≤ (i : Int) := by omega
  rw [ha] at c0
  obtain ⟨tk, txt, pos⟩ := t
  simp only at t0 t1 t2 hk hp htx
  simp only at hx
  rw [hx] at htx
  clear hx
  replace htx := Lib.hid htx
  replace hp := Lib.hid hp
  replace h1 := Lib.hid h1
  clear hcell ht h ha hSb
  go_enter Tryz.func189, Tryz.ntmps189
  go_wp2_with fail
  clear hw1
  go_region_held3 (fun V => V.cell? ⟨c.rb, 0, none⟩ = some (.slice (some ⟨b, off, none⟩) c.l.length c.cap) ∧ V.cell? ⟨c.rb, 1, none⟩ = some (.int .i64 i) ∧ V.cell? ⟨b, off + i * 3, none⟩ = some (.int .u8 tk) ∧ V.cell? ⟨b, off + i * 3 + 1, none⟩ = some (.string txt) ∧ V.cell? ⟨b, off + i * 3 + 2, none⟩ = some (.int .i64 pos)) (go_keep) (fail)
  go_wp2_with fail
  have h2 := (h1.out.alloc #[Value.int IntKind.u8 tk, Value.string txt, Value.int IntKind.i64 pos] 69).ext ((Below.refl _ _).drew)
  obtain ⟨V, hV⟩ : ∃ V, (w1.alloc (Obj.cells #[Value.int IntKind.u8 tk, Value.string txt, Value.int IntKind.i64 pos] 69)).drew = V := ⟨_, rfl⟩
  rw [hV] at h2 ⊢
  clear hV h1 c0 c1 t0 t1 t2
  replace h2 := Lib.hid h2
  refine (hPs.out _ i ⟨#[116, 114, 117, 101]⟩ (by decide) h2.out.rd).mono ?_
  rintro e w' ⟨hre, ⟨hc, _, _⟩ | ⟨_, rfl, hR⟩⟩
  · exact absurd (htx.out.symm.trans hc) (by decide)
  have h3 := Lib.hid (h2.out.call hre hR)
  clear hre hR h2
  go_wp2_with fail
  refine (hPs.out _ i ⟨#[102, 97, 108, 115, 101]⟩ (by decide) h3.out.rd).mono ?_
  rintro e w' ⟨hre, ⟨hc, _, _⟩ | ⟨_, rfl, hR⟩⟩
  · exact absurd (htx.out.symm.trans hc) (by decide)
  have h4 := Lib.hid (h3.out.call hre hR)
  clear hre hR h3
  go_wp2_with fail
  refine (hPs.out _ i ⟨#[40]⟩ (by decide) h4.out.rd).mono ?_
  rintro e w' ⟨hre, ⟨_, rfl, hR⟩ | ⟨hc, _, _⟩⟩
  case inr => exact absurd htx.out hc
  have h5 := Lib.hid (h4.out.call hre hR)
  clear hre hR h4
  go_wp2_with fail
  refine (hEx.out _ h5.out.rd).mono ?_
  intro e w6 hP
  rcases hP.two with ⟨p, hq, rfl, hre⟩ | ⟨x6, j6, v6, hq, rfl, hV, hR, hre⟩
  · have hr' := hr.out; rw [hq, Res.bind_bad] at hr'; subst hr'; exact ⟨rfl, rfl, h5.out.re.trans hre⟩
  have hr' := hr.out
  rw [hq, Res.bind_ok'] at hr'
  replace hr := Lib.hid hr'
  clear hr' hP hEx
  clear hq
  obtain ⟨ex6, rfl, hx6, h6⟩ := h5.out.factX hre hR hV
  replace hx6 := Lib.hid hx6
  clear hV hR hre h5
  replace h6 := h6.alloc ⟨ex6.vals⟩ 62
  obtain ⟨k6, n6, y6, a6, c6, q6, p6⟩ := ex6
  have hB : (⟨(Ex.mk k6 n6 y6 a6 c6 q6 p6).vals⟩ : Array Value) = #[.int .u8 k6, .string n6, .int .i64 y6, .slice a6 q6.length c6, .int .i64 p6] := rfl
  have hC : (⟨exCells [Ex.mk k6 n6 y6 a6 c6 q6 p6]⟩ : Array Value) = #[.int .u8 k6, .string n6, .int .i64 y6, .slice a6 q6.length c6, .int .i64 p6] := rfl
  try rw [hC] at h6
  try rw [hB] at h6
  try rw [hB]
  clear hB hC
  replace h6 := Lib.hid h6
  go_wp2_with fail
  refine (hTk.out _ _ ⟨#[41]⟩ (by decide) h6.out.rd).mono ?_
  intro e w7 hP
  rcases hP.two with ⟨p, hq, rfl, hre⟩ | ⟨x7, j7, v7, hq, rfl, hV, hR, hre⟩
  · have hr' := hr.out; rw [hq, Res.bind_bad] at hr'; subst hr'; exact ⟨rfl, rfl, h6.out.re.trans hre⟩
  have hr' := hr.out
  rw [hq, Res.bind_ok'] at hr'
  replace hr := Lib.hid hr'
  clear hr' hP hq
  subst hV
  have h7 := h6.out.call hre hR
  clear hre hR h6
  obtain ⟨ce0, ce1, ce2, ce3, ce4, _, _, _, _, _⟩ := cells5 h7.hd
  obtain ⟨cg0, cg1, cg2, cg3, cg4, cf0, cf1, cf2, cf3, cf4⟩ := cells5 h7.hd3
  have hf := Lib.hid fun a b cc d e => h7.swap3.set5 a b cc d e
  clear h7 hPs hTk hNm
  replace hr := hr.out
  go_wp2_with fail
  subst hr
  exact bodyPost_ret (v := .agg #[.int .u8 k6, .string n6, .int .i64 y6, .slice a6 q6.length c6, .int .i64 p6]) (results_cell_row Tryz.results189 _ _ w.heap.size _ _ _ _ rfl (hf.out _ _ _ _ _).hd Tryz.underlying62 rfl (by kernel_rfl)) rfl ⟨_, rfl, ⟨.mk k6 n6 y6 a6 c6 q6 p6, rfl, (hf.out _ _ _ _ _).fct (f := Fact.X (.mk k6 n6 y6 a6 c6 q6 p6)) (by simp), hx6.out⟩, (hf.out _ _ _ _ _).rd, (hf.out _ _ _ _ _).re⟩
end Go.Proofs.YtpcdlneompnhlaaGreatDoor.Pa
