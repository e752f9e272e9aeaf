/- Walk of the reader's method unary: its other cases; its contract. Conditions: the contracts of unary and atom at less fuel. · The plain parser of expressions: its places grow; what joined's loop keeps. Conditions: none. · The parser as plain functions on tokens: statements, declarations, programs. What values say with their places. Conditions: none. -/
import Derived.Test.YtfhmhplbkheojaaGreatDoorGrAG
namespace Go.Proofs.YtfhmhplbkheojaaGreatDoor.Pa
open Go Go.RowKit
open Go.Proofs.YtfhmhplbkheojaaGreatDoor.Lx Go.Proofs.YtfhmhplbkheojaaGreatDoor.Tr

set_option maxHeartbeats 4000000 in
set_option maxRecDepth 100000 in
theorem unary_not (f : Nat) (hU : ContU f) (c : Rc) (i : Nat) (t : Tk) (w : World) (h : Rd c i w) (ht : c.l[i]? = some t) (h1 : t.txt = ⟨#[33]⟩) (q : Res Ex) (hq : unaryP c.l f (i + 1) = some q) :
    Calls Tryz.prog 191 #[.pointer (some ⟨c.rb, 0, none⟩)] w (Post c (VX (fun b => w.heap.size ≤ b)) w (q.map fun e => .mk 6 ⟨#[]⟩ 0 none 0 [e] t.pos)) := by
  have hmore := h.more ht (by rw [h1]; decide)
  have hp : I64 t.pos := by have := (h.txs t (List.mem_of_getElem? ht)).2; unfold I64; omega
  have hS0 : Hid (∀ W n, Below w.heap.size w W → Calls Tryz.prog 155 #[.pointer (some ⟨c.rb, 0, none⟩), .string ⟨#[45]⟩] (W.drewN n) fun e w' => e = .returned (.bool false) ∧ ∃ m, w' = (W.drewN n).drewN m) := Lib.hid fun W n hb => passes_no c i t _ (W.drewN n) ((h.ext hb).drewN n) ht (by rw [h1]; decide)
  have hS : Hid (∀ W n, Below w.heap.size w W → Calls Tryz.prog 155 #[.pointer (some ⟨c.rb, 0, none⟩), .string ⟨#[33]⟩] (W.drewN n) fun e w' => e = .returned (.bool true) ∧ Rd c (i + 1) w' ∧ RE c.rb (W.drewN n) w') := Lib.hid fun W n hb => by
    have := passes_yes c i t (W.drewN n) ((h.ext hb).drewN n) ht hmore
    rw [h1] at this
    exact this
  have hAt : Hid (∀ W, Below w.heap.size w W → Calls Tryz.prog 163 #[.pointer (some ⟨c.rb, 0, none⟩)] W fun e w' => e = .returned (.int .i64 t.pos) ∧ ∃ n, w' = W.drewN n) := Lib.hid fun W hb => at_any c i t W (h.ext hb) ht
  have hRec : Hid (∀ W, Rd c (i + 1) W → Calls Tryz.prog 191 #[.pointer (some ⟨c.rb, 0, none⟩)] W (Post c (VX (fun b => W.heap.size ≤ b)) W q)) := Lib.hid fun W hW => hU c (i + 1) W q hW hq
  have h := Lib.hid h
  have hp := Lib.hid hp
  have hlow : Hid (w.heap.size ≠ c.rb) := Lib.hid (fun e => by have := h.out.low.rb; omega)
  clear h1 ht hmore hU hq
  obtain ⟨tk, txt, pos⟩ := t
  simp only at hAt hp
  go_enter Tryz.func191, Tryz.ntmps191
  go_wp2_with fail
  obtain ⟨w1, hw1⟩ : ∃ W, w.alloc (.cells #[.int .u8 0, .string ⟨#[]⟩, .int .i64 0, .slice none 0 0, .int .i64 0] 67) = W := ⟨_, rfl⟩
  have hb1 : Below w.heap.size w w1 := by rw [← hw1]; exact (Below.refl _ _).alloc (Nat.le_refl _) _
  have hr1 : w1.heap[w.heap.size]? = some (.cells #[.int .u8 0, .string ⟨#[]⟩, .int .i64 0, .slice none 0 0, .int .i64 0] 67 (0, 0)) := by rw [← hw1]; exact World.alloc_heap_new w _
  rw [hw1]
  clear hw1
  refine (hAt.out w1 hb1).mono ?_
  rintro e w' ⟨rfl, n, rfl⟩
  replace hS0 := Lib.hid (hS0.out w1 n hb1)
  replace hS := Lib.hid fun n => hS.out w1 n hb1
  go_wp2_with fail
  refine hS0.out.mono ?_
  rintro e w' ⟨rfl, m, rfl⟩
  go_wp2_with fail
  refine (hS.out (n + m)).mono ?_
  rintro e w2 ⟨rfl, hR2, hE2⟩
  replace hRec := Lib.hid (hRec.out w2 hR2)
  have hr2 := hE2.blk (k := w.heap.size) hr1 hlow.out
  have hE2' := ((RE.of_below (rb := c.rb) hb1).trans (RE.drewN w1 (n + m))).trans hE2
  replace hr2 := Lib.hid hr2
  replace hE2' := Lib.hid hE2'
  clear hE2 hr1 hR2 hS hS0 hAt hb1
  go_wp2_with fail
  refine hRec.out.mono ?_
  rintro e w3 hP
  cases q with
  | bad p =>
    obtain ⟨rfl, hE3⟩ := hP
    exact ⟨rfl, rfl, hE2'.out.trans hE3⟩
  | ok x j =>
    obtain ⟨v, rfl, ⟨ex, rfl, hx, rfl⟩, hR3, hE3⟩ := hP
    have hr3 := hE3.blk hr2.out hlow.out
    have hs2 := cells_lt hr2.out
    have hs3 : w.heap.size < w3.heap.size := Nat.lt_of_lt_of_le hs2 hE3.size
    have hx' : Ex.In w3 (fun b => w.heap.size < b) ex := Ex.In.mono (fun b hb => Nat.lt_of_lt_of_le hs2 hb) _ hx
    have hf : Hid (∀ a b cc d e : Value, _) := Lib.hid fun a b cc d e => one_end (i := i) (w := w) (w3 := w3) (j := j) 6 ⟨#[]⟩ (by decide) (by unfold U8; decide) pos hp.out ex h.out hs3 (hE2'.out.trans hE3) hR3 hx' (Stored.mk5 _ hr3 a b cc d e).1
    have hm := Lib.hid fun (o : Obj) (a b cc d e : Value) => (Stored.mk5 o hr3 a b cc d e).2
    obtain ⟨k1, n1, v1, a1, c1, q1, p1⟩ := ex
    have hB : (⟨(Ex.mk k1 n1 v1 a1 c1 q1 p1).vals⟩ : Array Value) = #[.int .u8 k1, .string n1, .int .i64 v1, .slice a1 q1.length c1, .int .i64 p1] := rfl
    rw [hB]
    have g0 : w3.cell? ⟨w.heap.size, 0, none⟩ = some (.int .u8 0) := blk_cell hr3 rfl
    have g1 : w3.cell? ⟨w.heap.size, 1, none⟩ = some (.string ⟨#[]⟩) := blk_cell hr3 rfl
    have g2 : w3.cell? ⟨w.heap.size, 2, none⟩ = some (.int .i64 0) := blk_cell hr3 rfl
    have g3 : w3.cell? ⟨w.heap.size, 3, none⟩ = some (.slice none 0 0) := blk_cell hr3 rfl
    have g4 : w3.cell? ⟨w.heap.size, 4, none⟩ = some (.int .i64 0) := blk_cell hr3 rfl
    have f0 := blk_free hr3 0
    have f1 := blk_free hr3 1
    have f2 := blk_free hr3 2
    have f3 := blk_free hr3 3
    have f4 := blk_free hr3 4
    replace hr3 := Lib.hid hr3
    clear hx hx' hR3 hE3 hr2 hE2' hRec hB
    go_wp2_with fail
    exact bodyPost_ret (v := .agg #[.int .u8 6, .string ⟨#[]⟩, .int .i64 0, .slice (some ⟨w3.heap.size, 0, none⟩) 1 1, .int .i64 pos]) (results_cell_row Tryz.results191 _ _ w.heap.size _ _ _ _ rfl (hm.out _ _ _ _ _ _) Tryz.underlying67 rfl (by kernel_rfl)) rfl ⟨_, rfl, hf.out _ _ _ _ _⟩
/-- one own block stored -/
structure Stored0 (g : Nat) (A B : World) : Prop where
  os : B.os = A.os
  tape : B.tape = A.tape
  output : B.output = A.output
  size : B.heap.size = A.heap.size
  same : ∀ k, k ≠ g → B.heap[k]? = A.heap[k]?
theorem Stored0.mk5 {A : World} {g : Nat} {a0 b0 c0 d0 e0 : Value} {T : TypeId} {fr : Nat × Nat} (h : A.heap[g]? = some (.cells #[a0, b0, c0, d0, e0] T fr)) (a b c d e : Value) :
    Stored0 g A (((((A.setCell ⟨g, 0, none⟩ a).setCell ⟨g, 1, none⟩ b).setCell ⟨g, 2, none⟩ c).setCell ⟨g, 3, none⟩ d).setCell ⟨g, 4, none⟩ e) ∧ (((((A.setCell ⟨g, 0, none⟩ a).setCell ⟨g, 1, none⟩ b).setCell ⟨g, 2, none⟩ c).setCell ⟨g, 3, none⟩ d).setCell ⟨g, 4, none⟩ e).heap[g]? = some (.cells #[a, b, c, d, e] T fr) := by
  have hb : Below g A (((((A.setCell ⟨g, 0, none⟩ a).setCell ⟨g, 1, none⟩ b).setCell ⟨g, 2, none⟩ c).setCell ⟨g, 3, none⟩ d).setCell ⟨g, 4, none⟩ e) := set5_below (Below.refl _ _) (Nat.le_refl _) a b c d e
  exact ⟨⟨hb.os, hb.tape, hb.output, set5_size A g a b c d e, fun k hk => set5_keep A g a b c d e k hk⟩, set5 h a b c d e⟩
theorem none_end {c : Rc} {i j : Nat} {w w3 W : World} (x : Ex) (hw : Rd c i w) (he : RE c.rb w w3) (hR : Rd c j w3)
    (hx : Ex.In w3 (fun b => w.heap.size < b) x) (hs : Stored0 w.heap.size w3 W) :
    VX (fun b => w.heap.size ≤ b) (ea x) (.agg ⟨x.vals⟩) W ∧ Rd c j W ∧ RE c.rb w W := by
  have hl : Low c w.heap.size := hw.low
  have hkp : Kps (fun b => w.heap.size < b) w3 W := fun bb o v hbb hc =>
    (World.cell?_of_block (w := w3) (a := ⟨bb, o, none⟩) (hs.same bb (Nat.ne_of_gt hbb))).trans hc
  refine ⟨⟨_, rfl, Ex.In.mono (fun b hb => Nat.le_of_lt hb) _ (Ex.In.below hkp _ hx), rfl⟩, hR.keep hl ⟨hs.os, hs.tape, hs.output, Nat.le_of_eq hs.size.symm, fun k hk => hs.same k (Nat.ne_of_lt hk)⟩, ?_⟩
  exact ⟨hs.os.trans he.os, hs.tape.trans he.tape, hs.output.trans he.output, Nat.le_trans he.size (Nat.le_of_eq hs.size.symm), fun k hk hn => (hs.same k (Nat.ne_of_lt hk)).trans (he.block k hk hn)⟩

set_option maxHeartbeats 4000000 in
set_option maxRecDepth 100000 in
theorem unary_atom (f : Nat) (hA : ContA f) (c : Rc) (i : Nat) (t : Tk) (w : World) (h : Rd c i w) (ht : c.l[i]? = some t) (h1 : ¬ t.txt = ⟨#[45]⟩) (h2 : ¬ t.txt = ⟨#[33]⟩) (q : Res Ex) (hq : atomP c.l f i = some q) :
    Calls Tryz.prog 191 #[.pointer (some ⟨c.rb, 0, none⟩)] w (Post c (VX (fun b => w.heap.size ≤ b)) w q) := by
  have hS0 : Hid (∀ W n, Below w.heap.size w W → Calls Tryz.prog 155 #[.pointer (some ⟨c.rb, 0, none⟩), .string ⟨#[45]⟩] (W.drewN n) fun e w' => e = .returned (.bool false) ∧ ∃ m, w' = (W.drewN n).drewN m) := Lib.hid fun W n hb => passes_no c i t _ (W.drewN n) ((h.ext hb).drewN n) ht h1
  have hS1 : Hid (∀ W n, Below w.heap.size w W → Calls Tryz.prog 155 #[.pointer (some ⟨c.rb, 0, none⟩), .string ⟨#[33]⟩] (W.drewN n) fun e w' => e = .returned (.bool false) ∧ ∃ k, w' = (W.drewN n).drewN k) := Lib.hid fun W n hb => passes_no c i t _ (W.drewN n) ((h.ext hb).drewN n) ht h2
  have hAt : Hid (∀ W, Below w.heap.size w W → Calls Tryz.prog 163 #[.pointer (some ⟨c.rb, 0, none⟩)] W fun e w' => e = .returned (.int .i64 t.pos) ∧ ∃ n, w' = W.drewN n) := Lib.hid fun W hb => at_any c i t W (h.ext hb) ht
  have hRec : Hid (∀ W n, Below w.heap.size w W → Calls Tryz.prog 200 #[.pointer (some ⟨c.rb, 0, none⟩)] (W.drewN n) (Post c (VX (fun b => W.heap.size ≤ b)) (W.drewN n) q)) := Lib.hid fun W n hb => hA c i (W.drewN n) q ((h.ext hb).drewN n) hq
  have h := Lib.hid h
  have hlow : Hid (w.heap.size ≠ c.rb) := Lib.hid (fun e => by have := h.out.low.rb; omega)
  clear h1 h2 ht hA hq
  obtain ⟨tk, txt, pos⟩ := t
  simp only at hAt
  go_enter Tryz.func191, Tryz.ntmps191
  go_wp2_with fail
  obtain ⟨w1, hw1⟩ : ∃ W, w.alloc (.cells #[.int .u8 0, .string ⟨#[]⟩, .int .i64 0, .slice none 0 0, .int .i64 0] 67) = W := ⟨_, rfl⟩
  have hb1 : Below w.heap.size w w1 := by rw [← hw1]; exact (Below.refl _ _).alloc (Nat.le_refl _) _
  have hr1 : w1.heap[w.heap.size]? = some (.cells #[.int .u8 0, .string ⟨#[]⟩, .int .i64 0, .slice none 0 0, .int .i64 0] 67 (0, 0)) := by rw [← hw1]; exact World.alloc_heap_new w _
  rw [hw1]
  clear hw1
  refine (hAt.out w1 hb1).mono ?_
  rintro e w' ⟨rfl, n, rfl⟩
  replace hS0 := Lib.hid (hS0.out w1 n hb1)
  replace hS1 := Lib.hid fun n => hS1.out w1 n hb1
  replace hRec := Lib.hid fun n => hRec.out w1 n hb1
  go_wp2_with fail
  refine hS0.out.mono ?_
  rintro e w' ⟨rfl, m, rfl⟩
  go_wp2_with fail
  refine (hS1.out (n + m)).mono ?_
  rintro e w' ⟨rfl, k, rfl⟩
  have hE2' := Lib.hid ((RE.of_below (rb := c.rb) hb1).trans (RE.drewN w1 (n + m + k)))
  replace hr1 := Lib.hid hr1
  clear hS0 hS1 hAt hb1
  go_wp2_with fail
  refine (hRec.out (n + m + k)).mono ?_
  rintro e w3 hP
  cases q with
  | bad p =>
    obtain ⟨rfl, hE3⟩ := hP
    exact ⟨rfl, rfl, hE2'.out.trans hE3⟩
  | ok x j =>
    obtain ⟨v, rfl, ⟨ex, rfl, hx, rfl⟩, hR3, hE3⟩ := hP
    have hr3 := hE3.blk (k := w.heap.size) hr1.out hlow.out
    have hs2 := cells_lt hr1.out
    have hx' : Ex.In w3 (fun b => w.heap.size < b) ex := Ex.In.mono (fun b hb => Nat.lt_of_lt_of_le hs2 hb) _ hx
    have hf : Hid (∀ a b cc d e : Value, _) := Lib.hid fun a b cc d e => none_end (i := i) (w := w) (w3 := w3) (j := j) ex h.out (hE2'.out.trans hE3) hR3 hx' (Stored0.mk5 hr3 a b cc d e).1
    have hm := Lib.hid fun (a b cc d e : Value) => (Stored0.mk5 hr3 a b cc d e).2
    obtain ⟨k1, n1, v1, a1, c1, q1, p1⟩ := ex
    have hB : (⟨(Ex.mk k1 n1 v1 a1 c1 q1 p1).vals⟩ : Array Value) = #[.int .u8 k1, .string n1, .int .i64 v1, .slice a1 q1.length c1, .int .i64 p1] := rfl
    rw [hB]
    have g0 : w3.cell? ⟨w.heap.size, 0, none⟩ = some (.int .u8 0) := blk_cell hr3 rfl
    have g1 : w3.cell? ⟨w.heap.size, 1, none⟩ = some (.string ⟨#[]⟩) := blk_cell hr3 rfl
    have g2 : w3.cell? ⟨w.heap.size, 2, none⟩ = some (.int .i64 0) := blk_cell hr3 rfl
    have g3 : w3.cell? ⟨w.heap.size, 3, none⟩ = some (.slice none 0 0) := blk_cell hr3 rfl
    have g4 : w3.cell? ⟨w.heap.size, 4, none⟩ = some (.int .i64 0) := blk_cell hr3 rfl
    have f0 := blk_free hr3 0
    have f1 := blk_free hr3 1
    have f2 := blk_free hr3 2
    have f3 := blk_free hr3 3
    have f4 := blk_free hr3 4
    clear hx hx' hR3 hE3 hr1 hr3 hE2' hRec hB
    go_wp2_with fail
    exact bodyPost_ret (v := .agg #[.int .u8 k1, .string n1, .int .i64 v1, .slice a1 q1.length c1, .int .i64 p1]) (results_cell_row Tryz.results191 _ _ w.heap.size _ _ _ _ rfl (hm.out _ _ _ _ _) Tryz.underlying67 rfl (by kernel_rfl)) rfl ⟨_, rfl, hf.out _ _ _ _ _⟩

theorem unary_step (f : Nat) (hU : ContU f) (hA : ContA f) : ContU (f + 1) := by
  intro c i w r h hr
  obtain ⟨t, ht⟩ : ∃ t, c.l[i]? = some t := ⟨_, List.getElem?_eq_getElem h.lt⟩
  unfold unaryP at hr
  rw [tx_of ht, ps_of ht] at hr
  by_cases h1 : t.txt = ⟨#[45]⟩
  · rw [if_pos h1] at hr
    cases hq : unaryP c.l f (i + 1) with
    | none => rw [hq] at hr; cases hr
    | some q =>
      have := unary_neg f hU c i t w h ht h1 q hq
      rw [hq] at hr
      cases q <;> cases hr <;> exact this
  · rw [if_neg h1] at hr
    by_cases h2 : t.txt = ⟨#[33]⟩
    · rw [if_pos h2] at hr
      cases hq : unaryP c.l f (i + 1) with
      | none => rw [hq] at hr; cases hr
      | some q =>
        have := unary_not f hU c i t w h ht h2 q hq
        rw [hq] at hr
        cases q <;> cases hr <;> exact this
    · rw [if_neg h2] at hr
      exact unary_atom f hA c i t w h ht h1 h2 r hr
theorem unary_zero : ContU 0 := by
  intro c i w r _ hr
  unfold unaryP at hr
  cases hr
end Go.Proofs.YtfhmhplbkheojaaGreatDoor.Pa

namespace Go.Proofs.YtfhmhplbkheojaaGreatDoor.Pa
open Go Go.RowKit
open Go.Proofs.YtfhmhplbkheojaaGreatDoor.Lx Go.Proofs.YtfhmhplbkheojaaGreatDoor.Tr

theorem numR_le {l : List Tk} {i : Nat} {s : ByteArray} {n : Int} {j : Nat} (h : numR l i s = .ok n j) : i ≤ j := by
  unfold numR at h
  split at h
  · split at h
    · cases h; omega
    · cases h
  · cases h
theorem nameR_le {l : List Tk} {i : Nat} {s : ByteArray} {j : Nat} (h : nameR l i = .ok s j) : i ≤ j := by
  unfold nameR at h
  split at h
  · cases h; omega
  · cases h
theorem grows (l : List Tk) : ∀ f : Nat, (∀ i e j, unaryP l f i = some (.ok e j) → i ≤ j) ∧ (∀ i e j, atomP l f i = some (.ok e j) → i ≤ j) ∧ (∀ m i e j, joinedP l f m i = some (.ok e j) → i ≤ j) ∧ (∀ m k x i e j, loopP l f m k x i = some (.ok e j) → i ≤ j) := by
  intro f
  induction f with
  | zero =>
    refine ⟨fun i e j h => ?_, fun i e j h => ?_, fun m i e j h => ?_, fun m k x i e j h => ?_⟩
    · unfold unaryP at h; cases h
    · unfold atomP at h; cases h
    · unfold joinedP at h; cases h
    · unfold loopP at h; cases h
  | succ f ih =>
    obtain ⟨hU, hA, hJ, hL⟩ := ih
    refine ⟨fun i e j h => ?_, fun i e j h => ?_, fun m i e j h => ?_, fun m k x i e j h => ?_⟩
    · unfold unaryP at h
      split at h
      · split at h
        · rename_i q; have := hU _ _ _ q; cases h; omega
        · rename_i q; have := hU _ _ _ h; omega
      · split at h
        · split at h
          · rename_i q; have := hU _ _ _ q; cases h; omega
          · rename_i q; have := hU _ _ _ h; omega
        · exact hA _ _ _ h
    · unfold atomP at h
      split at h
      · split at h
        · rename_i q; have := numR_le q; cases h; omega
        · cases h
      · split at h
        · cases h; omega
        · split at h
          · cases h; omega
          · split at h
            · split at h
              · rename_i q
                have := hJ _ _ _ _ q
                split at h
                · cases h; omega
                · cases h
              · have := hJ _ _ _ _ h; omega
            · split at h
              · cases h
              · rename_i q
                have h1 := nameR_le q
                split at h
                · split at h
                  · rename_i q2
                    have := hJ _ _ _ _ q2
                    split at h
                    · cases h; omega
                    · cases h
                  · have := hJ _ _ _ _ h; omega
                · cases h; omega
    · unfold joinedP at h
      split at h
      · rename_i q; have h1 := hU _ _ _ q; have h2 := hL _ _ _ _ _ _ h; omega
      · exact hU _ _ _ h
    · unfold loopP at h
      split at h
      · cases h; omega
      · split at h
        · rename_i q; have h1 := hJ _ _ _ _ q; have h2 := hL _ _ _ _ _ _ h; omega
        · have := hJ _ _ _ _ h; omega

theorem opr_binds (s : ByteArray) : 0 ≤ (opr s).binds ∧ (opr s).binds ≤ 5 := by
  have h : ∀ l : List Opr, (∀ o ∈ l, 0 ≤ o.binds ∧ o.binds ≤ 5) → 0 ≤ (oprIn l s).binds ∧ (oprIn l s).binds ≤ 5 := by
    intro l hl
    induction l with
    | nil => show (0 : Int) ≤ 0 ∧ (0 : Int) ≤ 5; decide
    | cons o r ih =>
      unfold oprIn
      split
      · exact hl o (by simp)
      · exact ih fun o ho => hl o (by simp [ho])
  refine h oprs ?_
  unfold oprs
  decide

def nextOf (rb : Nat) (w : World) : Nat := match w.cell? ⟨rb, 1, none⟩ with | some (.int _ n) => n.toNat | _ => 0
theorem Rd.next {c : Rc} {i : Nat} {w : World} (h : Rd c i w) : nextOf c.rb w = i := by
  unfold nextOf
  rw [blk_cell h.blk (show _ = some (Value.int .i64 (i : Int)) from rfl)]
  simp

/-- what the loop of joined keeps -/
structure LI (c : Rc) (w : World) (lb f : Nat) (least : Int) (r : Res Ex) (most : Int) (ex : Ex) (j : Nat) (wr : World) : Prop where
  sp : ∃ f', f' ≤ f ∧ loopP c.l f' least most (ea ex) j = some r
  mo : 0 ≤ most ∧ most ≤ 5
  rd : Rd c j wr
  re : RE c.rb w wr
  gb : wr.heap[w.heap.size]? = some (.cells #[.int .u8 0, .string ⟨#[]⟩, .int .i64 0, .slice none 0 0, .int .i64 0] 67 (0, 0))
  lbk : wr.heap[lb]? = some (.cells ⟨ex.vals⟩ 67 (0, 0))
  ne : w.heap.size < lb
  ins : Ex.In wr (fun b => w.heap.size < b ∧ b ≠ lb) ex
/-- the loop is left -/
theorem LI.out {c : Rc} {w : World} {lb f : Nat} {least : Int} {r : Res Ex} {most : Int} {ex : Ex} {j : Nat} {wr : World} (h : LI c w lb f least r most ex j wr) (hx : (opr (tx c.l j)).binds < least ∨ most < (opr (tx c.l j)).binds) : r = .ok (ea ex) j := by
  obtain ⟨f', _, hs⟩ := h.sp
  cases f' with
  | zero => unfold loopP at hs; cases hs
  | succ f' =>
    unfold loopP at hs
    rw [if_pos hx] at hs
    cases hs
    rfl
/-- one round more -/
theorem LI.round {c : Rc} {w : World} {lb f : Nat} {least : Int} {r : Res Ex} {most : Int} {ex : Ex} {j : Nat} {wr : World} (h : LI c w lb f least r most ex j wr) (hx : ¬ ((opr (tx c.l j)).binds < least ∨ most < (opr (tx c.l j)).binds)) :
    ∃ f', f' + 1 ≤ f ∧ ((∃ p, joinedP c.l f' ((opr (tx c.l j)).binds + 1) (j + 1) = some (.bad p) ∧ r = .bad p) ∨
      ∃ x k, joinedP c.l f' ((opr (tx c.l j)).binds + 1) (j + 1) = some (.ok x k) ∧ loopP c.l f' least (if (opr (tx c.l j)).binds = 3 then 2 else (opr (tx c.l j)).binds) (two (opr (tx c.l j)) (ea ex) x (ps c.l j)) k = some r) := by
  obtain ⟨f', hf, hs⟩ := h.sp
  cases f' with
  | zero => unfold loopP at hs; cases hs
  | succ f' =>
    unfold loopP at hs
    rw [if_neg hx] at hs
    refine ⟨f', hf, ?_⟩
    cases hq : joinedP c.l f' ((opr (tx c.l j)).binds + 1) (j + 1) with
    | none => rw [hq] at hs; cases hs
    | some q =>
      rw [hq] at hs
      cases q with
      | bad p => cases hs; exact Or.inl ⟨p, rfl, rfl⟩
      | ok x k => exact Or.inr ⟨x, k, rfl, hs⟩
end Go.Proofs.YtfhmhplbkheojaaGreatDoor.Pa

namespace Go.Proofs.YtfhmhplbkheojaaGreatDoor.Pa
open Go Go.RowKit
open Go.Proofs.YtfhmhplbkheojaaGreatDoor.Lx Go.Proofs.YtfhmhplbkheojaaGreatDoor.Tr

mutual
/-- a statement without its addresses, with its places -/
def sa : St → St
  | .mk k nm to new _ _ e _ _ body _ _ els pos => .mk k nm to new none 0 (eaL e) none 0 (saL body) none 0 (saL els) pos
def saL : List St → List St
  | [] => []
  | e :: r => sa e :: saL r
end
theorem saL_nil : saL [] = [] := by unfold saL; rfl
theorem saL_cons (e : St) (r : List St) : saL (e :: r) = sa e :: saL r := by rw [saL]
theorem saL_map (l : List St) : saL l = l.map sa := by
  induction l with
  | nil => exact saL_nil
  | cons e r ih => rw [saL_cons, ih]; rfl
theorem sa_eq (k : Int) (nm to : ByteArray) (new : Bool) (x : Option Addr) (xc : Nat) (e : List Ex) (b : Option Addr) (bc : Nat) (body : List St) (y : Option Addr) (yc : Nat) (els : List St) (pos : Int) :
    sa (.mk k nm to new x xc e b bc body y yc els pos) = .mk k nm to new none 0 (eaL e) none 0 (saL body) none 0 (saL els) pos := by unfold sa; rfl
/-- a declaration without its addresses, with its places -/
def da (d : De) : De := ⟨d.kind, d.name, d.n, none, 0, d.params, none, 0, saL d.body, d.pos⟩

def VT (S : Nat → Prop) (x : St) (v : Value) (w : World) : Prop := ∃ e : St, v = .agg ⟨e.vals⟩ ∧ St.In w S e ∧ sa e = x
def VTs (S : Nat → Prop) (xs : List St) (v : Value) (w : World) : Prop := ∃ (l : List St) (a : Option Addr) (cap : Nat), v = .slice a l.length cap ∧ RowAt w S a cap l.length (stCells l) ∧ St.InL w S l ∧ saL l = xs
def VN (S : Nat → Prop) (xs : List ByteArray) (v : Value) (w : World) : Prop := ∃ (a : Option Addr) (cap : Nat), v = .slice a xs.length cap ∧ RowAt w S a cap xs.length (strCells xs) ∧ ∀ p ∈ xs, p.size ≤ maxLen
def VD (S : Nat → Prop) (x : De) (v : Value) (w : World) : Prop := ∃ e : De, v = .agg ⟨e.vals⟩ ∧ De.In w S e ∧ da e = x
def VDs (S : Nat → Prop) (xs : List De) (v : Value) (w : World) : Prop := ∃ (l : List De) (a : Option Addr) (cap : Nat), v = .slice a l.length cap ∧ RowAt w S a cap l.length (deCells l) ∧ De.InL w S l ∧ l.map da = xs

def Res.bind {α β : Type} : Res α → (α → Nat → Res β) → Res β
  | .ok x j, g => g x j
  | .bad p, _ => .bad p
def takeR (l : List Tk) (i : Nat) (s : ByteArray) : Res Unit := if tx l i = s then .ok () (i + 1) else .bad (ps l i)
def FU (l : List Tk) : Nat := 4 * l.length + 4
def exprR (l : List Tk) (i : Nat) : Res Ex := (joinedP l (FU l) 1 i).getD (.bad 0)
def stE (k : Int) (nm to : ByteArray) (new : Bool) (e : List Ex) (body els : List St) : St := .mk k nm to new none 0 e none 0 body none 0 els 0
def noB : ByteArray := ⟨#[]⟩

/-- the loop of list: of expressions, of names -/
def argsR (l : List Tk) : Nat → List Ex → Nat → Res (List Ex)
  | 0, _, _ => .bad 0
  | f + 1, acc, i => (exprR l i).bind fun e j => if tx l j = ⟨#[41]⟩ then .ok (acc ++ [e]) (j + 1) else (takeR l j ⟨#[44]⟩).bind fun _ k => argsR l f (acc ++ [e]) k
def parsR (l : List Tk) : Nat → List ByteArray → Nat → Res (List ByteArray)
  | 0, _, _ => .bad 0
  | f + 1, acc, i => (nameR l i).bind fun e j => if tx l j = ⟨#[41]⟩ then .ok (acc ++ [e]) (j + 1) else (takeR l j ⟨#[44]⟩).bind fun _ k => parsR l f (acc ++ [e]) k
def listE (l : List Tk) (i : Nat) : Res (List Ex) := (takeR l i ⟨#[40]⟩).bind fun _ j => if tx l j = ⟨#[41]⟩ then .ok [] (j + 1) else argsR l (l.length + 1) [] j
def listN (l : List Tk) (i : Nat) : Res (List ByteArray) := (takeR l i ⟨#[40]⟩).bind fun _ j => if tx l j = ⟨#[41]⟩ then .ok [] (j + 1) else parsR l (l.length + 1) [] j

def callR (l : List Tk) (i : Nat) : Res St := (nameR l i).bind fun nm j => (listE l j).bind fun es k => (takeR l k ⟨#[59]⟩).bind fun _ m => .ok (stE 8 nm noB false es [] []) m
def stTo (to : ByteArray) (new : Bool) : St → St
  | .mk k nm _ _ x xc e b bc body y yc els p => .mk k nm to new x xc e b bc body y yc els p
def becomesR (l : List Tk) (kind : Int) (name : ByteArray) (i : Nat) : Res St := (takeR l i ⟨#[61]⟩).bind fun _ j =>
  if tx l j = ⟨#[99, 97, 108, 108]⟩ then (callR l (j + 1)).bind fun s k => .ok (stTo name (decide (kind = 1)) s) k
  else (exprR l j).bind fun e k => (takeR l k ⟨#[59]⟩).bind fun _ m => .ok (stE kind name noB false [e] [] []) m
def varR (l : List Tk) (i : Nat) : Res St := (nameR l i).bind fun nm j => becomesR l 1 nm j
def nameStR (l : List Tk) (i : Nat) : Res St := (nameR l i).bind fun nm j => if tx l j = ⟨#[91]⟩ then
    (exprR l (j + 1)).bind fun p k => (takeR l k ⟨#[93]⟩).bind fun _ m => (takeR l m ⟨#[61]⟩).bind fun _ n => (exprR l n).bind fun v q => (takeR l q ⟨#[59]⟩).bind fun _ r => .ok (stE 3 nm noB false [p, v] [] []) r
  else becomesR l 2 nm j
def toldR (l : List Tk) (kind : Int) (i : Nat) : Res St := (exprR l i).bind fun e j => (takeR l j ⟨#[59]⟩).bind fun _ k => .ok (stE kind noB noB false [e] [] []) k

def wVar : ByteArray := ⟨#[118, 97, 114]⟩
def wIf : ByteArray := ⟨#[105, 102]⟩
def wWhile : ByteArray := ⟨#[119, 104, 105, 108, 101]⟩
def wWith : ByteArray := ⟨#[119, 105, 116, 104]⟩
def wPrint : ByteArray := ⟨#[112, 114, 105, 110, 116]⟩
def wCall : ByteArray := ⟨#[99, 97, 108, 108]⟩
def wReturn : ByteArray := ⟨#[114, 101, 116, 117, 114, 110]⟩
def wElse : ByteArray := ⟨#[101, 108, 115, 101]⟩
def wGlobal : ByteArray := ⟨#[103, 108, 111, 98, 97, 108]⟩
def wArray : ByteArray := ⟨#[97, 114, 114, 97, 121]⟩
def wLock : ByteArray := ⟨#[108, 111, 99, 107]⟩
def wFunc : ByteArray := ⟨#[102, 117, 110, 99]⟩
def wThread : ByteArray := ⟨#[116, 104, 114, 101, 97, 100]⟩

def stAt (p : Int) : St → St
  | .mk k nm to new x xc e b bc body y yc els _ => .mk k nm to new x xc e b bc body y yc els p
def Res.at (p : Int) : Res St → Res St
  | .ok s j => .ok (stAt p s) j
  | .bad q => .bad q
mutual
/-- a statement, by so much fuel -/
def stmtR (l : List Tk) : Nat → Nat → Res St
  | 0, _ => .bad 0
  | f + 1, i => Res.at (ps l i) (
    if tx l i = wVar then varR l (i + 1)
    else if tx l i = wIf then (exprR l (i + 1)).bind fun e j => (takeR l j ⟨#[123]⟩).bind fun _ k => (stmtsR l f [] k).bind fun b m =>
      if tx l m = wElse then (takeR l (m + 1) ⟨#[123]⟩).bind fun _ n => (stmtsR l f [] n).bind fun c q => .ok (stE 4 noB noB false [e] b c) q
      else .ok (stE 4 noB noB false [e] b []) m
    else if tx l i = wWhile then (exprR l (i + 1)).bind fun e j => (takeR l j ⟨#[123]⟩).bind fun _ k => (stmtsR l f [] k).bind fun b m => .ok (stE 5 noB noB false [e] b []) m
    else if tx l i = wWith then (nameR l (i + 1)).bind fun nm j => (takeR l j ⟨#[123]⟩).bind fun _ k => (stmtsR l f [] k).bind fun b m => .ok (stE 6 nm noB false [] b []) m
    else if tx l i = wPrint then toldR l 7 (i + 1)
    else if tx l i = wCall then callR l (i + 1)
    else if tx l i = wReturn then toldR l 9 (i + 1)
    else nameStR l i)
/-- statements up to } -/
def stmtsR (l : List Tk) : Nat → List St → Nat → Res (List St)
  | 0, _, _ => .bad 0
  | f + 1, acc, i => if tx l i = ⟨#[125]⟩ then .ok acc (i + 1) else (stmtR l f i).bind fun s j => stmtsR l f (acc ++ [s]) j
end
def blockR (l : List Tk) (f i : Nat) : Res (List St) := (takeR l i ⟨#[123]⟩).bind fun _ k => stmtsR l f [] k
def SF (l : List Tk) : Nat := 2 * l.length + 4

def deE (k : Int) (nm : ByteArray) (n : Int) (params : List ByteArray) (body : List St) (pos : Int) : De := ⟨k, nm, n, none, 0, params, none, 0, body, pos⟩
def declR (l : List Tk) (i : Nat) : Res De :=
  if tx l i = wGlobal then (nameR l (i + 1)).bind fun nm j => (takeR l j ⟨#[61]⟩).bind fun _ k => (if tx l k = ⟨#[45]⟩ then numR l (k + 1) ⟨#[45]⟩ else numR l k ⟨#[]⟩).bind fun n m => (takeR l m ⟨#[59]⟩).bind fun _ q => .ok (deE 1 nm n [] [] (ps l i)) q
  else if tx l i = wArray then (nameR l (i + 1)).bind fun nm j => (takeR l j ⟨#[91]⟩).bind fun _ k => (numR l k ⟨#[]⟩).bind fun n m => (takeR l m ⟨#[93]⟩).bind fun _ q => (takeR l q ⟨#[59]⟩).bind fun _ r => .ok (deE 2 nm n [] [] (ps l i)) r
  else if tx l i = wLock then (nameR l (i + 1)).bind fun nm j => (takeR l j ⟨#[59]⟩).bind fun _ k => .ok (deE 3 nm 0 [] [] (ps l i)) k
  else if tx l i = wFunc then (nameR l (i + 1)).bind fun nm j => (listN l j).bind fun p k => (blockR l (SF l) k).bind fun b m => .ok (deE 4 nm 0 p b (ps l i)) m
  else if tx l i = wThread then (nameR l (i + 1)).bind fun nm j => (blockR l (SF l) j).bind fun b m => .ok (deE 5 nm 0 [] b (ps l i)) m
  else .bad (ps l i)
def declsR (l : List Tk) : Nat → List De → Nat → Res (List De)
  | 0, _, _ => .bad 0
  | f + 1, acc, i => if i + 1 < l.length then (declR l i).bind fun d j => declsR l f (acc ++ [d]) j else .ok acc i
end Go.Proofs.YtfhmhplbkheojaaGreatDoor.Pa
