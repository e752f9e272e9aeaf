/- Walk of the reader's method joined. Conditions: the contracts of unary and joined at less fuel. -/
import Derived.Test.YtpcdlneompnhlaaGreatDoorGrAH
namespace Go.Proofs.YtpcdlneompnhlaaGreatDoor.Pa
open Go Go.RowKit
open Go.Proofs.YtpcdlneompnhlaaGreatDoor.Lx Go.Proofs.YtpcdlneompnhlaaGreatDoor.Tr

theorem none_end2 {c : Rc} {i j : Nat} {w w3 W : World} {o : Obj} (x : Ex) (hw : Rd c i w) (hg : w.heap.size < w3.heap.size) (he : RE c.rb w w3) (hR : Rd c j w3)
    (hx : Ex.In w3 (fun b => w.heap.size < b) x) (hs : Stored w.heap.size o w3 W) :
    VX (fun b => w.heap.size ≤ b) (ea x) (.agg ⟨x.vals⟩) W ∧ Rd c j W ∧ RE c.rb w W := by
  have hl : Low c w.heap.size := hw.low
  have hkp : Kps (fun b => w.heap.size < b ∧ b < w3.heap.size) w3 W := fun bb o v hbb hc =>
    (World.cell?_of_block (w := w3) (a := ⟨bb, o, none⟩) (hs.same bb hbb.2 (Nat.ne_of_gt hbb.1))).trans hc
  exact ⟨⟨_, rfl, Ex.In.mono (fun b hb => Nat.le_of_lt hb.1) _ (Ex.In.below hkp _ (In.there x hx)), rfl⟩, hs.rd hR hl (Nat.le_of_lt hg), hs.below he (Nat.le_refl _)⟩

theorem li_next {c : Rc} {w w7 w8 : World} {lb f f' k : Nat} {least most : Int} {r : Res Ex} {l0 l1 l2 l3 l4 : Value} (hl : Low c w.heap.size) (hlt : w.heap.size < lb) (hE : RE c.rb w w7) (hR : Rd c k w7) (hb : Below w7.heap.size w7 w8)
    (hg : w7.heap[w.heap.size]? = some (.cells #[.int .u8 0, .string ⟨#[]⟩, .int .i64 0, .slice none 0 0, .int .i64 0] 62 (0, 0))) (hlk : w7.heap[lb]? = some (.cells #[l0, l1, l2, l3, l4] 62 (0, 0)))
    (k8 : Int) (n8 : ByteArray) (v8 : Int) (a8 : Option Addr) (c8 : Nat) (q8 : List Ex) (p8 : Int) (hin : Ex.In w8 (fun b => w.heap.size < b ∧ b ≠ lb) (.mk k8 n8 v8 a8 c8 q8 p8)) (hs : loopP c.l f' least most (ea (.mk k8 n8 v8 a8 c8 q8 p8)) k = some r) (hf : f' ≤ f) (hm : 0 ≤ most ∧ most ≤ 5) :
    LI c w lb f least r most (.mk k8 n8 v8 a8 c8 q8 p8) k (((((w8.setCell ⟨lb, 0, none⟩ (.int .u8 k8)).setCell ⟨lb, 1, none⟩ (.string n8)).setCell ⟨lb, 2, none⟩ (.int .i64 v8)).setCell ⟨lb, 3, none⟩ (.slice a8 q8.length c8)).setCell ⟨lb, 4, none⟩ (.int .i64 p8)) := by
  have hlk8 := (hb.block _ (cells_lt hlk)).trans hlk
  have hg8 := (hb.block _ (cells_lt hg)).trans hg
  have h5 := set5 hlk8 (.int .u8 k8) (.string n8) (.int .i64 v8) (.slice a8 q8.length c8) (.int .i64 p8)
  have hk := fun i hi => set5_keep w8 lb (.int .u8 k8) (.string n8) (.int .i64 v8) (.slice a8 q8.length c8) (.int .i64 p8) i hi
  have hbw : Below w.heap.size w7 (((((w8.setCell ⟨lb, 0, none⟩ (.int .u8 k8)).setCell ⟨lb, 1, none⟩ (.string n8)).setCell ⟨lb, 2, none⟩ (.int .i64 v8)).setCell ⟨lb, 3, none⟩ (.slice a8 q8.length c8)).setCell ⟨lb, 4, none⟩ (.int .i64 p8)) := set5_below (hb.mono (Nat.le_of_lt (cells_lt hg))) (Nat.le_of_lt hlt) _ _ _ _ _
  generalize (((((w8.setCell ⟨lb, 0, none⟩ (.int .u8 k8)).setCell ⟨lb, 1, none⟩ (.string n8)).setCell ⟨lb, 2, none⟩ (.int .i64 v8)).setCell ⟨lb, 3, none⟩ (.slice a8 q8.length c8)).setCell ⟨lb, 4, none⟩ (.int .i64 p8)) = W at h5 hk hbw ⊢
  exact
    { sp := ⟨f', hf, hs⟩
      mo := hm
      rd := hR.keep hl hbw
      re := ⟨hbw.os.trans hE.os, hbw.tape.trans hE.tape, hbw.output.trans hE.output, Nat.le_trans hE.size hbw.size, fun i hi hn => (hbw.block i hi).trans (hE.block i hi hn)⟩
      gb := (hk _ (Nat.ne_of_lt hlt)).trans hg8
      lbk := h5
      ne := hlt
      ins := Ex.In.below (fun b o v hb hc => (World.cell?_of_block (w := w8) (a := ⟨b, o, none⟩) (hk b hb.2)).trans hc) _ hin }

/-- a region's end by a fault -/
def BadQ (p : Int) (rb : Nat) (w6 : World) (e : Exit) (a : Act) (w : World) : Prop := e = .panic [{ v := .iface 85 (.agg #[.int .i64 p]), recovered := false }] ∧ a.defers = [] ∧ RE rb w6 w
theorem BadQ.put {p : Int} {rb : Nat} {w6 : World} {d : Option Tmp} {v : Value} : ∀ c a w, BadQ p rb w6 (.panic c) (a.put d v) w → BadQ p rb w6 (.panic c) a w := fun _ _ _ h => ⟨h.1, by cases d <;> exact h.2.1, h.2.2⟩

set_option maxHeartbeats 4000000 in
set_option maxRecDepth 100000 in
theorem joined_ok (f : Nat) (hU : ContU f) (hJ : ∀ f', f' + 1 ≤ f → ContJ f') (c : Rc) (least : Int) (i : Nat) (w : World) (r : Res Ex) (h1 : 1 ≤ least) (h6 : least ≤ 6) (h : Rd c i w) (x : Ex) (j : Nat) (hq : unaryP c.l f i = some (.ok x j)) (hr : loopP c.l f least 5 x j = some r) :
    Calls Tryz.prog 171 #[.pointer (some ⟨c.rb, 0, none⟩), .int .i64 least] w (Post c (VX (fun b => w.heap.size ≤ b)) w r) := by
  have hUn : Hid (∀ W, Below w.heap.size w W → Calls Tryz.prog 180 #[.pointer (some ⟨c.rb, 0, none⟩)] W (Post c (VX (fun b => W.heap.size ≤ b)) W (.ok x j))) := Lib.hid fun W hb => hU c i W _ (h.ext hb) hq
  have hlow : Hid (w.heap.size ≠ c.rb) := Lib.hid (fun e => by have := h.low.rb; omega)
  have hlw : Hid (Low c w.heap.size) := Lib.hid h.low
  replace hJ := Lib.hid hJ
  replace h := Lib.hid h
  clear hU hq
  go_enter Tryz.func171, Tryz.ntmps171
  go_wp2_with fail
  obtain ⟨w1, hw1⟩ : ∃ W, w.alloc (.cells #[.int .u8 0, .string ⟨#[]⟩, .int .i64 0, .slice none 0 0, .int .i64 0] 62) = W := ⟨_, rfl⟩
  have hb1 : Below w.heap.size w w1 := by rw [← hw1]; exact (Below.refl _ _).alloc (Nat.le_refl _) _
  have hr1 : w1.heap[w.heap.size]? = some (.cells #[.int .u8 0, .string ⟨#[]⟩, .int .i64 0, .slice none 0 0, .int .i64 0] 62 (0, 0)) := by rw [← hw1]; exact World.alloc_heap_new w _
  rw [hw1]
  clear hw1
  refine (hUn.out w1 hb1).mono ?_
  rintro e w2 ⟨v, rfl, ⟨ex, rfl, hx, rfl⟩, hR2, hE2⟩
  have hr2 := hE2.blk (k := w.heap.size) hr1 hlow.out
  have hs1 := cells_lt hr1
  have hs2 := cells_lt hr2
  have hE2' := (RE.of_below (rb := c.rb) hb1).trans hE2
  have hLI : Hid (LI c w w2.heap.size f least r 5 ex j (w2.alloc (.cells ⟨ex.vals⟩ 62))) := Lib.hid
    { sp := ⟨f, Nat.le_refl _, hr⟩
      mo := by omega
      rd := hR2.ext ((Below.refl _ _).alloc (Nat.le_refl _) _)
      re := hE2'.trans (RE.of_below ((Below.refl _ _).alloc (Nat.le_refl _) _))
      gb := by rw [heap_alloc_old _ _ hs2]; exact hr2
      lbk := World.alloc_heap_new w2 _
      ne := hs2
      ins := Ex.In.mono (fun b hb => ⟨Nat.lt_of_lt_of_le hs1 hb.1, Nat.ne_of_lt hb.2⟩) _ (Ex.In.below (Kps.alloc w2 _) _ (In.there ex hx)) }
  clear hx hr1 hr2 hR2 hE2 hE2' hb1 hr hUn hs1
  obtain ⟨k1, n1, v1, a1, c1, q1, p1⟩ := ex
  have hB : (⟨(Ex.mk k1 n1 v1 a1 c1 q1 p1).vals⟩ : Array Value) = #[.int .u8 k1, .string n1, .int .i64 v1, .slice a1 q1.length c1, .int .i64 p1] := rfl
  rw [hB]
  go_wp2_with fail
  obtain ⟨w3, hw3⟩ : ∃ W, w2.alloc (.cells #[.int .u8 k1, .string n1, .int .i64 v1, .slice a1 q1.length c1, .int .i64 p1] 62) = W := ⟨_, rfl⟩
  obtain ⟨lb, hlb⟩ : ∃ n, w2.heap.size = n := ⟨_, rfl⟩
  rw [hB, hw3] at hLI
  rw [hw3]
  rw [hlb] at hLI ⊢
  clear hw3 hB hs2 hlb w2
  go_loopw [6] (fun v wr => ∃ (most : Int) (ex : Ex) (j : Nat), v = .int .i64 most ∧ Hid (LI c w lb f least r most ex j wr)) (fun _ wr => c.l.length - nextOf c.rb wr)
  case atStart => exact ⟨5, _, _, rfl, hLI⟩
  case round =>
    obtain ⟨most, ex, j, rfl, hL⟩ := hrel
    clear hLI
    obtain ⟨t, ht⟩ : ∃ t, c.l[j]? = some t := ⟨_, List.getElem?_eq_getElem hL.out.rd.lt⟩
    have htx : tx c.l j = t.txt := tx_of ht
    have hop := operator_any c j t wr hL.out.rd ht
    obtain ⟨sg, kn, bn, tn, ho⟩ : ∃ a b c d, opr t.txt = ⟨a, b, c, d⟩ := ⟨_, _, _, _, rfl⟩
    have hv : (opr t.txt).val = .agg #[.string sg, .int .u8 kn, .int .i64 bn, .bool tn] := by rw [ho]; rfl
    rw [hv] at hop
    have hbn : (opr (tx c.l j)).binds = bn := by rw [htx, ho]
    have hop := Lib.hid hop
    have hgb := Lib.hid fun (V : World) (hb : Below wr.heap.size wr V) => (hb.block _ (cells_lt hL.out.gb)).trans hL.out.gb
    have hlk := Lib.hid fun (V : World) (hb : Below wr.heap.size wr V) => (hb.block _ (cells_lt hL.out.lbk)).trans hL.out.lbk
    have hn := hL.out.ne
    obtain ⟨k1, n1, v1, a1, c1, q1, p1⟩ := ex
    have hB : (⟨(Ex.mk k1 n1 v1 a1 c1 q1 p1).vals⟩ : Array Value) = #[.int .u8 k1, .string n1, .int .i64 v1, .slice a1 q1.length c1, .int .i64 p1] := rfl
    rw [hB] at hlk
    clear hv
    by_cases hx : bn < least ∨ most < bn
    · have hr' := hL.out.out (by rw [hbn]; exact hx)
      subst hr'
      clear htx hbn ht
      have hend : Hid (∀ (w4 : World) (o : Obj) (a b cc d e : Value), Below wr.heap.size wr w4 → (VX (fun b => w.heap.size ≤ b) (ea (.mk k1 n1 v1 a1 c1 q1 p1)) (.agg ⟨(Ex.mk k1 n1 v1 a1 c1 q1 p1).vals⟩) ((((((w4.setCell ⟨w.heap.size, 0, none⟩ a).setCell ⟨w.heap.size, 1, none⟩ b).setCell ⟨w.heap.size, 2, none⟩ cc).setCell ⟨w.heap.size, 3, none⟩ d).setCell ⟨w.heap.size, 4, none⟩ e).alloc o) ∧
          Rd c j ((((((w4.setCell ⟨w.heap.size, 0, none⟩ a).setCell ⟨w.heap.size, 1, none⟩ b).setCell ⟨w.heap.size, 2, none⟩ cc).setCell ⟨w.heap.size, 3, none⟩ d).setCell ⟨w.heap.size, 4, none⟩ e).alloc o) ∧ RE c.rb w ((((((w4.setCell ⟨w.heap.size, 0, none⟩ a).setCell ⟨w.heap.size, 1, none⟩ b).setCell ⟨w.heap.size, 2, none⟩ cc).setCell ⟨w.heap.size, 3, none⟩ d).setCell ⟨w.heap.size, 4, none⟩ e).alloc o)) ∧
          ((((((w4.setCell ⟨w.heap.size, 0, none⟩ a).setCell ⟨w.heap.size, 1, none⟩ b).setCell ⟨w.heap.size, 2, none⟩ cc).setCell ⟨w.heap.size, 3, none⟩ d).setCell ⟨w.heap.size, 4, none⟩ e).alloc o).heap[w.heap.size]? = some (.cells #[a, b, cc, d, e] 62 (0, 0))) := Lib.hid fun w4 o a b cc d e hb4 => by
        have h5 := hgb.out _ hb4
        have hs5 := Stored.mk5 o h5 a b cc d e
        exact ⟨none_end2 _ h.out (cells_lt h5) (hL.out.re.trans (RE.of_below hb4)) (hL.out.rd.ext hb4) (Ex.In.below (Kps.of_below hb4) _ (Ex.In.mono (fun b hb => hb.1) _ hL.out.ins)) hs5.1, hs5.2⟩
      have hsz := cells_lt hL.out.lbk
      have hsg := cells_lt hL.out.gb
      clear hL
      go_wp2_with fail
      refine hop.out.mono ?_
      rintro e w4 ⟨rfl, hb4⟩
      have hg4 := hgb.out w4 hb4
      have hl4 := hlk.out w4 hb4
      have hsz4 := Nat.lt_of_lt_of_le hsz hb4.size
      have hsg4 := Nat.lt_of_lt_of_le hsg hb4.size
      have he4 := Lib.hid fun (o : Obj) (a b cc d e : Value) => hend.out w4 o a b cc d e hb4
      have g0 : w4.cell? ⟨w.heap.size, 0, none⟩ = some (.int .u8 0) := blk_cell hg4 rfl
      have g1 : w4.cell? ⟨w.heap.size, 1, none⟩ = some (.string ⟨#[]⟩) := blk_cell hg4 rfl
      have g2 : w4.cell? ⟨w.heap.size, 2, none⟩ = some (.int .i64 0) := blk_cell hg4 rfl
      have g3 : w4.cell? ⟨w.heap.size, 3, none⟩ = some (.slice none 0 0) := blk_cell hg4 rfl
      have g4 : w4.cell? ⟨w.heap.size, 4, none⟩ = some (.int .i64 0) := blk_cell hg4 rfl
      have f0 := blk_free hg4 0
      have f1 := blk_free hg4 1
      have f2 := blk_free hg4 2
      have f3 := blk_free hg4 3
      have f4 := blk_free hg4 4
      have l0 : w4.cell? ⟨lb, 0, none⟩ = some (.int .u8 k1) := blk_cell hl4 rfl
      have l1 : w4.cell? ⟨lb, 1, none⟩ = some (.string n1) := blk_cell hl4 rfl
      have l2 : w4.cell? ⟨lb, 2, none⟩ = some (.int .i64 v1) := blk_cell hl4 rfl
      have l3 : w4.cell? ⟨lb, 3, none⟩ = some (.slice a1 q1.length c1) := blk_cell hl4 rfl
      have l4 : w4.cell? ⟨lb, 4, none⟩ = some (.int .i64 p1) := blk_cell hl4 rfl
      clear hg4 hl4 hgb hlk hend hb4 hB hop
      by_cases hx1 : bn < least
      · go_wp2_with fail
        exact bodyPost_ret (v := .agg #[.int .u8 k1, .string n1, .int .i64 v1, .slice a1 q1.length c1, .int .i64 p1]) (results_cell_row Tryz.results171 _ _ w.heap.size _ _ _ _ rfl (he4.out _ _ _ _ _ _).2 Tryz.underlying62 rfl (by kernel_rfl)) rfl ⟨_, rfl, (he4.out _ _ _ _ _ _).1⟩
      · have hx2 : most < bn := hx.resolve_left hx1
        go_wp2_with fail
        exact bodyPost_ret (v := .agg #[.int .u8 k1, .string n1, .int .i64 v1, .slice a1 q1.length c1, .int .i64 p1]) (results_cell_row Tryz.results171 _ _ w.heap.size _ _ _ _ rfl (he4.out _ _ _ _ _ _).2 Tryz.underlying62 rfl (by kernel_rfl)) rfl ⟨_, rfl, (he4.out _ _ _ _ _ _).1⟩
    · obtain ⟨f', hf', hcase⟩ := hL.out.round (by rw [hbn]; exact hx)
      have hob := opr_binds t.txt
      have hok := opr_u8 t.txt
      rw [ho] at hob hok
      simp only at hob hok
      rw [hbn, htx, ho, ps_of ht] at hcase
      have hmo := hL.out.mo
      have hx1 : ¬ bn < least := fun h => hx (Or.inl h)
      have hx2 : ¬ most < bn := fun h => hx (Or.inr h)
      have hne : ¬ t.txt = ⟨#[]⟩ := fun e => by
        have h0 : opr t.txt = noOpr := by rw [e]; rfl
        rw [ho] at h0
        have : bn = 0 := congrArg Opr.binds h0
        omega
      have hmore := hL.out.rd.more ht hne
      have hp : I64 t.pos := by have := (hL.out.rd.txs t (List.mem_of_getElem? ht)).2; unfold I64; omega
      have hjl : j ≤ 100000 := by have := hL.out.rd.lim; omega
      have hcase := Lib.hid hcase
      have hok := Lib.hid hok
      have hp := Lib.hid hp
      have hAt := Lib.hid fun (V : World) (hb : Below wr.heap.size wr V) => at_any c j t V (hL.out.rd.ext hb) ht
      have hRd := Lib.hid fun (V : World) (hb : Below wr.heap.size wr V) => hL.out.rd.ext hb
      have hsz := cells_lt hL.out.lbk
      have hsg := cells_lt hL.out.gb
      have hd1 : decide (bn < least) = false := by simpa using hx1
      have hd2 : decide (most < bn) = false := by simpa using hx2
      have hmore' := Lib.hid hmore
      have hjn : Rd.next hL.out.rd = Rd.next hL.out.rd := rfl
      clear hjn ht htx hbn hx hne hmore
      obtain ⟨tk, txt, pos⟩ := t
      simp only at hAt hp hcase ho
      go_wp2_with fail
      refine hop.out.mono ?_
      rintro e w4 ⟨rfl, hb4⟩
      go_wp2_with fail
      obtain ⟨w5, hw5⟩ : ∃ W, w4.alloc (.cells #[.string sg, .int .u8 kn, .int .i64 bn, .bool tn] 196) = W := ⟨_, rfl⟩
      have hb5 : Below wr.heap.size wr w5 := by rw [← hw5]; exact hb4.alloc hb4.size _
      have ho5 : w5.heap[w4.heap.size]? = some (.cells #[.string sg, .int .u8 kn, .int .i64 bn, .bool tn] 196 (0, 0)) := by rw [← hw5]; exact World.alloc_heap_new w4 _
      have hoz : wr.heap.size ≤ w4.heap.size := hb4.size
      obtain ⟨ob, hobk⟩ : ∃ n, w4.heap.size = n := ⟨_, rfl⟩
      rw [hw5]
      rw [hobk] at ho5 hoz ⊢
      clear hw5 hb4 hobk w4 hop
      refine (hAt.out w5 hb5).mono ?_
      rintro e w' ⟨rfl, n, rfl⟩
      have hR5 := hRd.out w5 hb5
      have r1 : w5.cell? ⟨c.rb, 1, none⟩ = some (.int .i64 j) := blk_cell hR5.blk rfl
      have fr1 := blk_free hR5.blk 1
      have o2 : w5.cell? ⟨ob, 2, none⟩ = some (.int .i64 bn) := blk_cell ho5 rfl
      have hR6' : Hid (Rd c (j + 1) ((w5.drewN n).setCell ⟨c.rb, 1, none⟩ (.int .i64 ((j : Int) + 1))) ∧ RE c.rb w5 ((w5.drewN n).setCell ⟨c.rb, 1, none⟩ (.int .i64 ((j : Int) + 1)))) := Lib.hid ⟨(hR5.drewN n).set hmore'.out, (RE.drewN w5 n).trans (RE.set _ 1 _)⟩
      replace hR5 := Lib.hid hR5
      replace ho5 := Lib.hid ho5
      replace hb5 := Lib.hid hb5
      clear hAt hRd
      go_wp2_with fail
      obtain ⟨w6, hw6⟩ : ∃ W, (w5.drewN n).setCell ⟨c.rb, 1, none⟩ (.int .i64 ((j : Int) + 1)) = W := ⟨_, rfl⟩
      rw [hw6] at hR6' ⊢
      clear hw6 r1 fr1 o2
      have hrb : c.rb < wr.heap.size := Nat.lt_trans (hlw.out.rb) hsg
      have hE6 := (RE.of_below (rb := c.rb) hb5.out).trans hR6'.out.2
      have hR6 := hR6'.out.1.keep (B := w6.heap.size) hR6'.out.1.low (Below.drew (Below.refl _ _))
      have hE6d : RE c.rb wr w6.drew := hE6.trans (RE.drewN w6 1)
      have hor : ob ≠ c.rb := by omega
      have hlr : lb ≠ c.rb := by have := hlw.out.rb; omega
      have hol : ob ≠ lb := by omega
      have ho6 := hR6'.out.2.blk ho5.out hor
      have hl6 := hE6.blk (hlk.out wr (Below.refl _ _)) hlr
      have hg6 := hE6.blk (hgb.out wr (Below.refl _ _)) hlow.out
      have o0 : w6.cell? ⟨ob, 0, none⟩ = some (.string sg) := blk_cell ho6 rfl
      have o1 : w6.cell? ⟨ob, 1, none⟩ = some (.int .u8 kn) := blk_cell ho6 rfl
      have o2 : w6.cell? ⟨ob, 2, none⟩ = some (.int .i64 bn) := blk_cell ho6 rfl
      have o3 : w6.cell? ⟨ob, 3, none⟩ = some (.bool tn) := blk_cell ho6 rfl
      have l0 : w6.cell? ⟨lb, 0, none⟩ = some (.int .u8 k1) := blk_cell hl6 rfl
      have l1 : w6.cell? ⟨lb, 1, none⟩ = some (.string n1) := blk_cell hl6 rfl
      have l2 : w6.cell? ⟨lb, 2, none⟩ = some (.int .i64 v1) := blk_cell hl6 rfl
      have l3 : w6.cell? ⟨lb, 3, none⟩ = some (.slice a1 q1.length c1) := blk_cell hl6 rfl
      have l4 : w6.cell? ⟨lb, 4, none⟩ = some (.int .i64 p1) := blk_cell hl6 rfl
      have hsz6 : lb < w6.heap.size := Nat.lt_of_lt_of_le hsz hE6.size
      have hso6 : ob < w6.heap.size := cells_lt ho6
      have hEw : Hid (RE c.rb w w6.drew) := Lib.hid (hL.out.re.trans hE6d)
      have hins : Hid (Ex.In w6.drew (fun b => w.heap.size < b ∧ b ≠ lb) (.mk k1 n1 v1 a1 c1 q1 p1)) := Lib.hid (Ex.In.below ((RE.kps hE6d).mono fun b hb e => by have := hlw.out.rb; have := hb.1; omega) _ hL.out.ins)
      have hE6 := Lib.hid hE6d
      have hR6 := Lib.hid hR6
      replace ho6 := Lib.hid ho6
      replace hl6 := Lib.hid hl6
      replace hg6 := Lib.hid hg6
      clear hR6' hgb hlk hE6d hb5 ho5 hR5 hmore'
      rcases hcase.out with ⟨p, hj, rfl⟩ | ⟨x, k, hj, hl2⟩
      · have hJc : Hid (Calls Tryz.prog 171 #[.pointer (some ⟨c.rb, 0, none⟩), .int .i64 (IntKind.i64.wrap (bn + 1))] w6.drew (Post c (VX (fun b => w6.drew.heap.size ≤ b)) w6.drew (.bad p))) := Lib.hid (by
          rw [IntWalk.i64_in (bn + 1) (by omega)]
          exact hJ.out f' hf' c (bn + 1) (j + 1) w6.drew _ (by omega) (by omega) hR6.out hj)
        have hfin : Hid (∀ w7, RE c.rb w6.drew w7 → RE c.rb w w7) := Lib.hid fun w7 h7 => hEw.out.trans h7
        clear hcase hL hEw hins hE6 hR6 ho6 hl6 hg6 hJ hj
        have hS6 : (fun V => V.cell? ⟨ob, 0, none⟩ = some (.string sg) ∧ V.cell? ⟨ob, 1, none⟩ = some (.int .u8 kn) ∧ V.cell? ⟨ob, 2, none⟩ = some (.int .i64 bn) ∧ V.cell? ⟨ob, 3, none⟩ = some (.bool tn) ∧ V.cell? ⟨lb, 0, none⟩ = some (.int .u8 k1) ∧ V.cell? ⟨lb, 1, none⟩ = some (.string n1) ∧ V.cell? ⟨lb, 2, none⟩ = some (.int .i64 v1) ∧ V.cell? ⟨lb, 3, none⟩ = some (.slice a1 q1.length c1) ∧ V.cell? ⟨lb, 4, none⟩ = some (.int .i64 p1)) w6.drew := ⟨o0, o1, o2, o3, l0, l1, l2, l3, l4⟩
        refine Code.wp_mono (Q := BadQ p c.rb w6.drew) ?_ ?_
        · rintro e a w7 ⟨rfl, hd, hE7⟩
          exact ⟨hd, rfl, hfin.out w7 hE7⟩
        refine wp_region_held_drew (S := (fun V => V.cell? ⟨ob, 0, none⟩ = some (.string sg) ∧ V.cell? ⟨ob, 1, none⟩ = some (.int .u8 kn) ∧ V.cell? ⟨ob, 2, none⟩ = some (.int .i64 bn) ∧ V.cell? ⟨ob, 3, none⟩ = some (.bool tn) ∧ V.cell? ⟨lb, 0, none⟩ = some (.int .u8 k1) ∧ V.cell? ⟨lb, 1, none⟩ = some (.string n1) ∧ V.cell? ⟨lb, 2, none⟩ = some (.int .i64 v1) ∧ V.cell? ⟨lb, 3, none⟩ = some (.slice a1 q1.length c1) ∧ V.cell? ⟨lb, 4, none⟩ = some (.int .i64 p1))) (by kernel_rfl) hS6 (fun hHeld => ?_)
        refine' wpAnyH_take (i := 0) (oi := _) (v := _) rfl (by kernel_rfl) (by kernel_rfl) (by kernel_rfl) BadQ.put (Or.inl ⟨by rfl, ?hy0⟩) (by assumption) ?rest0
        case hy0 => (intro w hSw; obtain ⟨s0, s1, s2, s3, m0, m1, m2, m3, m4⟩ := hSw; go_simp; all_goals (with_reducible rfl))
        try simp only [Act.put, List.getElem_toArray, List.getElem_cons_zero, List.setIfInBounds_toArray, List.set_cons_zero, List.set_cons_succ]
        refine' wpAnyH_take (i := 1) (oi := _) (v := _) rfl (by kernel_rfl) (by kernel_rfl) (by kernel_rfl) BadQ.put (Or.inl ⟨by rfl, ?hy1⟩) (by assumption) ?rest1
        case hy1 => (intro w hSw; obtain ⟨s0, s1, s2, s3, m0, m1, m2, m3, m4⟩ := hSw; go_simp; all_goals (with_reducible rfl))
        try simp only [Act.put, List.getElem_toArray, List.getElem_cons_zero, List.getElem_cons_succ, List.setIfInBounds_toArray, List.set_cons_zero, List.set_cons_succ]
        refine' wpAnyH_take (i := 2) (oi := _) (v := _) rfl (by kernel_rfl) (by kernel_rfl) (by kernel_rfl) BadQ.put (Or.inl ⟨by rfl, ?hy2⟩) (by assumption) ?rest2
        case hy2 => (intro w hSw; obtain ⟨s0, s1, s2, s3, m0, m1, m2, m3, m4⟩ := hSw; go_simp; all_goals (with_reducible rfl))
        try simp only [Act.put, List.getElem_toArray, List.getElem_cons_zero, List.getElem_cons_succ, List.setIfInBounds_toArray, List.set_cons_zero, List.set_cons_succ]
        refine' wpAnyH_take (i := 3) (oi := _) (v := _) rfl (by kernel_rfl) (by kernel_rfl) (by kernel_rfl) BadQ.put (Or.inl ⟨by rfl, ?hy3⟩) (by assumption) ?rest3
        case hy3 => (intro w hSw; obtain ⟨s0, s1, s2, s3, m0, m1, m2, m3, m4⟩ := hSw; go_simp; all_goals (with_reducible rfl))
        try simp only [Act.put, List.getElem_toArray, List.getElem_cons_zero, List.getElem_cons_succ, List.setIfInBounds_toArray, List.set_cons_zero, List.set_cons_succ]
        refine' wpAnyH_take (i := 4) (oi := _) (v := _) rfl (by kernel_rfl) (by kernel_rfl) (by kernel_rfl) BadQ.put (Or.inl ⟨by rfl, ?hy4⟩) (by assumption) ?rest4
        case hy4 => (intro w hSw; obtain ⟨s0, s1, s2, s3, m0, m1, m2, m3, m4⟩ := hSw; go_simp; all_goals (with_reducible rfl))
        try simp only [Act.put, List.getElem_toArray, List.getElem_cons_zero, List.getElem_cons_succ, List.setIfInBounds_toArray, List.set_cons_zero, List.set_cons_succ]
        refine' wpAnyH_take (i := 5) (oi := _) (v := _) rfl (by kernel_rfl) (by kernel_rfl) (by kernel_rfl) BadQ.put (Or.inl ⟨by rfl, ?hy5⟩) (by assumption) ?rest5
        case hy5 => (intro w hSw; obtain ⟨s0, s1, s2, s3, m0, m1, m2, m3, m4⟩ := hSw; go_simp; all_goals (with_reducible rfl))
        try simp only [Act.put, List.getElem_toArray, List.getElem_cons_zero, List.getElem_cons_succ, List.setIfInBounds_toArray, List.set_cons_zero, List.set_cons_succ]
        refine' wpAnyH_take (i := 7) (oi := _) (v := _) rfl (by kernel_rfl) (by kernel_rfl) (by kernel_rfl) BadQ.put (Or.inl ⟨by rfl, ?hy6⟩) (by assumption) ?rest6
        case hy6 => (intro w hSw; obtain ⟨s0, s1, s2, s3, m0, m1, m2, m3, m4⟩ := hSw; go_simp; all_goals (with_reducible rfl))
        try simp only [Act.put, List.getElem_toArray, List.getElem_cons_zero, List.getElem_cons_succ, List.setIfInBounds_toArray, List.set_cons_zero, List.set_cons_succ]
        refine wpAnyH_ready (rs := [6]) (by kernel_rfl) (by simp) ?_
        refine AllReadyH.cons (o := _) rfl (fun K hK => ?_) AllReadyH.nil
        go_simp
        go_at_call 171
        refine hJc.out.mono ?_
        rintro e w7 ⟨rfl, hE7⟩
        exact ⟨rfl, rfl, hE7⟩
      · have hJc : Hid (Calls Tryz.prog 171 #[.pointer (some ⟨c.rb, 0, none⟩), .int .i64 (IntKind.i64.wrap (bn + 1))] w6.drew (Post c (VX (fun b => w6.drew.heap.size ≤ b)) w6.drew (.ok x k))) := Lib.hid (by
          rw [IntWalk.i64_in (bn + 1) (by omega)]
          exact hJ.out f' hf' c (bn + 1) (j + 1) w6.drew _ (by omega) (by omega) hR6.out hj)
        have hjk := ((grows c.l f').2.2.1 _ _ _ _ hj)
        have hjr := hL.out.rd.next
        have hJn : Hid (∀ w7 er, RE c.rb w6.drew w7 → Ex.In w7 (fun b => w6.drew.heap.size ≤ b) er → Calls Tryz.prog 182 #[.agg #[.string sg, .int .u8 kn, .int .i64 bn, .bool tn], .agg #[.int .u8 k1, .string n1, .int .i64 v1, .slice a1 q1.length c1, .int .i64 p1], .agg ⟨er.vals⟩, .int .i64 pos] w7 (fun e w' => ∃ v, e = .returned v ∧ VX (fun b => w.heap.size < b ∧ b ≠ lb) (two ⟨sg, kn, bn, tn⟩ (ea (.mk k1 n1 v1 a1 c1 q1 p1)) (ea er) pos) v w' ∧ Below w7.heap.size w7 w')) := Lib.hid fun w7 er h7 hr7 =>
          join_any (fun b => w.heap.size < b ∧ b ≠ lb) ⟨sg, kn, bn, tn⟩ (.mk k1 n1 v1 a1 c1 q1 p1) er pos w7 (fun b hb => by have := h7.size; have h6 : w6.drew.heap.size = w6.heap.size := rfl; omega) (Ex.In.below (h7.kps.mono fun b hb e => by have := hlw.out.rb; have := hb.1; omega) _ hins.out) (Ex.In.mono (fun b hb => by have h6 : w6.drew.heap.size = w6.heap.size := rfl; omega) _ hr7) hok.out hp.out
        have hl2 := Lib.hid hl2
        have hb7 := Lib.hid fun (w7 : World) (h7 : RE c.rb w6.drew w7) => (⟨h7.blk (k := ob) ho6.out hor, h7.blk (k := lb) hl6.out hlr, h7.blk (k := w.heap.size) hg6.out hlow.out⟩ : w7.heap[ob]? = some (.cells #[.string sg, .int .u8 kn, .int .i64 bn, .bool tn] 196 (0, 0)) ∧ w7.heap[lb]? = some (.cells #[.int .u8 k1, .string n1, .int .i64 v1, .slice a1 q1.length c1, .int .i64 p1] 62 (0, 0)) ∧ w7.heap[w.heap.size]? = some (.cells #[.int .u8 0, .string ⟨#[]⟩, .int .i64 0, .slice none 0 0, .int .i64 0] 62 (0, 0)))
        have hfl := Nat.le_of_succ_le hf'
        clear hcase hL hins hE6 hR6 ho6 hl6 hg6 hJ hj
        have hS6 : (fun V => V.cell? ⟨ob, 0, none⟩ = some (.string sg) ∧ V.cell? ⟨ob, 1, none⟩ = some (.int .u8 kn) ∧ V.cell? ⟨ob, 2, none⟩ = some (.int .i64 bn) ∧ V.cell? ⟨ob, 3, none⟩ = some (.bool tn)) w6.drew := ⟨o0, o1, o2, o3⟩
        refine wp_region_noPanic ?_
        refine wp_region_held_drew (S := (fun V => V.cell? ⟨ob, 0, none⟩ = some (.string sg) ∧ V.cell? ⟨ob, 1, none⟩ = some (.int .u8 kn) ∧ V.cell? ⟨ob, 2, none⟩ = some (.int .i64 bn) ∧ V.cell? ⟨ob, 3, none⟩ = some (.bool tn))) (by kernel_rfl) hS6 (fun hHeld => ?_)
        refine' wpAnyH_take (i := 0) (oi := _) (v := _) rfl (by kernel_rfl) (by kernel_rfl) (by kernel_rfl) (fun _ _ _ h => h) (Or.inl ⟨by rfl, ?hz0⟩) (by assumption) ?rezt0
        case hz0 => (intro w hSw; obtain ⟨s0, s1, s2, s3⟩ := hSw; go_simp; all_goals (with_reducible rfl))
        try simp only [Act.put, List.getElem_toArray, List.getElem_cons_zero, List.setIfInBounds_toArray, List.set_cons_zero, List.set_cons_succ]
        refine' wpAnyH_take (i := 2) (oi := _) (v := _) rfl (by kernel_rfl) (by kernel_rfl) (by kernel_rfl) (fun _ _ _ h => h) (Or.inl ⟨by rfl, ?hz1⟩) (by assumption) ?rezt1
        case hz1 => (intro w hSw; obtain ⟨s0, s1, s2, s3⟩ := hSw; go_simp; all_goals (with_reducible rfl))
        try simp only [Act.put, List.getElem_toArray, List.getElem_cons_zero, List.getElem_cons_succ, List.setIfInBounds_toArray, List.set_cons_zero, List.set_cons_succ]
        refine' wpAnyH_take (i := 3) (oi := _) (v := _) rfl (by kernel_rfl) (by kernel_rfl) (by kernel_rfl) (fun _ _ _ h => h) (Or.inl ⟨by rfl, ?hz2⟩) (by assumption) ?rezt2
        case hz2 => (intro w hSw; obtain ⟨s0, s1, s2, s3⟩ := hSw; go_simp; all_goals (with_reducible rfl))
        try simp only [Act.put, List.getElem_toArray, List.getElem_cons_zero, List.getElem_cons_succ, List.setIfInBounds_toArray, List.set_cons_zero, List.set_cons_succ]
        refine' wpAnyH_take (i := 4) (oi := _) (v := _) rfl (by kernel_rfl) (by kernel_rfl) (by kernel_rfl) (fun _ _ _ h => h) (Or.inl ⟨by rfl, ?hz3⟩) (by assumption) ?rezt3
        case hz3 => (intro w hSw; obtain ⟨s0, s1, s2, s3⟩ := hSw; go_simp; all_goals (with_reducible rfl))
        try simp only [Act.put, List.getElem_toArray, List.getElem_cons_zero, List.getElem_cons_succ, List.setIfInBounds_toArray, List.set_cons_zero, List.set_cons_succ]
        refine' wpAnyH_take (i := 5) (oi := _) (v := _) rfl (by kernel_rfl) (by kernel_rfl) (by kernel_rfl) (fun _ _ _ h => h) (Or.inl ⟨by rfl, ?hz4⟩) (by assumption) ?rezt4
        case hz4 => (intro w hSw; obtain ⟨s0, s1, s2, s3⟩ := hSw; go_simp; all_goals (with_reducible rfl))
        try simp only [Act.put, List.getElem_toArray, List.getElem_cons_zero, List.getElem_cons_succ, List.setIfInBounds_toArray, List.set_cons_zero, List.set_cons_succ]
        refine' wpAnyH_take (i := 7) (oi := _) (v := _) rfl (by kernel_rfl) (by kernel_rfl) (by kernel_rfl) (fun _ _ _ h => h) (Or.inl ⟨by rfl, ?hz5⟩) (by assumption) ?rezt5
        case hz5 => (intro w hSw; obtain ⟨s0, s1, s2, s3⟩ := hSw; go_simp; all_goals (with_reducible rfl))
        try simp only [Act.put, List.getElem_toArray, List.getElem_cons_zero, List.getElem_cons_succ, List.setIfInBounds_toArray, List.set_cons_zero, List.set_cons_succ]
        refine wpAnyH_ready (rs := [1, 6]) (by kernel_rfl) (by simp) ?_
        refine AllReadyH.cons (o := _) rfl (fun K hK => ?_) (AllReadyH.cons (o := _) rfl (fun K hK => ?_) AllReadyH.nil)
        · go_simp
          refine hK.out _ _ hS6 (fun hHeld => ?_)
          clear hK K
          try simp only [Act.put, List.getElem_toArray, List.getElem_cons_zero, List.getElem_cons_succ, List.setIfInBounds_toArray, List.set_cons_zero, List.set_cons_succ]
          refine wpAnyH_ready (rs := [6]) (by kernel_rfl) (by simp) ?_
          refine AllReadyH.cons (o := _) rfl (fun K hK => ?_) AllReadyH.nil
          go_simp
          go_at_call 171
          refine hJc.out.mono ?_
          rintro e w7 ⟨v, rfl, ⟨er, rfl, hxr, rfl⟩, hR7, hE7⟩
          obtain ⟨ho7, hl7, hg7⟩ := hb7.out w7 hE7
          have y0 : w7.cell? ⟨lb, 0, none⟩ = some (.int .u8 k1) := blk_cell hl7 rfl
          have y1 : w7.cell? ⟨lb, 1, none⟩ = some (.string n1) := blk_cell hl7 rfl
          have y2 : w7.cell? ⟨lb, 2, none⟩ = some (.int .i64 v1) := blk_cell hl7 rfl
          have y3 : w7.cell? ⟨lb, 3, none⟩ = some (.slice a1 q1.length c1) := blk_cell hl7 rfl
          have y4 : w7.cell? ⟨lb, 4, none⟩ = some (.int .i64 p1) := blk_cell hl7 rfl
          have hS7 : (fun V => V.cell? ⟨ob, 0, none⟩ = some (.string sg) ∧ V.cell? ⟨ob, 1, none⟩ = some (.int .u8 kn) ∧ V.cell? ⟨ob, 2, none⟩ = some (.int .i64 bn) ∧ V.cell? ⟨ob, 3, none⟩ = some (.bool tn)) w7 := ⟨blk_cell ho7 rfl, blk_cell ho7 rfl, blk_cell ho7 rfl, blk_cell ho7 rfl⟩
          refine hK.out _ _ hS7 (fun hHeld => ?_)
          clear hK K
          try simp only [Act.put, List.getElem_toArray, List.getElem_cons_zero, List.getElem_cons_succ, List.setIfInBounds_toArray, List.set_cons_zero, List.set_cons_succ]
          refine wpAnyH_ready (rs := [8]) (by kernel_rfl) (by simp) ?_
          refine AllReadyH.cons (o := _) rfl (fun K hK => ?_) AllReadyH.nil
          go_simp
          go_at_call 182
          refine (hJn.out w7 er hE7 hxr).mono ?_
          rintro e w8 ⟨v, rfl, ⟨e8, rfl, hi8, he8⟩, hb8⟩
          obtain ⟨k8, n8, v8, a8, c8, q8, p8⟩ := e8
          have hB8 : (⟨(Ex.mk k8 n8 v8 a8 c8 q8 p8).vals⟩ : Array Value) = #[.int .u8 k8, .string n8, .int .i64 v8, .slice a8 q8.length c8, .int .i64 p8] := rfl
          rw [hB8]
          have ho8 := (hb8.block _ (cells_lt ho7)).trans ho7
          have hl8 := (hb8.block _ (cells_lt hl7)).trans hl7
          have hS8 : (fun V => V.cell? ⟨ob, 0, none⟩ = some (.string sg) ∧ V.cell? ⟨ob, 1, none⟩ = some (.int .u8 kn) ∧ V.cell? ⟨ob, 2, none⟩ = some (.int .i64 bn) ∧ V.cell? ⟨ob, 3, none⟩ = some (.bool tn)) w8 := ⟨blk_cell ho8 rfl, blk_cell ho8 rfl, blk_cell ho8 rfl, blk_cell ho8 rfl⟩
          have z0 : w8.cell? ⟨lb, 0, none⟩ = some (.int .u8 k1) := blk_cell hl8 rfl
          have z1 : w8.cell? ⟨lb, 1, none⟩ = some (.string n1) := blk_cell hl8 rfl
          have z2 : w8.cell? ⟨lb, 2, none⟩ = some (.int .i64 v1) := blk_cell hl8 rfl
          have z3 : w8.cell? ⟨lb, 3, none⟩ = some (.slice a1 q1.length c1) := blk_cell hl8 rfl
          have z4 : w8.cell? ⟨lb, 4, none⟩ = some (.int .i64 p1) := blk_cell hl8 rfl
          have e0 := blk_free hl8 0
          have e1 := blk_free hl8 1
          have e2 := blk_free hl8 2
          have e3 := blk_free hl8 3
          have e4 := blk_free hl8 4
          refine hK.out _ _ hS8 (fun hHeld => ?_)
          clear hK K
          try simp only [Act.put, List.getElem_toArray, List.getElem_cons_zero, List.getElem_cons_succ, List.setIfInBounds_toArray, List.set_cons_zero, List.set_cons_succ]
          have hnext := Lib.hid fun (most' : Int) (hm : 0 ≤ most' ∧ most' ≤ 5) (hs : loopP c.l f' least most' (ea (.mk k8 n8 v8 a8 c8 q8 p8)) k = some r) => li_next hlw.out hn (hEw.out.trans hE7) hR7 hb8 hg7 hl7 k8 n8 v8 a8 c8 q8 p8 hi8 hs hfl hm
          have h9 := (set5_keep w8 lb (.int .u8 k8) (.string n8) (.int .i64 v8) (.slice a8 q8.length c8) (.int .i64 p8) ob hol).trans ho8
          have hS9 : (fun V => V.cell? ⟨ob, 0, none⟩ = some (.string sg) ∧ V.cell? ⟨ob, 1, none⟩ = some (.int .u8 kn) ∧ V.cell? ⟨ob, 2, none⟩ = some (.int .i64 bn) ∧ V.cell? ⟨ob, 3, none⟩ = some (.bool tn)) (((((w8.setCell ⟨lb, 0, none⟩ (.int .u8 k8)).setCell ⟨lb, 1, none⟩ (.string n8)).setCell ⟨lb, 2, none⟩ (.int .i64 v8)).setCell ⟨lb, 3, none⟩ (.slice a8 q8.length c8)).setCell ⟨lb, 4, none⟩ (.int .i64 p8)) := ⟨blk_cell h9 rfl, blk_cell h9 rfl, blk_cell h9 rfl, blk_cell h9 rfl⟩
          refine wpAnyH_ready (rs := [9]) (by kernel_rfl) (by simp) ?_
          refine AllReadyH.cons (o := _) rfl (fun K hK => ?_) AllReadyH.nil
          go_simp
          refine hK.out _ _ hS9 (fun hHeld => ?_)
          clear hK K
          refine wpAnyH_done (by kernel_rfl) ?_ _
          refine NoPanic.normal ?_
          have hkl : k < c.l.length := hR7.lt
          have hl2 := Lib.hid (by have := hl2.out; rw [← he8] at this; exact this : loopP c.l f' least (if bn = 3 then 2 else bn) (ea (.mk k8 n8 v8 a8 c8 q8 p8)) k = some r)
          obtain ⟨W, hW⟩ : ∃ W, (((((w8.setCell ⟨lb, 0, none⟩ (.int .u8 k8)).setCell ⟨lb, 1, none⟩ (.string n8)).setCell ⟨lb, 2, none⟩ (.int .i64 v8)).setCell ⟨lb, 3, none⟩ (.slice a8 q8.length c8)).setCell ⟨lb, 4, none⟩ (.int .i64 p8)) = W := ⟨_, rfl⟩
          have hnext' := hnext.out
          rw [hW] at hS9 hnext' ⊢
          have hnext2 := Lib.hid hnext'
          obtain ⟨s0, s1, s2, s3⟩ := hS9
          clear hnext hnext' hW h9 he8 hi8 hb8 hl8 ho8 hS8 hHeld
          by_cases h3 : bn = 3
          · subst h3
            have hl3 : loopP c.l f' least 2 (ea (.mk k8 n8 v8 a8 c8 q8 p8)) k = some r := hl2.out
            have hLI := Lib.hid (hnext2.out 2 (by omega) hl3)
            clear hl2 hnext2 hl3
            go_wp2_with fail
            exact ⟨⟨2, _, k, rfl, hLI⟩, by have := hLI.out.rd.next; omega⟩
          · have hl3 : loopP c.l f' least bn (ea (.mk k8 n8 v8 a8 c8 q8 p8)) k = some r := by have := hl2.out; rw [if_neg h3] at this; exact this
            have hLI := Lib.hid (hnext2.out bn hob hl3)
            clear hl2 hnext2 hl3
            go_wp2_with fail
            go_roundw
            case rel => exact ⟨bn, _, k, rfl, hLI⟩
            case measure =>
              have := hLI.out.rd.next
              omega
        · go_simp
          go_at_call 171
          refine hJc.out.mono ?_
          rintro e w7 ⟨v, rfl, ⟨er, rfl, hxr, rfl⟩, hR7, hE7⟩
          obtain ⟨ho7, hl7, hg7⟩ := hb7.out w7 hE7
          have y0 : w7.cell? ⟨lb, 0, none⟩ = some (.int .u8 k1) := blk_cell hl7 rfl
          have y1 : w7.cell? ⟨lb, 1, none⟩ = some (.string n1) := blk_cell hl7 rfl
          have y2 : w7.cell? ⟨lb, 2, none⟩ = some (.int .i64 v1) := blk_cell hl7 rfl
          have y3 : w7.cell? ⟨lb, 3, none⟩ = some (.slice a1 q1.length c1) := blk_cell hl7 rfl
          have y4 : w7.cell? ⟨lb, 4, none⟩ = some (.int .i64 p1) := blk_cell hl7 rfl
          have hS7 : (fun V => V.cell? ⟨ob, 0, none⟩ = some (.string sg) ∧ V.cell? ⟨ob, 1, none⟩ = some (.int .u8 kn) ∧ V.cell? ⟨ob, 2, none⟩ = some (.int .i64 bn) ∧ V.cell? ⟨ob, 3, none⟩ = some (.bool tn)) w7 := ⟨blk_cell ho7 rfl, blk_cell ho7 rfl, blk_cell ho7 rfl, blk_cell ho7 rfl⟩
          refine hK.out _ _ hS7 (fun hHeld => ?_)
          clear hK K
          try simp only [Act.put, List.getElem_toArray, List.getElem_cons_zero, List.getElem_cons_succ, List.setIfInBounds_toArray, List.set_cons_zero, List.set_cons_succ]
          refine wpAnyH_ready (rs := [1]) (by kernel_rfl) (by simp) ?_
          refine AllReadyH.cons (o := _) rfl (fun K hK => ?_) AllReadyH.nil
          go_simp
          refine hK.out _ _ hS7 (fun hHeld => ?_)
          clear hK K
          try simp only [Act.put, List.getElem_toArray, List.getElem_cons_zero, List.getElem_cons_succ, List.setIfInBounds_toArray, List.set_cons_zero, List.set_cons_succ]
          refine wpAnyH_ready (rs := [8]) (by kernel_rfl) (by simp) ?_
          refine AllReadyH.cons (o := _) rfl (fun K hK => ?_) AllReadyH.nil
          go_simp
          go_at_call 182
          refine (hJn.out w7 er hE7 hxr).mono ?_
          rintro e w8 ⟨v, rfl, ⟨e8, rfl, hi8, he8⟩, hb8⟩
          obtain ⟨k8, n8, v8, a8, c8, q8, p8⟩ := e8
          have hB8 : (⟨(Ex.mk k8 n8 v8 a8 c8 q8 p8).vals⟩ : Array Value) = #[.int .u8 k8, .string n8, .int .i64 v8, .slice a8 q8.length c8, .int .i64 p8] := rfl
          rw [hB8]
          have ho8 := (hb8.block _ (cells_lt ho7)).trans ho7
          have hl8 := (hb8.block _ (cells_lt hl7)).trans hl7
          have hS8 : (fun V => V.cell? ⟨ob, 0, none⟩ = some (.string sg) ∧ V.cell? ⟨ob, 1, none⟩ = some (.int .u8 kn) ∧ V.cell? ⟨ob, 2, none⟩ = some (.int .i64 bn) ∧ V.cell? ⟨ob, 3, none⟩ = some (.bool tn)) w8 := ⟨blk_cell ho8 rfl, blk_cell ho8 rfl, blk_cell ho8 rfl, blk_cell ho8 rfl⟩
          have z0 : w8.cell? ⟨lb, 0, none⟩ = some (.int .u8 k1) := blk_cell hl8 rfl
          have z1 : w8.cell? ⟨lb, 1, none⟩ = some (.string n1) := blk_cell hl8 rfl
          have z2 : w8.cell? ⟨lb, 2, none⟩ = some (.int .i64 v1) := blk_cell hl8 rfl
          have z3 : w8.cell? ⟨lb, 3, none⟩ = some (.slice a1 q1.length c1) := blk_cell hl8 rfl
          have z4 : w8.cell? ⟨lb, 4, none⟩ = some (.int .i64 p1) := blk_cell hl8 rfl
          have e0 := blk_free hl8 0
          have e1 := blk_free hl8 1
          have e2 := blk_free hl8 2
          have e3 := blk_free hl8 3
          have e4 := blk_free hl8 4
          refine hK.out _ _ hS8 (fun hHeld => ?_)
          clear hK K
          try simp only [Act.put, List.getElem_toArray, List.getElem_cons_zero, List.getElem_cons_succ, List.setIfInBounds_toArray, List.set_cons_zero, List.set_cons_succ]
          have hnext := Lib.hid fun (most' : Int) (hm : 0 ≤ most' ∧ most' ≤ 5) (hs : loopP c.l f' least most' (ea (.mk k8 n8 v8 a8 c8 q8 p8)) k = some r) => li_next hlw.out hn (hEw.out.trans hE7) hR7 hb8 hg7 hl7 k8 n8 v8 a8 c8 q8 p8 hi8 hs hfl hm
          have h9 := (set5_keep w8 lb (.int .u8 k8) (.string n8) (.int .i64 v8) (.slice a8 q8.length c8) (.int .i64 p8) ob hol).trans ho8
          have hS9 : (fun V => V.cell? ⟨ob, 0, none⟩ = some (.string sg) ∧ V.cell? ⟨ob, 1, none⟩ = some (.int .u8 kn) ∧ V.cell? ⟨ob, 2, none⟩ = some (.int .i64 bn) ∧ V.cell? ⟨ob, 3, none⟩ = some (.bool tn)) (((((w8.setCell ⟨lb, 0, none⟩ (.int .u8 k8)).setCell ⟨lb, 1, none⟩ (.string n8)).setCell ⟨lb, 2, none⟩ (.int .i64 v8)).setCell ⟨lb, 3, none⟩ (.slice a8 q8.length c8)).setCell ⟨lb, 4, none⟩ (.int .i64 p8)) := ⟨blk_cell h9 rfl, blk_cell h9 rfl, blk_cell h9 rfl, blk_cell h9 rfl⟩
          refine wpAnyH_ready (rs := [9]) (by kernel_rfl) (by simp) ?_
          refine AllReadyH.cons (o := _) rfl (fun K hK => ?_) AllReadyH.nil
          go_simp
          refine hK.out _ _ hS9 (fun hHeld => ?_)
          clear hK K
          refine wpAnyH_done (by kernel_rfl) ?_ _
          refine NoPanic.normal ?_
          have hkl : k < c.l.length := hR7.lt
          have hl2 := Lib.hid (by have := hl2.out; rw [← he8] at this; exact this : loopP c.l f' least (if bn = 3 then 2 else bn) (ea (.mk k8 n8 v8 a8 c8 q8 p8)) k = some r)
          obtain ⟨W, hW⟩ : ∃ W, (((((w8.setCell ⟨lb, 0, none⟩ (.int .u8 k8)).setCell ⟨lb, 1, none⟩ (.string n8)).setCell ⟨lb, 2, none⟩ (.int .i64 v8)).setCell ⟨lb, 3, none⟩ (.slice a8 q8.length c8)).setCell ⟨lb, 4, none⟩ (.int .i64 p8)) = W := ⟨_, rfl⟩
          have hnext' := hnext.out
          rw [hW] at hS9 hnext' ⊢
          have hnext2 := Lib.hid hnext'
          obtain ⟨s0, s1, s2, s3⟩ := hS9
          clear hnext hnext' hW h9 he8 hi8 hb8 hl8 ho8 hS8 hHeld
          by_cases h3 : bn = 3
          · subst h3
            have hl3 : loopP c.l f' least 2 (ea (.mk k8 n8 v8 a8 c8 q8 p8)) k = some r := hl2.out
            have hLI := Lib.hid (hnext2.out 2 (by omega) hl3)
            clear hl2 hnext2 hl3
            go_wp2_with fail
            exact ⟨⟨2, _, k, rfl, hLI⟩, by have := hLI.out.rd.next; omega⟩
          · have hl3 : loopP c.l f' least bn (ea (.mk k8 n8 v8 a8 c8 q8 p8)) k = some r := by have := hl2.out; rw [if_neg h3] at this; exact this
            have hLI := Lib.hid (hnext2.out bn hob hl3)
            clear hl2 hnext2 hl3
            go_wp2_with fail
            go_roundw
            case rel => exact ⟨bn, _, k, rfl, hLI⟩
            case measure =>
              have := hLI.out.rd.next
              omega

set_option maxHeartbeats 1000000 in
theorem joined_bad (f : Nat) (hU : ContU f) (c : Rc) (least : Int) (i : Nat) (w : World) (p : Int) (h : Rd c i w) (hq : unaryP c.l f i = some (.bad p)) :
    Calls Tryz.prog 171 #[.pointer (some ⟨c.rb, 0, none⟩), .int .i64 least] w (Post c (VX (fun b => w.heap.size ≤ b)) w (.bad p)) := by
  have hUn : Hid (∀ W, Below w.heap.size w W → Calls Tryz.prog 180 #[.pointer (some ⟨c.rb, 0, none⟩)] W (Post c (VX (fun b => W.heap.size ≤ b)) W (.bad p))) := Lib.hid fun W hb => hU c i W _ (h.ext hb) hq
  clear h hU hq
  go_enter Tryz.func171, Tryz.ntmps171
  go_wp2_with fail
  have hb1 : Below w.heap.size w (w.alloc (.cells #[.int .u8 0, .string ⟨#[]⟩, .int .i64 0, .slice none 0 0, .int .i64 0] 62)) := (Below.refl _ _).alloc (Nat.le_refl _) _
  refine (hUn.out _ hb1).mono ?_
  rintro e w2 ⟨rfl, hE2⟩
  exact ⟨rfl, rfl, (RE.of_below hb1).trans hE2⟩
theorem joined_step (f : Nat) (hU : ContU f) (hJ : ∀ f', f' + 1 ≤ f → ContJ f') : ContJ (f + 1) := by
  intro c least i w r h1 h6 h hr
  unfold joinedP at hr
  cases hq : unaryP c.l f i with
  | none => rw [hq] at hr; cases hr
  | some q =>
    rw [hq] at hr
    cases q with
    | bad p => cases hr; exact joined_bad f hU c least i w p h hq
    | ok x j => exact joined_ok f hU hJ c least i w r h1 h6 h x j hq hr
theorem joined_zero : ContJ 0 := by
  intro c least i w r _ _ _ hr
  unfold joinedP at hr
  cases hr
end Go.Proofs.YtpcdlneompnhlaaGreatDoor.Pa
