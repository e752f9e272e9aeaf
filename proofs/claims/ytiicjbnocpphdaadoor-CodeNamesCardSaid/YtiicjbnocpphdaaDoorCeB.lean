/- Walk of works of law07. Conditions: the packages' tables hold their lists. -/
import Derived.Test.YtiicjbnocpphdaaDoorCeA
namespace Go.Proofs.YtiicjbnocpphdaaDoor.Cd
open Go Go.RowKit
open Go.Proofs.YtiicjbnocpphdaaDoor.Lx Go.Proofs.YtiicjbnocpphdaaDoor.Tr

def bk : Ins := ⟨13, 0, 0, 0, 0, none, 0, []⟩
def st : Ins := ⟨1, 0, 0, 0, 0, none, 0, []⟩
theorem ins_In (W : World) (S : Nat → Prop) (op r a b n : Int) (h0 : U8 op) (h1 : I64 r) (h2 : I64 a) (h3 : I64 b) (h4 : I64 n) : Ins.In W S ⟨op, r, a, b, n, none, 0, []⟩ := ⟨h0, h1, h2, h3, h4, row_none _ _, fun x hx => (by cases hx)⟩
theorem u8_of {n : Int} (h1 : 0 ≤ n) (h2 : n ≤ 255) : U8 n := ⟨h1, h2⟩
/-- one, and May of it, at two instructions that were laid in a row -/
theorem one2_c (regs : Int) (x y : Ins) (W : World) (hr : I64 regs) (hx : ∀ V, Ins.In V (fun _ => True) x) (hy : ∀ V, Ins.In V (fun _ => True) y) :
    Calls Tryd.prog 8 #[.int .i64 regs, .slice (some ⟨W.heap.size, 0, none⟩) 2 2] (W.alloc (.cells ⟨x.vals ++ y.vals⟩ 31)) fun e w' => ∃ ma la fa aa ca ba mc lc fc ac cc bc, e = .returned (oneP ma la fa aa ca ba mc lc fc ac cc bc regs [x, y]).val ∧ Pg.In w' (fun _ => True) (oneP ma la fa aa ca ba mc lc fc ac cc bc regs [x, y]) ∧ Below W.heap.size W w' := by
  have hb := b_alloc W (.cells ⟨x.vals ++ y.vals⟩ 31)
  refine (one_any regs [x, y] (some ⟨W.heap.size, 0, none⟩) 2 _ hr (row_blk 2 (by have := blk_new W (.cells ⟨x.vals ++ y.vals⟩ 31) rfl; simpa [inCells] using this) (by decide) trivial) (fun i hi => ?_)).mono ?_
  · rcases List.mem_cons.1 hi with rfl | hi
    · exact hx _
    · rw [List.mem_singleton.1 hi]; exact hy _
  · rintro e w' ⟨ma, la, fa, aa, ba, mc, lc, fc, ac, bc, he, hin, hb2⟩
    exact ⟨ma, la, fa, aa, _, ba, mc, lc, fc, ac, _, bc, he, hin, b_next hb2⟩
set_option maxHeartbeats 8000000 in
set_option maxRecDepth 100000 in
theorem works_c (w : World) (hT : OpTab w) (hsg : SignsIn w) :
    Calls Tryd.prog 7 #[] w fun e w' => e = .returned (.bool true) ∧ Below w.heap.size w w' := by
  have hrd := Lib.hid (fun (V : World) (hb : Below w.heap.size w V) => reads_any ⟨6, 0, -1, 3, 0, none, 0, []⟩ V (ins_In _ _ _ _ _ _ _ (u8_of (by decide) (by decide)) i64_0 (i64_of (by decide) (by decide)) (i64_of (by decide) (by decide)) i64_0) (hT.keep hb) (by decide))
  have hgl := Lib.hid (fun (V : World) (hb : Below w.heap.size w V) => goal_any ⟨12, 0, 0, 0, 5, none, 0, []⟩ V (u8_of (by decide) (by decide)) (hT.keep hb))
  have ho0 := Lib.hid (fun (V : World) => one2_c 1 st bk V (i64_of (by decide) (by decide)) (fun V => ins_In _ _ _ _ _ _ _ (u8_of (by decide) (by decide)) i64_0 i64_0 i64_0 i64_0) (fun V => ins_In _ _ _ _ _ _ _ (u8_of (by decide) (by decide)) i64_0 i64_0 i64_0 i64_0))
  have hm0 := Lib.hid (fun (V : World) (ma la fa aa ca ba : Option Addr) (mc lc fc ac cc bc : Nat) (hp : Pg.In V (fun _ => True) (oneP ma la fa aa ca ba mc lc fc ac cc bc 1 [st, bk])) (hb : Below w.heap.size w V) => (by have := may_any _ V hp (hT.keep hb) (hsg.below hsg.lt hb) (by show 1 + 1 + 2 ≤ 4398046511104; decide); rw [show mayP (oneP ma la fa aa ca ba mc lc fc ac cc bc 1 [st, bk]) = true from w_yes ma la fa aa ca ba mc lc fc ac cc bc] at this; exact this : Calls Tryd.prog 13 #[(oneP ma la fa aa ca ba mc lc fc ac cc bc 1 [st, bk]).val] V fun e w' => e = .returned (.bool true) ∧ Below V.heap.size V w'))
  have ho1 := Lib.hid (fun (V : World) => one2_c 0 st bk V (i64_of (by decide) (by decide)) (fun V => ins_In _ _ _ _ _ _ _ (u8_of (by decide) (by decide)) i64_0 i64_0 i64_0 i64_0) (fun V => ins_In _ _ _ _ _ _ _ (u8_of (by decide) (by decide)) i64_0 i64_0 i64_0 i64_0))
  have hm1 := Lib.hid (fun (V : World) (ma la fa aa ca ba : Option Addr) (mc lc fc ac cc bc : Nat) (hp : Pg.In V (fun _ => True) (oneP ma la fa aa ca ba mc lc fc ac cc bc 0 [st, bk])) (hb : Below w.heap.size w V) => (by have := may_any _ V hp (hT.keep hb) (hsg.below hsg.lt hb) (by show 1 + 1 + 2 ≤ 4398046511104; decide); rw [show mayP (oneP ma la fa aa ca ba mc lc fc ac cc bc 0 [st, bk]) = false from w_no1 ma la fa aa ca ba mc lc fc ac cc bc] at this; exact this : Calls Tryd.prog 13 #[(oneP ma la fa aa ca ba mc lc fc ac cc bc 0 [st, bk]).val] V fun e w' => e = .returned (.bool false) ∧ Below V.heap.size V w'))
  have ho2 := Lib.hid (fun (V : World) => one2_c 1 st ⟨12, 0, 0, 0, 0, none, 0, []⟩ V (i64_of (by decide) (by decide)) (fun V => ins_In _ _ _ _ _ _ _ (u8_of (by decide) (by decide)) i64_0 i64_0 i64_0 i64_0) (fun V => ins_In _ _ _ _ _ _ _ (u8_of (by decide) (by decide)) (i64_of (by decide) (by decide)) (i64_of (by decide) (by decide)) (i64_of (by decide) (by decide)) (i64_of (by decide) (by decide))))
  have hm2 := Lib.hid (fun (V : World) (ma la fa aa ca ba : Option Addr) (mc lc fc ac cc bc : Nat) (hp : Pg.In V (fun _ => True) (oneP ma la fa aa ca ba mc lc fc ac cc bc 1 [st, ⟨12, 0, 0, 0, 0, none, 0, []⟩])) (hb : Below w.heap.size w V) => (by have := may_any _ V hp (hT.keep hb) (hsg.below hsg.lt hb) (by show 1 + 1 + 2 ≤ 4398046511104; decide); rw [show mayP (oneP ma la fa aa ca ba mc lc fc ac cc bc 1 [st, ⟨12, 0, 0, 0, 0, none, 0, []⟩]) = false from w_no2 ma la fa aa ca ba mc lc fc ac cc bc] at this; exact this : Calls Tryd.prog 13 #[(oneP ma la fa aa ca ba mc lc fc ac cc bc 1 [st, ⟨12, 0, 0, 0, 0, none, 0, []⟩]).val] V fun e w' => e = .returned (.bool false) ∧ Below V.heap.size V w'))
  have ho3 := Lib.hid (fun (V : World) => one2_c 2 ⟨5, 0, 0, 1, 0, none, 0, []⟩ bk V (i64_of (by decide) (by decide)) (fun V => ins_In _ _ _ _ _ _ _ (u8_of (by decide) (by decide)) (i64_of (by decide) (by decide)) (i64_of (by decide) (by decide)) (i64_of (by decide) (by decide)) (i64_of (by decide) (by decide))) (fun V => ins_In _ _ _ _ _ _ _ (u8_of (by decide) (by decide)) i64_0 i64_0 i64_0 i64_0))
  have hm3 := Lib.hid (fun (V : World) (ma la fa aa ca ba : Option Addr) (mc lc fc ac cc bc : Nat) (hp : Pg.In V (fun _ => True) (oneP ma la fa aa ca ba mc lc fc ac cc bc 2 [⟨5, 0, 0, 1, 0, none, 0, []⟩, bk])) (hb : Below w.heap.size w V) => (by have := may_any _ V hp (hT.keep hb) (hsg.below hsg.lt hb) (by show 1 + 1 + 2 ≤ 4398046511104; decide); rw [show mayP (oneP ma la fa aa ca ba mc lc fc ac cc bc 2 [⟨5, 0, 0, 1, 0, none, 0, []⟩, bk]) = false from w_no3 ma la fa aa ca ba mc lc fc ac cc bc] at this; exact this : Calls Tryd.prog 13 #[(oneP ma la fa aa ca ba mc lc fc ac cc bc 2 [⟨5, 0, 0, 1, 0, none, 0, []⟩, bk]).val] V fun e w' => e = .returned (.bool false) ∧ Below V.heap.size V w'))
  clear hT hsg
  go_enter Tryd.func7, Tryd.ntmps7
  go_wp2_with fail
  obtain ⟨W0, hW0⟩ : ∃ W0, (w.alloc (.cells ⟨bk.vals⟩ 31)).alloc (.cells ⟨st.vals⟩ 31) = W0 := ⟨_, rfl⟩
  have hq := Lib.hid (by rw [← hW0]; exact b_alloc2 _ _ _ : Below w.heap.size w W0)
  have h0 := (by rw [← hW0]; exact fun j u hj => below_in (b_alloc _ _) (box_new w bk.vals 31 j u hj) : ∀ j u, bk.vals[j]? = some u → W0.cell? ⟨w.heap.size, j, none⟩ = some u)
  have h1 := (by rw [← hW0]; exact cells_of (t := 31) (blk_new _ _ (by simp)) : ∀ j u, st.vals[j]? = some u → W0.cell? ⟨w.heap.size + 1, j, none⟩ = some u)
  have hcl := Lib.hid (fun (V : World) (hb : Below W0.heap.size W0 V) => (⟨ins_cells (i := bk) (fun j u hu => below_in hb (h0 j u hu)), ins_cells (i := st) (fun j u hu => below_in hb (h1 j u hu))⟩ : _ ∧ _))
  simp only [bk, st] at hcl
  clear h0 h1
  refine (hrd.out _ (b_alloc2 _ _ _)).mono ?_
  rintro e w1 ⟨rv, rfl, hown, hb⟩
  obtain ⟨va, vc, hva, hrow⟩ := row_own (n := 1) (xs := numCells [3]) hown
  subst hva
  have hk := Lib.hid (by rw [← hW0]; exact hb : Below W0.heap.size W0 w1)
  replace hrow := Lib.hid (hrow.mono (fun b _ => (trivial : (fun _ : Nat => True) b)))
  clear hown hb hrd hW0
  obtain ⟨⟨p0, p1, p2, p3, p4, p5⟩, s0, s1, s2, s3, s4, s5⟩ := hcl.out w1 hk.out
  have l0 : w.heap.size < w1.heap.size := World.block_lt_of_cell? _ _ p0
  have l1 : w.heap.size + 1 < w1.heap.size := World.block_lt_of_cell? _ _ s0
  go_wp2_with fail
  refine (hgl.out _ (hq.out.trans (hk.out.mono hq.out.size))).mono ?_
  rintro e w2 ⟨rfl, hb⟩
  replace hrow := Lib.hid (hrow.out.below (Kps.of_below hb))
  have hk' := Lib.hid (hk.out.trans (hb.mono hk.out.size))
  clear p0 p1 p2 p3 p4 p5 s0 s1 s2 s3 s4 s5 l0 l1
  clear hk hb hgl
  have hk := hk'
  clear hk'
  obtain ⟨⟨p0, p1, p2, p3, p4, p5⟩, s0, s1, s2, s3, s4, s5⟩ := hcl.out w2 hk.out
  have l0 : w.heap.size < w2.heap.size := World.block_lt_of_cell? _ _ p0
  have l1 : w.heap.size + 1 < w2.heap.size := World.block_lt_of_cell? _ _ s0
  go_wp2_with fail
  refine (ho0.out _).mono ?_
  rintro e w3 ⟨ma, la, fa, aa, ca, ba, mc, lc, fc, ac, cc, bc, rfl, hin, hb⟩
  replace hrow := Lib.hid (hrow.out.below (Kps.of_below hb))
  have hk' := Lib.hid (hk.out.trans (hb.mono hk.out.size))
  have hmm := Lib.hid (hm0.out _ ma la fa aa ca ba mc lc fc ac cc bc hin (hq.out.trans (hk'.out.mono hq.out.size)))
  clear p0 p1 p2 p3 p4 p5 s0 s1 s2 s3 s4 s5 l0 l1
  clear hk hb ho0 hm0 hin
  have hk := hk'
  clear hk'
  obtain ⟨⟨p0, p1, p2, p3, p4, p5⟩, s0, s1, s2, s3, s4, s5⟩ := hcl.out w3 hk.out
  have l0 : w.heap.size < w3.heap.size := World.block_lt_of_cell? _ _ p0
  have l1 : w.heap.size + 1 < w3.heap.size := World.block_lt_of_cell? _ _ s0
  go_wp2_with fail
  refine hmm.out.mono ?_
  rintro e w4 ⟨rfl, hb⟩
  replace hrow := Lib.hid (hrow.out.below (Kps.of_below hb))
  have hk' := Lib.hid (hk.out.trans (hb.mono hk.out.size))
  clear p0 p1 p2 p3 p4 p5 s0 s1 s2 s3 s4 s5 l0 l1
  clear hk hb hmm
  have hk := hk'
  clear hk'
  obtain ⟨⟨p0, p1, p2, p3, p4, p5⟩, s0, s1, s2, s3, s4, s5⟩ := hcl.out w4 hk.out
  have l0 : w.heap.size < w4.heap.size := World.block_lt_of_cell? _ _ p0
  have l1 : w.heap.size + 1 < w4.heap.size := World.block_lt_of_cell? _ _ s0
  go_wp2_with fail
  refine (ho1.out _).mono ?_
  rintro e w5 ⟨ma, la, fa, aa, ca, ba, mc, lc, fc, ac, cc, bc, rfl, hin, hb⟩
  replace hrow := Lib.hid (hrow.out.below (Kps.of_below hb))
  have hk' := Lib.hid (hk.out.trans (hb.mono hk.out.size))
  have hmm := Lib.hid (hm1.out _ ma la fa aa ca ba mc lc fc ac cc bc hin (hq.out.trans (hk'.out.mono hq.out.size)))
  clear p0 p1 p2 p3 p4 p5 s0 s1 s2 s3 s4 s5 l0 l1
  clear hk hb ho1 hm1 hin
  have hk := hk'
  clear hk'
  obtain ⟨⟨p0, p1, p2, p3, p4, p5⟩, s0, s1, s2, s3, s4, s5⟩ := hcl.out w5 hk.out
  have l0 : w.heap.size < w5.heap.size := World.block_lt_of_cell? _ _ p0
  have l1 : w.heap.size + 1 < w5.heap.size := World.block_lt_of_cell? _ _ s0
  go_wp2_with fail
  refine hmm.out.mono ?_
  rintro e w6 ⟨rfl, hb⟩
  replace hrow := Lib.hid (hrow.out.below (Kps.of_below hb))
  have hk' := Lib.hid (hk.out.trans (hb.mono hk.out.size))
  clear p0 p1 p2 p3 p4 p5 s0 s1 s2 s3 s4 s5 l0 l1
  clear hk hb hmm
  have hk := hk'
  clear hk'
  obtain ⟨⟨p0, p1, p2, p3, p4, p5⟩, s0, s1, s2, s3, s4, s5⟩ := hcl.out w6 hk.out
  have l0 : w.heap.size < w6.heap.size := World.block_lt_of_cell? _ _ p0
  have l1 : w.heap.size + 1 < w6.heap.size := World.block_lt_of_cell? _ _ s0
  go_wp2_with fail
  refine (ho2.out _).mono ?_
  rintro e w7 ⟨ma, la, fa, aa, ca, ba, mc, lc, fc, ac, cc, bc, rfl, hin, hb⟩
  replace hrow := Lib.hid (hrow.out.below (Kps.of_below hb))
  have hk' := Lib.hid (hk.out.trans (hb.mono hk.out.size))
  have hmm := Lib.hid (hm2.out _ ma la fa aa ca ba mc lc fc ac cc bc hin (hq.out.trans (hk'.out.mono hq.out.size)))
  clear p0 p1 p2 p3 p4 p5 s0 s1 s2 s3 s4 s5 l0 l1
  clear hk hb ho2 hm2 hin
  have hk := hk'
  clear hk'
  obtain ⟨⟨p0, p1, p2, p3, p4, p5⟩, s0, s1, s2, s3, s4, s5⟩ := hcl.out w7 hk.out
  have l0 : w.heap.size < w7.heap.size := World.block_lt_of_cell? _ _ p0
  have l1 : w.heap.size + 1 < w7.heap.size := World.block_lt_of_cell? _ _ s0
  go_wp2_with fail
  refine hmm.out.mono ?_
  rintro e w8 ⟨rfl, hb⟩
  replace hrow := Lib.hid (hrow.out.below (Kps.of_below hb))
  have hk' := Lib.hid (hk.out.trans (hb.mono hk.out.size))
  clear p0 p1 p2 p3 p4 p5 s0 s1 s2 s3 s4 s5 l0 l1
  clear hk hb hmm
  have hk := hk'
  clear hk'
  obtain ⟨⟨p0, p1, p2, p3, p4, p5⟩, s0, s1, s2, s3, s4, s5⟩ := hcl.out w8 hk.out
  have l0 : w.heap.size < w8.heap.size := World.block_lt_of_cell? _ _ p0
  have l1 : w.heap.size + 1 < w8.heap.size := World.block_lt_of_cell? _ _ s0
  go_wp2_with fail
  refine (ho3.out _).mono ?_
  rintro e w9 ⟨ma, la, fa, aa, ca, ba, mc, lc, fc, ac, cc, bc, rfl, hin, hb⟩
  replace hrow := Lib.hid (hrow.out.below (Kps.of_below hb))
  have hk' := Lib.hid (hk.out.trans (hb.mono hk.out.size))
  have hmm := Lib.hid (hm3.out _ ma la fa aa ca ba mc lc fc ac cc bc hin (hq.out.trans (hk'.out.mono hq.out.size)))
  clear p0 p1 p2 p3 p4 p5 s0 s1 s2 s3 s4 s5 l0 l1
  clear hk hb ho3 hm3 hin
  have hk := hk'
  clear hk'
  obtain ⟨⟨p0, p1, p2, p3, p4, p5⟩, s0, s1, s2, s3, s4, s5⟩ := hcl.out w9 hk.out
  have l0 : w.heap.size < w9.heap.size := World.block_lt_of_cell? _ _ p0
  have l1 : w.heap.size + 1 < w9.heap.size := World.block_lt_of_cell? _ _ s0
  go_wp2_with fail
  refine hmm.out.mono ?_
  rintro e w10 ⟨rfl, hb⟩
  replace hrow := Lib.hid (hrow.out.below (Kps.of_below hb))
  have hk' := Lib.hid (hk.out.trans (hb.mono hk.out.size))
  clear p0 p1 p2 p3 p4 p5 s0 s1 s2 s3 s4 s5 l0 l1
  clear hk hb hmm
  have hk := hk'
  clear hk'
  obtain ⟨⟨p0, p1, p2, p3, p4, p5⟩, s0, s1, s2, s3, s4, s5⟩ := hcl.out w10 hk.out
  have l0 : w.heap.size < w10.heap.size := World.block_lt_of_cell? _ _ p0
  have l1 : w.heap.size + 1 < w10.heap.size := World.block_lt_of_cell? _ _ s0
  have hii := Lib.hid (ints_any [3] [3] va (some ⟨w10.heap.size, 0, none⟩) vc 1 (w10.alloc (.cells #[.int .i64 3] 3)) (hrow.out.below (Kps.of_below (b_alloc _ _))) (row_blk 1 (blk_new w10 _ rfl) (by decide) trivial))
  have hk' := Lib.hid (hk.out.trans ((b_alloc w10 (.cells #[.int .i64 3] 3)).mono hk.out.size))
  go_wp2_with fail
  refine hii.out.mono ?_
  rintro e w11 ⟨rfl, hb⟩
  have hz := Lib.hid (hq.out.trans ((hk'.out.trans (hb.mono hk'.out.size)).mono hq.out.size))
  clear hb
  go_wp2_with fail
  go_ret
  exact ⟨rfl, hz.out⟩
end Go.Proofs.YtiicjbnocpphdaaDoor.Cd
