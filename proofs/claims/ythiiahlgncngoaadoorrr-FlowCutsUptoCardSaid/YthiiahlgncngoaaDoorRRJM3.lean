/- A program in a box, whose Funs grow by append. Conditions: none. -/
import Derived.Test.YthiiahlgncngoaaDoorRRJM2
import Derived.Test.YthiiahlgncngoaaDoorRRJaL
import Derived.Test.YthiiahlgncngoaaDoorRRJaN
set_option maxHeartbeats 16000000
set_option maxRecDepth 100000
namespace Go.Proofs.YthiiahlgncngoaaDoorRR.Fw
open Go Go.RowKit
open Go.Proofs.YthiiahlgncngoaaDoorRR.Lx Go.Proofs.YthiiahlgncngoaaDoorRR.Tr Go.Proofs.YthiiahlgncngoaaDoorRR.Cd
theorem info_fn : (Tryd.prog.info? 50).map (fun i => (i.zero, i.size, i.bytes)) = some (some (.agg #[.string ⟨#[]⟩, .bool false, .int .i64 0, .int .i64 0, .slice none 0 0]), 5, 64) := by kernel_rfl
/-- a program in a box: two values, and Funs in a row of their own -/
structure Bx (B b : Nat) (m1 m2 : Value) (l : List Cd.Fn) (W : World) : Prop where
 hb : B ≤ b
 ex : ∃ v cap, W.heap[b]? = some (.cells #[m1, m2, .slice v l.length cap] 26 (0, 0)) ∧ W.ownsRow B 50 5 (.slice v l.length cap) l.length (Zw l)
theorem own_neF {B g c m : Nat} {vs : Array Value} {v : Value} {xs : List Value} {W : World} {fr : Nat × Nat} (hg : W.heap[g]? = some (.cells vs 26 fr)) (h : W.ownsRow B 50 c v m xs) : v.ownBlock ≠ some g := by
 intro e
 rcases h.2 with ⟨rfl, _⟩ | ⟨q, cap, cur, rfl, _, hq, _⟩
 · cases e
 · have : q = g := by simpa [Value.ownBlock] using e
   subst this
   rw [hg] at hq
   have := Option.some.inj hq
   simp at this
theorem own_neI {B g c m : Nat} {vs : Array Value} {v : Value} {xs : List Value} {W : World} {fr : Nat × Nat} (hg : W.heap[g]? = some (.cells vs 44 fr)) (h : W.ownsRow B 50 c v m xs) : v.ownBlock ≠ some g := by
 intro e
 rcases h.2 with ⟨rfl, _⟩ | ⟨q, cap, cur, rfl, _, hq, _⟩
 · cases e
 · have : q = g := by simpa [Value.ownBlock] using e
   subst this
   rw [hg] at hq
   have := Option.some.inj hq
   simp at this
theorem Bx.keep {B b : Nat} {m1 m2 : Value} {l : List Cd.Fn} {W W' : World} (h : Bx B b m1 m2 l W) (hb : Below W.heap.size W W') : Bx B b m1 m2 l W' := by
 obtain ⟨h0, v, cap, h1, h2⟩ := h
 exact ⟨h0, v, cap, (hb.block b (Array.getElem?_eq_some_iff.1 h1).1).trans h1, Qn h2 hb⟩
theorem Bx.get {B b : Nat} {m1 m2 : Value} {l : List Cd.Fn} {W : World} (h : Bx B b m1 m2 l W) : ∃ v cap, W.cell? ⟨b, 0, none⟩ = some m1 ∧ W.cell? ⟨b, 1, none⟩ = some m2 ∧ W.cell? ⟨b, 2, none⟩ = some (.slice v l.length cap) ∧ W.ownsRow B 50 5 (.slice v l.length cap) l.length (Zw l) ∧ b < W.heap.size := by
 obtain ⟨h0, v, cap, h1, h2⟩ := h
 exact ⟨v, cap, Qk h1 rfl, Qk h1 rfl, Qk h1 rfl, h2, (Array.getElem?_eq_some_iff.1 h1).1⟩
theorem Bx.row {B b : Nat} {m1 m2 : Value} {l : List Cd.Fn} {W : World} (_ : Bx B b m1 m2 l W) {v : Option Addr} {cap : Nat} (ho : W.ownsRow B 50 5 (.slice v l.length cap) l.length (Zw l)) : RowAt W Tt v cap l.length (Zw l) := by
 obtain ⟨a, c, e, hr⟩ := Cd.row_own ho
 cases e
 exact hr.mono fun _ _ => trivial
theorem row_at (W : World) (vs : List Value) (t : TypeId) (B : Nat) (hB : W.heap.size = B) : ∀ j u, vs[j]? = some u → (W.alloc (.cells ⟨vs⟩ t)).cell? ((⟨B, 0, none⟩ : Addr).add j) = some u := by
 subst hB
 intro j u h
 have := Zk W vs t j u h
 have e : (⟨W.heap.size, 0, none⟩ : Addr).add j = ⟨W.heap.size, j, none⟩ := by
  unfold Addr.add
  by_cases h0 : j = 0
  · subst h0; simp
  · simp [h0]
 rw [e]
 exact this
theorem fnCells_app (l : List Cd.Fn) (x : Cd.Fn) : Zw (l ++ [x]) = Zw l ++ x.vals := by unfold Zw; rw [List.flatMap_append]; simp
theorem Bx.step {B b : Nat} {m1 m2 : Value} {l : List Cd.Fn} {W w3 : World} {o : Obj} {v : Option Addr} {cap : Nat} {v' : Value} {x : Cd.Fn} (h : Bx B b m1 m2 l W) (hc : W.cell? ⟨b, 2, none⟩ = some (.slice v l.length cap)) (hgr : (W.alloc o).grownBy w3 (Value.slice v l.length cap).ownBlock)
 (h3 : w3.ownsRow B 50 5 v' (l.length + 1) (Zw l ++ x.vals)) :
 (∃ va vcap, v' = .slice va (l.length + 1) vcap) ∧ (w3.cell? ⟨b, 2, none⟩ = some (.slice v l.length cap) ∧ w3.frozen? ⟨b, 2, none⟩ = false ∧ b < w3.heap.size) ∧ Bx B b m1 m2 (l ++ [x]) (w3.setCell ⟨b, 2, none⟩ v') := by
 obtain ⟨h0, u, ucap, h1, h2⟩ := h
 have e := Qk h1 (j := 2) (u := .slice u l.length ucap) rfl
 rw [hc] at e
 cases e
 have hbl := (Array.getElem?_eq_some_iff.1 h1).1
 have hb3 : w3.heap[b]? = some (.cells #[m1, m2, .slice v l.length cap] 26 (0, 0)) :=
  (hgr.block b (by simp; omega) (fun e => own_neF h1 h2 e.symm)).trans ((Below.heap_alloc _ _ _ hbl).trans h1)
 have hv : ∃ va vcap, v' = .slice va (l.length + 1) vcap := by
  rcases h3.2 with ⟨_, h0⟩ | ⟨g, cap, cur, rfl, _⟩
  · omega
  · exact ⟨_, _, rfl⟩
 refine ⟨hv, ⟨Qk hb3 rfl, Qd hb3 _, (Array.getElem?_eq_some_iff.1 hb3).1⟩, h0, ?_⟩
 obtain ⟨va, vcap, rfl⟩ := hv
 refine ⟨va, vcap, ?_, ?_⟩
 · have := Qy hb3 2 (.slice va (l.length + 1) vcap)
   rw [this, List.length_append]
   simp
 · rw [fnCells_app, List.length_append]
   exact ownsRow_setCell_other h3 (own_neF hb3 h3) _
/-- a block of instructions stays while the Funs grow -/
theorem Bx.other {B b k : Nat} {m1 m2 : Value} {l : List Cd.Fn} {W w3 : World} {o : Obj} {v : Option Addr} {cap : Nat} {u : Value} {vs : Array Value} {fr : Nat × Nat} (h : Bx B b m1 m2 l W) (hc : W.cell? ⟨b, 2, none⟩ = some (.slice v l.length cap)) (ho : W.ownsRow B 50 5 (.slice v l.length cap) l.length (Zw l)) (hgr : (W.alloc o).grownBy w3 (Value.slice v l.length cap).ownBlock)
 (hk : W.heap[k]? = some (.cells vs 44 fr)) : (w3.setCell ⟨b, 2, none⟩ u).heap[k]? = some (.cells vs 44 fr) := by
 have hkl := (Array.getElem?_eq_some_iff.1 hk).1
 have hkb : k ≠ b := by
  intro e
  subst e
  obtain ⟨h0, u, ucap, h1, h2⟩ := h
  rw [hk] at h1
  have := Option.some.inj h1
  simp at this
 rw [Zh hkb]
 exact (hgr.block k (by simp; omega) (fun e => own_neI hk ho e.symm)).trans ((Below.heap_alloc _ _ _ hkl).trans hk)
end Go.Proofs.YthiiahlgncngoaaDoorRR.Fw
namespace Go.Proofs.YthiiahlgncngoaaDoorRR.Cd
open Go Go.RowKit
open Go.Proofs.YthiiahlgncngoaaDoorRR.Lx Go.Proofs.YthiiahlgncngoaaDoorRR.Tr
/-! ### what may be is told by how Funs look from outside -/
/-- a Fun as another one sees it -/
def faceP (f : Fn) : Bool × Int := (f.thread, f.params)
/-- two programs whose instructions see the same -/
structure Alike (p q : Pg) : Prop where
 mems : p.mems.length = q.mems.length
 locks : p.locks.length = q.locks.length
 funs : p.funs.map faceP = q.funs.map faceP
theorem Alike.get {p q : Pg} (h : Alike p q) (n : Nat) : (p.funs[n]?).map faceP = (q.funs[n]?).map faceP := by
 rw [← List.getElem?_map, ← List.getElem?_map, h.funs]
theorem Alike.len {p q : Pg} (h : Alike p q) : p.funs.length = q.funs.length := by
 have := congrArg List.length h.funs
 simpa using this
/-! ### names -/
/-! ### another instruction in the place of one -/
theorem mayP_parts {p : Pg} (h : mayP p = true) : Zg p = true ∧ sizesP p.mems = true ∧ (Xw p).length ≤ 16 ∧ p.funs.all Xd = true ∧ p.funs.all (Xq p) = true := by
 unfold mayP at h
 simp only [Bool.and_eq_true, decide_eq_true_eq] at h
 exact ⟨h.1, h.2.1, h.2.2.1, h.2.2.2.1, h.2.2.2.2⟩
/-! ### without addresses -/
def Ins.er (i : Ins) : Ins := { i with aa := none, acap := 0 }
def Fn.er (f : Fn) : Fn := { f with ca := none, ccap := 0, code := f.code.map Ins.er }
def Pg.er (p : Pg) : Pg := ⟨none, 0, p.mems, none, 0, p.locks, none, 0, p.funs.map Fn.er⟩
end Go.Proofs.YthiiahlgncngoaaDoorRR.Cd
namespace Go.Proofs.YthiiahlgncngoaaDoorRR.Fw
open Go Go.RowKit
open Go.Proofs.YthiiahlgncngoaaDoorRR.Lx Go.Proofs.YthiiahlgncngoaaDoorRR.Tr Go.Proofs.YthiiahlgncngoaaDoorRR.Cd
theorem phisF_app (regs : Int) (l r : List Bk) (k : Nat) : phisF regs k (l ++ r) = (phisF regs k l && phisF regs (k + l.length) r) := by
 induction l generalizing k with
 | nil => simp [phisF]
 | cons f l ih => rw [List.cons_append, phisF, phisF, ih (k + 1), Bool.and_assoc, List.length_cons, show k + 1 + l.length = k + (l.length + 1) by omega]
theorem phisF_take {regs : Int} {l : List Bk} {k : Nat} {x : Bk} (h : l[k]? = some x) : phisF regs 0 (l.take (k + 1)) = (phisF regs 0 (l.take k) && phisB regs k x) := by
 have hk : k < l.length := (List.getElem?_eq_some_iff.1 h).1
 rw [List.take_add_one, h, phisF_app]
 have : (l.take k).length = k := by rw [List.length_take]; omega
 rw [this]
 simp [phisF]
theorem phisF_no {regs : Int} {l : List Bk} {k : Nat} {x : Bk} (h : l[k]? = some x) (hx : phisB regs k x = false) : phisF regs 0 l = false := by
 have e : l = l.take (k + 1) ++ l.drop (k + 1) := (List.take_append_drop _ _).symm
 rw [e, phisF_app, phisF_take h, hx]
 simp
theorem phisB_zero {regs : Int} {x : Bk} (h : 0 < x.phis.length) : phisB regs 0 x = false := by unfold phisB; simp [h]
theorem phisB_all {regs : Int} {k : Nat} {x : Bk} (h : ¬ (k = 0 ∧ 0 < x.phis.length)) : phisB regs k x = x.phis.all (phiP x.fm.length regs) := by
 unfold phisB
 by_cases h0 : k = 0
 · have : ¬ 0 < x.phis.length := fun h1 => h ⟨h0, h1⟩
   rw [decide_eq_false this]; simp
 · rw [decide_eq_false h0]; simp
theorem phiP_eq (n : Nat) (regs : Int) (x : Ph) : phiP n regs x = (decide (x.args.length = n) && (inP x.r regs && x.args.all (fun y => inP y regs))) := rfl
theorem box5 (w : World) (x : Gr) : let W := w.alloc (.cells #[.string x.name, .bool x.thread, .int .i64 x.params, .int .i64 x.regs, .slice x.ba x.blocks.length x.bcap] 37)
 W.cell? ⟨w.heap.size, 0, none⟩ = some (.string x.name) ∧ W.cell? ⟨w.heap.size, 1, none⟩ = some (.bool x.thread) ∧ W.cell? ⟨w.heap.size, 2, none⟩ = some (.int .i64 x.params) ∧ W.cell? ⟨w.heap.size, 3, none⟩ = some (.int .i64 x.regs) ∧ W.cell? ⟨w.heap.size, 4, none⟩ = some (.slice x.ba x.blocks.length x.bcap) := by
 intro W
 have h1 : ∀ j u, x.vals[j]? = some u → W.cell? ⟨w.heap.size, j, none⟩ = some u := fun j u hu => Zk w x.vals 37 j u hu
 exact ⟨h1 0 _ rfl, h1 1 _ rfl, h1 2 _ rfl, h1 3 _ rfl, h1 4 _ rfl⟩
theorem box2 (w : World) (x : Ph) : let W := w.alloc (.cells #[.int .i64 x.r, .slice x.aa x.args.length x.acap] 90)
 W.cell? ⟨w.heap.size, 0, none⟩ = some (.int .i64 x.r) ∧ W.cell? ⟨w.heap.size, 1, none⟩ = some (.slice x.aa x.args.length x.acap) := by
 intro W
 have h1 : ∀ j u, x.vals[j]? = some u → W.cell? ⟨w.heap.size, j, none⟩ = some u := fun j u hu => Zk w x.vals 90 j u hu
 exact ⟨h1 0 _ rfl, h1 1 _ rfl⟩
theorem mayPhis_c (g : Gr) (w : World) (hg : Gr.In w g) :
 Calls Tryd.prog 63 #[.agg ⟨g.vals⟩] w fun e w' => e = .returned (.bool (phisF g.regs 0 g.blocks)) ∧ Below w.heap.size w w' := by
 obtain ⟨hc1, hc2⟩ := Q2 hg.row
 have hR := Lh (fun V (hv : Below w.heap.size w V) => hg.row.below (Kps.of_below hv))
 have hX := Lh (fun (x : Bk) V (hx : x ∈ g.blocks) (hv : Below w.heap.size w V) => (hg.blocks x hx).keep hv)
 have hW := Lh (fun n m V => within_c n m V)
 have hE := Lh (fun (l : List Int) n a cap V h => each_c l n a cap V h)
 have hst := Lh (Qh w (.cells #[.string g.name, .bool g.thread, .int .i64 g.params, .int .i64 g.regs, .slice g.ba g.blocks.length g.bcap] 37))
 have hq := Lh (box5 w g)
 clear hg
 obtain ⟨name, thread, params, regs, ba, bcap, blocks⟩ := g
 simp only at *
 unfold Gr.vals
 simp only
 go_enter Tryd.func63, Tryd.ntmps63
 go_upto_region 1 with fail
 generalize hW0 : w.alloc (.cells #[.string name, .bool thread, .int .i64 params, .int .i64 regs, .slice ba blocks.length bcap] 37) = W0 at *
 obtain ⟨q0, q1, q2, q3, q4⟩ := hq.out
 replace q3 := Lh q3
 have hlw : w.heap.size < W0.heap.size := World.block_lt_of_cell? _ _ q0
 clear hW0 hq q0 q1 q2
 go_wp2_with fail
 go_loopw [10] (fun i wr => ∃ k : Nat, k ≤ blocks.length ∧ i = .int .i64 k ∧ Hid (phisF regs 0 (blocks.take k) = true) ∧ Hid (Below W0.heap.size W0 wr)) (fun i _ => blocks.length - (intOf i).toNat)
 case atStart => exact ⟨0, Nat.zero_le _, rfl, Lh rfl, Lh (Below.refl _ _)⟩
 case round =>
  obtain ⟨k, hk, rfl, hall, hb⟩ := hrel
  have hbw := Lh (hst.out.trans (hb.out.mono hst.out.size))
  by_cases hlt : k < blocks.length
  · obtain ⟨x, hx⟩ : ∃ x, blocks[k]? = some x := ⟨_, List.getElem?_eq_getElem hlt⟩
    obtain ⟨b, off, ha, _, c0, c1, c2, c3⟩ := X4 (hR.out _ hbw.out) k x hx
    have hbl : b < wr.heap.size := World.block_lt_of_cell? _ _ c0
    have hi0' : (0 : Int) ≤ (k : Int) := by omega
    have hi1 : (k : Int) < (blocks.length : Int) := by omega
    have hxm := List.mem_of_getElem? hx
    have hno := Lh (fun h => phisF_no (regs := regs) hx h)
    have hyes := Lh (phisF_take (regs := regs) hx)
    have hbe := Lh (Qh wr (.cells #[.slice x.pa x.phis.length x.pcap, .slice x.ca x.code.length x.ccap, .slice x.fa x.fm.length x.fcap, .slice x.ta x.tt.length x.tcap] 42))
    have hbx := Lh (hbw.out.trans (hbe.out.mono hbw.out.size))
    have hb0 := Lh (hb.out.trans (hbe.out.mono hb.out.size))
    have hqx := Lh (box4 wr x)
    have hI := Lh (fun V (hv : Below w.heap.size w V) => hX.out x V hxm hv)
    obtain ⟨cp1, cp2⟩ := Q2 (hX.out x _ hxm hbw.out).prow
    obtain ⟨cf1, cf2⟩ := Q2 (hX.out x _ hxm hbw.out).frow
    clear hX hx hxm
    subst ha
    by_cases hz : k = 0 ∧ 0 < x.phis.length
    · obtain ⟨hz1, hz2⟩ := hz
      have hk1 : ((k : Int) == 0) = true := by simp [hz1]
      have hfin := Lh (hno.out (by rw [hz1]; exact phisB_zero hz2))
      clear hz1
      have hz3 : (0 : Int) < (x.phis.length : Int) := by omega
      clear hno hyes hI hqx
      go_wp2_with fail
      go_ret
      exact ⟨Qi (by rw [hfin.out]), hbx.out⟩
    · have hpa := Lh (phisB_all (regs := regs) hz)
      obtain ⟨p0, p1, p2, p3⟩ := hqx.out
      replace p2 := Lh p2
      clear p1 p3
      obtain ⟨W1, hW1⟩ : ∃ W1, W1 = wr.alloc (.cells #[.slice x.pa x.phis.length x.pcap, .slice x.ca x.code.length x.ccap, .slice x.fa x.fm.length x.fcap, .slice x.ta x.tt.length x.tcap] 42) := ⟨_, rfl⟩
      rw [← hW1] at hbx hb0 p2 p0
      have hlx : wr.heap.size < W1.heap.size := World.block_lt_of_cell? _ _ p0
      by_cases hk0 : k = 0
      · have hpl : ¬ (0 : Int) < (x.phis.length : Int) := by omega
        have hk1 : ((k : Int) == 0) = true := by simp [hk0]
        clear hz hqx hbe hk0
        go_upto_region 6 with fail
        rw [← hW1]
        clear hW1
        go_wp2_with fail
        go_loopw [26] (fun i wq => ∃ j : Nat, j ≤ x.phis.length ∧ i = .int .i64 j ∧ Hid ((x.phis.take j).all (phiP x.fm.length regs) = true) ∧ Hid (Below W1.heap.size W1 wq)) (fun i _ => x.phis.length - (intOf i).toNat)
        case atStart => exact ⟨0, Nat.zero_le _, rfl, Lh rfl, Lh (Below.refl _ _)⟩
        case round =>
         obtain ⟨j, hj, rfl, hallj, hbq⟩ := hrel
         have g1 := Lh (hbx.out.trans (hbq.out.mono hbx.out.size))
         have g0 := Lh (hb0.out.trans (hbq.out.mono hb0.out.size))
         by_cases hjt : j < x.phis.length
         · exfalso; omega
         · have hjj : j = x.phis.length := by omega
           have hn : Hid (phisF regs 0 (blocks.take (k + 1)) = true) := Lh (by
            rw [hyes.out, hall.out, hpa.out, ← List.take_length (l := x.phis), ← hjj, hallj.out]; rfl)
           clear hjj hallj
           go_wp2_with fail
           go_roundw
           case rel => exact ⟨k + 1, by omega, by go_num, hn, g0⟩
           case measure => simp [intOf]; omega
      · have hk1 : ((k : Int) == 0) = false := ne_b (by omega)
        clear hz hqx hbe hk0
        go_upto_region 6 with fail
        rw [← hW1]
        clear hW1
        go_wp2_with fail
        go_loopw [26] (fun i wq => ∃ j : Nat, j ≤ x.phis.length ∧ i = .int .i64 j ∧ Hid ((x.phis.take j).all (phiP x.fm.length regs) = true) ∧ Hid (Below W1.heap.size W1 wq)) (fun i _ => x.phis.length - (intOf i).toNat)
        case atStart => exact ⟨0, Nat.zero_le _, rfl, Lh rfl, Lh (Below.refl _ _)⟩
        case round =>
         obtain ⟨j, hj, rfl, hallj, hbq⟩ := hrel
         have g1 := Lh (hbx.out.trans (hbq.out.mono hbx.out.size))
         have g0 := Lh (hb0.out.trans (hbq.out.mono hb0.out.size))
         by_cases hjt : j < x.phis.length
         · obtain ⟨y, hy⟩ : ∃ y, x.phis[j]? = some y := ⟨_, List.getElem?_eq_getElem hjt⟩
           obtain ⟨b', off', ha', _, d0, d1⟩ := ph_row (hI.out _ g1.out).prow j y hy
           have hbl' : b' < wr.heap.size := World.block_lt_of_cell? _ _ d0
           have hyI := (hI.out _ g1.out).phis y (List.mem_of_getElem? hy)
           have hj0' : (0 : Int) ≤ (j : Int) := by omega
           have hj1 : (j : Int) < (x.phis.length : Int) := by omega
           have hnoj := Lh (fun h => hno.out (by rw [hpa.out]; exact all_no hy h))
           have hyesj := Lh (Z4 (f := phiP x.fm.length regs) hy)
           have hpe := Lh (phiP_eq x.fm.length regs y)
           have hbe2 := Lh (Qh wr (.cells #[.int .i64 y.r, .slice y.aa y.args.length y.acap] 90))
           have g2 := Lh (g1.out.trans (hbe2.out.mono g1.out.size))
           have g3 := Lh (hbq.out.trans (hbe2.out.mono hbq.out.size))
           obtain ⟨r0, r1⟩ := box2 wr y
           have s2 := Qe hbe2.out (Qe hbq.out p2.out)
           have s3 := Qe hbe2.out (Qe g0.out q3.out)
           obtain ⟨cy1, cy2⟩ := Q2 hyI.row
           have hE1 := Lh (fun V (hv : Below wr.heap.size wr V) => hE.out y.args regs y.aa y.acap V (hyI.row.below (Kps.of_below hv)))
           rw [ha']
           clear hy ha' hyI hbe2
           by_cases h1 : y.args.length = x.fm.length
           · have e1 : ((y.args.length : Int) != (x.fm.length : Int)) = false := by rw [h1]; simp
             have hpe1 : Hid (phiP x.fm.length regs y = (inP y.r regs && y.args.all (fun z => inP z regs))) := Lh (by rw [hpe.out, decide_eq_true h1]; rfl)
             clear h1 hpe
             cases h2 : inP y.r regs
             · have hW1 := fun V => hW.out y.r regs V
               rw [h2] at hW1
               replace hW1 := Lh hW1
               have hfin := Lh (hnoj.out (by rw [hpe1.out, h2]; rfl))
               clear hpe1 h2 hnoj hyesj hallj hE1
               go_wp2_with fail
               refine (hW1.out _).mono ?_
               rintro e w3 ⟨rfl, hb3⟩
               have g4 := Lh (g2.out.trans (hb3.mono g2.out.size))
               clear hb3
               go_wp2_with fail
               go_ret
               exact ⟨Qi hfin.out.symm, g4.out⟩
             · have hW1 := fun V => hW.out y.r regs V
               rw [h2] at hW1
               replace hW1 := Lh hW1
               cases h3 : y.args.all (fun z => inP z regs)
               · rw [h3] at hE1
                 have hfin := Lh (hnoj.out (by rw [hpe1.out, h2, h3]; rfl))
                 clear hpe1 h2 h3 hnoj hyesj hallj
                 go_wp2_with fail
                 refine (hW1.out _).mono ?_
                 rintro e w3 ⟨rfl, hb3⟩
                 have t1 := Qe hb3 r1
                 have t3 := Qe hb3 s3
                 have hb4 := Lh ((Qh wr (.cells #[.int .i64 y.r, .slice y.aa y.args.length y.acap] 90)).trans (hb3.mono (by simp)))
                 have g4 := Lh (g2.out.trans (hb3.mono g2.out.size))
                 clear hb3 r0 r1 s2 s3
                 go_wp2_with fail
                 refine (hE1.out _ hb4.out).mono ?_
                 rintro e w4 ⟨rfl, hb5⟩
                 have g5 := Lh (g4.out.trans (hb5.mono g4.out.size))
                 clear hb5
                 go_wp2_with fail
                 go_ret
                 exact ⟨Qi hfin.out.symm, g5.out⟩
               · rw [h3] at hE1
                 have hn : Hid ((x.phis.take (j + 1)).all (phiP x.fm.length regs) = true) := Lh (by rw [hyesj.out, hallj.out, hpe1.out, h2, h3]; rfl)
                 clear hpe1 h2 h3 hnoj hyesj hallj
                 go_wp2_with fail
                 refine (hW1.out _).mono ?_
                 rintro e w3 ⟨rfl, hb3⟩
                 have t1 := Qe hb3 r1
                 have t3 := Qe hb3 s3
                 have hb4 := Lh ((Qh wr (.cells #[.int .i64 y.r, .slice y.aa y.args.length y.acap] 90)).trans (hb3.mono (by simp)))
                 have g4 := Lh (g3.out.trans (hb3.mono g3.out.size))
                 clear hb3 r0 r1 s2 s3
                 go_wp2_with fail
                 refine (hE1.out _ hb4.out).mono ?_
                 rintro e w4 ⟨rfl, hb5⟩
                 have g5 := Lh (g4.out.trans (hb5.mono g4.out.size))
                 clear hb5
                 go_wp2_with fail
                 go_roundw
                 case rel => exact ⟨j + 1, by omega, by go_num, hn, g5⟩
                 case measure => simp [intOf]; omega
           · have e1 := ne_n (a := (y.args.length : Int)) (b := (x.fm.length : Int)) (by omega)
             have hfin := Lh (hnoj.out (by rw [hpe.out, decide_eq_false h1]; rfl))
             clear h1 hpe hnoj hyesj hallj hE1
             go_wp2_with fail
             go_ret
             exact ⟨Qi hfin.out.symm, g2.out⟩
         · have hjj : j = x.phis.length := by omega
           have hn : Hid (phisF regs 0 (blocks.take (k + 1)) = true) := Lh (by
            rw [hyes.out, hall.out, hpa.out, ← List.take_length (l := x.phis), ← hjj, hallj.out]; rfl)
           clear hjj hallj
           go_wp2_with fail
           go_roundw
           case rel => exact ⟨k + 1, by omega, by go_num, hn, g0⟩
           case measure => simp [intOf]; omega
  · have hk2 : k = blocks.length := by omega
    subst hk2
    rw [List.take_length] at hall
    go_wp2_with fail
    go_ret
    exact ⟨Qi hall.out.symm, hbw.out⟩
def jmp : Ins := ⟨11, 0, 0, 0, 0, none, 0, []⟩
/-- a graph's Fun, as it lies -/
def outA (x : Gr) (c : Nat) (r : Bool) : Cd.Fn := ⟨x.name, x.thread, x.params, if r then x.regs else x.params, some ⟨c, 0, none⟩, 1, [jmp]⟩
theorem outA_er (x : Gr) (c : Nat) (r : Bool) : (outA x c r).er = (outFn x r).er := rfl
/-- Funs that say what graphs' ones say, the first ones with their registers; where their instructions lie -/
structure Outs (k : Nat) (l : List Cd.Fn) (gs : List Gr) (W : World) : Prop where
 er : l.map Cd.Fn.er = (outFns k gs).map Cd.Fn.er
 at_ : ∀ f ∈ l, ∃ x ∈ gs, ∃ c r, f = outA x c r ∧ W.heap[c]? = some (.cells #[.int .u8 11, .int .i64 0, .int .i64 0, .int .i64 0, .int .i64 0, .slice none 0 0] 44 (0, 0))
theorem outFns_len (k : Nat) (gs : List Gr) : (outFns k gs).length = gs.length := by
 induction gs generalizing k with
 | nil => rfl
 | cons x r ih => simp [outFns, ih]
theorem outFns_zero (gs : List Gr) : outFns 0 gs = gs.map fun x => outFn x false := by
 induction gs with
 | nil => rfl
 | cons x r ih => simp [outFns, ih]
theorem Outs.len {k : Nat} {l : List Cd.Fn} {gs : List Gr} {W : World} (h : Outs k l gs W) : l.length = gs.length := by
 have := congrArg List.length h.er
 simpa [outFns_len] using this
theorem Outs.nil (k : Nat) (W : World) : Outs k [] [] W := ⟨rfl, fun f hf => by cases hf⟩
theorem Outs.snoc {l : List Cd.Fn} {gs : List Gr} {x : Gr} {k c : Nat} {W W' : World} (hx : gs[k]? = some x) (h : Outs 0 l (gs.take k) W)
 (hk : ∀ (c : Nat) vs fr, W.heap[c]? = some (.cells vs 44 fr) → W'.heap[c]? = some (.cells vs 44 fr))
 (hc : W'.heap[c]? = some (.cells #[.int .u8 11, .int .i64 0, .int .i64 0, .int .i64 0, .int .i64 0, .slice none 0 0] 44 (0, 0))) :
 Outs 0 (l ++ [outA x c false]) (gs.take (k + 1)) W' := by
 refine ⟨?_, fun f hf => ?_⟩
 · rw [List.take_add_one, hx, outFns_zero, List.map_append, h.er, outFns_zero]
   simp [outA_er]
 · rcases List.mem_append.1 hf with hf | hf
   · obtain ⟨y, hy, c, r, e, hh⟩ := h.at_ f hf
     exact ⟨y, List.take_subset_take_left gs (Nat.le_succ k) hy, c, r, e, hk c _ _ hh⟩
   · rw [List.mem_singleton.1 hf]
     refine ⟨x, ?_, c, false, rfl, hc⟩
     rw [List.take_add_one, hx]
     simp
theorem Outs.keep {k : Nat} {l : List Cd.Fn} {gs : List Gr} {W W' : World} (h : Outs k l gs W) (hb : Below W.heap.size W W') : Outs k l gs W' :=
 ⟨h.er, fun f hf => by
  obtain ⟨x, hx, c, r, e, hh⟩ := h.at_ f hf
  exact ⟨x, hx, c, r, e, (hb.block c (Array.getElem?_eq_some_iff.1 hh).1).trans hh⟩⟩
theorem Outs.set {k b j : Nat} {l : List Cd.Fn} {gs : List Gr} {W : World} {vs : Array Value} {fr : Nat × Nat} (h : Outs k l gs W) (hb : W.heap[b]? = some (.cells vs 26 fr)) (u : Value) : Outs k l gs (W.setCell ⟨b, j, none⟩ u) :=
 ⟨h.er, fun f hf => by
  obtain ⟨x, hx, c, r, e, hh⟩ := h.at_ f hf
  refine ⟨x, hx, c, r, e, ?_⟩
  rw [Zh (fun e => ?_)]
  · exact hh
  · subst e
    rw [hb] at hh
    have := Option.some.inj hh
    simp at this⟩
theorem box3 (w : World) (x : Fm) : let W := w.alloc (.cells #[.slice x.ma x.mems.length x.mcap, .slice x.la x.locks.length x.lcap, .slice x.fa x.funs.length x.fcap] 30)
 W.cell? ⟨w.heap.size, 0, none⟩ = some (.slice x.ma x.mems.length x.mcap) ∧ W.cell? ⟨w.heap.size, 1, none⟩ = some (.slice x.la x.locks.length x.lcap) ∧ W.cell? ⟨w.heap.size, 2, none⟩ = some (.slice x.fa x.funs.length x.fcap) := by
 intro W
 have h1 : ∀ j u, x.vals[j]? = some u → W.cell? ⟨w.heap.size, j, none⟩ = some u := fun j u hu => Zk w x.vals 30 j u hu
 exact ⟨h1 0 _ rfl, h1 1 _ rfl, h1 2 _ rfl⟩
def Z8 (i : Ins) : Ins :=
 if i.n < 0 then i
 else if i.op = 5 ∨ i.op = 6 ∨ i.op = 7 ∨ i.op = 8 then { i with n := 0 }
 else if i.op = 10 then { i with n := 1 + (i.args.length : Int) }
 else i
theorem someNumber_c (i : Ins) (w : World) (hl : i.args.length ≤ 4611686018427387904) :
 Calls Tryd.prog 96 #[.agg #[.int .u8 i.op, .int .i64 i.r, .int .i64 i.a, .int .i64 i.b, .int .i64 i.n, .slice i.aa i.args.length i.acap]] w fun e w' => e = .returned (.agg ⟨(Z8 i).vals⟩) ∧ Below w.heap.size w w' := by
 obtain ⟨op, r, a, b, n, aa, acap, args⟩ := i
 simp only at hl ⊢
 by_cases hn : n < 0
 · have hs : Z8 ⟨op, r, a, b, n, aa, acap, args⟩ = ⟨op, r, a, b, n, aa, acap, args⟩ := by simp [Z8, hn]
   rw [hs]
   clear hs
   go_enter Tryd.func96, Tryd.ntmps96
   go_wp2_with fail
   exact bodyPost_ret (v := .agg ⟨(⟨op, r, a, b, n, aa, acap, args⟩ : Ins).vals⟩) (results_cell_row Tryd.results96 _ _ (w.heap.size + 1) _ _ _ _ rfl (Qt _ _ (by simp)) Tryd.underlying44 rfl (by kernel_rfl)) rfl ⟨rfl, Zc _ _ _⟩
 · have hn' : ¬ n < 0 := hn
   by_cases h : op = 5 ∨ op = 6 ∨ op = 7 ∨ op = 8
   · have hs : Z8 ⟨op, r, a, b, n, aa, acap, args⟩ = ⟨op, r, a, b, 0, aa, acap, args⟩ := by simp [Z8, hn, h]
     rw [hs]
     clear hs
     rcases h with rfl | rfl | rfl | rfl
     · go_enter Tryd.func96, Tryd.ntmps96
       go_wp2_with fail
       exact bodyPost_ret (v := .agg ⟨(⟨5, r, a, b, 0, aa, acap, args⟩ : Ins).vals⟩) (results_cell_row Tryd.results96 _ _ (w.heap.size + 1) _ _ _ _ rfl (Qt _ _ (by simp)) Tryd.underlying44 rfl (by kernel_rfl)) rfl ⟨rfl, Zc _ _ _⟩
     · go_enter Tryd.func96, Tryd.ntmps96
       go_wp2_with fail
       exact bodyPost_ret (v := .agg ⟨(⟨6, r, a, b, 0, aa, acap, args⟩ : Ins).vals⟩) (results_cell_row Tryd.results96 _ _ (w.heap.size + 1) _ _ _ _ rfl (Qt _ _ (by simp)) Tryd.underlying44 rfl (by kernel_rfl)) rfl ⟨rfl, Zc _ _ _⟩
     · go_enter Tryd.func96, Tryd.ntmps96
       go_wp2_with fail
       exact bodyPost_ret (v := .agg ⟨(⟨7, r, a, b, 0, aa, acap, args⟩ : Ins).vals⟩) (results_cell_row Tryd.results96 _ _ (w.heap.size + 1) _ _ _ _ rfl (Qt _ _ (by simp)) Tryd.underlying44 rfl (by kernel_rfl)) rfl ⟨rfl, Zc _ _ _⟩
     · go_enter Tryd.func96, Tryd.ntmps96
       go_wp2_with fail
       exact bodyPost_ret (v := .agg ⟨(⟨8, r, a, b, 0, aa, acap, args⟩ : Ins).vals⟩) (results_cell_row Tryd.results96 _ _ (w.heap.size + 1) _ _ _ _ rfl (Qt _ _ (by simp)) Tryd.underlying44 rfl (by kernel_rfl)) rfl ⟨rfl, Zc _ _ _⟩
   · have h5 := ne_b (a := op) (b := 5) (by omega)
     have h6 := ne_b (a := op) (b := 6) (by omega)
     have h7 := ne_b (a := op) (b := 7) (by omega)
     have h8 := ne_b (a := op) (b := 8) (by omega)
     by_cases h10 : op = 10
     · subst h10
       have hs : Z8 ⟨10, r, a, b, n, aa, acap, args⟩ = ⟨10, r, a, b, 1 + (args.length : Int), aa, acap, args⟩ := by simp [Z8, hn]
       rw [hs]
       clear hs h5 h6 h7 h8 h
       have hw : IntKind.i64.wrap (1 + (args.length : Int)) = 1 + (args.length : Int) := IntWalk.i64_in (1 + (args.length : Int)) (by omega)
       go_enter Tryd.func96, Tryd.ntmps96
       go_wp2_with fail
       exact bodyPost_ret (v := .agg ⟨(⟨10, r, a, b, 1 + (args.length : Int), aa, acap, args⟩ : Ins).vals⟩) (results_cell_row Tryd.results96 _ _ (w.heap.size + 1) _ _ _ _ rfl (Qt _ _ (by simp)) Tryd.underlying44 rfl (by kernel_rfl)) rfl ⟨rfl, Zc _ _ _⟩
     · have h11 := ne_b h10
       have hs : Z8 ⟨op, r, a, b, n, aa, acap, args⟩ = ⟨op, r, a, b, n, aa, acap, args⟩ := by simp [Z8, hn, h, h10]
       rw [hs]
       clear hs h h10
       go_enter Tryd.func96, Tryd.ntmps96
       go_wp2_with fail
       exact bodyPost_ret (v := .agg ⟨(⟨op, r, a, b, n, aa, acap, args⟩ : Ins).vals⟩) (results_cell_row Tryd.results96 _ _ (w.heap.size + 1) _ _ _ _ rfl (Qt _ _ (by simp)) Tryd.underlying44 rfl (by kernel_rfl)) rfl ⟨rfl, Zc _ _ _⟩
end Go.Proofs.YthiiahlgncngoaaDoorRR.Fw
set_option linter.unusedSimpArgs false
set_option linter.unusedVariables false
namespace Go.Proofs.YthiiahlgncngoaaDoorRR.Fw
open Go Go.RowKit
open Go.Proofs.YthiiahlgncngoaaDoorRR.Lx Go.Proofs.YthiiahlgncngoaaDoorRR.Tr Go.Proofs.YthiiahlgncngoaaDoorRR.Cd
open Go.Proofs.YthiiahlgncngoaaDoorRR.Vq Go.Proofs.YthiiahlgncngoaaDoorRR.Qr Go.Proofs.YthiiahlgncngoaaDoorRR.QrT
theorem steps_front {P : Program} {l : List Oper} {Q : Exit → Act → World → Prop} {C : World → Prop} {R : Nat → Value → World → Prop} {a0 : Act} (m : Nat) (h : StepsL P l.toArray Q C R a0 0 (l.take m)) : ∀ j o, j < m → l.toArray[j]? = some o → Step P l.toArray Q C R a0 j o := fun j o hj ho => by
 have := stepsL_get (l.take m) 0 j o h (by rw [List.getElem?_take, if_pos hj]; simpa using ho)
 rwa [Nat.zero_add] at this
theorem mk_mem (V : World) : (Instr.makeSlice 22 (.int .i64 1) (.int .i64 1)).run Tryd.prog V = .ok (.slice (some ⟨V.heap.size, 0, none⟩) 1 1) (V.alloc (.cells #[.string ⟨#[]⟩, .int .i64 0, .int .i64 0] 57)) := by kernel_rfl
theorem mk_str (V : World) : (Instr.makeSlice 23 (.int .i64 1) (.int .i64 1)).run Tryd.prog V = .ok (.slice (some ⟨V.heap.size, 0, none⟩) 1 1) (V.alloc (.cells #[.string ⟨#[]⟩] 9)) := by kernel_rfl
theorem mk_ins (V : World) : (Instr.makeSlice 39 (.int .i64 1) (.int .i64 1)).run Tryd.prog V = .ok (.slice (some ⟨V.heap.size, 0, none⟩) 1 1) (V.alloc (.cells #[.int .u8 0, .int .i64 0, .int .i64 0, .int .i64 0, .int .i64 0, .slice none 0 0] 44)) := by kernel_rfl
theorem mk_fn1 (V : World) (regs : Int) (a : Option Addr) : (Instr.buildSlice 24 1 #[(0, .agg #[.string ⟨#[]⟩, .bool false, .int .i64 0, .int .i64 regs, .slice a 1 1])]).run Tryd.prog V = .ok (.slice (some ⟨V.heap.size, 0, none⟩) 1 1) (V.alloc (.cells #[.string ⟨#[]⟩, .bool false, .int .i64 0, .int .i64 regs, .slice a 1 1] 50)) := by kernel_rfl
def VS1 (v : Value) (_ : World) : Prop := ∃ a, v = .slice a 1 1
theorem VS1.mono : Mono VS1 := fun _ _ _ _ h => h
def VFz (regs : Int) (v : Value) (_ : World) : Prop := ∃ a, v = .agg #[.string ⟨#[]⟩, .bool false, .int .i64 0, .int .i64 regs, .slice a 1 1]
theorem VFz.mono {regs : Int} : Mono (VFz regs) := fun _ _ _ _ h => h
def VFr (B : Nat) (regs : Int) (v : Value) (w : World) : Prop := ∃ a g, v = .slice (some ⟨g, 0, none⟩) 1 1 ∧ w.ownsRow B 50 5 v 1 [.string ⟨#[]⟩, .bool false, .int .i64 0, .int .i64 regs, .slice a 1 1]
theorem VFr.mono {B : Nat} {regs : Int} : Mono (VFr B regs) := fun _ _ _ hb ⟨a, g, h, h2⟩ => ⟨a, g, h, Qn h2 hb⟩
def VPz (B : Nat) (regs : Int) (v : Value) (w : World) : Prop := ∃ a a' v3, v = .agg #[.slice a 1 1, .slice a' 1 1, v3] ∧ VFr B regs v3 w
theorem VPz.mono {B : Nat} {regs : Int} : Mono (VPz B regs) := fun _ _ _ hb ⟨a, a', v3, h, h2⟩ => ⟨a, a', v3, h, VFr.mono _ _ _ hb h2⟩
def VBx (B : Nat) (v : Value) (w : World) : Prop := ∃ b, v = .pointer (some ⟨b, 0, none⟩) ∧ B ≤ b ∧ w.heap[b]? = some (.cells #[.slice none 0 0, .slice none 0 0, .slice none 0 0] 26 (0, 0))
theorem VBx.mono {B : Nat} : Mono (VBx B) := fun _ _ _ hb ⟨b, h, h1, h2⟩ => ⟨b, h, h1, (hb.block b (Array.getElem?_eq_some_iff.1 h2).1).trans h2⟩
def ra (B bx : Nat) (regs : Int) : List (Value → World → Prop) :=
 [VS1, VS1, VK (.pointer (some ⟨bx, 3, none⟩)), VK (.int .i64 regs), VS1, VFz regs, VFr B regs, VPz B regs, VBx B]
theorem ra_mono {B bx : Nat} {regs : Int} : MonoL (ra B bx regs) := ⟨VS1.mono, VS1.mono, VK.mono, VK.mono, VS1.mono, VFz.mono, VFr.mono, VPz.mono, VBx.mono, trivial⟩
theorem fl_g3 {V : World} {b : Nat} : (Instr.fieldAt 37 (.pointer (some ⟨b, 0, none⟩)) 3).run Tryd.prog V = .ok (.pointer (some ⟨b, 3, none⟩)) V := by go_simp
theorem Q4 {P : Program} {a : Act} {o : Oper} {t : TypeId} {x : Operand} {u v : Value} {k : Nat} {w w' : World} (ho : o.op = .fieldAddr t x k) (hx : a.eval x = u) (hr : (Instr.fieldAt t u k).run P w = .ok v w') : (execOp a.eval o).run P w = .ok (.value v) w' := by
 subst hx
 unfold execOp
 simp [ho, hr]
theorem run_al {P : Program} {a : Act} {o : Oper} {t : TypeId} {v : Value} {w w' : World} (ho : o.op = .alloc t) (hr : (Instr.alloc t true (.tuple #[])).run P w = .ok v w') : (execOp a.eval o).run P w = .ok (.value v) w' := by
 unfold execOp
 simp [ho, hr]
theorem al_prog (V : World) : (Instr.alloc 26 true (.tuple #[])).run Tryd.prog V = .ok (.pointer (some ⟨V.heap.size, 0, none⟩)) (V.alloc (.cells #[.slice none 0 0, .slice none 0 0, .slice none 0 0] 26)) := by go_simp
/-- the Funs of the program around: one with the registers, then one for each number of Params -/
def parF (k : Nat) : Cd.Fn := ⟨⟨#[]⟩, false, k, 0, none, 0, []⟩
def firstF (regs : Int) (a : Option Addr) : Cd.Fn := ⟨⟨#[]⟩, false, 0, regs, a, 1, [(⟨0, 0, 0, 0, 0, none, 0, []⟩ : Ins)]⟩
def arF (regs : Int) (a : Option Addr) (n : Nat) : List Cd.Fn := firstF regs a :: (List.range n).map parF
theorem arF_len (regs : Int) (a : Option Addr) (n : Nat) : (arF regs a n).length = n + 1 := by simp [arF]
theorem arF_succ (regs : Int) (a : Option Addr) (n : Nat) : arF regs a (n + 1) = arF regs a n ++ [parF n] := by simp [arF, List.range_succ]
theorem around_c (g : Gr) (w : World) :
 Calls Tryd.prog 94 #[.agg ⟨g.vals⟩] w fun e w' => (∃ a1 a2 a v cap, e = .returned (.agg #[.slice a1 1 1, .slice a2 1 1, .slice v 10 cap]) ∧ RowAt w' Tt v cap 10 (Zw (arF g.regs a 9))) ∧ Below w.heap.size w w' := by
 have hst := Lh (Zc w (.cells #[.string g.name, .bool g.thread, .int .i64 g.params, .int .i64 g.regs, .slice g.ba g.blocks.length g.bcap] 37) (.cells #[.slice none 0 0, .slice none 0 0, .slice none 0 0] 26))
 have hq := Lh (box5 w g)
 have hqq := Lh (Qt (w.alloc (.cells #[.string g.name, .bool g.thread, .int .i64 g.params, .int .i64 g.regs, .slice g.ba g.blocks.length g.bcap] 37)) (.cells #[.slice none 0 0, .slice none 0 0, .slice none 0 0] 26) (b := w.heap.size + 1) (by simp))
 obtain ⟨name, thread, params, regs, ba, bcap, blocks⟩ := g
 simp only at *
 unfold Gr.vals
 simp only
 obtain ⟨i0, hi0, hz0, hz1, hz2⟩ := info_parts info_fn
 go_enter Tryd.func94, Tryd.ntmps94
 go_upto_region 1 with fail
 generalize hW0 : (w.alloc (.cells #[.string name, .bool thread, .int .i64 params, .int .i64 regs, .slice ba blocks.length bcap] 37)).alloc (.cells #[.slice none 0 0, .slice none 0 0, .slice none 0 0] 26) = W0 at *
 have q3 : Hid (W0.cell? ⟨w.heap.size, 3, none⟩ = some (.int .i64 regs)) := Lh (by rw [← hW0]; exact Qe (Qh _ _) hq.out.2.2.2.1)
 clear hW0 hq
 refine wp_region_tail (C := fun V => Below W0.heap.size W0 V) (E := Ext) (R := fun j => (ra W0.heap.size w.heap.size regs).getD j VT) (by kernel_rfl) ((Below.refl _ _).drew) (by kernel_rfl) (fun j v w' w'' _ hE h => Zr _ j ra_mono v w' w'' hE h) (m := 9) rfl rfl rfl (by kernel_rfl) (steps_front 9 ?hs) ?hend
 case hs =>
  refine Qa (s_new fun a W hC hs => ?_) ?_
  · exact ⟨Qb rfl, _, _, run_ms rfl (ev_const _) (ev_const _) (mk_mem W), hC.alloc hC.size _, Ext.al _ _, ⟨_, rfl⟩⟩
  refine Qa (s_new fun a W hC hs => ?_) ?_
  · exact ⟨Qb rfl, _, _, run_ms rfl (ev_const _) (ev_const _) (mk_str W), hC.alloc hC.size _, Ext.al _ _, ⟨_, rfl⟩⟩
  refine Qa (Ql fun a W hC hs => ?_) ?_
  · have h1 := Qo hs 1 (by kernel_rfl) (by rfl)
    exact ⟨Qb rfl, _, Q4 rfl (ev h1) fl_g3, rfl⟩
  refine Qa (Ql fun a W hC hs => ?_) ?_
  · obtain ⟨v2, hv2, hR2⟩ := Qf hs 2 7 (by kernel_rfl) (by rfl)
    replace hR2 : v2 = _ := hR2
    subst hR2
    exact ⟨Qb rfl, _, Qz rfl (ev hv2) (by have := Qe hC q3.out; simp [go_sem, this]), rfl⟩
  refine Qa (s_new fun a W hC hs => ?_) ?_
  · exact ⟨Qb rfl, _, _, run_ms rfl (ev_const _) (ev_const _) (mk_ins W), hC.alloc hC.size _, Ext.al _ _, ⟨_, rfl⟩⟩
  refine Qa (Ql fun a W hC hs => ?_) ?_
  · obtain ⟨v3, hv3, hR3⟩ := Qf hs 3 8 (by kernel_rfl) (by rfl)
    replace hR3 : v3 = _ := hR3
    subst hR3
    obtain ⟨v4, hv4, hR4⟩ := Qf hs 4 9 (by kernel_rfl) (by rfl)
    obtain ⟨a4, rfl⟩ := hR4
    exact ⟨Qb rfl, _, run_b (qs := #[(3, .int .i64 regs), (4, .slice a4 1 1)]) rfl (by simp [ev hv3, ev hv4]) (by kernel_rfl), ⟨a4, rfl⟩⟩
  refine Qa (s_new fun a W hC hs => ?_) ?_
  · obtain ⟨v5, hv5, hR5⟩ := Qf hs 5 10 (by kernel_rfl) (by rfl)
    obtain ⟨a5, rfl⟩ := hR5
    refine ⟨Qb rfl, _, _, run_bs (qs := #[(0, .agg #[.string ⟨#[]⟩, .bool false, .int .i64 0, .int .i64 regs, .slice a5 1 1])]) rfl (by simp [ev hv5]) (mk_fn1 W regs a5), hC.alloc hC.size _, Ext.al _ _, ⟨a5, _, rfl, rfl, .inr ⟨_, 1, _, rfl, ?_, Qt _ _ rfl, Nat.le_refl _, by unfold maxLen; omega, rfl, rfl⟩⟩⟩
    exact hC.size
  refine Qa (Ql fun a W hC hs => ?_) ?_
  · obtain ⟨v0, hv0, hR0⟩ := Qf hs 0 5 (by kernel_rfl) (by rfl)
    obtain ⟨a0, rfl⟩ := hR0
    obtain ⟨v1, hv1, hR1⟩ := Qf hs 1 6 (by kernel_rfl) (by rfl)
    obtain ⟨a1, rfl⟩ := hR1
    obtain ⟨v6, hv6, hR6⟩ := Qf hs 6 11 (by kernel_rfl) (by rfl)
    exact ⟨Qb rfl, _, run_b (qs := #[(0, .slice a0 1 1), (1, .slice a1 1 1), (2, v6)]) rfl (by simp [ev hv0, ev hv1, ev hv6]) (by obtain ⟨a6, g6, rfl, _⟩ := hR6; kernel_rfl), ⟨a0, a1, v6, rfl, hR6⟩⟩
  refine Qa (s_new fun a W hC hs => ?_) ?_
  · refine ⟨Qb rfl, _, _, run_al rfl (al_prog W), hC.alloc hC.size _, Ext.al _ _, ⟨_, rfl, ?_, Qt _ _ rfl⟩⟩
    exact hC.size
  exact Qx
 case hend =>
  intro σ V hC hR
  generalize hF : Q6 _ _ _ _ _ = F
  simp [Q6, dstOf, List.range, List.range.loop, Act.put] at hF
  subst hF
  obtain ⟨b, hb, hbB, hbh⟩ : VBx W0.heap.size (σ 8) V := hR 8 (by simp)
  obtain ⟨a1, a2, v3, h7, a, gg, rfl, hv3⟩ : VPz W0.heap.size regs (σ 7) V := hR 7 (by simp)
  rw [hb, h7]
  have c0 := Qk hbh (j := 0) (u := .slice none 0 0) rfl
  have c1 := Qk hbh (j := 1) (u := .slice none 0 0) rfl
  have c2 := Qk hbh (j := 2) (u := .slice none 0 0) rfl
  have d0 := Qd hbh 0
  have d1 := Qd hbh 1
  have d2 := Qd hbh 2
  have hBx : Hid (Bx W0.heap.size b (.slice a1 1 1) (.slice a2 1 1) (arF regs a 0) (((V.setCell ⟨b, 0, none⟩ (.slice a1 1 1)).setCell ⟨b, 1, none⟩ (.slice a2 1 1)).setCell ⟨b, 2, none⟩ (.slice (some ⟨gg, 0, none⟩) 1 1))) := Lh (by
   have hne := own_neF hbh hv3
   refine ⟨hbB, some ⟨gg, 0, none⟩, 1, ?_, ?_⟩
   · have := Qy (Qy (Qy hbh 0 (.slice a1 1 1)) 1 (.slice a2 1 1)) 2 (.slice (some ⟨gg, 0, none⟩) 1 1)
     rw [this]; rfl
   · exact ownsRow_setCell_other (ownsRow_setCell_other (ownsRow_setCell_other hv3 hne _) hne _) hne _)
  have hB1 : Hid (Below W0.heap.size W0 (((V.setCell ⟨b, 0, none⟩ (.slice a1 1 1)).setCell ⟨b, 1, none⟩ (.slice a2 1 1)).setCell ⟨b, 2, none⟩ (.slice (some ⟨gg, 0, none⟩) 1 1))) := Lh (((hC.setCell (p := ⟨b, 0, none⟩) hbB _).setCell (p := ⟨b, 1, none⟩) hbB _).setCell (p := ⟨b, 2, none⟩) hbB _)
  clear hR hv3 hbh hC h7 hb
  unfold Oper.wp
  unfold execOp
  simp [go_sem, c0, c1, c2, d0, d1, d2]
  clear c0 c1 c2 d0 d1 d2
  generalize ((V.setCell ⟨b, 0, none⟩ (.slice a1 1 1)).setCell ⟨b, 1, none⟩ (.slice a2 1 1)).setCell ⟨b, 2, none⟩ (.slice (some ⟨gg, 0, none⟩) 1 1) = W1 at *
  generalize (Value.agg #[Value.slice a1 1 1, Value.slice a2 1 1, Value.slice (some { block := gg, off := 0 }) 1 1]) = z7
  generalize σ 0 = z0
  generalize σ 1 = z1
  generalize σ 2 = z2
  generalize σ 3 = z3
  generalize σ 4 = z4
  generalize σ 5 = z5
  generalize σ 6 = z6
  go_wp2_with fail
  go_loopw [13] (fun i wr => ∃ k : Nat, k ≤ 9 ∧ i = .int .i64 k ∧ Hid (Bx W0.heap.size b (.slice a1 1 1) (.slice a2 1 1) (arF regs a k) wr) ∧ Hid (Below W0.heap.size W0 wr)) (fun i _ => 9 - (intOf i).toNat)
  case atStart => exact ⟨0, Nat.zero_le _, rfl, hBx, hB1⟩
  case round =>
   clear hBx hB1
   obtain ⟨k, hk, rfl, hX, hb⟩ := hrel
   obtain ⟨v, cap, e0, e1, e2, ho, hbl⟩ := hX.out.get
   have efr : wr.frozen? ⟨b, 2, none⟩ = false := by
    obtain ⟨_, _, _, h1, _⟩ := hX.out
    exact Qd h1 _
   have hln := arF_len regs a k
   by_cases hlt : k < 9
   · have hk9 : (k : Int) < 9 := by omega
     have hstep := Lh (fun (w3 : World) (o : Obj) (v' : Value) hgr h3 => hX.out.step (w3 := w3) (o := o) (v' := v') (x := parF k) e2 hgr h3)
     have hown := Lh ho
     rw [← arF_succ] at hstep
     rw [hln] at e2 hstep hown
     have hbb : Hid (∀ (o : Obj) (w3 : World) (u : Value), (wr.alloc o).grownBy w3 (Value.slice v (k + 1) cap).ownBlock → Below W0.heap.size W0 (w3.setCell ⟨b, 2, none⟩ u)) := Lh (by
      intro o w3 u hg
      exact ((hb.out.alloc hb.out.size o).grown hg (by have := hb.out.size; simp; omega) (fun q e => (hown.out.lt q e).1)).setCell (p := ⟨b, 2, none⟩) hbB _)
     clear ho e0 e1 hX hln
     go_wp2_with (at_builtin; refine wpList_append_own_at _ rfl _ _ 24 rfl W0.heap.size 50 i0 _ 5 64 Tryd.underlying24 hi0 hz0 hz1 hz2 rfl (by decide) _ _ _ rfl (Qn hown.out (Qh _ _)) _ 1 1 (parF k).vals rfl rfl (row_at _ (parF k).vals _ _ (by first | rfl | simp)) (by simp [Value.oneCell', parF, Cd.Fn.vals]) ?c1 ?c2 ?c3 ?_)
     case c1 => unfold maxLen; omega
     case c2 => omega
     case c3 => have := hb.out.size; simp; omega
     intro v' w3 hown3 hg3 _ hat3
     obtain ⟨⟨va, vcap, rfl⟩, ⟨h3c, h3f, h3l⟩, hX2⟩ := hstep.out _ _ _ hg3 hown3
     have hb2 := Lh (hbb.out _ _ (.slice va (k + 1 + 1) vcap) hg3)
     replace hX2 := Lh hX2
     clear hstep hown hbb hown3 hg3 hat3 e2 efr
     go_wp2_with fail
     go_roundw
     case rel => exact ⟨k + 1, by omega, by go_num, hX2, hb2⟩
     case measure => simp [intOf]; omega
   · have hk2 : k = 9 := by omega
     subst hk2
     rw [hln] at e2
     have hrow := Lh (hX.out.row ho)
     have hown := Lh ho
     rw [hln] at hrow hown
     have hres : wr.heap[w.heap.size + 1]? = some (.cells #[.slice none 0 0, .slice none 0 0, .slice none 0 0] 26 (0, 0)) := (hb.out.block _ (Array.getElem?_eq_some_iff.1 hqq.out).1).trans hqq.out
     have hrl := (Array.getElem?_eq_some_iff.1 hqq.out).1
     have r0 := Qk hres (j := 0) (u := .slice none 0 0) rfl
     have r1 := Qk hres (j := 1) (u := .slice none 0 0) rfl
     have r2 := Qk hres (j := 2) (u := .slice none 0 0) rfl
     have f0 := Qd hres 0
     have f1 := Qd hres 1
     have f2 := Qd hres 2
     replace hres := Lh hres
     clear hX hln ho
     go_wp2_with fail
     have hW : Below W0.heap.size W0 wr := hb.out
     have hbw : Below w.heap.size w wr := hst.out.trans (hb.out.mono hst.out.size)
     have hne : (Value.slice v 10 cap).ownBlock ≠ some (w.heap.size + 1) := fun e => by have := (hown.out.lt _ e).1; omega
     have hfin := ownsRow_setCell_other (ownsRow_setCell_other (ownsRow_setCell_other hown.out (a := ⟨w.heap.size + 1, 0, none⟩) hne (.slice a1 1 1)) (a := ⟨w.heap.size + 1, 1, none⟩) hne (.slice a2 1 1)) (a := ⟨w.heap.size + 1, 2, none⟩) hne (.slice v 10 cap)
     obtain ⟨fa, fc, fe, fr⟩ := Cd.row_own hfin
     cases fe
     have hh := Qy (Qy (Qy hres.out 0 (.slice a1 1 1)) 1 (.slice a2 1 1)) 2 (.slice v 10 cap)
     exact bodyPost_ret (v := .agg #[.slice a1 1 1, .slice a2 1 1, .slice v 10 cap]) (results_cell_row Tryd.results94 _ _ (w.heap.size + 1) _ _ _ _ rfl hh Tryd.underlying26 rfl (by kernel_rfl)) rfl ⟨⟨a1, a2, a, v, cap, rfl, fr.mono fun _ _ => trivial⟩, ((hbw.setCell (p := ⟨w.heap.size + 1, 0, none⟩) (by show w.heap.size ≤ w.heap.size + 1; omega) _).setCell (p := ⟨w.heap.size + 1, 1, none⟩) (by show w.heap.size ≤ w.heap.size + 1; omega) _).setCell (p := ⟨w.heap.size + 1, 2, none⟩) (by show w.heap.size ≤ w.heap.size + 1; omega) _⟩
end Go.Proofs.YthiiahlgncngoaaDoorRR.Fw
namespace Go.Proofs.YthiiahlgncngoaaDoorRR.Fw
open Go Go.RowKit
open Go.Proofs.YthiiahlgncngoaaDoorRR.Lx Go.Proofs.YthiiahlgncngoaaDoorRR.Tr Go.Proofs.YthiiahlgncngoaaDoorRR.Cd
theorem box6 (w : World) (x : Ins) : let W := w.alloc (.cells #[.int .u8 x.op, .int .i64 x.r, .int .i64 x.a, .int .i64 x.b, .int .i64 x.n, .slice x.aa x.args.length x.acap] 44)
 W.cell? ⟨w.heap.size, 0, none⟩ = some (.int .u8 x.op) ∧ W.cell? ⟨w.heap.size, 1, none⟩ = some (.int .i64 x.r) ∧ W.cell? ⟨w.heap.size, 2, none⟩ = some (.int .i64 x.a) ∧ W.cell? ⟨w.heap.size, 3, none⟩ = some (.int .i64 x.b) ∧ W.cell? ⟨w.heap.size, 4, none⟩ = some (.int .i64 x.n) ∧ W.cell? ⟨w.heap.size, 5, none⟩ = some (.slice x.aa x.args.length x.acap) := by
 intro W
 have h1 : ∀ j u, x.vals[j]? = some u → W.cell? ⟨w.heap.size, j, none⟩ = some u := fun j u hu => Zk w x.vals 44 j u hu
 exact ⟨h1 0 _ rfl, h1 1 _ rfl, h1 2 _ rfl, h1 3 _ rfl, h1 4 _ rfl, h1 5 _ rfl⟩
theorem all1_c (g : Gr) (P : Ins → Bool) (x1 : Nat) (w : World) (hg : Gr.In w g)
 (hcall : ∀ (b : Bk) (x : Ins) (V : World), b ∈ g.blocks → x ∈ b.code → Below w.heap.size w V → Calls Tryd.prog 95 #[.agg #[.int .u8 x.op, .int .i64 x.r, .int .i64 x.a, .int .i64 x.b, .int .i64 x.n, .slice x.aa x.args.length x.acap], .pointer (some ⟨x1, 0, none⟩)] V fun e w' => e = .returned (.bool (P x)) ∧ Below V.heap.size V w') :
 Calls Tryd.prog 37 #[.agg ⟨g.vals⟩, .func (.func 95) #[] #[.pointer (some ⟨x1, 0, none⟩)]] w fun e w' => e = .returned (.bool (g.blocks.all fun b => b.code.all P)) ∧ Below w.heap.size w w' := by
 obtain ⟨hc1, hc2⟩ := Q2 hg.row
 have hR := Lh (fun V (hv : Below w.heap.size w V) => hg.row.below (Kps.of_below hv))
 have hX := Lh (fun (x : Bk) V (hx : x ∈ g.blocks) (hv : Below w.heap.size w V) => (hg.blocks x hx).keep hv)
 replace hcall := Lh hcall
 have hst := Lh (Qh w (.cells #[.string g.name, .bool g.thread, .int .i64 g.params, .int .i64 g.regs, .slice g.ba g.blocks.length g.bcap] 37))
 have hq := Lh (box5 w g)
 clear hg
 obtain ⟨name, thread, params, regs, ba, bcap, blocks⟩ := g
 simp only at *
 unfold Gr.vals
 simp only
 generalize hPb : (fun b : Bk => b.code.all P) = Pb at *
 have hPb' : Hid (∀ b : Bk, Pb b = b.code.all P) := Lh (fun b => by rw [← hPb])
 clear hPb
 go_enter Tryd.func37, Tryd.ntmps37
 go_upto_region 1 with fail
 generalize hW0 : w.alloc (.cells #[.string name, .bool thread, .int .i64 params, .int .i64 regs, .slice ba blocks.length bcap] 37) = W0 at *
 obtain ⟨q0, q1, q2, q3, q4⟩ := hq.out
 have hlw : w.heap.size < W0.heap.size := World.block_lt_of_cell? _ _ q0
 clear hW0 hq q0 q1 q2 q3
 go_wp2_with fail
 go_loopw [12] (fun i wr => ∃ k : Nat, k ≤ blocks.length ∧ i = .int .i64 k ∧ Hid ((blocks.take k).all Pb = true) ∧ Hid (Below W0.heap.size W0 wr)) (fun i _ => blocks.length - (intOf i).toNat)
 case atStart => exact ⟨0, Nat.zero_le _, rfl, Lh rfl, Lh (Below.refl _ _)⟩
 case round =>
  obtain ⟨k, hk, rfl, hall, hb⟩ := hrel
  have hbw := Lh (hst.out.trans (hb.out.mono hst.out.size))
  by_cases hlt : k < blocks.length
  · obtain ⟨x, hx⟩ : ∃ x, blocks[k]? = some x := ⟨_, List.getElem?_eq_getElem hlt⟩
    obtain ⟨b, off, ha, _, c0, c1, c2, c3⟩ := X4 (hR.out _ hbw.out) k x hx
    have hbl : b < wr.heap.size := World.block_lt_of_cell? _ _ c0
    have hi0' : (0 : Int) ≤ (k : Int) := by omega
    have hi1 : (k : Int) < (blocks.length : Int) := by omega
    have hxm := List.mem_of_getElem? hx
    have hno := Lh (fun h => all_no (f := Pb) hx h)
    have hyes := Lh (Z4 (f := Pb) hx)
    have hpx := Lh (hPb'.out x)
    have hbe := Lh (Qh wr (.cells #[.slice x.pa x.phis.length x.pcap, .slice x.ca x.code.length x.ccap, .slice x.fa x.fm.length x.fcap, .slice x.ta x.tt.length x.tcap] 42))
    have hbx := Lh (hbw.out.trans (hbe.out.mono hbw.out.size))
    have hb0 := Lh (hb.out.trans (hbe.out.mono hb.out.size))
    have hI := Lh (fun V (hv : Below w.heap.size w V) => (hX.out x V hxm hv).crow)
    have hcx := Lh (fun y V hy hv => hcall.out x y V hxm hy hv)
    obtain ⟨cp1, cp2⟩ := Q2 (hX.out x _ hxm hbw.out).crow
    clear hX hx hxm hcall hPb'
    subst ha
    go_upto_region 4 with fail
    generalize hW1 : wr.alloc (.cells #[.slice x.pa x.phis.length x.pcap, .slice x.ca x.code.length x.ccap, .slice x.fa x.fm.length x.fcap, .slice x.ta x.tt.length x.tcap] 42) = W1 at hbx hb0 ⊢
    obtain ⟨p0, p1, p2, p3⟩ := box4 wr x
    have hlx : wr.heap.size < W1.heap.size := by rw [← hW1]; exact World.block_lt_of_cell? _ _ p0
    rw [hW1] at p1
    clear p0 p2 p3 hbe
    clear hW1
    go_wp2_with fail
    go_loopw [19] (fun i wq => ∃ j : Nat, j ≤ x.code.length ∧ i = .int .i64 j ∧ Hid ((x.code.take j).all P = true) ∧ Hid (Below W1.heap.size W1 wq)) (fun i _ => x.code.length - (intOf i).toNat)
    case atStart => exact ⟨0, Nat.zero_le _, rfl, Lh rfl, Lh (Below.refl _ _)⟩
    case round =>
     obtain ⟨j, hj, rfl, hallj, hbq⟩ := hrel
     have g1 := Lh (hbx.out.trans (hbq.out.mono hbx.out.size))
     have g0 := Lh (hb0.out.trans (hbq.out.mono hb0.out.size))
     by_cases hjt : j < x.code.length
     · obtain ⟨y, hy⟩ : ∃ y, x.code[j]? = some y := ⟨_, List.getElem?_eq_getElem hjt⟩
       obtain ⟨b', off', ha', _, d0, d1, d2, d3, d4, d5⟩ := X1 (hI.out _ g1.out) j y hy
       have hbl' : b' < wr.heap.size := World.block_lt_of_cell? _ _ d0
       have hj0' : (0 : Int) ≤ (j : Int) := by omega
       have hj1 : (j : Int) < (x.code.length : Int) := by omega
       have hym := List.mem_of_getElem? hy
       have hnoj := Lh (fun h => hno.out (by rw [hpx.out]; exact all_no (f := P) hy h))
       have hyesj := Lh (Z4 (f := P) hy)
       have hbe2 := Lh (Qh wr (.cells #[.int .u8 y.op, .int .i64 y.r, .int .i64 y.a, .int .i64 y.b, .int .i64 y.n, .slice y.aa y.args.length y.acap] 44))
       have g2 := Lh (g1.out.trans (hbe2.out.mono g1.out.size))
       have g3 := Lh (hbq.out.trans (hbe2.out.mono hbq.out.size))
       have hcy := Lh (hcx.out y _ hym g2.out)
       rw [ha']
       clear hy ha' hym hbe2
       cases hv : P y
       · have hcz := hcy.out
         rw [hv] at hcz
         replace hcz := Lh hcz
         have hfin := Lh (hnoj.out hv)
         clear hv hcy hnoj hyesj hallj hno hyes hall
         go_wp2_with fail
         refine hcz.out.mono ?_
         rintro e w3 ⟨rfl, hb3⟩
         have g4 := Lh (g2.out.trans (hb3.mono g2.out.size))
         clear hb3
         go_wp2_with fail
         go_ret
         exact ⟨Qi hfin.out.symm, g4.out⟩
       · have hcz := hcy.out
         rw [hv] at hcz
         replace hcz := Lh hcz
         have hn : Hid ((x.code.take (j + 1)).all P = true) := Lh (by rw [hyesj.out, hallj.out, hv]; rfl)
         clear hv hcy hnoj hyesj hallj
         go_wp2_with fail
         refine hcz.out.mono ?_
         rintro e w3 ⟨rfl, hb3⟩
         have g4 := Lh (g3.out.trans (hb3.mono g3.out.size))
         clear hb3
         go_wp2_with fail
         go_roundw
         case rel => exact ⟨j + 1, by omega, by go_num, hn, g4⟩
         case measure => simp [intOf]; omega
     · have hjj : j = x.code.length := by omega
       have hn : Hid ((blocks.take (k + 1)).all Pb = true) := Lh (by
        rw [hyes.out, hall.out, hpx.out, ← List.take_length (l := x.code), ← hjj, hallj.out]; rfl)
       clear hjj hallj
       go_wp2_with fail
       go_roundw
       case rel => exact ⟨k + 1, by omega, by go_num, hn, g0⟩
       case measure => simp [intOf]; omega
  · have hk2 : k = blocks.length := by omega
    subst hk2
    rw [List.take_length] at hall
    go_wp2_with fail
    go_ret
    exact ⟨Qi hall.out.symm, hbw.out⟩
end Go.Proofs.YthiiahlgncngoaaDoorRR.Fw
