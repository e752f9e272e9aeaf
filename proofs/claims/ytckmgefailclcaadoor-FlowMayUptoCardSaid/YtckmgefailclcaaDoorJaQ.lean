/- Walk of MayForm's closure; a Fun's registers set in its row; the plain side of MayForm. Conditions: what is read lies in memory. Walk of MayForm. Conditions: the program of blocks lies in memory; its lists are of bounded length; the packages' tables hold their lists. -/
import Derived.Test.YtckmgefailclcaaDoorJFwQ
import Derived.Test.YtckmgefailclcaaDoorJFwO
namespace Go.Proofs.YtckmgefailclcaaDoor.Fw
open Go Go.RowKit
open Go.Proofs.YtckmgefailclcaaDoor.Lx Go.Proofs.YtckmgefailclcaaDoor.Tr Go.Proofs.YtckmgefailclcaaDoor.Cd

theorem fn_set (l : List Cd.Fn) (k : Nat) (f : Cd.Fn) (r : Int) (h : l[k]? = some f) : (fnCells l).set (k * 5 + 3) (.int .i64 r) = fnCells (l.set k { f with regs := r }) := by
  induction l generalizing k with
  | nil => simp at h
  | cons x t ih =>
    cases k with
    | zero =>
      simp at h; subst h
      simp [fnCells, Cd.Fn.vals]
    | succ k =>
      have := ih k (by simpa using h)
      unfold fnCells at *
      rw [List.set_cons_succ, List.flatMap_cons, List.flatMap_cons, ← this]
      rw [List.set_append_right _ _ (by rw [Cd.Fn.vals_len]; omega), Cd.Fn.vals_len]
      congr 2
      omega
theorem frow_set {B : Nat} {v : Option Addr} {cap : Nat} {l : List Cd.Fn} {W : World} (h : W.ownsRow B 52 5 (.slice v l.length cap) l.length (fnCells l)) {k : Nat} {f : Cd.Fn} (hf : l[k]? = some f) (r : Int) :
    ∃ g, v = some ⟨g, 0, none⟩ ∧ B ≤ g ∧ g < W.heap.size ∧ W.cell? ⟨g, k * 5 + 3, none⟩ = some (.int .i64 f.regs) ∧ W.frozen? ⟨g, k * 5 + 3, none⟩ = false ∧
      (W.setCell ⟨g, k * 5 + 3, none⟩ (.int .i64 r)).ownsRow B 52 5 (.slice v l.length cap) l.length (fnCells (l.set k { f with regs := r })) ∧
      (∀ (c : Nat) (vs : Array Value) (T : TypeId) (fr : Nat × Nat), W.heap[c]? = some (.cells vs T fr) → T ≠ 52 → (W.setCell ⟨g, k * 5 + 3, none⟩ (.int .i64 r)).heap[c]? = some (.cells vs T fr)) := by
  have hkl : k < l.length := (List.getElem?_eq_some_iff.1 hf).1
  rcases h.2 with ⟨_, h0⟩ | ⟨g, cp, cur, hv, hB, hg, h1, h2, h3, h4⟩
  · omega
  · cases hv
    have hcell : (fnCells l)[k * 5 + 3]? = some (.int .i64 f.regs) := by
      unfold fnCells
      rw [flat_at Cd.Fn.vals 5 Cd.Fn.vals_len l k 3 f hf (by omega)]
      rfl
    have hc2 : cur.toList[k * 5 + 3]? = some (.int .i64 f.regs) := by
      rw [← h4, List.getElem?_take, if_pos (by omega)] at hcell
      exact hcell
    refine ⟨g, rfl, hB, (Array.getElem?_eq_some_iff.1 hg).1, blk_cell hg (by simpa using hc2), blk_free hg _, ⟨?_, .inr ⟨g, cap, _, rfl, hB, heap_set1 hg _ _, h1, h2, by simp [h3], ?_⟩⟩, ?_⟩
    · rw [← fn_set l k f r hf, List.length_set]; exact h.1
    · rw [← fn_set l k f r hf, ← h4, Array.toList_setIfInBounds, List.take_set]
    · intro c vs T fr hc hT
      rw [heap_oth (fun e => ?_)]
      · exact hc
      · subst e
        rw [hg] at hc
        have := Option.some.inj hc
        simp at this
        exact hT this.2.1.symm
theorem outFns_at : ∀ (gs : List Gr) (k j : Nat) (x : Gr), gs[j]? = some x → (outFns k gs)[j]? = some (outFn x (decide (j < k)))
  | [], _, _, _, h => by simp at h
  | y :: r, k, 0, x, h => by simp at h; subst h; simp [outFns]
  | y :: r, k, j + 1, x, h => by
    rw [outFns, List.getElem?_cons_succ, outFns_at r (k - 1) j x (by simpa using h)]
    congr 2
    rw [decide_eq_decide]; omega
theorem outFns_set {gs : List Gr} {k : Nat} {x : Gr} (h : gs[k]? = some x) : (outFns k gs).set k (outFn x true) = outFns (k + 1) gs := by
  apply List.ext_getElem?
  intro j
  have hkl : k < gs.length := (List.getElem?_eq_some_iff.1 h).1
  by_cases hj : j < gs.length
  · obtain ⟨y, hy⟩ : ∃ y, gs[j]? = some y := ⟨_, List.getElem?_eq_getElem hj⟩
    by_cases hjk : j = k
    · subst hjk
      rw [List.getElem?_set_self (by rw [outFns_len]; exact hj), outFns_at gs (j + 1) j x h]
      simp
    · rw [List.getElem?_set_ne (by omega), outFns_at gs k j y hy, outFns_at gs (k + 1) j y hy]
      congr 2
      rw [decide_eq_decide]; omega
  · rw [List.getElem?_eq_none (by rw [List.length_set, outFns_len]; omega), List.getElem?_eq_none (by rw [outFns_len]; omega)]
theorem Outs.put {k : Nat} {l : List Cd.Fn} {gs : List Gr} {x : Gr} {f : Cd.Fn} {W W' : World} (h : Outs k l gs W) (hx : gs[k]? = some x) (hf : l[k]? = some f)
    (hk : ∀ (c : Nat) (vs : Array Value) (T : TypeId) (fr : Nat × Nat), W.heap[c]? = some (.cells vs T fr) → T ≠ 52 → W'.heap[c]? = some (.cells vs T fr)) : Outs (k + 1) (l.set k { f with regs := x.regs }) gs W' := by
  have hfe : f.er = (outFn x false).er := by
    have h1 : (l.map Cd.Fn.er)[k]? = some f.er := by rw [List.getElem?_map, hf]; rfl
    rw [h.er, List.getElem?_map, outFns_at gs k k x hx] at h1
    simp at h1
    exact h1.symm
  have hfr : ({ f with regs := x.regs } : Cd.Fn).er = (outFn x true).er := by
    have e : ({ f with regs := x.regs } : Cd.Fn).er = { f.er with regs := x.regs } := rfl
    rw [e, hfe]; rfl
  refine ⟨?_, fun g hg => ?_⟩
  · rw [List.map_set, h.er, hfr, ← List.map_set, outFns_set hx]
  · rcases List.mem_or_eq_of_mem_set hg with hg | rfl
    · obtain ⟨y, hy, c, r, e, hh⟩ := h.at_ g hg
      exact ⟨y, hy, c, r, e, hk c _ _ _ hh (by decide)⟩
    · obtain ⟨y, hy, c, r, e, hh⟩ := h.at_ f (List.mem_of_getElem? hf)
      refine ⟨x, List.mem_of_getElem? hx, c, true, ?_, hk c _ _ _ hh (by decide)⟩
      subst e
      have h2 : (outFn y r).er = (outFn x false).er := hfe
      unfold outFn Cd.Fn.er at h2
      simp only [Cd.Fn.mk.injEq] at h2
      unfold outA
      simp [h2.1, h2.2.1, h2.2.2.1]
noncomputable def mayFm (f : Fm) : Bool := mayP (outPg f 0) && funsOk f 0 f.funs
theorem funsOk_app (f : Fm) (l r : List Gr) (k : Nat) : funsOk f k (l ++ r) = (funsOk f k l && funsOk f (k + l.length) r) := by
  induction l generalizing k with
  | nil => simp [funsOk]
  | cons x l ih => rw [List.cons_append, funsOk, funsOk, ih (k + 1), Bool.and_assoc, List.length_cons, show k + 1 + l.length = k + (l.length + 1) by omega]
theorem funsOk_take {f : Fm} {l : List Gr} {k : Nat} {x : Gr} (h : l[k]? = some x) : funsOk f 0 (l.take (k + 1)) = (funsOk f 0 (l.take k) && funOk f k x) := by
  have hk : k < l.length := (List.getElem?_eq_some_iff.1 h).1
  rw [List.take_add_one, h, funsOk_app]
  have : (l.take k).length = k := by rw [List.length_take]; omega
  rw [this]
  simp [funsOk]
theorem funsOk_no {f : Fm} {l : List Gr} {k : Nat} {x : Gr} (h : l[k]? = some x) (hx : funOk f k x = false) : funsOk f 0 l = false := by
  have e : l = l.take (k + 1) ++ l.drop (k + 1) := (List.take_append_drop _ _).symm
  rw [e, funsOk_app, funsOk_take h, hx]
  simp
/-- the program, as it lies -/
def prg (f : Fm) (v : Option Addr) (cap : Nat) (l : List Cd.Fn) : Pg := ⟨f.ma, f.mcap, f.mems, f.la, f.lcap, f.locks, v, cap, l⟩
theorem prg_er {f : Fm} {v : Option Addr} {cap k : Nat} {l : List Cd.Fn} {W : World} (h : Outs k l f.funs W) : (prg f v cap l).er = (outPg f k).er := by
  unfold prg Pg.er outPg
  simp only
  rw [h.er]
theorem prg_may {f : Fm} {v : Option Addr} {cap k : Nat} {l : List Cd.Fn} {W : World} (h : Outs k l f.funs W) : mayP (prg f v cap l) = mayP (outPg f k) := by
  rw [← mayP_er (prg f v cap l), prg_er h, mayP_er]
theorem prg_mayI {f : Fm} {v : Option Addr} {cap k : Nat} {l : List Cd.Fn} {W : World} (h : Outs k l f.funs W) (n : Int) (i : Ins) : mayI (prg f v cap l) n i = mayI (outPg f k) n i := by
  rw [← mayI_er (prg f v cap l), prg_er h, mayI_er]
theorem prg_in {f : Fm} {v : Option Addr} {B cap k : Nat} {l : List Cd.Fn} {W : World} (h : Outs k l f.funs W) (hf : Fm.In W f) (ho : W.ownsRow B 52 5 (.slice v l.length cap) l.length (fnCells l)) : Pg.In W Tt (prg f v cap l) := by
  obtain ⟨a, c, e, hr⟩ := Cd.row_own ho
  cases e
  refine ⟨hf.mrow, hf.mems, hf.lrow, hf.locks, hr.mono fun _ _ => trivial, fun g hg => ?_⟩
  obtain ⟨x, hx, c, r, rfl, hh⟩ := h.at_ g hg
  have hI := hf.funs x hx
  refine ⟨hI.name, hI.params, ?_, row_blk 1 hh (by omega) trivial, fun i hi => ?_⟩
  · unfold outA; split
    · exact hI.regs
    · exact hI.params
  · rw [List.mem_singleton.1 hi]
    exact ⟨⟨by decide, by decide⟩, i64_of (by decide) (by decide), i64_of (by decide) (by decide), i64_of (by decide) (by decide), i64_of (by decide) (by decide), Cd.row_none _ _, fun x hx => (by cases hx)⟩
set_option maxHeartbeats 4000000 in
set_option maxRecDepth 100000 in
theorem form1_c (x : Ins) (p : Pg) (n b1 b2 : Nat) (w : World) (c0 : w.cell? ⟨b1, 0, none⟩ = some (.slice p.ma p.mems.length p.mcap)) (c1 : w.cell? ⟨b1, 1, none⟩ = some (.slice p.la p.locks.length p.lcap)) (c2 : w.cell? ⟨b1, 2, none⟩ = some (.slice p.fa p.funs.length p.fcap)) (c3 : w.cell? ⟨b2, 0, none⟩ = some (.int .i64 n))
    (hrow : RowAt w Tt p.fa p.fcap p.funs.length (fnCells p.funs)) (hT : OpTab w) (hx : U8 x.op) (hri : RowAt w Tt x.aa x.acap x.args.length (numCells x.args)) :
    Calls Tryd.prog 39 #[.agg #[.int .u8 x.op, .int .i64 x.r, .int .i64 x.a, .int .i64 x.b, .int .i64 x.n, .slice x.aa x.args.length x.acap], .pointer (some ⟨b1, 0, none⟩), .pointer (some ⟨b2, 0, none⟩)] w fun e w' => e = .returned (.bool (mayI p n x)) ∧ Below w.heap.size w w' := by
  have hbl : b1 < w.heap.size := World.block_lt_of_cell? _ _ c0
  have hbl2 : b2 < w.heap.size := World.block_lt_of_cell? _ _ c3
  have hst := Lib.hid (b_alloc w (.cells #[.int .u8 x.op, .int .i64 x.r, .int .i64 x.a, .int .i64 x.b, .int .i64 x.n, .slice x.aa x.args.length x.acap] 44))
  have hmi := fun V (hb : Below w.heap.size w V) => mayIns_any p n x V hx (hri.below (Kps.of_below hb)) (hT.keep hb) (hrow.below (Kps.of_below hb))
  have hpv : p.val = .agg #[.slice p.ma p.mems.length p.mcap, .slice p.la p.locks.length p.lcap, .slice p.fa p.funs.length p.fcap] := rfl
  have hiv : x.val = .agg #[.int .u8 x.op, .int .i64 x.r, .int .i64 x.a, .int .i64 x.b, .int .i64 x.n, .slice x.aa x.args.length x.acap] := rfl
  rw [hpv, hiv] at hmi
  replace hmi := Lib.hid hmi
  clear hrow hri hT hpv hiv
  generalize mayI p n x = mv at *
  go_enter Tryd.func39, Tryd.ntmps39
  go_wp2_with fail
  refine (hmi.out _ hst.out).mono ?_
  rintro e w1 ⟨rfl, hb1⟩
  have g1 := Lib.hid (hst.out.trans (hb1.mono hst.out.size))
  clear hb1
  go_wp2_with fail
  go_ret
  exact ⟨rfl, g1.out⟩
end Go.Proofs.YtckmgefailclcaaDoor.Fw
namespace Go.Proofs.YtckmgefailclcaaDoor.Fw
open Go Go.RowKit
open Go.Proofs.YtckmgefailclcaaDoor.Lx Go.Proofs.YtckmgefailclcaaDoor.Tr Go.Proofs.YtckmgefailclcaaDoor.Cd

structure Fsm (f : Fm) : Prop where
  sum : f.mems.length + f.locks.length + f.funs.length ≤ 1048576
  args : ∀ g ∈ f.funs, Shrt g.blocks
set_option maxHeartbeats 4000000 in
set_option maxRecDepth 100000 in
theorem mayForm_c (f : Fm) (w : World) (hf : Fm.In w f) (hT : OpTab w) (hsg : SignsIn w) (hs : Fsm f) :
    Calls Tryd.prog 15 #[.agg ⟨f.vals⟩] w fun e w' => e = .returned (.bool (mayFm f)) ∧ Below w.heap.size w w' := by
  obtain ⟨hc1, hc2⟩ := len_i hf.frow
  have hst := Lib.hid (b_alloc w (.cells #[.slice f.ma f.mems.length f.mcap, .slice f.la f.locks.length f.lcap, .slice f.fa f.funs.length f.fcap] 30))
  have hq := Lib.hid (box3 w f)
  have hR := Lib.hid (fun V (hv : Below w.heap.size w V) => hf.frow.below (Kps.of_below hv))
  have hO := Lib.hid (fun V (hv : Below w.heap.size w V) => outline_c f V (hf.keep hv) (by have := hs.sum; omega))
  have hM := Lib.hid (fun (v : Option Addr) (B cap k : Nat) (l : List Cd.Fn) V (hv : Below w.heap.size w V) (h : Outs k l f.funs V) ho => may_any (prg f v cap l) V (prg_in (B := B) h (hf.keep hv) ho) (hT.keep hv) (hsg.below hsg.lt hv) (by have h1 := h.len; have h2 := hs.sum; show f.mems.length + f.locks.length + l.length ≤ _; omega))
  have hG := Lib.hid (fun (x : Gr) V (hx : x ∈ f.funs) (hv : Below w.heap.size w V) => may_c x V ((hf.keep hv).funs x hx) (hT.keep hv) (hs.args x hx))
  have hA := Lib.hid (fun (x : Gr) (P : Ins → Bool) (b1 b2 : Nat) V (hx : x ∈ f.funs) (hv : Below w.heap.size w V) hcall => all2_c x P b1 b2 V ((hf.keep hv).funs x hx) hcall)
  have h1 := Lib.hid (fun (x : Gr) (b : Bk) (i : Ins) (p : Pg) (n b1 b2 : Nat) V (hx : x ∈ f.funs) (hb : b ∈ x.blocks) (hi : i ∈ b.code) (hv : Below w.heap.size w V) c0 c1 c2 c3 hrow => form1_c i p n b1 b2 V c0 c1 c2 c3 hrow (hT.keep hv) (((((hf.keep hv).funs x hx).blocks b hb).code i hi).op) (((((hf.keep hv).funs x hx).blocks b hb).code i hi).row))
  have hm : Hid (mayFm f = (mayP (outPg f 0) && funsOk f 0 f.funs)) := Lib.hid rfl
  rw [hm.out]
  clear hf hT hsg hm
  have hfv : Value.agg ⟨f.vals⟩ = .agg #[.slice f.ma f.mems.length f.mcap, .slice f.la f.locks.length f.lcap, .slice f.fa f.funs.length f.fcap] := rfl
  rw [hfv] at hO ⊢
  clear hfv
  generalize hfA : f.fa = fA at *
  replace hfA := Lib.hid hfA
  go_enter Tryd.func15, Tryd.ntmps15
  go_upto_region 1 with fail
  generalize hW0 : w.alloc (.cells #[.slice f.ma f.mems.length f.mcap, .slice f.la f.locks.length f.lcap, .slice fA f.funs.length f.fcap] 30) = W0 at *
  obtain ⟨q0, q1, q2⟩ := hq.out
  clear hW0 hq
  go_wp2_with fail
  refine (hO.out _ hst.out).mono ?_
  rintro e w1 ⟨⟨l, v, cap, rfl, ho, hOu⟩, hb1⟩
  have r2 := below_in hb1 q2
  have hwl : w.heap.size < w1.heap.size := World.block_lt_of_cell? _ _ r2
  have hln := hOu.len
  have g1 := Lib.hid (hst.out.trans (hb1.mono hst.out.size))
  have hbe := Lib.hid (b_alloc w1 (.cells #[.slice f.ma f.mems.length f.mcap, .slice f.la f.locks.length f.lcap, .slice v f.funs.length cap] 26))
  have p0 := box_new w1 [.slice f.ma f.mems.length f.mcap, .slice f.la f.locks.length f.lcap, .slice v f.funs.length cap] 26 0 _ rfl
  have p1 := box_new w1 [.slice f.ma f.mems.length f.mcap, .slice f.la f.locks.length f.lcap, .slice v f.funs.length cap] 26 1 _ rfl
  have p2 := box_new w1 [.slice f.ma f.mems.length f.mcap, .slice f.la f.locks.length f.lcap, .slice v f.funs.length cap] 26 2 _ rfl
  have pb := blk_new w1 (.cells #[.slice f.ma f.mems.length f.mcap, .slice f.la f.locks.length f.lcap, .slice v f.funs.length cap] 26) rfl
  have g2 := Lib.hid (g1.out.trans (hbe.out.mono g1.out.size))
  have hMx := hM.out v W0.heap.size cap 0 l _ g2.out (hOu.keep hbe.out) (own_below ho hbe.out)
  rw [prg_may hOu] at hMx
  have hpv : (prg f v cap l).val = .agg #[.slice f.ma f.mems.length f.mcap, .slice f.la f.locks.length f.lcap, .slice v l.length cap] := rfl
  rw [hpv] at hMx
  have r2e := below_in hbe.out r2
  replace hMx := Lib.hid hMx
  have hOe := Lib.hid (hOu.keep hbe.out)
  have hoe := Lib.hid (own_below ho hbe.out)
  rw [hln] at hMx
  rw [hln]
  replace hln := Lib.hid hln
  clear hM hO hpv q0 q1 q2 hOu ho hbe r2 hb1
  replace p0 := Lib.hid p0
  replace p1 := Lib.hid p1
  replace p2 := Lib.hid p2
  replace pb := Lib.hid pb
  have hlw : w1.heap.size < (w1.alloc (.cells #[.slice f.ma f.mems.length f.mcap, .slice f.la f.locks.length f.lcap, .slice v f.funs.length cap] 26)).heap.size := by simp
  go_wp2_with fail
  refine hMx.out.mono ?_
  rintro e w2 ⟨rfl, hb2⟩
  have hOu2 := Lib.hid (hOe.out.keep hb2)
  have hown2 := Lib.hid (own_below hoe.out hb2)
  have hbox2 := Lib.hid ((hb2.block _ hlw).trans pb.out)
  have g3 := Lib.hid (g2.out.trans (hb2.mono g2.out.size))
  have r3 := below_in hb2 r2e
  have hw2l : w.heap.size < w2.heap.size := World.block_lt_of_cell? _ _ r3
  clear hMx hb2 pb p0 p1 p2 hOe hoe r2e
  cases hmay : mayP (outPg f 0)
  · replace hmay := Lib.hid hmay
    clear hG hA h1
    go_wp2_with fail
    go_ret
    exact ⟨ret_bool (by rw [hmay.out]; rfl), g3.out⟩
  · replace hmay := Lib.hid hmay
    go_wp2_with fail
    go_loopw [14] (fun i wr => ∃ k : Nat, k ≤ f.funs.length ∧ i = .int .i64 k ∧ ∃ l, Hid (l.length = f.funs.length) ∧ Hid (Outs k l f.funs wr) ∧ Hid (wr.ownsRow W0.heap.size 52 5 (.slice v l.length cap) l.length (fnCells l)) ∧ Hid (funsOk f 0 (f.funs.take k) = true) ∧ Hid (wr.heap[w1.heap.size]? = some (.cells #[.slice f.ma f.mems.length f.mcap, .slice f.la f.locks.length f.lcap, .slice v f.funs.length cap] 26 (0, 0))) ∧ Hid (Below w.heap.size w wr)) (fun i _ => f.funs.length - (intOf i).toNat)
    case atStart => exact ⟨0, Nat.zero_le _, rfl, l, hln, hOu2, Lib.hid (own_base hown2.out (Nat.le_refl _)), Lib.hid rfl, hbox2, g3⟩
    case round =>
      clear hOu2 hown2 hbox2 g3 hln l
      obtain ⟨k, hk, rfl, l, hln, hOu, hown, hall, hbox, hb⟩ := hrel
      by_cases hlt : k < f.funs.length
      · obtain ⟨x, hx⟩ : ∃ x, f.funs[k]? = some x := ⟨_, List.getElem?_eq_getElem hlt⟩
        obtain ⟨y, hy⟩ : ∃ y, l[k]? = some y := ⟨_, List.getElem?_eq_getElem (by rw [hln.out]; exact hlt)⟩
        obtain ⟨b, off, ha, _, c0, c1, c2, c3, c4⟩ := gr_row (hR.out _ hb.out) k x hx
        have hbl : b < wr.heap.size := World.block_lt_of_cell? _ _ c0
        have hi0' : (0 : Int) ≤ (k : Int) := by omega
        have hi1 : (k : Int) < (f.funs.length : Int) := by omega
        obtain ⟨g', hv, hgB, hgw, e3, e3f, hset, hoth⟩ := frow_set hown.out hy x.regs
        have hbw1 : w1.heap.size < wr.heap.size := (Array.getElem?_eq_some_iff.1 hbox.out).1
        have z2 := blk_cell hbox.out (j := 2) (u := .slice v f.funs.length cap) rfl
        subst hv
        subst ha
        have hln0 := hln.out
        have hOu2 := hOu.out.put hx hy (fun c vs T fr hc hT => hoth c vs T fr hc hT)
        have hbS := hb.out.setCell (p := ⟨g', k * 5 + 3, none⟩) (by have := hst.out.size; show w.heap.size ≤ g'; omega) (.int .i64 x.regs)
        have hbox3 := hoth _ _ _ _ hbox.out (by decide)
        have hsz : (wr.setCell ⟨g', k * 5 + 3, none⟩ (.int .i64 x.regs)).heap.size = wr.heap.size := by simp [World.setCell]
        have hbA := Lib.hid (b_alloc2 (wr.setCell ⟨g', k * 5 + 3, none⟩ (.int .i64 x.regs)) (.cells #[.int .i64 k] 3) (.cells #[.string x.name, .bool x.thread, .int .i64 x.params, .int .i64 x.regs, .slice x.ba x.blocks.length x.bcap] 37))
        have hWB : Hid (∀ WB, WB = ((wr.setCell ⟨g', k * 5 + 3, none⟩ (.int .i64 x.regs)).alloc (.cells #[.int .i64 k] 3)).alloc (.cells #[.string x.name, .bool x.thread, .int .i64 x.params, .int .i64 x.regs, .slice x.ba x.blocks.length x.bcap] 37) →
            Outs (k + 1) (l.set k { y with regs := x.regs }) f.funs WB ∧ Below w.heap.size w WB ∧ WB.ownsRow W0.heap.size 52 5 (.slice (some ⟨g', 0, none⟩) l.length cap) l.length (fnCells (l.set k { y with regs := x.regs })) ∧
            WB.heap[w1.heap.size]? = some (.cells #[.slice f.ma f.mems.length f.mcap, .slice f.la f.locks.length f.lcap, .slice (some ⟨g', 0, none⟩) f.funs.length cap] 26 (0, 0)) ∧
            WB.cell? ⟨wr.heap.size, 0, none⟩ = some (.int .i64 k) ∧ WB.heap[wr.heap.size + 1]? = some (.cells #[.string x.name, .bool x.thread, .int .i64 x.params, .int .i64 x.regs, .slice x.ba x.blocks.length x.bcap] 37 (0, 0))) := Lib.hid (by
          rintro WB rfl
          refine ⟨hOu2.keep hbA.out, hbS.trans (hbA.out.mono hbS.size), own_below hset hbA.out, (hbA.out.block _ (by rw [hsz]; exact hbw1)).trans hbox3, ?_, ?_⟩
          · exact blk_cell ((Below.heap_alloc _ _ _ (by simp [hsz])).trans (blk_new _ _ hsz)) rfl
          · exact blk_new _ _ (by simp [hsz]))
        have hno := Lib.hid (fun h => funsOk_no (f := f) hx h)
        have hyes := Lib.hid (funsOk_take (f := f) hx)
        have hfo : Hid (funOk f k x = (mayG x && x.blocks.all fun b => b.code.all (mayI (outPg f (k + 1)) k))) := Lib.hid rfl
        have hxm := Lib.hid (List.mem_of_getElem? hx)
        clear hset hoth hx hy hown hOu hbox hln hOu2 hbS hbox3 hsz hbA
        go_upto_region 8 with fail
        obtain ⟨WB, hWB2⟩ : ∃ WB, WB = ((wr.setCell ⟨g', k * 5 + 3, none⟩ (.int .i64 x.regs)).alloc (.cells #[.int .i64 k] 3)).alloc (.cells #[.string x.name, .bool x.thread, .int .i64 x.params, .int .i64 x.regs, .slice x.ba x.blocks.length x.bcap] 37) := ⟨_, rfl⟩
        rw [← hWB2]
        obtain ⟨hOu, hbB, hown, hbox, hkc, hgb⟩ := hWB.out WB hWB2
        have t0 := blk_cell hgb (j := 0) (u := .string x.name) rfl
        have t1 := blk_cell hgb (j := 1) (u := .bool x.thread) rfl
        have t2 := blk_cell hgb (j := 2) (u := .int .i64 x.params) rfl
        have t3 := blk_cell hgb (j := 3) (u := .int .i64 x.regs) rfl
        have t4 := blk_cell hgb (j := 4) (u := .slice x.ba x.blocks.length x.bcap) rfl
        generalize hl2 : l.set k { y with regs := x.regs } = l2 at *
        have hl2n : l2.length = f.funs.length := by rw [← hl2, List.length_set]; exact hln0
        have hwrB : wr.heap.size + 1 < WB.heap.size := (Array.getElem?_eq_some_iff.1 hgb).1
        have hw1B : w1.heap.size < WB.heap.size := (Array.getElem?_eq_some_iff.1 hbox).1
        rw [hln0, ← hl2n] at hown
        replace hOu := Lib.hid hOu
        replace hown := Lib.hid hown
        replace hbox := Lib.hid hbox
        replace hbB := Lib.hid hbB
        replace hgb := Lib.hid hgb
        replace hkc := Lib.hid hkc
        replace hl2n := Lib.hid hl2n
        clear hWB hWB2 hl2 hln0 c0 c1 c2 c3 c4 e3 e3f z2
        have hGx := hG.out x WB hxm.out hbB.out
        have hgv : Value.agg ⟨x.vals⟩ = .agg #[.string x.name, .bool x.thread, .int .i64 x.params, .int .i64 x.regs, .slice x.ba x.blocks.length x.bcap] := rfl
        rw [hgv] at hGx
        cases hmg : mayG x
        · rw [hmg] at hGx
          replace hGx := Lib.hid hGx
          have hfin := Lib.hid (hno.out (by rw [hfo.out, hmg]; rfl))
          clear hmg hno hyes hall hgv
          go_wp2_with fail
          refine hGx.out.mono ?_
          rintro e w3 ⟨rfl, hb3⟩
          have k3 := Lib.hid (hbB.out.trans (hb3.mono hbB.out.size))
          clear hb3
          go_wp2_with fail
          go_ret
          exact ⟨ret_bool (by rw [hmay.out, hfin.out]; rfl), k3.out⟩
        · rw [hmg] at hGx
          replace hGx := Lib.hid hGx
          have hfo2 : Hid (funOk f k x = (x.blocks.all fun b => b.code.all (mayI (outPg f (k + 1)) k))) := Lib.hid (by rw [hfo.out, hmg]; rfl)
          clear hmg hfo
          go_wp2_with fail
          refine hGx.out.mono ?_
          rintro e w3 ⟨rfl, hb3⟩
          have k3 := Lib.hid (hbB.out.trans (hb3.mono hbB.out.size))
          have hOu3 := Lib.hid (hOu.out.keep hb3)
          have hown3 := Lib.hid (own_below hown.out hb3)
          have hbox3 := Lib.hid ((hb3.block _ hw1B).trans hbox.out)
          have u0 := below_in hb3 t0
          have u1 := below_in hb3 t1
          have u2 := below_in hb3 t2
          have u3 := below_in hb3 t3
          have u4 := below_in hb3 t4
          have hkc3 := Lib.hid (below_in hb3 hkc.out)
          have hAx := hA.out x (mayI (outPg f (k + 1)) k) w1.heap.size wr.heap.size w3 hxm.out k3.out (fun b i V hb hi hv => by
            have h := h1.out x b i (prg f (some ⟨g', 0, none⟩) cap l2) k w1.heap.size wr.heap.size V hxm.out hb hi (k3.out.trans (hv.mono k3.out.size))
              (below_in hv (blk_cell hbox3.out (j := 0) (u := .slice f.ma f.mems.length f.mcap) rfl)) (below_in hv (blk_cell hbox3.out (j := 1) (u := .slice f.la f.locks.length f.lcap) rfl))
              (below_in hv (blk_cell hbox3.out (j := 2) (u := .slice (some ⟨g', 0, none⟩) l2.length cap) (by rw [hl2n.out]; rfl))) (below_in hv hkc3.out)
              (by
                obtain ⟨a5, c5, e5, r5⟩ := Cd.row_own (own_below hown3.out hv)
                cases e5
                exact r5.mono fun _ _ => trivial)
            rw [prg_mayI hOu3.out] at h
            exact h)
          have hgv : Value.agg ⟨x.vals⟩ = .agg #[.string x.name, .bool x.thread, .int .i64 x.params, .int .i64 x.regs, .slice x.ba x.blocks.length x.bcap] := rfl
          rw [hgv] at hAx
          clear hb3 hGx t0 t1 t2 t3 t4 hOu hown hbox hkc hgv hgb h1 hA hG
          cases hal : (x.blocks.all fun b => b.code.all (mayI (outPg f (k + 1)) k))
          · rw [hal] at hAx
            replace hAx := Lib.hid hAx
            have hfin := Lib.hid (hno.out (by rw [hfo2.out, hal]))
            clear hal hno hyes hall hfo2
            go_wp2_with fail
            refine hAx.out.mono ?_
            rintro e w4 ⟨rfl, hb4⟩
            have k4 := Lib.hid (k3.out.trans (hb4.mono k3.out.size))
            clear hb4
            go_wp2_with fail
            go_ret
            exact ⟨ret_bool (by rw [hmay.out, hfin.out]; rfl), k4.out⟩
          · rw [hal] at hAx
            replace hAx := Lib.hid hAx
            have hn : Hid (funsOk f 0 (f.funs.take (k + 1)) = true) := Lib.hid (by rw [hyes.out, hall.out, hfo2.out, hal]; rfl)
            clear hal hno hyes hall hfo2
            go_wp2_with fail
            refine hAx.out.mono ?_
            rintro e w4 ⟨rfl, hb4⟩
            have k4 := Lib.hid (k3.out.trans (hb4.mono k3.out.size))
            have hOu4 := Lib.hid (hOu3.out.keep hb4)
            have hown4 := Lib.hid (own_below hown3.out hb4)
            have hbox4 := Lib.hid ((hb4.block _ (Array.getElem?_eq_some_iff.1 hbox3.out).1).trans hbox3.out)
            clear hb4 hAx
            go_wp2_with fail
            go_roundw
            case rel => exact ⟨k + 1, by omega, by go_num, l2, hl2n, hOu4, hown4, hn, hbox4, k4⟩
            case measure => simp [intOf]; omega
      · have hk2 : k = f.funs.length := by omega
        subst hk2
        rw [List.take_length] at hall
        clear hOu hown hbox
        go_wp2_with fail
        go_ret
        exact ⟨ret_bool (by rw [hmay.out, hall.out]; rfl), hb.out⟩
end Go.Proofs.YtckmgefailclcaaDoor.Fw
