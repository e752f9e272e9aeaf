/- Walk of outline. Conditions: the program of blocks lies in memory; its graphs are of bounded number. -/
import Derived.Test.YtckmgefailclcaaDoorJFwM0
import Derived.Test.YtckmgefailclcaaDoorJaM
import Derived.Test.YtckmgefailclcaaDoorJFwJ
import Derived.BigQuiet
import Derived.Deep.Cut
import Derived.Deep.QuietTactic
namespace Go.Proofs.YtckmgefailclcaaDoor.Fw
open Go Go.RowKit
open Go.Proofs.YtckmgefailclcaaDoor.Lx Go.Proofs.YtckmgefailclcaaDoor.Tr Go.Proofs.YtckmgefailclcaaDoor.Cd

def jmp : Ins := ⟨11, 0, 0, 0, 0, none, 0, []⟩
/-- a graph's Fun, as it lies -/
def outA (x : Gr) (c : Nat) (r : Bool) : Cd.Fn := ⟨x.name, x.thread, x.params, if r then x.regs else x.params, some ⟨c, 0, none⟩, 1, [jmp]⟩
theorem outA_er (x : Gr) (c : Nat) (r : Bool) : (outA x c r).er = (outFn x r).er := rfl
/-- Funs that say what graphs' ones say, the first ones with their registers; where their instructions lie -/
structure Outs (k : Nat) (l : List Cd.Fn) (gs : List Gr) (W : World) : Prop where
  er : l.map Cd.Fn.er = (outFns k gs).map Cd.Fn.er
  at_ : ∀ f ∈ l, ∃ x ∈ gs, ∃ c r, f = outA x c r ∧ W.heap[c]? = some (.cells #[.int .u8 11, .int .i64 0, .int .i64 0, .int .i64 0, .int .i64 0, .slice none 0 0] 44 (0, 0))
theorem outFns_len (k : Nat) (gs : List Gr) : (outFns k gs).length = gs.length := by
  induction gs generalizing k with
  | nil => rfl
  | cons x r ih => simp [outFns, ih]
theorem outFns_zero (gs : List Gr) : outFns 0 gs = gs.map fun x => outFn x false := by
  induction gs with
  | nil => rfl
  | cons x r ih => simp [outFns, ih]
theorem Outs.len {k : Nat} {l : List Cd.Fn} {gs : List Gr} {W : World} (h : Outs k l gs W) : l.length = gs.length := by
  have := congrArg List.length h.er
  simpa [outFns_len] using this
theorem Outs.nil (k : Nat) (W : World) : Outs k [] [] W := ⟨rfl, fun f hf => by cases hf⟩
theorem Outs.snoc {l : List Cd.Fn} {gs : List Gr} {x : Gr} {k c : Nat} {W W' : World} (hx : gs[k]? = some x) (h : Outs 0 l (gs.take k) W)
    (hk : ∀ (c : Nat) vs fr, W.heap[c]? = some (.cells vs 44 fr) → W'.heap[c]? = some (.cells vs 44 fr))
    (hc : W'.heap[c]? = some (.cells #[.int .u8 11, .int .i64 0, .int .i64 0, .int .i64 0, .int .i64 0, .slice none 0 0] 44 (0, 0))) :
    Outs 0 (l ++ [outA x c false]) (gs.take (k + 1)) W' := by
  refine ⟨?_, fun f hf => ?_⟩
  · rw [List.take_add_one, hx, outFns_zero, List.map_append, h.er, outFns_zero]
    simp [outA_er]
  · rcases List.mem_append.1 hf with hf | hf
    · obtain ⟨y, hy, c, r, e, hh⟩ := h.at_ f hf
      exact ⟨y, List.take_subset_take_left gs (Nat.le_succ k) hy, c, r, e, hk c _ _ hh⟩
    · rw [List.mem_singleton.1 hf]
      refine ⟨x, ?_, c, false, rfl, hc⟩
      rw [List.take_add_one, hx]
      simp
theorem Outs.keep {k : Nat} {l : List Cd.Fn} {gs : List Gr} {W W' : World} (h : Outs k l gs W) (hb : Below W.heap.size W W') : Outs k l gs W' :=
  ⟨h.er, fun f hf => by
    obtain ⟨x, hx, c, r, e, hh⟩ := h.at_ f hf
    exact ⟨x, hx, c, r, e, (hb.block c (Array.getElem?_eq_some_iff.1 hh).1).trans hh⟩⟩
theorem Outs.set {k b j : Nat} {l : List Cd.Fn} {gs : List Gr} {W : World} {vs : Array Value} {fr : Nat × Nat} (h : Outs k l gs W) (hb : W.heap[b]? = some (.cells vs 26 fr)) (u : Value) : Outs k l gs (W.setCell ⟨b, j, none⟩ u) :=
  ⟨h.er, fun f hf => by
    obtain ⟨x, hx, c, r, e, hh⟩ := h.at_ f hf
    refine ⟨x, hx, c, r, e, ?_⟩
    rw [heap_oth (fun e => ?_)]
    · exact hh
    · subst e
      rw [hb] at hh
      have := Option.some.inj hh
      simp at this⟩
theorem own_base {B B' : Nat} {e : TypeId} {c n : Nat} {v : Value} {xs : List Value} {W : World} (h : W.ownsRow B e c v n xs) (hb : B' ≤ B) : W.ownsRow B' e c v n xs :=
  ⟨h.1, h.2.imp id fun ⟨g, cap, cur, hv, hB, r⟩ => ⟨g, cap, cur, hv, Nat.le_trans hb hB, r⟩⟩
theorem box3 (w : World) (x : Fm) : let W := w.alloc (.cells #[.slice x.ma x.mems.length x.mcap, .slice x.la x.locks.length x.lcap, .slice x.fa x.funs.length x.fcap] 30)
    W.cell? ⟨w.heap.size, 0, none⟩ = some (.slice x.ma x.mems.length x.mcap) ∧ W.cell? ⟨w.heap.size, 1, none⟩ = some (.slice x.la x.locks.length x.lcap) ∧ W.cell? ⟨w.heap.size, 2, none⟩ = some (.slice x.fa x.funs.length x.fcap) := by
  intro W
  have h1 : ∀ j u, x.vals[j]? = some u → W.cell? ⟨w.heap.size, j, none⟩ = some u := fun j u hu => box_new w x.vals 30 j u hu
  exact ⟨h1 0 _ rfl, h1 1 _ rfl, h1 2 _ rfl⟩
set_option maxHeartbeats 4000000 in
set_option maxRecDepth 100000 in
theorem outline_c (f : Fm) (w : World) (hf : Fm.In w f) (hn : f.funs.length ≤ 1048576) :
    Calls Tryd.prog 37 #[.agg ⟨f.vals⟩] w fun e w' => (∃ l v cap, e = .returned (.agg #[.slice f.ma f.mems.length f.mcap, .slice f.la f.locks.length f.lcap, .slice v l.length cap]) ∧ w'.ownsRow w.heap.size 52 5 (.slice v l.length cap) l.length (fnCells l) ∧ Outs 0 l f.funs w') ∧ Below w.heap.size w w' := by
  obtain ⟨hc1, hc2⟩ := len_i hf.frow
  have hR := Lib.hid (fun V (hv : Below w.heap.size w V) => hf.frow.below (Kps.of_below hv))
  clear hf
  obtain ⟨ma, mcap, mems, la, lcap, locks, fa, fcap, funs⟩ := f
  simp only at *
  unfold Fm.vals
  simp only
  generalize mems.length = ml
  generalize locks.length = ll
  obtain ⟨i0, hi0, hz0, hz1, hz2⟩ := info_parts info_fn
  have hst := Lib.hid (b_alloc3 w (.cells #[.slice ma ml mcap, .slice la ll lcap, .slice fa funs.length fcap] 30) (.cells #[.slice none 0 0, .slice none 0 0, .slice none 0 0] 26) (.cells #[.slice ma ml mcap, .slice la ll lcap, .slice none 0 0] 26))
  obtain ⟨g0, g1, g2⟩ := ins3 w (.cells #[.slice ma ml mcap, .slice la ll lcap, .slice fa funs.length fcap] 30) (.cells #[.slice none 0 0, .slice none 0 0, .slice none 0 0] 26) (.cells #[.slice ma ml mcap, .slice la ll lcap, .slice none 0 0] 26)
  replace g0 := Lib.hid g0
  replace g1 := Lib.hid g1
  replace g2 := Lib.hid g2
  go_enter Tryd.func37, Tryd.ntmps37
  go_upto_region 2 with fail
  generalize hW1 : ((w.alloc (.cells #[.slice ma ml mcap, .slice la ll lcap, .slice fa funs.length fcap] 30)).alloc (.cells #[.slice none 0 0, .slice none 0 0, .slice none 0 0] 26)).alloc (.cells #[.slice ma ml mcap, .slice la ll lcap, .slice none 0 0] 26) = W1 at *
  have hs1 : w.heap.size + 3 = W1.heap.size := by rw [← hW1]; simp
  have p2 := blk_cell g0.out (j := 2) (u := .slice fa funs.length fcap) rfl
  have hBx : Hid (Bx (w.heap.size + 2) (w.heap.size + 1 + 1) (.slice ma ml mcap) (.slice la ll lcap) [] W1) := Lib.hid ⟨by omega, none, 0, g2.out, World.ownsRow_nil _ _ _ _⟩
  clear hW1 g0 g2
  go_wp2_with fail
  go_loopw [15] (fun i wr => ∃ k : Nat, k ≤ funs.length ∧ i = .int .i64 k ∧ ∃ l, Hid (Outs 0 l (funs.take k) wr) ∧ Hid (Bx (w.heap.size + 2) (w.heap.size + 1 + 1) (.slice ma ml mcap) (.slice la ll lcap) l wr) ∧ Hid (Below (w.heap.size + 2) W1 wr)) (fun i _ => funs.length - (intOf i).toNat)
  case atStart => exact ⟨0, Nat.zero_le _, rfl, [], Lib.hid (Outs.nil _ _), hBx, Lib.hid (Below.refl _ _)⟩
  case round =>
    clear hBx
    obtain ⟨k, hk, rfl, l, hO, hX, hb⟩ := hrel
    have hbw := Lib.hid (hst.out.trans (hb.out.mono (by omega)))
    have hsw := hb.out.size
    have hOl := hO.out.len
    rw [List.length_take] at hOl
    by_cases hlt : k < funs.length
    · obtain ⟨x, hx⟩ : ∃ x, funs[k]? = some x := ⟨_, List.getElem?_eq_getElem hlt⟩
      obtain ⟨b, off, ha, _, c0, c1, c2, c3, c4⟩ := gr_row (hR.out _ hbw.out) k x hx
      have hbl : b < wr.heap.size := World.block_lt_of_cell? _ _ c0
      have hi0' : (0 : Int) ≤ (k : Int) := by omega
      have hi1 : (k : Int) < (funs.length : Int) := by omega
      have hln : l.length = k := by omega
      subst ha
      obtain ⟨s0, s1, s2⟩ := ins3 wr (.cells #[.string x.name, .bool x.thread, .int .i64 x.params, .int .i64 x.regs, .slice x.ba x.blocks.length x.bcap] 37) (.cells #[.int .u8 11, .int .i64 0, .int .i64 0, .int .i64 0, .int .i64 0, .slice none 0 0] 44) (.cells #[.string x.name, .bool x.thread, .int .i64 x.params, .int .i64 x.params, .slice (some ⟨wr.heap.size + 1, 0, none⟩) 1 1] 52)
      have hbA := Lib.hid (b_alloc3 wr (.cells #[.string x.name, .bool x.thread, .int .i64 x.params, .int .i64 x.regs, .slice x.ba x.blocks.length x.bcap] 37) (.cells #[.int .u8 11, .int .i64 0, .int .i64 0, .int .i64 0, .int .i64 0, .slice none 0 0] 44) (.cells #[.string x.name, .bool x.thread, .int .i64 x.params, .int .i64 x.params, .slice (some ⟨wr.heap.size + 1, 0, none⟩) 1 1] 52))
      go_upto_region 6 with fail
      generalize hWA : ((wr.alloc (.cells #[.string x.name, .bool x.thread, .int .i64 x.params, .int .i64 x.regs, .slice x.ba x.blocks.length x.bcap] 37)).alloc (.cells #[.int .u8 11, .int .i64 0, .int .i64 0, .int .i64 0, .int .i64 0, .slice none 0 0] 44)).alloc (.cells #[.string x.name, .bool x.thread, .int .i64 x.params, .int .i64 x.params, .slice (some ⟨wr.heap.size + 1, 0, none⟩) 1 1] 52) = WA at *
      have hsA : wr.heap.size + 3 = WA.heap.size := by rw [← hWA]; simp
      clear hWA s0
      have hbA2 := Lib.hid (hb.out.trans (hbA.out.mono (by omega)))
      have hXA := Lib.hid (hX.out.keep hbA.out)
      have hOA := Lib.hid (hO.out.keep hbA.out)
      obtain ⟨v, cap, e0, e1, e2, ho, hbl2⟩ := hXA.out.get
      have efr : WA.frozen? ⟨w.heap.size + 1 + 1, 2, none⟩ = false := by
        obtain ⟨_, _, _, h1, _⟩ := hXA.out
        exact blk_free h1 _
      have t0 := blk_cell s2 (j := 0) (u := .string x.name) rfl
      have t1 := blk_cell s2 (j := 1) (u := .bool x.thread) rfl
      have t2 := blk_cell s2 (j := 2) (u := .int .i64 x.params) rfl
      have t3 := blk_cell s2 (j := 3) (u := .int .i64 x.params) rfl
      have t4 := blk_cell s2 (j := 4) (u := .slice (some ⟨wr.heap.size + 1, 0, none⟩) 1 1) rfl
      have hstep := Lib.hid (fun (w3 : World) (o : Obj) (v' : Value) hgr h3 => hXA.out.step (w3 := w3) (o := o) (v' := v') (x := outA x (wr.heap.size + 1) false) e2 hgr h3)
      have hoth := Lib.hid (fun (w3 : World) (o : Obj) (u : Value) (c : Nat) vs fr hgr hc => hXA.out.other (w3 := w3) (o := o) (u := u) (k := c) (vs := vs) (fr := fr) e2 ho hgr hc)
      have hOs := Lib.hid (fun (W' : World) hk hc => hOA.out.snoc (W' := W') (c := wr.heap.size + 1) hx hk hc)
      have hown := Lib.hid ho
      replace s1 := Lib.hid s1
      rw [hln] at e2 hstep hown hoth
      have hbb : Hid (∀ (o : Obj) (w3 : World) (u : Value), (WA.alloc o).grownBy w3 (Value.slice v k cap).ownBlock → Below (w.heap.size + 2) W1 (w3.setCell ⟨w.heap.size + 1 + 1, 2, none⟩ u)) := Lib.hid (by
        intro o w3 u hg
        exact ((hbA2.out.alloc (by omega) o).grown hg (by simp; omega) (fun q e => (hown.out.lt q e).1)).setCell (p := ⟨w.heap.size + 1 + 1, 2, none⟩) (by show w.heap.size + 2 ≤ w.heap.size + 1 + 1; omega) _)
      clear hX hO hXA hOA ho e0 e1 s2 hx
      go_wp2_with (at_builtin; refine wpList_append_own_at _ rfl _ _ 24 rfl (w.heap.size + 2) 52 i0 _ 5 64 Tryd.underlying24 hi0 hz0 hz1 hz2 rfl (by decide) _ _ _ rfl (own_below hown.out (b_alloc _ _)) _ 1 1 (outA x (wr.heap.size + 1) false).vals rfl rfl (row_at _ (outA x (wr.heap.size + 1) false).vals _ _ (by first | rfl | simp)) (by simp [Value.oneCell', outA, Cd.Fn.vals]) ?c1 ?c2 ?c3 ?_)
      case c1 => unfold maxLen; omega
      case c2 => omega
      case c3 => simp; omega
      intro v' w3 hown3 hg3 _ hat3
      obtain ⟨⟨va, vcap, rfl⟩, ⟨h3c, h3f, h3l⟩, hX2⟩ := hstep.out _ _ _ hg3 hown3
      have hb2 := Lib.hid (hbb.out _ _ (.slice va (k + 1) vcap) hg3)
      have hO2 := Lib.hid (hOs.out _ (fun c vs fr hc => hoth.out _ _ (.slice va (k + 1) vcap) c vs fr hg3 hc) (hoth.out _ _ (.slice va (k + 1) vcap) _ _ _ hg3 s1.out))
      replace hX2 := Lib.hid hX2
      clear hstep hown hbb hown3 hg3 hat3 e2 efr hOs hoth
      go_wp2_with fail
      go_roundw
      case rel => exact ⟨k + 1, by omega, by go_num, _, hO2, hX2, hb2⟩
      case measure => simp [intOf]; omega
    · have hk2 : k = funs.length := by omega
      subst hk2
      rw [List.take_length] at hO
      obtain ⟨v, cap, e0, e1, e2, ho, hbl2⟩ := hX.out.get
      have hln : l.length = funs.length := by omega
      have hres : wr.heap[w.heap.size + 1]? = some (.cells #[.slice none 0 0, .slice none 0 0, .slice none 0 0] 26 (0, 0)) := (hb.out.block _ (by omega)).trans g1.out
      have hrl : w.heap.size + 1 < wr.heap.size := by omega
      have r0 := blk_cell hres (j := 0) (u := .slice none 0 0) rfl
      have r1 := blk_cell hres (j := 1) (u := .slice none 0 0) rfl
      have r2 := blk_cell hres (j := 2) (u := .slice none 0 0) rfl
      have f0 := blk_free hres 0
      have f1 := blk_free hres 1
      have f2 := blk_free hres 2
      rw [hln] at e2 ho
      replace hres := Lib.hid hres
      replace ho := Lib.hid ho
      replace hln := Lib.hid hln
      clear hX g1 hOl
      go_wp2_with fail
      have hne : (Value.slice v funs.length cap).ownBlock ≠ some (w.heap.size + 1) := fun e => by have := (ho.out.lt _ e).1; omega
      have hfin := ownsRow_setCell_other (ownsRow_setCell_other (ownsRow_setCell_other ho.out (a := ⟨w.heap.size + 1, 0, none⟩) hne (.slice ma ml mcap)) (a := ⟨w.heap.size + 1, 1, none⟩) hne (.slice la ll lcap)) (a := ⟨w.heap.size + 1, 2, none⟩) hne (.slice v funs.length cap)
      have h1 := heap_set1 hres.out 0 (.slice ma ml mcap)
      have h2 := heap_set1 h1 1 (.slice la ll lcap)
      have hh := heap_set1 h2 2 (.slice v funs.length cap)
      have hOf := ((hO.out.set hres.out (j := 0) (.slice ma ml mcap)).set h1 (j := 1) (.slice la ll lcap)).set h2 (j := 2) (.slice v funs.length cap)
      refine bodyPost_ret (v := .agg #[.slice ma ml mcap, .slice la ll lcap, .slice v funs.length cap]) (results_cell_row Tryd.results37 _ _ (w.heap.size + 1) _ _ _ _ rfl hh Tryd.underlying26 rfl (by kernel_rfl)) rfl ⟨⟨l, v, cap, by rw [hln.out], ?_, hOf⟩, ((hbw.out.setCell (p := ⟨w.heap.size + 1, 0, none⟩) (by show w.heap.size ≤ w.heap.size + 1; omega) _).setCell (p := ⟨w.heap.size + 1, 1, none⟩) (by show w.heap.size ≤ w.heap.size + 1; omega) _).setCell (p := ⟨w.heap.size + 1, 2, none⟩) (by show w.heap.size ≤ w.heap.size + 1; omega) _⟩
      rw [hln.out]
      exact own_base hfin (by omega)
end Go.Proofs.YtckmgefailclcaaDoor.Fw
