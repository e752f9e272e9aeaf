/- Walks of tree.Depth and tree.Size. Conditions: none. -/
import Derived.Test.YtolmhcdcfnoicaaDoorTrK
namespace Go.Proofs.YtolmhcdcfnoicaaDoor.Tr
open Go Go.RowKit Go.Shelf
open Go.Proofs.YtolmhcdcfnoicaaDoor.Lx Go.Proofs.YtolmhcdcfnoicaaDoor.Rg
attribute [local go_sem] Oper.semAt_some

theorem RowAt.bd {w : World} {S : Nat → Prop} {a : Option Addr} {cap n : Nat} {xs : List Value} (h : RowAt w S a cap n xs) : RowAt w (fun b => b < w.heap.size) a cap n xs :=
  ⟨h.le, h.lim, h.nil, fun j u hj => by
    obtain ⟨b, off, ha, _, hc⟩ := h.at_ j u hj
    exact ⟨b, off, ha, World.block_lt_of_cell? _ _ hc, hc⟩⟩
mutual
theorem Ex.In.bd {w : World} {S : Nat → Prop} : ∀ e, Ex.In w S e → Ex.In w (fun b => b < w.heap.size) e
  | .mk k nm n a cap args pos, h => by
    unfold Ex.In at h ⊢
    exact ⟨h.1, h.2.1, h.2.2.1, h.2.2.2.1, h.2.2.2.2.1.bd, Ex.InL.bd args h.2.2.2.2.2⟩
theorem Ex.InL.bd {w : World} {S : Nat → Prop} : ∀ l, Ex.InL w S l → Ex.InL w (fun b => b < w.heap.size) l
  | [], _ => by unfold Ex.InL; trivial
  | e :: r, h => by
    unfold Ex.InL at h ⊢
    exact ⟨Ex.In.bd e h.1, Ex.InL.bd r h.2⟩
end
mutual
theorem St.In.bd {w : World} {S : Nat → Prop} : ∀ e, St.In w S e → St.In w (fun b => b < w.heap.size) e
  | .mk k nm to new ea ecap e ba bcap body la lcap els pos, h => by
    unfold St.In at h ⊢
    obtain ⟨h1, h2, h3, h4, h5, h6, h7, h8, h9, h10⟩ := h
    exact ⟨h1, h2, h3, h4, h5.bd, Ex.InL.bd _ h6, h7.bd, St.InL.bd _ h8, h9.bd, St.InL.bd _ h10⟩
theorem St.InL.bd {w : World} {S : Nat → Prop} : ∀ l, St.InL w S l → St.InL w (fun b => b < w.heap.size) l
  | [], _ => by unfold St.InL; trivial
  | e :: r, h => by
    unfold St.InL at h ⊢
    exact ⟨St.In.bd e h.1, St.InL.bd r h.2⟩
end
theorem De.InL.bd {w : World} {S : Nat → Prop} {l : List De} (h : De.InL w S l) : De.InL w (fun b => b < w.heap.size) l := fun d hd =>
  have hx := h d hd
  ⟨hx.1, hx.2.1, hx.2.2.1, hx.2.2.2.1, hx.2.2.2.2.1.bd, hx.2.2.2.2.2.1, hx.2.2.2.2.2.2.1.bd, St.InL.bd _ hx.2.2.2.2.2.2.2⟩
theorem Kps.setCell (W : World) (r : Nat) (u : Value) : Kps (fun b => b ≠ r) W (W.setCell ⟨r, 0, none⟩ u) := fun b o v hs hc =>
  (World.cell?_setCell_other _ _ _ _ (fun e => hs (by rw [Addr.mk.injEq] at e; exact e.1.symm))).trans hc

/-- how deep the deepest part stands -/
def deepest (T : List Pt) : Int := T.foldl (fun m p => max m p.d) 0
theorem deepest_snoc (T : List Pt) (x : Pt) : deepest (T ++ [x]) = max (deepest T) x.d := by unfold deepest; rw [List.foldl_append]; rfl

set_option maxRecDepth 100000 in
set_option maxHeartbeats 2000000 in
theorem depth_in (n : Nat) (ds : List De) (a : Option Addr) (cap : Nat) (w : World) (hrow : RowAt w (fun _ => True) a cap ds.length (deCells ds)) (hin : De.InL w (fun _ => True) ds) (hsz : De.szL ds ≤ 4194304) :
    CallsIn Fence.wide n Tryd.prog 13 #[.slice a ds.length cap] w fun e w' => e = .returned (.int .i64 (deepest (ptsD ds))) ∧ Below w.heap.size w w' := by
  refine callsIn_of_wp_marks Tryd.func13 rfl trivial ?_ rfl
  simp only [Tryd.ntmps13, List.size_toArray, List.length_cons, List.length_nil, Nat.reduceAdd, Nat.reduceSub, Array.replicate_succ, Array.replicate_zero, List.push_toArray, List.append_toArray, List.nil_append, List.cons_append]
  gi_wp2_with fail
  refine ⟨trivial, fun h => (by cases h), (callsIn_wide.2 (parts_any _ _ _ _)).mono ?_⟩
  rintro e w' ⟨rfl, rfl⟩
  gi_wp2_with fail
  have e0 : ∀ o1 o2, ((w.alloc o1).alloc o2).heap.size = w.heap.size + 2 := fun o1 o2 => by simp
  obtain ⟨w2, hw2⟩ : ∃ w2, (w.alloc (.cells #[.int .i64 0] 3)).alloc (.cells #[.slice a ds.length cap] 22) = w2 := ⟨_, rfl⟩
  have hs2 : w2.heap.size = w.heap.size + 2 := by rw [← hw2]; exact e0 _ _
  have hb2 : Below w.heap.size w w2 := by rw [← hw2]; exact ((Below.refl _ _).alloc (Nat.le_refl _) _).alloc (by simp) _
  have hc0 : Cel w w.heap.size (.int .i64 0) w2 := by rw [← hw2]; exact (Cel.new w w _ _).alloc _
  have hc1 : Cel w (w.heap.size + 1) (.slice a ds.length cap) w2 := by rw [← hw2]; have := Cel.new w (w.alloc (.cells #[.int .i64 0] 3)) (.slice a ds.length cap) 22; rwa [World.size_alloc] at this
  rw [hw2]
  have hrow2 : RowAt w (fun b => b ≠ w.heap.size) a cap ds.length (deCells ds) := hrow.bd.mono (fun b h => by omega)
  have hin2 : De.InL w (fun b => b ≠ w.heap.size) ds := hin.bd.mono (fun b h => by omega)
  refine range_law (α := Pt) rfl rfl (gf := 54) (lb := #[.pointer (some ⟨w.heap.size + 1, 0, none⟩)]) rfl trivial (enters_of Tryd.func54 (by kernel_rfl) rfl) (encs := fun x => #[x.val]) (fun _ => rfl) (fun x W => x.In W (fun b => b ≠ w.heap.size)) (Kps (fun b => b ≠ w.heap.size)) (fun xs => xs = ptsD ds) (fun pre => pre <+: ptsD ds) (ptsD ds).length
    (fun l J Jx W hsW hb hY hJa hJ0 => parts1_in l (n - 1) (w.heap.size + 1) (ptsD ds).length (fun b => b ≠ w.heap.size) ds a cap J Jx W (hc1.below hb).cell (by omega) (hrow2.below (Kps.of_below (hb2.trans (hb.mono (by omega))))) (De.InL.below (Kps.of_below (hb2.trans (hb.mono (by omega)))) hin2) hsz (Nat.le_refl _) hY hJ0)
    (fun h k => h.trans k) ceq_kps (fun pre W => Cel w w.heap.size (.int .i64 (deepest pre)) W ∧ Below w.heap.size w W ∧ w2.heap.size ≤ W.heap.size) (fun _ _ => False)
    ⟨fun pre W W' h hq hb => ⟨h.1.ceq hq, h.2.1.trans (hb.mono (by omega)), by have := h.2.2; rw [hq.size]; exact this⟩, fun pre W o h hs => ⟨h.1.alloc o, h.2.1.alloc (by omega) o, by simp; omega⟩⟩
    ⟨fun _ _ _ h _ _ => h, fun _ _ _ h _ => h⟩ (fun _ _ h => h.2.2) ⟨hc0, hb2, Nat.le_refl _⟩ ?round ?done ?stop
  case round =>
    rintro l m pre x W ⟨hk, hbW, hsz⟩ _ _
    obtain ⟨p1, p2, hv⟩ := x.val_eq
    have hds := deepest_snoc pre x
    rw [hv]
    gi_wp2
    refine ⟨keeps_below ((Below.refl _ _).alloc (Nat.le_refl _) _), Kps.alloc _ _, fun W2 hq hb => ?_⟩
    have a1 := (hk.alloc (.cells #[.pointer p1, .pointer p2, .int .i64 x.d] 49)).ceq hq
    have b2 : W2.cell? ⟨W.heap.size, 2, none⟩ = some (.int .i64 x.d) := by rw [hq.cell]; go_simp
    have hbW2 : Below w.heap.size w W2 := (hbW.alloc (by omega) _).trans (hb.mono (by omega))
    have hsz2 : w2.heap.size ≤ W2.heap.size := by rw [hq.size]; simp; omega
    have ha1 := a1.cell
    have ha2 := a1.frozen
    replace hbW2 := Lib.hid hbW2
    replace hds := Lib.hid hds
    clear hq hb hk hv
    gi_wp2_with fail
    refine ⟨(KeepsOthers.setCell _ _ _).from _, Kps.setCell _ _ _, ?_, hbW2.out.setCell (by simp) _, by simp [World.setCell]; omega⟩
    rw [hds.out]
    exact a1.setS _
  case done =>
    rintro D xs W hD rfl ⟨hk, hbW, hsz⟩ hK
    have a1 := hk.cell
    gi_wp2
    refine ⟨by simp, .inl ⟨_, _, rfl, run_takeDeferred hK, ?_⟩⟩
    exact ⟨_, results_tmp rfl _ _ _, rfl, hbW.trans (below_put _ _ (by omega))⟩
  case stop =>
    rintro D pre W _ _ h _
    exact h.elim
set_option maxRecDepth 100000 in
set_option maxHeartbeats 2000000 in
theorem size_in (n : Nat) (ds : List De) (a : Option Addr) (cap : Nat) (w : World) (hrow : RowAt w (fun _ => True) a cap ds.length (deCells ds)) (hin : De.InL w (fun _ => True) ds) (hsz : De.szL ds ≤ 4194304) (hdl : ds.length ≤ 4194304) (hpl : (ptsD ds).length ≤ 4194304) :
    CallsIn Fence.wide n Tryd.prog 15 #[.slice a ds.length cap] w fun e w' => e = .returned (.int .i64 ((ds.length : Int) + (ptsD ds).length)) ∧ Below w.heap.size w w' := by
  refine callsIn_of_wp_marks Tryd.func15 rfl trivial ?_ rfl
  simp only [Tryd.ntmps15, List.size_toArray, List.length_cons, List.length_nil, Nat.reduceAdd, Nat.reduceSub, Array.replicate_succ, Array.replicate_zero, List.push_toArray, List.append_toArray, List.nil_append, List.cons_append]
  gi_wp2_with fail
  refine ⟨trivial, fun h => (by cases h), (callsIn_wide.2 (parts_any _ _ _ _)).mono ?_⟩
  rintro e w' ⟨rfl, rfl⟩
  gi_wp2_with fail
  have e0 : ∀ o1 o2, ((w.alloc o1).alloc o2).heap.size = w.heap.size + 2 := fun o1 o2 => by simp
  obtain ⟨w2, hw2⟩ : ∃ w2, (w.alloc (.cells #[.int .i64 (ds.length : Int)] 3)).alloc (.cells #[.slice a ds.length cap] 22) = w2 := ⟨_, rfl⟩
  have hs2 : w2.heap.size = w.heap.size + 2 := by rw [← hw2]; exact e0 _ _
  have hb2 : Below w.heap.size w w2 := by rw [← hw2]; exact ((Below.refl _ _).alloc (Nat.le_refl _) _).alloc (by simp) _
  have hc0 : Cel w w.heap.size (.int .i64 (ds.length : Int)) w2 := by rw [← hw2]; exact (Cel.new w w _ _).alloc _
  have hc1 : Cel w (w.heap.size + 1) (.slice a ds.length cap) w2 := by rw [← hw2]; have := Cel.new w (w.alloc (.cells #[.int .i64 (ds.length : Int)] 3)) (.slice a ds.length cap) 22; rwa [World.size_alloc] at this
  rw [hw2]
  have hrow2 : RowAt w (fun b => b ≠ w.heap.size) a cap ds.length (deCells ds) := hrow.bd.mono (fun b h => by omega)
  have hin2 : De.InL w (fun b => b ≠ w.heap.size) ds := hin.bd.mono (fun b h => by omega)
  refine range_law (α := Pt) rfl rfl (gf := 54) (lb := #[.pointer (some ⟨w.heap.size + 1, 0, none⟩)]) rfl trivial (enters_of Tryd.func54 (by kernel_rfl) rfl) (encs := fun x => #[x.val]) (fun _ => rfl) (fun x W => x.In W (fun b => b ≠ w.heap.size)) (Kps (fun b => b ≠ w.heap.size)) (fun xs => xs = ptsD ds) (fun pre => pre <+: ptsD ds) (ptsD ds).length
    (fun l J Jx W hsW hb hY hJa hJ0 => parts1_in l (n - 1) (w.heap.size + 1) (ptsD ds).length (fun b => b ≠ w.heap.size) ds a cap J Jx W (hc1.below hb).cell (by omega) (hrow2.below (Kps.of_below (hb2.trans (hb.mono (by omega))))) (De.InL.below (Kps.of_below (hb2.trans (hb.mono (by omega)))) hin2) hsz (Nat.le_refl _) hY hJ0)
    (fun h k => h.trans k) ceq_kps (fun pre W => Cel w w.heap.size (.int .i64 ((ds.length : Int) + pre.length)) W ∧ Below w.heap.size w W ∧ w2.heap.size ≤ W.heap.size) (fun _ _ => False)
    ⟨fun pre W W' h hq hb => ⟨h.1.ceq hq, h.2.1.trans (hb.mono (by omega)), by have := h.2.2; rw [hq.size]; exact this⟩, fun pre W o h hs => ⟨h.1.alloc o, h.2.1.alloc (by omega) o, by simp; omega⟩⟩
    ⟨fun _ _ _ h _ _ => h, fun _ _ _ h _ => h⟩ (fun _ _ h => h.2.2) ⟨by simpa using hc0, hb2, Nat.le_refl _⟩ ?round ?done ?stop
  case round =>
    rintro l m pre x W ⟨hk, hbW, hsz⟩ _ hlen
    have hds : ((pre ++ [x]).length : Int) = (pre.length : Int) + 1 := by rw [List.length_append]; rfl
    gi_wp2
    refine ⟨KeepsFrom.refl _ _, Kps.refl _ _, fun W2 hq hb => ?_⟩
    have a1 := hk.ceq hq
    have hbW2 : Below w.heap.size w W2 := hbW.trans (hb.mono (by omega))
    have hsz2 : w2.heap.size ≤ W2.heap.size := by rw [hq.size]; exact hsz
    have ha1 := a1.cell
    have ha2 := a1.frozen
    replace hbW2 := Lib.hid hbW2
    replace hds := Lib.hid hds
    clear hq hb hk
    gi_wp2_with fail
    refine ⟨(KeepsOthers.setCell _ _ _).from _, Kps.setCell _ _ _, ?_, hbW2.out.setCell (by simp) _, by simp [World.setCell]; omega⟩
    rw [hds.out, ← Int.add_assoc]
    exact a1.setS _
  case done =>
    rintro D xs W hD rfl ⟨hk, hbW, hsz⟩ hK
    have a1 := hk.cell
    gi_wp2
    refine ⟨by simp, .inl ⟨_, _, rfl, run_takeDeferred hK, ?_⟩⟩
    exact ⟨_, results_tmp rfl _ _ _, rfl, hbW.trans (below_put _ _ (by omega))⟩
  case stop =>
    rintro D pre W _ _ h _
    exact h.elim
end Go.Proofs.YtolmhcdcfnoicaaDoor.Tr
