/- Walks of tree.partsOf and MayExpr. Conditions: the package's tables hold their lists. -/
import Derived.Test.YtolmhcdcfnoicaaDoorTrF
namespace Go.Proofs.YtolmhcdcfnoicaaDoor.Tr
open Go Go.RowKit Go.Shelf
open Go.Proofs.YtolmhcdcfnoicaaDoor.Lx Go.Proofs.YtolmhcdcfnoicaaDoor.Rg
attribute [local go_sem] Oper.semAt_some

theorem ptsE_eq (b o : Nat) (d : Int) (k : Int) (nm : ByteArray) (n : Int) (a : Option Addr) (cap : Nat) (args : List Ex) (pos : Int) :
    ptsE b o d (.mk k nm n a cap args pos) = ⟨b, o, .inl (.mk k nm n a cap args pos), d⟩ :: ptsL (adB a) (adO a) (d + 1) args := by unfold ptsE; rfl
theorem ptsL_one (b o : Nat) (d : Int) (e : Ex) : ptsL b o d [e] = ptsE b o d e := by unfold ptsL ptsL; rw [List.append_nil]

set_option maxRecDepth 100000 in
set_option maxHeartbeats 2000000 in
theorem partsOf1_in (l n bx : Nat) (e : Ex) (J Jx : List Pt → World → Prop) (W : World) (hbx : ∀ j u, e.vals[j]? = some u → W.cell? ⟨bx, j, none⟩ = some u) (hin : Ex.In W (fun _ => True) e) (hsz : e.sz ≤ 2097152)
    (hY : ∀ m pre x W1, J pre W1 → x.In W1 (fun _ => True) → pre.length < (ptsE W.heap.size 0 1 e).length → YieldAt Fence.wide m Tryd.prog l #[x.val] W1 fun e W' =>
        (e = .returned (.bool true) ∧ J (pre ++ [x]) W' ∧ Kps (fun _ => True) W1 W') ∨ (e = .returned (.bool false) ∧ Jx (pre ++ [x]) W'))
    (hJa : ∀ pre W1 o, J pre W1 → J pre (W1.alloc o)) (hJ0 : J [] W) :
    CallsIn Fence.wide n Tryd.prog 62 #[.func (.yield l) #[] #[], .pointer (some ⟨bx, 0, none⟩)] W fun e' W' => (∃ v, e' = .returned v) ∧
      ((∃ xs, xs = ptsE W.heap.size 0 1 e ∧ J xs W') ∨ (∃ pre, pre <+: ptsE W.heap.size 0 1 e ∧ Jx pre W')) := by
  have hp := fun W' => each_in Fence.wide rfl trivial rfl l _ (fun _ => True) J Jx hY (e.sz) [e] (some ⟨W.heap.size, 0, none⟩) 1 1 (n - 1) [] W' (by unfold Ex.szL Ex.szL; omega) (by omega) (by omega)
  simp only [adB, adO, ptsL_one, List.nil_append, List.length_nil, Nat.zero_add, List.length_cons] at hp
  obtain ⟨k, nm, en, a, cap, args, pos⟩ := e
  have c0 := hbx 0 _ rfl
  have c1 := hbx 1 _ rfl
  have c2 := hbx 2 _ rfl
  have c3 := hbx 3 _ rfl
  have c4 := hbx 4 _ rfl
  have hrow : RowAt (W.alloc (.cells #[.int .u8 k, .string nm, .int .i64 en, .slice a args.length cap, .int .i64 pos] 25)) (fun _ => True) (some ⟨W.heap.size, 0, none⟩) 1 1 (exCells [.mk k nm en a cap args pos]) := by
    refine ⟨Nat.le_refl _, by unfold maxLen; omega, fun h => (by cases h), fun j u hu => ⟨W.heap.size, 0, rfl, trivial, ?_⟩⟩
    have h : (W.alloc (.cells #[.int .u8 k, .string nm, .int .i64 en, .slice a args.length cap, .int .i64 pos] 25)).heap[W.heap.size]? = some (.cells #[.int .u8 k, .string nm, .int .i64 en, .slice a args.length cap, .int .i64 pos] 25 (0, 0)) := World.alloc_heap_new W _
    have key : ∀ (V : World) (B : Nat), V.heap[B]? = some (.cells #[.int .u8 k, .string nm, .int .i64 en, .slice a args.length cap, .int .i64 pos] 25 (0, 0)) → V.cell? ⟨B, 0 + j, none⟩ = some u := fun V B hB => by
      simp only [World.cell?, hB]
      rw [Nat.zero_add]
      simpa [exCells, Ex.vals] using hu
    exact key _ _ h
  have hc := hp _ hrow (by unfold Ex.InL Ex.InL; exact ⟨Ex.In.below (Kps.alloc _ _) _ hin, trivial⟩) (hJa _ _ _ hJ0) (Nat.le_refl _)
  replace hc := Lib.hid hc
  clear hp hrow hin hY hbx hJ0
  generalize ptsE W.heap.size 0 1 (.mk k nm en a cap args pos) = T at *
  refine callsIn_of_wp Tryd.func62 rfl trivial ?_ rfl
  simp only [Tryd.ntmps62, List.size_toArray, List.length_cons, List.length_nil, Nat.reduceAdd, Nat.reduceSub, Array.replicate_succ, Array.replicate_zero, List.push_toArray, List.append_toArray, List.nil_append, List.cons_append]
  gi_wp2_with fail
  refine ⟨trivial, fun h => (by cases h), hc.out.mono ?_⟩
  rintro e W' (⟨rfl, hJ, _⟩ | ⟨rfl, q, hq, hx⟩)
  · gi_wp2_with fail
    go_end0
    exact ⟨⟨_, rfl⟩, .inl ⟨_, rfl, hJ⟩⟩
  · gi_wp2_with fail
    go_end0
    exact ⟨⟨_, rfl⟩, .inr ⟨q, hq, hx⟩⟩

set_option maxHeartbeats 800000 in
theorem partsOf_any (k : Int) (nm : ByteArray) (n : Int) (a : Option Addr) (cap : Nat) (args : List Ex) (pos : Int) (w : World) :
    Calls Tryd.prog 42 #[.agg #[.int .u8 k, .string nm, .int .i64 n, .slice a args.length cap, .int .i64 pos]] w fun e w' =>
      e = .returned (.func (.func 62) #[] #[.pointer (some ⟨w.heap.size, 0, none⟩)]) ∧ w' = w.alloc (.cells #[.int .u8 k, .string nm, .int .i64 n, .slice a args.length cap, .int .i64 pos] 25) := by
  go_enter Tryd.func42, Tryd.ntmps42
  go_wp2_with fail
  go_ret
  exact ⟨rfl, rfl⟩
/-- does a part fit? -/
def fitPt (p : Pt) : Bool := match p.x with
  | .inl e => fitE e
  | .inr s => fitS s
/-- the tables lie in the world -/
structure Tabs (w : World) : Prop where
  sg : SignsIn w
  ex : ExTab w
  st : StTab w
theorem Tabs.below {w w' : World} (h : Tabs w) (hb : Below w.heap.size w w') : Tabs w' := ⟨h.sg.below h.sg.lt hb, h.ex.below hb, h.st.below hb⟩
theorem fitPt_any (x : Pt) (S : Nat → Prop) (w : World) (hx : x.In w S) (ht : Tabs w) :
    Calls Tryd.prog 30 #[x.val] w fun e' w' => e' = .returned (.bool (fitPt x)) ∧ Below w.heap.size w w' := by
  obtain ⟨b, o, x, d⟩ := x
  cases x with
  | inl e => exact fits_ex e b o S d w hx.1 hx.2 ht.sg ht.ex
  | inr e => exact fits_st e b o S d w hx.1 hx.2 ht.sg ht.st
/-- may an expression be? -/
def mayE (e : Ex) : Bool := (ptsE 0 0 1 e).all fitPt
theorem mayE_at (b o : Nat) (e : Ex) : (ptsE b o 1 e).all fitPt = mayE e := by
  obtain ⟨k, nm, en, a, cap, args, pos⟩ := e
  unfold mayE
  rw [ptsE_eq, ptsE_eq]
  rfl

set_option maxRecDepth 100000 in
set_option maxHeartbeats 2000000 in
theorem mayE_any (e : Ex) (w : World) (hin : Ex.In w (fun _ => True) e) (hsz : e.sz ≤ 2097152) (ht : Tabs w) :
    Calls Tryd.prog 19 #[.agg ⟨e.vals⟩] w fun e' w' => e' = .returned (.bool (mayE e)) ∧ Below w.heap.size w w' := by
  obtain ⟨k, nm, en, a, cap, args, pos⟩ := e
  show Calls Tryd.prog 19 #[.agg #[.int .u8 k, .string nm, .int .i64 en, .slice a args.length cap, .int .i64 pos]] w _
  go_enter Tryd.func19, Tryd.ntmps19
  go_wp2_with fail
  refine (partsOf_any k nm en a cap args pos _).mono ?_
  rintro e' w' ⟨rfl, rfl⟩
  go_wp2_with fail
  obtain ⟨wa, hwa⟩ : ∃ wa, (w.alloc (.cells #[.int .u8 k, .string nm, .int .i64 en, .slice a args.length cap, .int .i64 pos] 25)) = wa := ⟨_, rfl⟩
  have hba : Below w.heap.size w wa := by rw [← hwa]; exact (Below.refl _ _).alloc (Nat.le_refl _) _
  have hsa : wa.heap.size = w.heap.size + 1 := by rw [← hwa]; simp
  obtain ⟨wc, hwc⟩ : ∃ wc, (wa.alloc (.cells #[.int .u8 k, .string nm, .int .i64 en, .slice a args.length cap, .int .i64 pos] 25)) = wc := ⟨_, rfl⟩
  have hbc : Below wa.heap.size wa wc := by rw [← hwc]; exact (Below.refl _ _).alloc (Nat.le_refl _) _
  have hsc : wc.heap.size = w.heap.size + 2 := by rw [← hwc]; simp; omega
  have hbw : Below w.heap.size w wc := hba.trans (hbc.mono (by omega))
  have hbx : ∀ j u, (Ex.mk k nm en a cap args pos).vals[j]? = some u → wc.cell? ⟨w.heap.size + 1, j, none⟩ = some u := by
    intro j u hu
    have h : wc.heap[w.heap.size + 1]? = some (.cells #[.int .u8 k, .string nm, .int .i64 en, .slice a args.length cap, .int .i64 pos] 25 (0, 0)) := by rw [← hwc, ← hsa]; exact World.alloc_heap_new wa _
    simp only [World.cell?, h]
    simpa [Ex.vals] using hu
  rw [hwa, hwc]
  have hall := all_part 1 62 30 #[.pointer (some ⟨w.heap.size + 1, 0, none⟩)] (enters_of Tryd.func62 (by kernel_rfl) rfl) (enters_of Tryd.func30 (by kernel_rfl) rfl) wc (ptsE (wc.heap.size + 4) 0 1 (.mk k nm en a cap args pos)) fitPt
    (fun l J Jx W hb hsW hY hJa hJ0 => by
      have h := partsOf1_in l (1 - 1) (w.heap.size + 1) (.mk k nm en a cap args pos) J Jx W
        (fun j u hu => (hb.cell (p := ⟨w.heap.size + 1, j, none⟩) (by simp; omega)).trans (hbx j u hu))
        (Ex.In.below (Kps.of_below (hbw.trans (hb.mono (by omega)))) _ hin) hsz
      rw [hsW] at h
      exact h hY hJa hJ0)
    (fun x W hb hx => fitPt_any x _ W hx (ht.below (hbw.trans (hb.mono (by omega)))))
  rw [mayE_at] at hall
  have hall2 := callsIn_wide.1 hall
  replace hall2 := Lib.hid hall2
  clear hall hbx hwa hwc hin ht hsc hsa
  refine hall2.out.mono ?_
  rintro e' w' ⟨rfl, hb⟩
  go_wp2_with fail
  go_ret
  exact ⟨rfl, hbw.trans (hb.mono hbw.size)⟩
end Go.Proofs.YtolmhcdcfnoicaaDoor.Tr
