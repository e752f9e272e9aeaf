/- Walk of the document's Of. Conditions: the program lies in memory, its lists are of bounded length. -/
import Derived.Test.YthiiahlgncngoaaDoorRRJCtG
set_option maxHeartbeats 16000000
set_option maxRecDepth 100000
set_option linter.unusedVariables false
set_option linter.unusedSimpArgs false
namespace Go.Proofs.YthiiahlgncngoaaDoorRR.Fw
open Go Go.RowKit
open Go.Proofs.YthiiahlgncngoaaDoorRR.Lx Go.Proofs.YthiiahlgncngoaaDoorRR.Tr Go.Proofs.YthiiahlgncngoaaDoorRR.Cd
open Go.Proofs.YthiiahlgncngoaaDoorRR.Vq Go.Proofs.YthiiahlgncngoaaDoorRR.Qr Go.Proofs.YthiiahlgncngoaaDoorRR.QrT Go.Proofs.YthiiahlgncngoaaDoorRR.QrP
open Go.Proofs.YthiiahlgncngoaaDoorRR.Qg (Z5 Z2 run_call3)
/-- what the document's graph makes of a Fun -/
structure GdO (f : Cd.Fn) (x : Gr) (W : World) : Prop where
 name : x.name = f.name
 thread : x.thread = f.thread
 params : x.params = f.params
 regs : x.regs = f.regs
 q : GdR f.code x.ba x.bcap x.blocks W
theorem GdO.keep {f : Cd.Fn} {x : Gr} {W V : World} (h : GdO f x W) (hb : Below W.heap.size W V) : GdO f x V := ⟨h.name, h.thread, h.params, h.regs, h.q.keep hb⟩
theorem GdO.grown {q : Nat} {f : Cd.Fn} {x : Gr} {W V : World} {cur : Array Value} {T : TypeId} (h : GdO f x W) (hg : W.grownBy V (some q)) (hq : W.heap[q]? = some (.cells cur T (0, 0))) (h1 : T ≠ 44) (h2 : T ≠ 3) (h3 : T ≠ 42) : GdO f x V :=
 ⟨h.name, h.thread, h.params, h.regs, h.q.grown hg hq h1 h2 h3⟩
theorem GdO.app {B : Nat} {f : Cd.Fn} {x : Gr} {fv : Value} {V W : World} {n : Nat} {xs : List Value} (h : GdO f x V) (hf : V.ownsRow B 37 5 fv n xs) (hg : V.grownBy W fv.ownBlock) : GdO f x W := by
 rcases hf.2 with ⟨rfl, _⟩ | ⟨q, cap, cur, rfl, _, hq, _⟩
 · exact h.keep (grown_none hg)
 · exact h.grown hg hq (by decide) (by decide) (by decide)
structure OdD (q4 : Nat) (p : Pg) (mv sv fv : Value) (L : List Gr) (V : World) : Prop where
 t4 : V.heap[q4]? = some (.cells #[mv, sv, fv] 30 (0, 0))
 grs : ∀ (j : Nat) (f : Cd.Fn) (g : Gr), p.funs[j]? = some f → L[j]? = some g → GdO f g V
theorem OdD.keep {q4 : Nat} {p : Pg} {mv sv fv : Value} {L : List Gr} {V W : World} (h : OdD q4 p mv sv fv L V) (hb : Below V.heap.size V W) : OdD q4 p mv sv fv L W :=
 ⟨(hb.block _ (Array.getElem?_eq_some_iff.1 h.t4).1).trans h.t4, fun j f g h1 h2 => (h.grs j f g h1 h2).keep hb⟩
theorem OdD.app {B q4 : Nat} {p : Pg} {mv sv fv : Value} {L : List Gr} {V W : World} {n : Nat} {xs : List Value} (h : OdD q4 p mv sv fv L V) (hf : V.ownsRow B 37 5 fv n xs) (hg : V.grownBy W fv.ownBlock) : OdD q4 p mv sv fv L W :=
 ⟨(hg.block _ (Array.getElem?_eq_some_iff.1 h.t4).1 (fun e => Zb hf h.t4 (by decide) e.symm)).trans h.t4, fun j f g h1 h2 => (h.grs j f g h1 h2).app hf hg⟩
theorem OdD.step {q4 k : Nat} {p : Pg} {mv sv fv fv' : Value} {L : List Gr} {V : World} {f : Cd.Fn} {x : Gr} (h : OdD q4 p mv sv fv L V) (hL : L.length = k) (hf : p.funs[k]? = some f) (hx : GdO f x V) : OdD q4 p mv sv fv' (L ++ [x]) (V.setCell ⟨q4, 2, none⟩ fv') := by
 have hg := Q9 V q4 2 fv'
 refine ⟨by have := Qy h.t4 2 fv'; simpa using this, fun j f' g h1 h2 => ?_⟩
 by_cases e : j < L.length
 · rw [List.getElem?_append_left e] at h2
   exact (h.grs j f' g h1 h2).grown hg h.t4 (by decide) (by decide) (by decide)
 · rw [List.getElem?_append_right (by omega)] at h2
   have hj : j = k := by
    have := (List.getElem?_eq_some_iff.1 h2).1
    simp at this
    omega
   subst hj
   rw [hL, Nat.sub_self] at h2
   cases h2
   rw [hf] at h1
   cases h1
   exact hx.grown hg h.t4 (by decide) (by decide) (by decide)
/-- what the document's Of makes of a program -/
structure FdO (B : Nat) (p : Pg) (x : Fm) (W : World) : Prop where
 mems : x.mems = p.mems ∧ x.ma = p.ma ∧ x.mcap = p.mcap
 locks : x.locks = p.locks ∧ x.la = p.la ∧ x.lcap = p.lcap
 len : x.funs.length = p.funs.length
 frow : W.ownsRow B 37 5 (.slice x.fa x.funs.length x.fcap) x.funs.length (Xb x.funs)
 grs : ∀ (j : Nat) (f : Cd.Fn) (g : Gr), p.funs[j]? = some f → x.funs[j]? = some g → GdO f g W
/-- region 7's class of worlds -/
structure C8 (B r q4 q6 : Nat) (w : World) (p : Pg) (mv sv fv : Value) (L : List Gr) (t : Bool) (V : World) : Prop where
 below : Below B w V
 r : V.heap[r]? = some (.cells fm0 30 (0, 0))
 d : OdD q4 p mv sv fv L V
 t6 : V.heap[q6]? = some (.cells #[.slice p.ma p.mems.length p.mcap, .slice p.la p.locks.length p.lcap, .slice p.fa p.funs.length p.fcap] 26 (0, 0))
 frow : t = false → V.ownsRow B 37 5 fv L.length (Xb L)
theorem C8.keep {B r q4 q6 : Nat} {w : World} {p : Pg} {mv sv fv : Value} {L : List Gr} {t : Bool} {V W : World} (h : C8 B r q4 q6 w p mv sv fv L t V) (hB : B ≤ w.heap.size) (hb : Below V.heap.size V W) : C8 B r q4 q6 w p mv sv fv L t W :=
 ⟨h.below.trans (hb.mono (Nat.le_trans hB h.below.size)), (hb.block _ (Array.getElem?_eq_some_iff.1 h.r).1).trans h.r, h.d.keep hb, (hb.block _ (Array.getElem?_eq_some_iff.1 h.t6).1).trans h.t6, fun e => Qn (h.frow e) hb⟩
theorem cells_app2 {q : Nat} {B n : Nat} {xs : List Value} {fv : Value} {V W : World} {cur : Array Value} {T : TypeId} (hf : V.ownsRow B 37 5 fv n xs) (hg : V.grownBy W fv.ownBlock) (hq : V.heap[q]? = some (.cells cur T (0, 0))) (hT : T ≠ 37) : W.heap[q]? = some (.cells cur T (0, 0)) :=
 (hg.block q (Array.getElem?_eq_some_iff.1 hq).1 (fun e => Zb hf hq hT e.symm)).trans hq
theorem C8.app {B r q4 q6 : Nat} {w : World} {p : Pg} {mv sv fv : Value} {L : List Gr} {V W : World} (h : C8 B r q4 q6 w p mv sv fv L false V) (hB : B ≤ w.heap.size) (hg : V.grownBy W fv.ownBlock) : C8 B r q4 q6 w p mv sv fv L true W :=
 ⟨h.below.grown hg (Nat.le_trans hB h.below.size) (fun k e => ((h.frow rfl).lt k e).1), cells_app2 (h.frow rfl) hg h.r (by decide), h.d.app (h.frow rfl) hg, cells_app2 (h.frow rfl) hg h.t6 (by decide), fun e => by cases e⟩
def VGd (f : Cd.Fn) (v : Value) (V : World) : Prop := ∃ x, v = .agg ⟨x.vals⟩ ∧ GdO f x V
theorem VGd.mono {f : Cd.Fn} : Mono (VGd f) := fun _ _ _ hb ⟨x, h, h1⟩ => ⟨x, h, h1.keep hb⟩
def VSd (f : Cd.Fn) (v : Value) (V : World) : Prop := ∃ x q, v = .slice (some ⟨q, 0, none⟩) 1 1 ∧ V.heap[q]? = some (.cells ⟨x.vals⟩ 37 (0, 0)) ∧ GdO f x V
theorem VSd.mono {f : Cd.Fn} : Mono (VSd f) := fun _ _ _ hb ⟨x, q, h, h1, h2⟩ => ⟨x, q, h, (hb.block q (Array.getElem?_eq_some_iff.1 h1).1).trans h1, h2.keep hb⟩
def VAd (B : Nat) (f : Cd.Fn) (L : List Gr) (v : Value) (V : World) : Prop := ∃ x, V.ownsRow B 37 5 v (L.length + 1) (Xb L ++ x.vals) ∧ GdO f x V
theorem VAd.mono {B : Nat} {f : Cd.Fn} {L : List Gr} : Mono (VAd B f L) := fun _ _ _ hb ⟨x, h, h1⟩ => ⟨x, Qn h hb, h1.keep hb⟩
def raD7 (B q4 bx bb off k : Nat) (p : Pg) (f : Cd.Fn) (fv : Value) (L : List Gr) (t : Bool) : List (Value → World → Prop) :=
 [VK (.pointer (some ⟨q4, 2, none⟩)), VK fv, VK (.pointer (some ⟨bx, 2, none⟩)), VK (.slice p.fa p.funs.length p.fcap), VK (.int .i64 k), VK (.pointer (some ⟨bb, off + k * 5, none⟩)), VK (.agg ⟨f.vals⟩), if t then VGp else VGd f, if t then VT else VSd f, if t then VAd B f L else VF, VK (.pointer (some ⟨q4, 2, none⟩))]
theorem raD7_mono {B q4 bx bb off k : Nat} {p : Pg} {f : Cd.Fn} {fv : Value} {L : List Gr} {t : Bool} : MonoL (raD7 B q4 bx bb off k p f fv L t) := by
 cases t
 · exact ⟨VK.mono, VK.mono, VK.mono, VK.mono, VK.mono, VK.mono, VK.mono, VGd.mono, VSd.mono, VF.mono, VK.mono, trivial⟩
 · exact ⟨VK.mono, VK.mono, VK.mono, VK.mono, VK.mono, VK.mono, VK.mono, VGp.mono, VT.mono, VAd.mono, VK.mono, trivial⟩
theorem raD7_on {B q4 bx bb off k : Nat} {p : Pg} {f : Cd.Fn} {fv : Value} {L : List Gr} : ∀ (i : Nat) (v : Value) (w w' : World), i ≠ 9 → (raD7 B q4 bx bb off k p f fv L false).getD i VT v w → (raD7 B q4 bx bb off k p f fv L true).getD i VT v w'
 | 0, _, _, _, _, h => h
 | 1, _, _, _, _, h => h
 | 2, _, _, _, _, h => h
 | 3, _, _, _, _, h => h
 | 4, _, _, _, _, h => h
 | 5, _, _, _, _, h => h
 | 6, _, _, _, _, h => h
 | 7, _, _, _, _, ⟨x, h, _⟩ => ⟨x, h⟩
 | 8, _, _, _, _, _ => trivial
 | 9, _, _, _, h, _ => absurd rfl h
 | 10, _, _, _, _, h => h
 | _ + 11, _, _, _, _, _ => trivial
theorem fl_q2 {V : World} {b : Nat} : (Instr.fieldAt 26 (.pointer (some ⟨b, 0, none⟩)) 2).run Tryd.prog V = .ok (.pointer (some ⟨b, 2, none⟩)) V := by go_simp
theorem ix_fn {V : World} {b off n cap k : Nat} (h : (k : Int) < (n : Int)) : (Instr.indexAt 24 (.slice (some ⟨b, off, none⟩) n cap) (.int .i64 k)).run Tryd.prog V = .ok (.pointer (some ⟨b, off + k * 5, none⟩)) V := by go_simp
theorem rofno_c (p : Pg) (w : World) (hp : Pg.In w Tt p) (hS : Sml p) (hm : mayP p = false) :
 Calls Tryd.prog 7 #[p.val] w fun e w' => e = .returned (.tuple #[.agg fm0, .int .i64 4]) ∧ Below w.heap.size w w' := by
 have hmay := Lh (fun V (hv : Below w.heap.size w V) => rMay_any p V (hp.below (Kps.of_below hv)) hS)
 rw [hm] at hmay
 have hst := Lh (Zc w (.cells #[.slice p.ma p.mems.length p.mcap, .slice p.la p.locks.length p.lcap, .slice p.fa p.funs.length p.fcap] 26) (.cells fm0 30))
 have hqq := Lh (Qt (w.alloc (.cells #[.slice p.ma p.mems.length p.mcap, .slice p.la p.locks.length p.lcap, .slice p.fa p.funs.length p.fcap] 26)) (.cells fm0 30) (b := w.heap.size + 1) (by simp))
 clear hp hS hm
 unfold Cd.Pg.val
 unfold Cd.Pg.val at hmay
 go_enter Tryd.func7, Tryd.ntmps7
 go_wp2_with fail
 refine (hmay.out _ hst.out).mono ?_
 rintro e w1 ⟨rfl, hb1⟩
 have hh : w1.heap[w.heap.size + 1]? = some (.cells fm0 30 (0, 0)) := (hb1.block _ (Array.getElem?_eq_some_iff.1 hqq.out).1).trans hqq.out
 have c0 := Qk hh (j := 0) rfl
 have c1 := Qk hh (j := 1) rfl
 have c2 := Qk hh (j := 2) rfl
 have d0 := Qd hh 0
 have d1 := Qd hh 1
 have d2 := Qd hh 2
 have hl := World.block_lt_of_cell? _ _ c0
 have hbw := Lh (hst.out.trans (hb1.mono hst.out.size))
 replace hh := Lh hh
 clear hb1 hmay hqq
 go_wp2_with fail
 exact bodyPost_ret (v := .tuple #[.agg fm0, .int .i64 4]) (results_two Tryd.results7 _ _ (w.heap.size + 1) _ _ _ _ _ rfl (heap_set3 hh.out _ _ _) Tryd.underlying30 rfl (by kernel_rfl) rfl) rfl ⟨rfl, below3 hbw.out (by omega) _ _ _⟩
theorem rofyes_c (p : Pg) (w : World) (hp : Pg.In w Tt p) (hS : Sml p) (hm : mayP p = true) :
 Calls Tryd.prog 7 #[p.val] w fun e w' => ∃ x : Fm, e = .returned (.tuple #[.agg ⟨x.vals⟩, .int .i64 0]) ∧ FdO w.heap.size p x w' ∧ Below w.heap.size w w' := by
 have hmay := Lh (fun V (hv : Below w.heap.size w V) => rMay_any p V (hp.below (Kps.of_below hv)) hS)
 rw [hm] at hmay
 obtain ⟨hc1, hc2⟩ := Q2 hp.frow
 have hsum := hS.sum
 have hgr := Lh (fun (f : Cd.Fn) V (hf : f ∈ p.funs) (hv : Below w.heap.size w V) => rgraph_c f V (((hp.below (Kps.of_below hv)).funs f hf)) (fun_ok hm hf).1 (fun_ok hm hf).2.1 (fun_ok hm hf).2.2.2.1 (fun_ok hm hf).2.2.2.2)
 have hfr := Lh (fun V (hv : Below w.heap.size w V) => hp.frow.below (Kps.of_below hv))
 have hst := Lh (Zc w (.cells #[.slice p.ma p.mems.length p.mcap, .slice p.la p.locks.length p.lcap, .slice p.fa p.funs.length p.fcap] 26) (.cells fm0 30))
 have hqq := Lh (Qt (w.alloc (.cells #[.slice p.ma p.mems.length p.mcap, .slice p.la p.locks.length p.lcap, .slice p.fa p.funs.length p.fcap] 26)) (.cells fm0 30) (b := w.heap.size + 1) (by simp))
 have hq6 : Hid ((w.alloc (.cells #[.slice p.ma p.mems.length p.mcap, .slice p.la p.locks.length p.lcap, .slice p.fa p.funs.length p.fcap] 26)).heap[w.heap.size]? = some (.cells #[.slice p.ma p.mems.length p.mcap, .slice p.la p.locks.length p.lcap, .slice p.fa p.funs.length p.fcap] 26 (0, 0))) := Lh (Qt _ _ rfl)
 clear hp hS hm
 unfold Cd.Pg.val
 unfold Cd.Pg.val at hmay
 go_enter Tryd.func7, Tryd.ntmps7
 go_wp2_with fail
 have hsz : ((w.alloc (.cells #[.slice p.ma p.mems.length p.mcap, .slice p.la p.locks.length p.lcap, .slice p.fa p.funs.length p.fcap] 26)).alloc (.cells fm0 30)).heap.size = w.heap.size + 2 := by simp
 refine (hmay.out _ hst.out).mono ?_
 rintro e w1 ⟨rfl, hb1⟩
 have hrb : Hid (w1.heap[w.heap.size + 1]? = some (.cells fm0 30 (0, 0))) := Lh ((hb1.block _ (Array.getElem?_eq_some_iff.1 hqq.out).1).trans hqq.out)
 have hq1 : w1.heap[w.heap.size]? = some (.cells #[.slice p.ma p.mems.length p.mcap, .slice p.la p.locks.length p.lcap, .slice p.fa p.funs.length p.fcap] 26 (0, 0)) := (hb1.block _ (by rw [hsz]; omega)).trans (((Qh _ _).block _ (Array.getElem?_eq_some_iff.1 hq6.out).1).trans hq6.out)
 have q0 := Qk hq1 (j := 0) rfl
 have q1 := Qk hq1 (j := 1) rfl
 have q2 := Qk hq1 (j := 2) rfl
 have hbw := Lh (hst.out.trans (hb1.mono hst.out.size))
 have hw1 := hb1.size
 rw [hsz] at hw1
 replace hq1 := Lh hq1
 have hal := Lh (Qh w1 (.cells #[(.slice p.ma p.mems.length p.mcap), (.slice p.la p.locks.length p.lcap), .slice none 0 0] 30))
 have hD4 : Hid (OdD w1.heap.size p (.slice p.ma p.mems.length p.mcap) (.slice p.la p.locks.length p.lcap) (.slice none 0 0) [] (w1.alloc (.cells #[(.slice p.ma p.mems.length p.mcap), (.slice p.la p.locks.length p.lcap), .slice none 0 0] 30))) := Lh ⟨Qt _ _ rfl, fun j f g _ h => by simp at h⟩
 have h80 := Lh (⟨hbw.out.trans (hal.out.mono hbw.out.size), (hal.out.block _ (Array.getElem?_eq_some_iff.1 hrb.out).1).trans hrb.out, hD4.out, (hal.out.block _ (Array.getElem?_eq_some_iff.1 hq1.out).1).trans hq1.out, fun _ => World.ownsRow_nil _ _ _ _⟩ : C8 w.heap.size (w.heap.size + 1) w1.heap.size w.heap.size w p (.slice p.ma p.mems.length p.mcap) (.slice p.la p.locks.length p.lcap) (.slice none 0 0) [] false (w1.alloc (.cells #[(.slice p.ma p.mems.length p.mcap), (.slice p.la p.locks.length p.lcap), .slice none 0 0] 30)))
 clear hqq hmay hb1 hsz hst hq6 hrb hq1 hal hD4 hbw
 go_wp2_with fail
 go_loopw [5] (fun i wr => ∃ k : Nat, k ≤ p.funs.length ∧ i = .int .i64 k ∧ Hid (∃ fv L, L.length = k ∧ C8 w.heap.size (w.heap.size + 1) w1.heap.size w.heap.size w p (.slice p.ma p.mems.length p.mcap) (.slice p.la p.locks.length p.lcap) fv L false wr)) (fun i _ => p.funs.length - (intOf i).toNat)
 case atStart => exact ⟨0, Nat.zero_le _, rfl, Lh ⟨_, [], rfl, h80.out⟩⟩
 case round =>
  clear h80 q0 q1 q2
  obtain ⟨k, hk, rfl, hI⟩ := hrel
  obtain ⟨fv, L, hL, hC0⟩ := hI.out
  have t2 := Qk hC0.t6 (j := 2) rfl
  by_cases hlt : k < p.funs.length
  · obtain ⟨f, hf⟩ : ∃ f, p.funs[k]? = some f := ⟨_, List.getElem?_eq_getElem hlt⟩
    obtain ⟨bb, off, ha, _⟩ := Yd (hfr.out wr hC0.below) k f hf
    have hgf := Lh (fun V hv => hgr.out f V (List.mem_of_getElem? hf) hv)
    have hi0' : (0 : Int) ≤ (k : Int) := by omega
    have hi1 : (k : Int) < (p.funs.length : Int) := by omega
    obtain ⟨fa, fcap, hve⟩ := own_sl (hC0.frow rfl)
    subst hve
    replace ha := Lh ha
    replace hf := Lh hf
    replace hL := Lh hL
    have hLl : L.length ≤ 1048576 := by rw [hL.out]; omega
    have h7 := Lh hC0
    clear hI hC0
    go_upto_region 7 with fail
    clear t2
    refine Zl (P := Tryd.prog) 9 (C := fun t V => C8 w.heap.size (w.heap.size + 1) w1.heap.size w.heap.size w p (.slice p.ma p.mems.length p.mcap) (.slice p.la p.locks.length p.lcap) (.slice fa L.length fcap) L t V) (E := Ext) (EP := fun _ _ => True) (R := fun t j => (raD7 w.heap.size w1.heap.size w.heap.size bb off k p f (.slice fa L.length fcap) L t).getD j VT) (by kernel_rfl) (h7.out.keep (Nat.le_refl _) ((Below.refl _ _).drew)) (by kernel_rfl) (fun t j v w' w'' _ hE h => Zr _ j raD7_mono v w' w'' hE h) (fun i v w' w'' hi _ _ h => raD7_on i v w' w'' hi h) (m := 11) (by omega) rfl rfl rfl (by kernel_rfl) ?hs2 rfl ?hp2 ?hend2
    case hs2 =>
     refine X0 9 11 (fun t => ?_) (fun t => ?_)
     · skip
       refine Qa (Ql fun a W hC hs => ?_) ?_
       · have h1 := Qo hs 4 (by kernel_rfl) (by rfl)
         exact ⟨Qb rfl, _, Q4 rfl (ev h1) fl_o2, rfl⟩
       refine Qa (Ql fun a W hC hs => ?_) ?_
       · obtain ⟨vx, hvx, hRx⟩ := Qf hs 0 22 (by kernel_rfl) (by rfl)
         replace hRx : vx = _ := hRx
         subst hRx
         exact ⟨Qb rfl, _, Qz rfl (ev hvx) (by have := Qk hC.d.t4 (j := 2) rfl; simp [go_sem, this]), rfl⟩
       refine Qa (Ql fun a W hC hs => ?_) ?_
       · have h1 := Qo hs 1 (by kernel_rfl) (by rfl)
         exact ⟨Qb rfl, _, Q4 rfl (ev h1) fl_q2, rfl⟩
       refine Qa (Ql fun a W hC hs => ?_) ?_
       · obtain ⟨vx, hvx, hRx⟩ := Qf hs 2 24 (by kernel_rfl) (by rfl)
         replace hRx : vx = _ := hRx
         subst hRx
         exact ⟨Qb rfl, _, Qz rfl (ev hvx) (by have := Qk hC.t6 (j := 2) rfl; simp [go_sem, this]), rfl⟩
       refine Qa (Ql fun a W hC hs => ?_) ?_
       · have h1 := Qo hs 5 (by kernel_rfl) (by rfl)
         exact ⟨Qb rfl, _, Qw (.inl rfl) (ev h1), rfl⟩
       refine Qa (Ql fun a W hC hs => ?_) ?_
       · obtain ⟨vx, hvx, hRx⟩ := Qf hs 3 25 (by kernel_rfl) (by rfl)
         replace hRx : vx = _ := hRx
         subst hRx
         obtain ⟨vy, hvy, hRy⟩ := Qf hs 4 26 (by kernel_rfl) (by rfl)
         replace hRy : vy = _ := hRy
         subst hRy
         exact ⟨Qb rfl, _, run_ixB rfl (ev hvx) (ev hvy) (by rw [ha.out]; exact ix_fn hi1), rfl⟩
       refine Qa (Ql fun a W hC hs => ?_) ?_
       · obtain ⟨vx, hvx, hRx⟩ := Qf hs 5 27 (by kernel_rfl) (by rfl)
         replace hRx : vx = _ := hRx
         subst hRx
         obtain ⟨b', off', ha', _, k0, k1, k2, k3, k4⟩ := Yd (hfr.out W hC.below) k f hf.out
         rw [ha.out] at ha'
         cases ha'
         exact ⟨Qb rfl, _, Qz (v := .agg ⟨f.vals⟩) rfl (ev hvx) (by simp [go_sem, k0, k1, k2, k3, k4, Cd.Fn.vals]), rfl⟩
       refine Qa (s_call fun a W hC hs => ?_) ?_
       · obtain ⟨vx, hvx, hRx⟩ := Qf hs 6 28 (by kernel_rfl) (by rfl)
         replace hRx : vx = _ := hRx
         subst hRx
         refine ⟨Qb rfl, 18, _, Z5 rfl (ev hvx) (fun _ _ => rfl), ((hgf.out W hC.below).mono ?_)⟩
         rintro e w' ⟨x, rfl, e1, e2, e3, e4, e5, e6⟩
         refine ⟨_, rfl, hC.keep (Nat.le_refl _) e6, e6, ?_⟩
         cases t
         · exact ⟨x, rfl, e1, e2, e3, e4, e5⟩
         · exact ⟨x, rfl⟩
       refine Qa (s_new fun a W hC hs => ?_) ?_
       · obtain ⟨v, hv, hR⟩ := Qf hs 7 29 (by kernel_rfl) (by rfl)
         cases t
         · obtain ⟨x, rfl, hx⟩ : VGd f v W := hR
           obtain ⟨xn, xt, xp, xr, xa, xc, xb⟩ := x
           refine ⟨Qb rfl, _, _, run_bs (qs := #[(0, .agg #[.string xn, .bool xt, .int .i64 xp, .int .i64 xr, .slice xa xb.length xc])]) rfl (by simp [ev hv, Gr.vals]) (mk_gr1 W _ _ _ _ _ _ _), hC.keep (Nat.le_refl _) (Qh _ _), Qh _ _, ⟨⟨xn, xt, xp, xr, xa, xc, xb⟩, _, rfl, Qt _ _ rfl, hx.keep (Qh _ _)⟩⟩
         · obtain ⟨x, rfl⟩ : VGp v W := hR
           obtain ⟨xn, xt, xp, xr, xa, xc, xb⟩ := x
           exact ⟨Qb rfl, _, _, run_bs (qs := #[(0, .agg #[.string xn, .bool xt, .int .i64 xp, .int .i64 xr, .slice xa xb.length xc])]) rfl (by simp [ev hv, Gr.vals]) (mk_gr1 W _ _ _ _ _ _ _), hC.keep (Nat.le_refl _) (Qh _ _), Qh _ _, trivial⟩
       exact Qx
     · skip
       refine Qa (Ql fun a W hC hs => ?_) ?_
       · have h1 := Qo hs 4 (by kernel_rfl) (by rfl)
         exact ⟨Qb rfl, _, Q4 rfl (ev h1) fl_o2, rfl⟩
       exact Qx
    case hp2 =>
     intro a W hC hs
     obtain ⟨v1, hv1, hR1⟩ := Qf hs 1 23 (by kernel_rfl) (by rfl)
     replace hR1 : v1 = _ := hR1
     subst hR1
     obtain ⟨v4, hv4, hR4⟩ := Qf hs 8 30 (by kernel_rfl) (by rfl)
     obtain ⟨x, q, rfl, hxq, hx⟩ : VSd f v4 W := hR4
     refine ⟨Qb rfl, p_app (y := x) rfl (ev hv1) (ev hv4) (hC.frow rfl) hxq (by omega) hC.below.size fun v' w' h1 h2 => ?_⟩
     exact ⟨hC.app (Nat.le_refl _) h2, trivial, _, rfl, x, h1, hx.app (hC.frow rfl) h2⟩
    case hend2 =>
     intro σ V hC hR
     generalize hF : Q6 _ _ _ _ _ = F
     simp [Q6, dstOf, List.range, List.range.loop, Act.put] at hF
     subst hF
     obtain ⟨x, hrow, hx⟩ : VAd w.heap.size f L (σ 9) V := hR 9 (by simp)
     have h6 : σ 10 = .pointer (some ⟨w1.heap.size, 2, none⟩) := hR 10 (by simp)
     generalize σ 9 = v5 at *
     obtain ⟨xa, xc, rfl⟩ := own_sl hrow
     rw [h6]
     have e2 := Qk hC.d.t4 (j := 2) rfl
     have d2 := Qd hC.d.t4 2
     have hgs := Q9 V w1.heap.size 2 (.slice xa (L.length + 1) xc)
     have hI : Hid (∃ fv L', L'.length = k + 1 ∧ C8 w.heap.size (w.heap.size + 1) w1.heap.size w.heap.size w p (.slice p.ma p.mems.length p.mcap) (.slice p.la p.locks.length p.lcap) fv L' false (V.setCell ⟨w1.heap.size, 2, none⟩ (.slice xa (L.length + 1) xc))) := Lh (by
      refine ⟨_, L ++ [x], by simp [hL.out], hC.below.setCell (p := ⟨w1.heap.size, 2, none⟩) (show w.heap.size ≤ w1.heap.size by omega) _, (hgs.block _ (Array.getElem?_eq_some_iff.1 hC.r).1 (fun e => by have := Option.some.inj e; omega)).trans hC.r, hC.d.step hL.out hf.out hx, (hgs.block _ (Array.getElem?_eq_some_iff.1 hC.t6).1 (fun e => by have := Option.some.inj e; omega)).trans hC.t6, fun _ => ?_⟩
      have h9 := Zd hrow hgs (Zb hrow hC.d.t4 (by decide))
      have h8 : Xb (L ++ [x]) = Xb L ++ x.vals := by unfold Xb; simp
      rw [h8, List.length_append]
      exact h9)
     clear hR hrow hx hgs hC h6 h7 hgf hL hf
     unfold Oper.wp
     unfold execOp
     simp [go_sem, e2, d2]
     clear e2 d2
     generalize V.setCell ⟨w1.heap.size, 2, none⟩ (.slice xa (L.length + 1) xc) = W9 at *
     generalize σ 0 = y0
     generalize σ 1 = y1
     generalize σ 2 = y2
     generalize σ 3 = y3
     generalize σ 4 = y4
     generalize σ 5 = y5
     generalize σ 6 = y6
     generalize σ 7 = y7
     generalize σ 8 = y8
     go_wp2_with fail
     go_roundw
     case rel => exact ⟨k + 1, by omega, by go_num, hI⟩
     case measure => simp [intOf]; omega
  · have hk2 : k = p.funs.length := by omega
    subst hk2
    obtain ⟨fa, fcap, hve⟩ := own_sl (hC0.frow rfl)
    subst hve
    replace hL := Lh hL
    have e0 := Qk hC0.d.t4 (j := 0) rfl
    have e1 := Qk hC0.d.t4 (j := 1) rfl
    have e2 := Qk hC0.d.t4 (j := 2) rfl
    have r0 := Qk hC0.r (j := 0) rfl
    have r1 := Qk hC0.r (j := 1) rfl
    have r2 := Qk hC0.r (j := 2) rfl
    have f0 := Qd hC0.r 0
    have f1 := Qd hC0.r 1
    have f2 := Qd hC0.r 2
    have hl0 := World.block_lt_of_cell? _ _ e0
    have hl1 := World.block_lt_of_cell? _ _ r0
    replace hC0 := Lh hC0
    clear hI
    go_wp2_with fail
    have hh := heap_set3 hC0.out.r (.slice p.ma p.mems.length p.mcap) (.slice p.la p.locks.length p.lcap) (.slice fa L.length fcap)
    have hg3 := grown3 wr (w.heap.size + 1) (.slice p.ma p.mems.length p.mcap) (.slice p.la p.locks.length p.lcap) (.slice fa L.length fcap)
    have hF := hC0.out.frow rfl
    exact bodyPost_ret (v := .tuple #[.agg #[(.slice p.ma p.mems.length p.mcap), (.slice p.la p.locks.length p.lcap), .slice fa L.length fcap], .int .i64 0]) (results_two Tryd.results7 _ _ (w.heap.size + 1) _ _ _ _ _ rfl hh Tryd.underlying30 rfl (by kernel_rfl) rfl) rfl ⟨⟨p.ma, p.mcap, p.mems, p.la, p.lcap, p.locks, fa, fcap, L⟩, rfl,
     ⟨⟨rfl, rfl, rfl⟩, ⟨rfl, rfl, rfl⟩, hL.out, Zd hF hg3 (Zb hF hC0.out.r (by decide)), fun j f g h1 h2 => (hC0.out.d.grs j f g h1 h2).grown hg3 hC0.out.r (by decide) (by decide) (by decide)⟩, below3 hC0.out.below (by omega) _ _ _⟩
end Go.Proofs.YthiiahlgncngoaaDoorRR.Fw
