/- Walk of the document's graph: a Fun's blocks. Conditions: the Fun lies in memory, its instructions lead to instructions, the last one is a jump or a return. -/
import Derived.Test.YthiiahlgncngoaaDoorRRJCtF
set_option maxHeartbeats 16000000
set_option maxRecDepth 100000
set_option linter.unusedVariables false
set_option linter.unusedSimpArgs false
namespace Go.Proofs.YthiiahlgncngoaaDoorRR.Fw
open Go Go.RowKit
open Go.Proofs.YthiiahlgncngoaaDoorRR.Lx Go.Proofs.YthiiahlgncngoaaDoorRR.Tr Go.Proofs.YthiiahlgncngoaaDoorRR.Cd
open Go.Proofs.YthiiahlgncngoaaDoorRR.Vq Go.Proofs.YthiiahlgncngoaaDoorRR.Qr Go.Proofs.YthiiahlgncngoaaDoorRR.QrT Go.Proofs.YthiiahlgncngoaaDoorRR.QrP
open Go.Proofs.YthiiahlgncngoaaDoorRR.Qg (Z5 Z2 run_call3)
/-- the blocks that were made so far, against those that stay -/
structure GbP (M L : List Bk) : Prop where
 row : ∀ (i : Nat) (x : Bk), L[i]? = some x → (x.phis = [] ∧ x.fm = []) ∧ ∃ y, M[i]? = some y ∧ x.tt = y.tt ∧ eqL Zi x.code y.code = true
theorem GbP.nil (M : List Bk) : GbP M [] := ⟨fun i x h => by simp at h⟩
theorem GbP.add {M L : List Bk} {x y : Bk} (h : GbP M L) (hx : x.phis = [] ∧ x.fm = []) (hy : M[L.length]? = some y) (h1 : x.tt = y.tt) (h2 : eqL Zi x.code y.code = true) : GbP M (L ++ [x]) := ⟨fun i z hz => by
 by_cases e : i < L.length
 · rw [List.getElem?_append_left e] at hz; exact h.row i z hz
 · rw [List.getElem?_append_right (by omega)] at hz
   have hi : i - L.length = 0 := by
    have := (List.getElem?_eq_some_iff.1 hz).1
    simp at this; omega
   rw [hi] at hz
   cases hz
   obtain rfl : i = L.length := by omega
   exact ⟨hx, y, hy, h1, h2⟩⟩
theorem GbP.same {M L : List Bk} (h : GbP M L) (hl : L.length = M.length) (hM : ∀ y ∈ M, y.phis = [] ∧ y.fm = []) : eqL Zz L M = true := eqL_of hl fun i x y hx hy => by
 obtain ⟨⟨h1, h2⟩, y', hy', h3, h4⟩ := h.row i x hx
 rw [hy] at hy'
 cases hy'
 obtain ⟨m1, m2⟩ := hM y (List.mem_of_getElem? hy)
 exact sameB_mk (by rw [h1, m1]; rfl) h4 (by rw [h2, m2]) h3
theorem eqL_get {α : Type} {f : α → α → Bool} : ∀ {l m : List α}, eqL f l m = true → ∀ (i : Nat) (x : α), l[i]? = some x → ∃ y, m[i]? = some y ∧ f x y = true
 | [], m, _, i, x, hx => by simp at hx
 | a :: l, [], h, _, _, _ => by cases h
 | a :: l, b :: m, h, 0, x, hx => by
   cases hx
   simp [eqL] at h
   exact ⟨b, rfl, h.1⟩
 | a :: l, b :: m, h, i + 1, x, hx => by
   simp [eqL] at h
   obtain ⟨y, h1, h2⟩ := eqL_get h.2 i x (by simpa using hx)
   exact ⟨y, by simpa using h1, h2⟩
theorem stay_bare {l : List Ins} : ∀ y ∈ stay (skB l), y.phis = [] ∧ y.fm = [] := fun y hy => by
 obtain ⟨i, hi⟩ := List.mem_iff_getElem?.1 hy
 obtain ⟨b, x, _, hx, _, _, rfl⟩ := stay_of hi
 have hb : b < (begL l).length := by have := (List.getElem?_eq_some_iff.1 hx).1; rw [skB_len] at this; exact this
 rw [skB_get hb] at hx
 cases hx
 exact ⟨rfl, rfl⟩
theorem GbI.ins {B q g : Nat} {hd : List Value} {bs : List Bk} {ba : Option Addr} {bcap : Nat} {L : List Bk} {W : World} (h : GbI B q g hd bs ba bcap L W) (hbs : ∀ b ∈ bs, Bk.In W b) (hN : ∀ x ∈ L, (∀ t ∈ x.tt, I64 t) ∧ ∀ t ∈ x.fm, I64 t) : ∀ x ∈ L, Bk.In W x := fun x hx => by
 obtain ⟨i, hi⟩ := List.mem_iff_getElem?.1 hx
 obtain ⟨⟨h1, h2, h3⟩, y, hy, h4, h5, h6⟩ := h.row i x hi
 refine ⟨by rw [h1, h2, h3]; exact row_none _ _, fun z hz => (by rw [h1] at hz; cases hz), ?_, ?_, Z1 (h.fm i x hi), (hN x hx).2, Z1 (h.to i x hi), (hN x hx).1⟩
 · rw [h4, h5, h6]; exact (hbs y hy).crow
 · rw [h6]; exact (hbs y hy).code
theorem goL_len (i : Ins) (n : Int) (bl : List Int) : (goL i n bl).length ≤ 2 := by
 unfold goL
 rw [List.length_append]
 split <;> split <;> simp
theorem cut_tt {l : List Ins} {bs : List Bk} {x : Bk} {j : Nat} (hP : CtP l l.length bs) (hx : bs[j]? = some x) : x.tt.length ≤ 2 := by
 obtain ⟨_, _, _, h4⟩ := hP.row j x hx
 rw [h4]
 split
 · unfold toL
   exact goL_len _ _ _
 · exact Nat.zero_le _
theorem GbI.rowT {B q g : Nat} {hd : List Value} {bs : List Bk} {ba : Option Addr} {bcap : Nat} {L : List Bk} {W : World} (h : GbI B q g hd bs ba bcap L W) : RowAt W Tt ba bcap L.length (Qu L) := Z1 h.blk
theorem GbI.apart {B q g k : Nat} {hd : List Value} {bs : List Bk} {ba : Option Addr} {bcap : Nat} {L : List Bk} {W W' : World} {cur : Array Value} (h : GbI B q g hd bs ba bcap L W) (hgr : W.grownBy W' (some k)) (hk : W.heap[k]? = some (.cells cur 37 (0, 0))) (hkq : k ≠ q) : GbI B q g hd bs ba bcap L W' := by
 have hr : ∀ {e : TypeId} {c : Nat} {v : Value} {n : Nat} {xs : List Value} {B : Nat}, 37 ≠ e → W.ownsRow B e c v n xs → ∀ j, some k = some j → v.ownBlock ≠ some j := fun he hr j ej => by
  cases ej
  exact Zb hr hk he
 have hkg : some k ≠ some g := fun e => by
  cases e
  have h1 := h.ct.own.ex
  rw [hk] at h1
  injection h1 with h1
  injection h1 with _ h2 _
  revert h2; decide
 exact ⟨(hgr.block q (Array.getElem?_eq_some_iff.1 h.box).1 (fun e => hkq (Option.some.inj e).symm)).trans h.box, Zx h.blk hgr (hr (by decide) h.blk), h.row, fun i x hx => Zx (h.to i x hx) hgr (hr (by decide) (h.to i x hx)), fun i x hx => Zx (h.fm i x hx) hgr (hr (by decide) (h.fm i x hx)),
  h.ct.grown hgr hkg (fun he hw j ej => by
   rcases he with rfl | rfl
   · exact hr (by decide) hw j ej
   · exact hr (by decide) hw j ej), h.hg⟩
/-- a graph's blocks, but for their box -/
structure GbR (B g : Nat) (bs : List Bk) (ba : Option Addr) (bcap : Nat) (L : List Bk) (W : World) : Prop where
 blk : W.ownsRow B 42 4 (.slice ba L.length bcap) L.length (Qu L)
 row : ∀ (i : Nat) (x : Bk), L[i]? = some x → (x.phis = [] ∧ x.pa = none ∧ x.pcap = 0) ∧ ∃ y ∈ bs, x.ca = y.ca ∧ x.ccap = y.ccap ∧ x.code = y.code
 to : ∀ (i : Nat) (x : Bk), L[i]? = some x → W.ownsRow B 3 1 (toV x) x.tt.length (Qc x.tt)
 fm : ∀ (i : Nat) (x : Bk), L[i]? = some x → W.ownsRow B 3 1 (fmV x) x.fm.length (Qc x.fm)
 ct : CtI (g + 1) g bs W
 hg : g < B
theorem GbI.toR {B q g : Nat} {hd : List Value} {bs : List Bk} {ba : Option Addr} {bcap : Nat} {L : List Bk} {W : World} (h : GbI B q g hd bs ba bcap L W) : GbR B g bs ba bcap L W := ⟨h.blk, h.row, h.to, h.fm, h.ct, h.hg⟩
theorem GbR.keep {B g : Nat} {bs : List Bk} {ba : Option Addr} {bcap : Nat} {L : List Bk} {W W' : World} (h : GbR B g bs ba bcap L W) (hb : Below W.heap.size W W') : GbR B g bs ba bcap L W' :=
 ⟨Qn h.blk hb, h.row, fun i x hx => Qn (h.to i x hx) hb, fun i x hx => Qn (h.fm i x hx) hb, h.ct.keep hb, h.hg⟩
theorem GbR.grown {B g k : Nat} {bs : List Bk} {ba : Option Addr} {bcap : Nat} {L : List Bk} {W W' : World} {cur : Array Value} {T : TypeId} (h : GbR B g bs ba bcap L W) (hgr : W.grownBy W' (some k)) (hk : W.heap[k]? = some (.cells cur T (0, 0))) (h1 : T ≠ 44) (h2 : T ≠ 3) (h3 : T ≠ 42) : GbR B g bs ba bcap L W' := by
 have hr : ∀ {e : TypeId} {c : Nat} {v : Value} {n : Nat} {xs : List Value} {B : Nat}, T ≠ e → W.ownsRow B e c v n xs → ∀ j, some k = some j → v.ownBlock ≠ some j := fun he hr j ej => by
  cases ej
  exact Zb hr hk he
 have hkg : some k ≠ some g := fun e => by
  cases e
  have h4 := h.ct.own.ex
  rw [hk] at h4
  injection h4 with h4
  injection h4 with _ h5 _
  exact h3 h5
 exact ⟨Zx h.blk hgr (hr h3 h.blk), h.row, fun i x hx => Zx (h.to i x hx) hgr (hr h2 (h.to i x hx)), fun i x hx => Zx (h.fm i x hx) hgr (hr h2 (h.fm i x hx)),
  h.ct.grown hgr hkg (fun he hw j ej => by
   rcases he with rfl | rfl
   · exact hr h1 hw j ej
   · exact hr h2 hw j ej), h.hg⟩
theorem GbR.ins {B g : Nat} {bs : List Bk} {ba : Option Addr} {bcap : Nat} {L : List Bk} {W : World} (h : GbR B g bs ba bcap L W) (hbs : ∀ b ∈ bs, Bk.In W b) (hN : ∀ x ∈ L, (∀ t ∈ x.tt, I64 t) ∧ ∀ t ∈ x.fm, I64 t) : ∀ x ∈ L, Bk.In W x := fun x hx => by
 obtain ⟨i, hi⟩ := List.mem_iff_getElem?.1 hx
 obtain ⟨⟨h1, h2, h3⟩, y, hy, h4, h5, h6⟩ := h.row i x hi
 refine ⟨by rw [h1, h2, h3]; exact row_none _ _, fun z hz => (by rw [h1] at hz; cases hz), ?_, ?_, Z1 (h.fm i x hi), (hN x hx).2, Z1 (h.to i x hi), (hN x hx).1⟩
 · rw [h4, h5, h6]; exact (hbs y hy).crow
 · rw [h6]; exact (hbs y hy).code
/-- what graph makes of a Fun's instructions -/
structure GdR (l : List Ins) (ba : Option Addr) (bcap : Nat) (L : List Bk) (V : World) : Prop where
 ex : ∃ B g bs, CtP l l.length bs ∧ bs.length ≤ 65537 ∧ GbR B g bs ba bcap L V
 same : eqL Zz L (skG l) = true
 nums : ∀ x ∈ L, (∀ t ∈ x.tt, I64 t) ∧ ∀ t ∈ x.fm, I64 t
theorem GdR.keep {l : List Ins} {ba : Option Addr} {bcap : Nat} {L : List Bk} {W W' : World} (h : GdR l ba bcap L W) (hb : Below W.heap.size W W') : GdR l ba bcap L W' := by
 obtain ⟨B, g, bs, h1, h2, h3⟩ := h.ex
 exact ⟨⟨B, g, bs, h1, h2, h3.keep hb⟩, h.same, h.nums⟩
theorem GdR.grown {l : List Ins} {k : Nat} {ba : Option Addr} {bcap : Nat} {L : List Bk} {W W' : World} {cur : Array Value} {T : TypeId} (h : GdR l ba bcap L W) (hgr : W.grownBy W' (some k)) (hk : W.heap[k]? = some (.cells cur T (0, 0))) (h1 : T ≠ 44) (h2 : T ≠ 3) (h3 : T ≠ 42) : GdR l ba bcap L W' := by
 obtain ⟨B, g, bs, k1, k2, k3⟩ := h.ex
 exact ⟨⟨B, g, bs, k1, k2, k3.grown hgr hk h1 h2 h3⟩, h.same, h.nums⟩
theorem GdR.in {l : List Ins} {ba : Option Addr} {bcap : Nat} {L : List Bk} {W : World} (h : GdR l ba bcap L W) (hlast : Zv l = 11 ∨ Zv l = 13) (hin : ∀ y ∈ l, Ins.In W Tt y) : RowAt W Tt ba bcap L.length (Qu L) ∧ ∀ x ∈ L, Bk.In W x := by
 obtain ⟨B, g, bs, k1, k2, k3⟩ := h.ex
 exact ⟨Z1 k3.blk, k3.ins (k3.ct.bks k1 hlast k2 hin) h.nums⟩
theorem froms_tt (n : Int) : ∀ (a b : List Bk) (k : Nat), a.map (·.tt) = b.map (·.tt) → Zo k a n = Zo k b n
 | [], [], _, _ => rfl
 | [], _ :: _, _, h => by cases h
 | _ :: _, [], _, h => by cases h
 | x :: a, y :: b, k, h => by
   simp only [List.map_cons, List.cons.injEq] at h
   unfold Zo
   rw [h.1, froms_tt n a b (k + 1) h.2]
theorem tell_tt (fa : Nat → Option Addr) (fc : Nat → Nat) (L : List Bk) (k : Nat) : (X6 fa fc L k).map (·.tt) = L.map (·.tt) := by
 apply List.ext_getElem?
 intro i
 rw [List.getElem?_map, List.getElem?_map]
 cases hi : L[i]? with
 | none =>
   have : L.length ≤ i := by simpa using hi
   rw [List.getElem?_eq_none (by rw [Xi]; exact this)]
 | some y =>
   rw [X9 hi]
   split <;> rfl
theorem tell_froms (fa : Nat → Option Addr) (fc : Nat → Nat) (L : List Bk) (k : Nat) (n : Int) : Zt (X6 fa fc L k) n = Zt L n := froms_tt n _ _ 0 (tell_tt fa fc L k)
theorem tell_new {fa : Nat → Option Addr} {fc : Nat → Nat} {L : List Bk} {k : Nat} {x : Bk} (a : Option Addr) (c : Nat) (hx : L[k]? = some x) : (X6 fa fc L k).set k (putF a c (Zt L (k : Int)) x) = X6 (fun i => if i = k then a else fa i) (fun i => if i = k then c else fc i) L (k + 1) := by
 have h := tell_step (fa := fun i => if i = k then a else fa i) (fcap := fun i => if i = k then c else fc i) hx
 simp only [if_pos] at h
 rw [← h]
 congr 1
 apply List.ext_getElem?
 intro i
 cases hi : L[i]? with
 | none =>
   have : L.length ≤ i := by simpa using hi
   rw [List.getElem?_eq_none (by rw [Xi]; exact this), List.getElem?_eq_none (by rw [Xi]; exact this)]
 | some y =>
   rw [X9 hi, X9 hi]
   by_cases hk : i < k
   · rw [if_pos hk, if_pos hk, if_neg (by omega), if_neg (by omega)]
   · rw [if_neg hk, if_neg hk]
theorem tell_nums {fa : Nat → Option Addr} {fc : Nat → Nat} {L : List Bk} {k : Nat} (hl : L.length ≤ 65537) (h : ∀ x ∈ L, x.fm = [] ∧ ∀ t ∈ x.tt, 0 ≤ t ∧ t < 65538) : ∀ x ∈ X6 fa fc L k, (∀ t ∈ x.tt, I64 t) ∧ ∀ t ∈ x.fm, I64 t := fun x hx => by
 obtain ⟨i, hi⟩ := List.mem_iff_getElem?.1 hx
 have hil : i < L.length := by have := (List.getElem?_eq_some_iff.1 hi).1; rw [Xi] at this; exact this
 obtain ⟨y, hy⟩ : ∃ y, L[i]? = some y := ⟨_, List.getElem?_eq_getElem hil⟩
 rw [X9 hy] at hi
 obtain ⟨h1, h2⟩ := h y (List.mem_of_getElem? hy)
 have h3 : ∀ t ∈ y.tt, I64 t := fun t ht => by have := h2 t ht; unfold I64; omega
 split at hi
 · cases hi
   exact ⟨h3, fun t ht => by have := fromsP_nat L (i : Int) t ht; unfold I64; omega⟩
 · cases hi
   exact ⟨h3, fun t ht => by rw [h1] at ht; cases ht⟩
theorem fl_c2 {V : World} {b o : Nat} : (Instr.fieldAt 42 (.pointer (some ⟨b, o, none⟩)) 2).run Tryd.prog V = .ok (.pointer (some ⟨b, o + 2, none⟩)) V := by go_simp
theorem ld_bks {V : World} {b o : Nat} {a : Option Addr} {n c : Nat} (h : V.cell? ⟨b, o, none⟩ = some (.slice a n c)) : (Instr.loadAt 35 (.pointer (some ⟨b, o, none⟩))).run Tryd.prog V = .ok (.slice a n c) V := by go_simp
def rcF (B q gb n len cap : Nat) (l : List Int) : List (Value → World → Prop) :=
 [VK (.pointer (some ⟨q, 4, none⟩)), VK (.slice (some ⟨gb, 0, none⟩) len cap), VK (.int .i64 n), VK (.pointer (some ⟨q, 4, none⟩)), VK (.slice (some ⟨gb, 0, none⟩) len cap), VK (.int .i64 n), VT68 B l, VK (.pointer (some ⟨gb, n * 4, none⟩)), VK (.pointer (some ⟨gb, n * 4 + 2, none⟩))]
theorem rcF_mono {B q gb n len cap : Nat} {l : List Int} : MonoL (rcF B q gb n len cap l) := ⟨VK.mono, VK.mono, VK.mono, VK.mono, VK.mono, VK.mono, VT68.mono, VK.mono, VK.mono, trivial⟩
theorem rgraph_c (f : Cd.Fn) (w : World) (hf : Fn.In w Tt f) (hl0 : 0 < f.code.length) (hl : f.code.length ≤ 16384) (hg : ∀ y ∈ f.code, (glP y).2 = true → 0 ≤ (glP y).1 ∧ (glP y).1 < (f.code.length : Int)) (hlast : Zv f.code = 11 ∨ Zv f.code = 13) :
 Calls Tryd.prog 18 #[.agg ⟨f.vals⟩] w fun e w' => ∃ x : Gr, e = .returned (.agg ⟨x.vals⟩) ∧ x.name = f.name ∧ x.thread = f.thread ∧ x.params = f.params ∧ x.regs = f.regs ∧ GdR f.code x.ba x.bcap x.blocks w' ∧ Below w.heap.size w w' := by
 obtain ⟨i0, hi0, hz0, hz1, hz2⟩ := Xn
 obtain ⟨ik, hik, iz0, iz1, iz2⟩ := info_bk4
 obtain ⟨name, thread, params, regs, ca, ccap, code⟩ := f
 simp only at *
 unfold Cd.Fn.vals
 simp only
 have hst := Lh (Zc w (.cells #[.string name, .bool thread, .int .i64 params, .int .i64 regs, .slice ca code.length ccap] 50) (.cells gr0 37))
 have hq := Lh (Zk w [.string name, .bool thread, .int .i64 params, .int .i64 regs, .slice ca code.length ccap] 50)
 have hqq := Lh (Qt (w.alloc (.cells #[.string name, .bool thread, .int .i64 params, .int .i64 regs, .slice ca code.length ccap] 50)) (.cells gr0 37) (b := w.heap.size + 1) (by simp))
 have hpars := Lh hf
 replace hg := Lh hg
 replace hlast := Lh hlast
 clear hf
 go_enter Tryd.func18, Tryd.ntmps18
 go_upto_region 1 with fail
 have hsz : ((w.alloc (.cells #[.string name, .bool thread, .int .i64 params, .int .i64 regs, .slice ca code.length ccap] 50)).alloc (.cells gr0 37)).heap.size = w.heap.size + 2 := by simp
 generalize hW0 : (w.alloc (.cells #[.string name, .bool thread, .int .i64 params, .int .i64 regs, .slice ca code.length ccap] 50)).alloc (.cells gr0 37) = W0 at *
 have hq0 : Hid (∀ j u, ([.string name, .bool thread, .int .i64 params, .int .i64 regs, .slice ca code.length ccap] : List Value)[j]? = some u → W0.cell? ⟨w.heap.size, j, none⟩ = some u) := Lh (fun j u hu => by rw [← hW0]; exact Qe (Qh _ _) (hq.out j u hu))
 have q4 := hq0.out 4 _ rfl
 clear hW0 hq
 have hin0 := Lh (fun (y : Ins) (hy : y ∈ code) => (hpars.out.code y hy).below (Kps.of_below hst.out))
 have hcut := Lh (rcut_c ca ccap code W0 ((hpars.out.row).below (Kps.of_below hst.out)) hin0.out hl0 (by omega) hg.out hlast.out)
 have hbl := begL_len code
 have hbp := begL_pos hl0
 go_wp2_with fail
 refine hcut.out.mono ?_
 rintro e W1 ⟨g, bs, rfl, hP, hCt, hg0, hb1⟩
 have hbl1 : bs.length ≤ 16385 := by rw [hP.len]; omega
 have hbl0 : 0 < bs.length := by rw [hP.len]; exact hbp
 have hg1 : g < W1.heap.size := hCt.own.lt
 have hin1 := Lh (fun (y : Ins) (hy : y ∈ code) => (hin0.out y hy).below (Kps.of_below hb1))
 have hto := Lh (hP.to hlast.out)
 have hre := Lh (rreached_c bs (some ⟨g, 0, none⟩) bs.length W1 ((hCt.own.row (by unfold maxLen; omega)).mono fun _ _ => trivial) (hCt.bks hP hlast.out (by omega) hin1.out) hto.out hbl0 (by omega))
 replace hP := Lh hP
 replace hCt := Lh hCt
 replace hb1 := Lh hb1
 clear hcut q4
 go_wp2_with fail
 refine hre.out.mono ?_
 rintro e W2 ⟨v, rfl, hr, hb2⟩
 have hRl : (metL (metF bs) bs.length).length = (stay bs).length := by rw [metL_len, stay_len, ← pick_len (metF bs) bs bs.length (Nat.le_refl _), List.take_length]
 obtain ⟨R, hR⟩ : ∃ R, Hid (R = metL (metF bs) bs.length) := ⟨_, Lh rfl⟩
 rw [← hR.out] at hr hRl
 have hget := Lh (fun (k : Nat) (t : Int) (ht : R[k]? = some t) => metL_get (by rw [← hR.out]; exact ht))
 have hRn : Hid (R.length = numM (metF bs) bs.length) := Lh (by rw [hR.out, metL_len])
 obtain ⟨sp1, sp2⟩ := stay_pos hto.out hbl0
 have hRs : R.length ≤ (stay bs).length := by omega
 have hRs2 : (stay bs).length ≤ R.length := by omega
 replace hRl := Lh hRl
 obtain ⟨va, vcap, rfl, hv1, hv2⟩ := own_shape hr
 have hRr := Lh (Z1 hr)
 have hb12 := Lh (hb1.out.trans (hb2.mono hb1.out.size))
 have hCt2 := Lh (hCt.out.keep hb2)
 have hmk : (Instr.makeSlice 40 (.int .i64 (bs.length : Int)) (.int .i64 (bs.length : Int))).run Tryd.prog W2 = .ok (.slice (some ⟨W2.heap.size, 0, none⟩) bs.length bs.length) (W2.alloc (.cells (Array.replicate bs.length (.int .i64 0)) 3)) := make_in bs.length (by omega) W2
 have hN0 := Lh ((InB.start W2 bs.length).cong (f' := nuV (metF bs) 0) (fun k _ => by rw [nuV_zero]))
 have hb20 := Lh (Qh W2 (.cells (Array.replicate bs.length (.int .i64 0)) 3))
 have hg2 : g < W2.heap.size := Nat.lt_of_lt_of_le hg1 hb2.size
 have hRl2 : R.length ≤ 16385 := by omega
 clear hre hr hb2 hb1 hCt
 go_wp2_with fail
 go_loopw [6] (fun i wr => ∃ k : Nat, k ≤ R.length ∧ i = .int .i64 k ∧ Hid (InB W2.heap.size bs.length (nuV (metF bs) k) wr) ∧ Hid (Below W2.heap.size W2 wr)) (fun i _ => R.length - (intOf i).toNat)
 case atStart => exact ⟨0, Nat.zero_le _, rfl, hN0, hb20⟩
 case round =>
  clear hN0 hb20 hmk
  obtain ⟨k, hk, rfl, hN, hb⟩ := hrel
  by_cases hlt : k < R.length
  · obtain ⟨t, ht⟩ : ∃ t, R[k]? = some t := ⟨_, List.getElem?_eq_getElem hlt⟩
    obtain ⟨b, off, ha, _, c0⟩ := Xa (hRr.out.below (Kps.of_below hb.out)) k t ht
    obtain ⟨m, rfl, hm1, hm2, hm3⟩ := hget.out k t ht
    obtain ⟨s1, s2⟩ := hN.out.get hm1
    have hgl := hN.out.lt
    have hN2 := Lh (hN.out.set hm1 (k : Int) (nuV (metF bs) (k + 1)) (fun i _ => nuV_step hm2 hm3 i))
    have hb2 := Lh (hb.out.setCell (p := ⟨W2.heap.size, m, none⟩) (Nat.le_refl _) (.int .i64 (k : Int)))
    have hi0' : (0 : Int) ≤ (k : Int) := by omega
    have hi1 : (k : Int) < (R.length : Int) := by omega
    have hj0 : (0 : Int) ≤ (m : Int) := by omega
    have hj1 : (m : Int) < (bs.length : Int) := by omega
    clear hN hb ht hm2 hm3 hget hRr
    subst ha
    go_wp2_with fail
    go_roundw
    case rel => exact ⟨k + 1, by omega, by go_num, hN2, hb2⟩
    case measure => simp [intOf]; omega
  · have hk2 : k = R.length := by omega
    subst hk2
    have hgl := hN.out.lt
    have hb03 := Lh (hb12.out.trans (hb.out.mono hb12.out.size))
    have q0 := Qe hb03.out (hq0.out 0 _ rfl)
    have q1 := Qe hb03.out (hq0.out 1 _ rfl)
    have q2 := Qe hb03.out (hq0.out 2 _ rfl)
    have q3 := Qe hb03.out (hq0.out 3 _ rfl)
    have hg3 : g < wr.heap.size := by omega
    have hG0 : Hid (GbI wr.heap.size wr.heap.size g [.string name, .bool thread, .int .i64 params, .int .i64 regs] bs none 0 [] (wr.alloc (.cells #[.string name, .bool thread, .int .i64 params, .int .i64 regs, .slice none 0 0] 37))) := Lh ⟨Qt _ _ rfl, World.ownsRow_nil _ _ _ _, fun i x h => (by simp at h), fun i x h => (by simp at h), fun i x h => (by simp at h), (hCt2.out.keep hb.out).keep (Qh _ _), hg3⟩
    have hb4 := Lh (Qh wr (.cells #[.string name, .bool thread, .int .i64 params, .int .i64 regs, .slice none 0 0] 37))
    obtain ⟨W3, hW3⟩ : ∃ W, W = wr := ⟨_, rfl⟩
    subst hW3
    go_wp2_with fail
    go_loopw [8] (fun i wq => ∃ n : Nat, n ≤ R.length ∧ i = .int .i64 n ∧ Hid (∃ ba bcap L, L.length = n ∧ GbP (stay (skB code)) L ∧ GbI W3.heap.size W3.heap.size g [.string name, .bool thread, .int .i64 params, .int .i64 regs] bs ba bcap L wq) ∧ Hid (Below W3.heap.size W3 wq)) (fun i _ => R.length - (intOf i).toNat)
    case atStart => exact ⟨0, Nat.zero_le _, rfl, Lh ⟨none, 0, [], rfl, GbP.nil _, hG0.out⟩, hb4⟩
    case round =>
     clear hG0 hb4 q0 q1 q2 q3
     obtain ⟨n, hn, rfl, hG, hb5⟩ := hrel
     by_cases hlt : n < R.length
     · obtain ⟨t, ht⟩ : ∃ t, R[n]? = some t := ⟨_, List.getElem?_eq_getElem hlt⟩
       have hb25 := hb.out.trans (hb5.out.mono hb.out.size)
       obtain ⟨b, off, ha, _, c0⟩ := Xa (hRr.out.below (Kps.of_below hb25)) n t ht
       obtain ⟨m, rfl, hm1, hm2, hm3⟩ := hget.out n t ht
       obtain ⟨x0, hx0⟩ : ∃ x, bs[m]? = some x := ⟨_, List.getElem?_eq_getElem hm1⟩
       obtain ⟨ba, bcap, L, hL, hLP, hGb⟩ := hG.out
       subst hL
       obtain ⟨d0, d1, d2, d3⟩ := hGb.ct.own.get (by unfold maxLen; omega) hx0
       have hgl5 := hGb.ct.own.lt
       have hi0' : (0 : Int) ≤ (L.length : Int) := by omega
       have hi1 : (L.length : Int) < (R.length : Int) := by omega
       have hj0 : (0 : Int) ≤ (m : Int) := by omega
       have hj1 : (m : Int) < (bs.length : Int) := by omega
       have hsb := Lh (stay_get hx0 hm2)
       have htl : x0.tt.length ≤ 65536 := Nat.le_trans (cut_tt hP.out hx0) (by omega)
       have hx0m := Lh (List.mem_of_getElem? hx0)
       have htt := Lh (hto.out x0 hx0m.out)
       have hsh := Lh (met_shut hto.out hbl0 hx0 hm2)
       have hB5 := hb5.out.size
       replace hx0 := Lh hx0
       replace hLP := Lh hLP
       replace hGb := Lh hGb
       have hal := Lh (Qh wr (.cells #[.slice x0.pa x0.phis.length x0.pcap, .slice x0.ca x0.code.length x0.ccap, .slice x0.fa x0.fm.length x0.fcap, .slice x0.ta x0.tt.length x0.tcap] 42))
       have hbx := Lh (Qt wr (.cells #[.slice x0.pa x0.phis.length x0.pcap, .slice x0.ca x0.code.length x0.ccap, .slice x0.fa x0.fm.length x0.fcap, .slice x0.ta x0.tt.length x0.tcap] 42) rfl)
       subst ha
       clear hG ht
       go_upto_region 14 with fail
       generalize hW5 : wr.alloc (.cells #[.slice x0.pa x0.phis.length x0.pcap, .slice x0.ca x0.code.length x0.ccap, .slice x0.fa x0.fm.length x0.fcap, .slice x0.ta x0.tt.length x0.tcap] 42) = W5 at *
       have hs5 : W5.heap.size = wr.heap.size + 1 := by rw [← hW5]; simp
       clear hW5 c0 d0 d1 d2 d3
       replace hs5 := Lh hs5
       obtain ⟨T, hT⟩ : ∃ T : List Int, Hid (T = x0.tt.map fun t => (numM (metF bs) t.toNat : Int)) := ⟨_, Lh rfl⟩
       have hTl : x0.tt.length = T.length := by rw [hT.out, List.length_map]
       have hTr := Lh ((Z1 (hGb.out.ct.to m x0 hx0.out)).below (Kps.of_below hal.out))
       have hN5 := Lh ((hN.out.keep hb5.out).keep hal.out)
       obtain ⟨W4, hW4⟩ : ∃ W, W = wr := ⟨_, rfl⟩
       subst hW4
       have h45 : W4.heap.size < W5.heap.size := by rw [hs5.out]; omega
       rw [hTl] at htl hTr hbx
       replace hTl := Lh hTl
       replace hlt := Lh hlt
       clear hi1
       go_wp2_with fail
       go_loopw [10, 11] (fun v i wq => ∃ k : Nat, k ≤ T.length ∧ i = .int .i64 k ∧ Hid (wq.ownsRow W5.heap.size 3 1 v (T.take k).length (Qc (T.take k))) ∧ Hid (Below W5.heap.size W5 wq)) (fun _ i _ => T.length - (intOf i).toNat)
       case atStart => exact ⟨0, Nat.zero_le _, rfl, Lh (World.ownsRow_nil _ _ _ _), Lh (Below.refl _ _)⟩
       case round =>
        obtain ⟨k, hk, rfl, hown, hb6⟩ := hrel
        have hbx6 := (hb6.out.block _ h45).trans hbx.out
        have e3 := Qk hbx6 (j := 3) rfl
        have hq9 : W4.heap.size < wr.heap.size := (Array.getElem?_eq_some_iff.1 hbx6).1
        by_cases hlt2 : k < T.length
        · clear hbx6
          obtain ⟨y, hy⟩ : ∃ y, x0.tt[k]? = some y := ⟨_, List.getElem?_eq_getElem (by rw [hTl.out]; exact hlt2)⟩
          have hym := List.mem_of_getElem? hy
          obtain ⟨y0, y1⟩ := htt.out y hym
          obtain ⟨u, rfl⟩ : ∃ u : Nat, y = u := ⟨y.toNat, by omega⟩
          have hmu : metF bs u = true := by have := hsh.out _ hym; rw [Int.toNat_natCast] at this; exact this
          have hul : u < bs.length := by omega
          obtain ⟨b, off, ha, _, c0⟩ := Xa (l := x0.tt) (by rw [hTl.out]; exact hTr.out.below (Kps.of_below hb6.out)) k _ hy
          obtain ⟨s1, s2⟩ := (hN5.out.keep hb6.out).get hul
          rw [hRn.out, nuV_all hmu hul] at s1
          have hTk := Lh (show T.take (k + 1) = T.take k ++ [(numM (metF bs) u : Int)] by rw [List.take_add_one, hT.out, List.getElem?_map, hy]; rfl)
          obtain ⟨tv, tcap, hve, tv1, tv2⟩ := own_shape hown.out
          subst hve
          have hPl : (T.take k).length ≤ 65536 := by rw [List.length_take]; omega
          have hi0'' : (0 : Int) ≤ (k : Int) := by omega
          have hi1' : (k : Int) < (T.length : Int) := by omega
          clear hy hym hmu hT hsb
          generalize T.take k = P at *
          generalize (numM (metF bs) u : Int) = z at *
          rw [ha] at e3
          clear ha
          go_wp2_with (at_builtin; refine wpList_append_own_at _ rfl _ _ 40 rfl W5.heap.size 3 i0 _ 1 8 Tryd.underlying40 hi0 hz0 hz1 hz2 rfl (by decide) _ _ _ rfl (Qn hown.out (Qh _ _)) _ 1 1 [.int .i64 z] rfl rfl (one_at _ _ _ _ (by first | rfl | simp)) (by simp [Value.oneCell']) ?c1 ?c2 ?c3 ?_)
          case c1 => unfold maxLen; omega
          case c2 => omega
          case c3 => have := hb6.out.size; simp; omega
          intro v' w3 hown3 hg3 _ hat3
          have hown4 : Hid (w3.ownsRow W5.heap.size 3 1 v' (T.take (k + 1)).length (Qc (T.take (k + 1)))) := Lh (by
           rw [hTk.out, List.length_append, num_snoc]; exact hown3)
          have hb7 : Hid (Below W5.heap.size W5 w3) := Lh ((hb6.out.alloc hb6.out.size _).grown hg3 (by have := hb6.out.size; simp; omega) (fun q e => by have := (hown.out.lt q e).1; omega))
          clear hown3 hg3 hown hb6 hTk hat3 s1 s2 e3
          go_wp2_with fail
          go_roundw
          case rel => exact ⟨k + 1, by omega, by go_num, hown4, hb7⟩
          case measure => simp [intOf]; omega
        · have hk3 : k = T.length := by omega
          subst hk3
          rw [List.take_length] at hown
          obtain ⟨tv, tcap, hve, tv1, tv2⟩ := own_shape hown.out
          subst hve
          have hb46 := Lh (hal.out.trans (hb6.out.mono hal.out.size))
          have hGb6 := Lh (hGb.out.keep hb46.out)
          have e4 := Qk hGb6.out.box (j := 4) rfl
          have e5 := Qd hGb6.out.box 4
          have e1 := Qk hbx6 (j := 1) rfl
          have hq7 := (Array.getElem?_eq_some_iff.1 hGb6.out.box).1
          have hLl : L.length ≤ 16385 := by have := hlt.out; omega
          clear hbx6 hN5 hTr hbx
          go_wp2_with (at_builtin; refine wpList_append_own_at _ rfl _ _ 35 rfl W3.heap.size 42 ik _ 4 96 Tryd.underlying35 hik iz0 iz1 iz2 rfl (by decide) _ _ _ rfl (Qn hGb6.out.blk (Qh _ _)) _ 1 1 [.slice none 0 0, .slice x0.ca x0.code.length x0.ccap, .slice none 0 0, .slice tv T.length tcap] rfl rfl (Xy _ _ _ _ (by first | rfl | simp)) (bk_one ⟨none, 0, [], x0.ca, x0.ccap, x0.code, none, 0, [], tv, tcap, T⟩) ?c1 ?c2 ?c3 ?_)
          case c1 => unfold maxLen; omega
          case c2 => omega
          case c3 => have := hb46.out.size; simp; omega
          intro v' w3 hown3 hg3 _ hat3
          have hGb7 := hGb6.out.keep (Qh wr (.cells #[.slice none 0 0, .slice x0.ca x0.code.length x0.ccap, .slice none 0 0, .slice tv T.length tcap] 42))
          obtain ⟨M, hM⟩ : ∃ M, Hid (M = stay (skB code)) := ⟨_, Lh rfl⟩
          obtain ⟨y, hy1, hy2⟩ := eqL_get (same_stay hP.out.done) _ _ hsb.out
          obtain ⟨_, hy3, _, hy4⟩ := X7 hy2
          have hLP2 := Lh (hLP.out.add (x := ⟨none, 0, [], x0.ca, x0.ccap, x0.code, none, 0, [], tv, tcap, T⟩) ⟨rfl, rfl⟩ (by rw [hm3] at hy1; exact hy1) (by rw [← hy4]; exact hT.out) hy3)
          obtain ⟨a', c', hve, hG8⟩ := hGb7.add (x := ⟨none, 0, [], x0.ca, x0.ccap, x0.code, none, 0, [], tv, tcap, T⟩) rfl hg3 hown3 ⟨rfl, rfl, rfl⟩ ⟨x0, hx0m.out, rfl, rfl, rfl⟩ (Qn (Xc hown.out (by omega)) (Qh _ _)) (World.ownsRow_nil _ _ _ _)
          subst hve
          have hbx3 := (hg3.block W3.heap.size (Array.getElem?_eq_some_iff.1 hGb7.box).1 (fun e => Zb hGb7.blk hGb7.box (by decide) e.symm)).trans hGb7.box
          have g4 := Qk hbx3 (j := 4) rfl
          have g5 := Qd hbx3 4
          have hq3 := (Array.getElem?_eq_some_iff.1 hbx3).1
          have hb9 := Lh ((((hb5.out.trans (hb46.out.mono hb5.out.size)).alloc (by have := hb46.out.size; omega) (.cells #[.slice none 0 0, .slice x0.ca x0.code.length x0.ccap, .slice none 0 0, .slice tv T.length tcap] 42)).grown hg3 (by have := hb46.out.size; simp; omega) (fun q e => (hGb7.blk.lt q e).1)).setCell (p := ⟨W3.heap.size, 4, none⟩) (Nat.le_refl _) (.slice a' (L.length + 1) c'))
          have hfin : Hid (∃ ba bcap L', L'.length = L.length + 1 ∧ GbP (stay (skB code)) L' ∧ GbI W3.heap.size W3.heap.size g [.string name, .bool thread, .int .i64 params, .int .i64 regs] bs ba bcap L' (w3.setCell ⟨W3.heap.size, 4, none⟩ (.slice a' (L.length + 1) c'))) := Lh ⟨a', c', _, by simp, hLP2.out, hG8⟩
          have hlt9 := hlt.out
          replace hlt9 := Lh (show L.length + 1 ≤ R.length by omega)
          clear hown3 hg3 hown hb6 hat3 e3 e4 e5 e1 hGb7 hy1 hy2 hy3 hy4 hLP2 hG8 hbx3 hlt
          go_wp2_with fail
          go_roundw
          case rel => exact ⟨L.length + 1, hlt9.out, by go_num, hfin, hb9⟩
          case measure => have := hlt9.out; simp [intOf]; omega
     · have hn3 : n = R.length := by omega
       subst hn3
       obtain ⟨ba, bcap, L, hL, hLP, hGb⟩ := hG.out
       have hLM : L.length = (stay (skB code)).length := by rw [hL, hRl.out]; exact eqL_len (same_stay hP.out.done)
       have hsame := Lh (hLP.same hLM stay_bare)
       have hL0 : 0 < L.length := by omega
       have hnum : ∀ x ∈ L, x.fm = [] ∧ ∀ t ∈ x.tt, 0 ≤ t ∧ t < 65538 := fun x hx => by
        obtain ⟨i, hi⟩ := List.mem_iff_getElem?.1 hx
        obtain ⟨⟨_, h2⟩, y, hy, h3, _⟩ := hLP.row i x hi
        have hil := (List.getElem?_eq_some_iff.1 hi).1
        obtain ⟨z, hz⟩ : ∃ z, (stay bs)[i]? = some z := ⟨_, List.getElem?_eq_getElem (by rw [← hRl.out, ← hL]; exact hil)⟩
        obtain ⟨y', hy', hs⟩ := eqL_get (same_stay hP.out.done) i z hz
        rw [hy] at hy'
        cases hy'
        obtain ⟨_, _, _, h4⟩ := X7 hs
        refine ⟨h2, fun t ht => ?_⟩
        rw [h3, ← h4] at ht
        have := stay_to hto.out hbl0 z (List.mem_of_getElem? hz) t ht
        omega
       obtain ⟨gb, cap', hve, hC0⟩ := OwnC.of hGb.blk hL0
       cases hve
       have hLl : L.length ≤ 16385 := by omega
       have hGt0 : Hid (∃ fa fc, GbI W3.heap.size W3.heap.size g [.string name, .bool thread, .int .i64 params, .int .i64 regs] bs (some ⟨gb, 0, none⟩) bcap (X6 fa fc L 0) wr) := Lh ⟨fun _ => none, fun _ => 0, by rw [tell_zero]; exact hGb⟩
       replace hnum := Lh hnum
       replace hL := Lh hL
       replace hLM := Lh hLM
       clear hG hLP hGb hC0
       go_wp2_with fail
       go_loopw [12] (fun i wq => ∃ n : Nat, n ≤ L.length ∧ i = .int .i64 n ∧ Hid (∃ fa fc, GbI W3.heap.size W3.heap.size g [.string name, .bool thread, .int .i64 params, .int .i64 regs] bs (some ⟨gb, 0, none⟩) bcap (X6 fa fc L n) wq) ∧ Hid (Below W3.heap.size W3 wq)) (fun i _ => L.length - (intOf i).toNat)
       case atStart => exact ⟨0, Nat.zero_le _, rfl, hGt0, hb5⟩
       case round =>
        clear hGt0 hb5
        obtain ⟨n, hn, rfl, hG, hb5⟩ := hrel
        obtain ⟨fa, fc, hGt⟩ := hG.out
        have e4 : wr.cell? ⟨W3.heap.size, 4, none⟩ = some (.slice (some ⟨gb, 0, none⟩) L.length bcap) := by
         have h := Qk hGt.box (j := 4) rfl
         rw [Xi] at h
         exact h
        have hq7 := (Array.getElem?_eq_some_iff.1 hGt.box).1
        have hb35 := Lh (hb03.out.trans (hb5.out.mono hb03.out.size))
        by_cases hlt : n < L.length
        · obtain ⟨x, hx⟩ : ∃ x, L[n]? = some x := ⟨_, List.getElem?_eq_getElem hlt⟩
          have hi0' : (0 : Int) ≤ (n : Int) := by omega
          have hi1 : (n : Int) < (L.length : Int) := by omega
          have hxt : (X6 fa fc L n)[n]? = some x := by rw [X9 hx, if_neg (by omega)]
          have hinW := Lh (fun V (hv : Below wr.heap.size wr V) (y : Ins) (hy : y ∈ code) => (hin0.out y hy).below (Kps.of_below (hb35.out.trans (hv.mono hb35.out.size))))
          have hfr := Lh (fun V (hv : Below wr.heap.size wr V) => by
           have hGv := hGt.keep hv
           have h := rfroms_c (X6 fa fc L n) (n : Int) (some ⟨gb, 0, none⟩) bcap V hGv.rowT (hGv.ins (hGv.ct.bks hP.out hlast.out (by omega) (hinW.out V hv)) (tell_nums (by omega) hnum.out)) (by rw [Xi]; omega)
           rw [Xi, tell_froms] at h
           exact h)
          have hend := Lh (fun V (hv : Below wr.heap.size wr V) => (hGt.keep hv).blk)
          have hGt' := Lh hGt
          replace e4 := Lh e4
          have hwB := hb5.out.size
          have hT := Xi fa fc L n
          replace hx := Lh hx
          replace hxt := Lh hxt
          replace hT := Lh hT
          clear hG hGt
          have e5 := e4.out
          go_upto_region 22 with fail
          clear e5
          refine wp_region_tail2 (P := Tryd.prog) (C := fun V => Below wr.heap.size wr V) (E := Ext) (R := fun j => (rcF wr.heap.size W3.heap.size gb n L.length bcap (Zt L (n : Int))).getD j VT) (by kernel_rfl) ((Below.refl _ _).drew) (by kernel_rfl) (fun j v w' w'' _ hE h => Zr _ j rcF_mono v w' w'' hE h) (m := 9) (p := 6) (by omega) rfl rfl rfl (by kernel_rfl) (steps_front 9 ?hs) rfl rfl ?hend
          case hs =>
           refine Qa (Ql fun a W hC hs => ?_) ?_
           · have h1 := Qo hs 7 (by kernel_rfl) (by rfl)
             exact ⟨Qb rfl, _, Q4 rfl (ev h1) fl_g4, rfl⟩
           refine Qa (Ql fun a W hC hs => ?_) ?_
           · obtain ⟨vx, hvx, hRx⟩ := Qf hs 0 90 (by kernel_rfl) (by rfl)
             replace hRx : vx = _ := hRx
             subst hRx
             exact ⟨Qb rfl, _, Qz rfl (ev hvx) (ld_bks (Qe hC e4.out)), rfl⟩
           refine Qa (Ql fun a W hC hs => ?_) ?_
           · have h1 := Qo hs 12 (by kernel_rfl) (by rfl)
             exact ⟨Qb rfl, _, Qw (.inl rfl) (ev h1), rfl⟩
           refine Qa (Ql fun a W hC hs => ?_) ?_
           · have h1 := Qo hs 7 (by kernel_rfl) (by rfl)
             exact ⟨Qb rfl, _, Q4 rfl (ev h1) fl_g4, rfl⟩
           refine Qa (Ql fun a W hC hs => ?_) ?_
           · obtain ⟨vx, hvx, hRx⟩ := Qf hs 3 93 (by kernel_rfl) (by rfl)
             replace hRx : vx = _ := hRx
             subst hRx
             exact ⟨Qb rfl, _, Qz rfl (ev hvx) (ld_bks (Qe hC e4.out)), rfl⟩
           refine Qa (Ql fun a W hC hs => ?_) ?_
           · have h1 := Qo hs 12 (by kernel_rfl) (by rfl)
             exact ⟨Qb rfl, _, Qw (.inl rfl) (ev h1), rfl⟩
           refine Qa (s_call fun a W hC hs => ?_) ?_
           · obtain ⟨vx, hvx, hRx⟩ := Qf hs 4 94 (by kernel_rfl) (by rfl)
             replace hRx : vx = _ := hRx
             subst hRx
             obtain ⟨vy, hvy, hRy⟩ := Qf hs 5 95 (by kernel_rfl) (by rfl)
             replace hRy : vy = _ := hRy
             subst hRy
             refine ⟨Qb rfl, 51, _, Z2 rfl (ev hvx) (ev hvy) (fun _ _ => rfl), (hfr.out W hC).mono ?_⟩
             rintro e w' ⟨v, rfl, h1, h2⟩
             obtain ⟨ta, tcap, rfl⟩ := own_sl h1
             exact ⟨_, rfl, hC.trans (h2.mono hC.size), h2, ta, tcap, rfl, Xc h1 hC.size⟩
           refine Qa (Ql fun a W hC hs => ?_) ?_
           · obtain ⟨vx, hvx, hRx⟩ := Qf hs 1 91 (by kernel_rfl) (by rfl)
             replace hRx : vx = _ := hRx
             subst hRx
             obtain ⟨vy, hvy, hRy⟩ := Qf hs 2 92 (by kernel_rfl) (by rfl)
             replace hRy : vy = _ := hRy
             subst hRy
             exact ⟨Qb rfl, _, run_ixB rfl (ev hvx) (ev hvy) (ix_bk hi1), rfl⟩
           refine Qa (Ql fun a W hC hs => ?_) ?_
           · obtain ⟨vx, hvx, hRx⟩ := Qf hs 7 97 (by kernel_rfl) (by rfl)
             replace hRx : vx = _ := hRx
             subst hRx
             exact ⟨Qb rfl, _, Q4 rfl (ev hvx) fl_c2, rfl⟩
           exact Qx
          case hend =>
           intro σ V hCV hRV
           generalize hF : Q6 _ _ _ _ _ = F
           simp [Q6, dstOf, List.range, List.range.loop, Act.put] at hF
           subst hF
           obtain ⟨a', c', hv6, ho6⟩ : VT68 wr.heap.size (Zt L (n : Int)) (σ 6) V := hRV 6 (by simp)
           have hp8 : σ 8 = .pointer (some ⟨gb, n * 4 + 2, none⟩) := hRV 8 (by simp)
           have hGv := hGt'.out.keep hCV
           obtain ⟨gb', cap2, hve, hC2⟩ := OwnC.of hGv.blk (by rw [hT.out]; omega)
           cases hve
           obtain ⟨f0, f1, f2, f3⟩ := hC2.get hxt.out
           have ff := hC2.free (n * 4 + 2)
           rw [hv6] at ho6
           have hG2 := hGv.tell hxt.out (Xc ho6 hwB)
           rw [tell_new a' c' hx.out] at hG2
           rw [← hv6] at hG2
           have hbV := Lh ((hb5.out.trans (hCV.mono hb5.out.size)).setCell (p := ⟨gb, n * 4 + 2, none⟩) ((hGv.blk.lt gb rfl).1) (σ 6))
           have hG3 : Hid (∃ fa fc, GbI W3.heap.size W3.heap.size g [.string name, .bool thread, .int .i64 params, .int .i64 regs] bs (some ⟨gb, 0, none⟩) bcap (X6 fa fc L (n + 1)) (V.setCell ⟨gb, n * 4 + 2, none⟩ (σ 6))) := Lh ⟨_, _, hG2⟩
           refine wp_storeN (v := σ 6) rfl rfl hp8 rfl ⟨_, _, _, hv6⟩ f2 ff ?_
           clear hRV hCV hp8 ho6 hv6 f0 f1 f2 f3 ff hG2 hGv hC2 hfr hinW hend hGt' e4
           generalize V.setCell ⟨gb, n * 4 + 2, none⟩ (σ 6) = W9 at *
           clear V
           generalize σ 0 = z0
           generalize σ 1 = z1
           generalize σ 2 = z2
           generalize σ 3 = z3
           generalize σ 4 = z4
           generalize σ 5 = z5
           generalize σ 6 = z6
           generalize σ 7 = z7
           generalize σ 8 = z8
           go_wp2_with fail
           go_roundw
           case rel => exact ⟨n + 1, by omega, by go_num, hG3, hbV⟩
           case measure => simp [intOf]; omega
        · have hn4 : n = L.length := by omega
          subst hn4
          have hhq := hGt.box
          rw [Xi] at hhq
          have hhr : wr.heap[w.heap.size + 1]? = some (.cells gr0 37 (0, 0)) := (hb35.out.block _ (by omega)).trans hqq.out
          have hqr : w.heap.size + 1 ≠ W3.heap.size := by have := hb03.out.size; omega
          have e0 := Qk hhq (j := 0) rfl
          have e1 := Qk hhq (j := 1) rfl
          have e2 := Qk hhq (j := 2) rfl
          have e3 := Qk hhq (j := 3) rfl
          have r0 := Qk hhr (j := 0) rfl
          have r1 := Qk hhr (j := 1) rfl
          have r2 := Qk hhr (j := 2) rfl
          have r3 := Qk hhr (j := 3) rfl
          have r4 := Qk hhr (j := 4) rfl
          have f0 := Qd hhr 0
          have f1 := Qd hhr 1
          have f2 := Qd hhr 2
          have f3 := Qd hhr 3
          have f4 := Qd hhr 4
          have hlr := World.block_lt_of_cell? _ _ r0
          replace hhr := Lh hhr
          have hGt' := Lh hGt
          clear hhq hG hGt
          go_wp2_with fail
          have hh := heap_set5 hhr.out (.string name) (.bool thread) (.int .i64 params) (.int .i64 regs) (.slice (some ⟨gb, 0, none⟩) L.length bcap)
          have hg5 := grown5 wr (w.heap.size + 1) (.string name) (.bool thread) (.int .i64 params) (.int .i64 regs) (.slice (some ⟨gb, 0, none⟩) L.length bcap)
          have hGz := hGt'.out.apart hg5 hhr.out hqr
          have hbz : Below w.heap.size w (((((wr.setCell ⟨w.heap.size + 1, 0, none⟩ (.string name)).setCell ⟨w.heap.size + 1, 1, none⟩ (.bool thread)).setCell ⟨w.heap.size + 1, 2, none⟩ (.int .i64 params)).setCell ⟨w.heap.size + 1, 3, none⟩ (.int .i64 regs)).setCell ⟨w.heap.size + 1, 4, none⟩ (.slice (some ⟨gb, 0, none⟩) L.length bcap)) :=
           below5 (hst.out.trans (hb35.out.mono hst.out.size)) (by omega) _ _ _ _ _
          refine bodyPost_ret (v := .agg #[.string name, .bool thread, .int .i64 params, .int .i64 regs, .slice (some ⟨gb, 0, none⟩) L.length bcap]) (results_cell_row Tryd.results18 _ _ (w.heap.size + 1) _ _ _ _ rfl hh Tryd.underlying37 rfl (by kernel_rfl)) rfl ⟨⟨name, thread, params, regs, some ⟨gb, 0, none⟩, bcap, X6 fa fc L L.length⟩, ?_, rfl, rfl, rfl, rfl, ⟨⟨_, g, bs, hP.out, by omega, hGz.toR⟩, same_tell hsame.out fa fc, tell_nums (by omega) hnum.out⟩, hbz⟩
          unfold Gr.vals
          simp only [Xi]
end Go.Proofs.YthiiahlgncngoaaDoorRR.Fw
