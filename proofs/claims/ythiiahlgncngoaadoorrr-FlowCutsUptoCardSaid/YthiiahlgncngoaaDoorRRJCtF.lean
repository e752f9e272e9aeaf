/- The document's graph: Cut's blocks in memory, their numbers, the blocks that it makes. Conditions: none. -/
import Derived.Test.YthiiahlgncngoaaDoorRRJCtD
set_option maxHeartbeats 16000000
set_option maxRecDepth 100000
set_option linter.unusedVariables false
set_option linter.unusedSimpArgs false
namespace Go.Proofs.YthiiahlgncngoaaDoorRR.Fw
open Go Go.RowKit
open Go.Proofs.YthiiahlgncngoaaDoorRR.Lx Go.Proofs.YthiiahlgncngoaaDoorRR.Tr Go.Proofs.YthiiahlgncngoaaDoorRR.Cd
theorem rcut_c (a : Option Addr) (cap : Nat) (l : List Ins) (w : World) (hrow : RowAt w Tt a cap l.length (Q8 l)) (hin : ∀ y ∈ l, Ins.In w Tt y) (h0 : 0 < l.length) (hl : l.length ≤ 65536) (hg : ∀ y ∈ l, (glP y).2 = true → 0 ≤ (glP y).1 ∧ (glP y).1 < (l.length : Int)) (hlast : Zv l = 11 ∨ Zv l = 13) :
 Calls Tryd.prog 50 #[.slice a l.length cap] w fun e w' => ∃ g bs, e = .returned (.slice (some ⟨g, 0, none⟩) bs.length bs.length) ∧ CtP l l.length bs ∧ CtI (g + 1) g bs w' ∧ w.heap.size ≤ g ∧ Below w.heap.size w w' := by
 cases hm : mkF 0 l 0
 · exact rcut_b false a cap l w hrow hin h0 hl hg hlast hm
 · exact rcut_b true a cap l w hrow hin h0 hl hg hlast hm
theorem bare_in {W : World} {S : Nat → Prop} {y : Ins} (h : Ins.In W S y) : Ins.In W S (Zs y) :=
 ⟨h.op, h.r, h.a, h.b, by
  show I64 (if (glP y).2 = true then 0 else y.n)
  split
  · unfold I64; omega
  · exact h.n, h.row, h.nums⟩
theorem Z1 {W : World} {B n cap : Nat} {e : TypeId} {c : Nat} {a : Option Addr} {xs : List Value} (h : W.ownsRow B e c (.slice a n cap) n xs) : RowAt W Tt a cap n xs := by
 obtain ⟨a', cap', h1, h2⟩ := row_own h
 cases h1
 exact h2.mono fun _ _ => trivial
theorem CtP.to {l : List Ins} {bs : List Bk} (hP : CtP l l.length bs) (hlast : Zv l = 11 ∨ Zv l = 13) : ∀ b ∈ bs, ∀ t ∈ b.tt, 0 ≤ t ∧ t < (bs.length : Int) := fun b hb => by
 obtain ⟨j, hj⟩ := List.mem_iff_getElem?.1 hb
 obtain ⟨_, _, _, h4⟩ := hP.row j b hj
 have hjl : j < (begL l).length := by rw [← hP.len]; exact (List.getElem?_eq_some_iff.1 hj).1
 rw [h4, if_pos (st_en hjl).2, hP.len]
 exact toL_in hlast hjl
theorem CtI.bks {B g : Nat} {l : List Ins} {bs : List Bk} {W : World} (h : CtI B g bs W) (hP : CtP l l.length bs) (hlast : Zv l = 11 ∨ Zv l = 13) (hn : bs.length ≤ 65537) (hin : ∀ y ∈ l, Ins.In W Tt y) : ∀ b ∈ bs, Bk.In W b := by
 intro b hb
 have hto := hP.to hlast b hb
 obtain ⟨j, hj⟩ := List.mem_iff_getElem?.1 hb
 obtain ⟨h1, ⟨h2, h2a, h2b⟩, ⟨h3, h3a, h3b⟩, h4⟩ := hP.row j b hj
 refine ⟨by rw [h2, h2a, h2b]; exact row_none _ _, fun z hz => ?_, Z1 (h.code j b hj), fun z hz => ?_, by rw [h3, h3a, h3b]; exact row_none _ _, fun z hz => ?_, Z1 (h.to j b hj), fun z hz => ?_⟩
 · rw [h2] at hz; cases hz
 · rw [h1] at hz
   obtain ⟨i, hi⟩ := List.mem_iff_getElem?.1 hz
   have hm := List.mem_of_getElem? (seg_get hi).1
   obtain ⟨y, hy, rfl⟩ := List.mem_map.1 hm
   exact bare_in (hin y hy)
 · rw [h3] at hz; cases hz
 · have := hto z hz
   unfold I64; omega
theorem metL_get {f : Nat → Bool} : ∀ {n k : Nat} {t : Int}, (metL f n)[k]? = some t → ∃ b : Nat, t = (b : Int) ∧ b < n ∧ f b = true ∧ numM f b = k
 | 0, k, t, h => by cases h
 | n + 1, k, t, h => by
   cases hf : f n
   · rw [metL_no hf] at h
     obtain ⟨b, h1, h2, h3⟩ := metL_get h
     exact ⟨b, h1, by omega, h3⟩
   · rw [metL_yes hf] at h
     by_cases hk : k < (metL f n).length
     · rw [List.getElem?_append_left hk] at h
       obtain ⟨b, h1, h2, h3⟩ := metL_get h
       exact ⟨b, h1, by omega, h3⟩
     · rw [List.getElem?_append_right (by omega)] at h
       have hk2 : k - (metL f n).length = 0 := by
        have := (List.getElem?_eq_some_iff.1 h).1
        simp at this
        omega
       rw [hk2] at h
       cases h
       exact ⟨n, rfl, by omega, hf, by rw [← metL_len]; omega⟩
theorem numM_inj {f : Nat → Bool} {i b : Nat} (hi : f i = true) (hb : f b = true) (h : numM f i = numM f b) : i = b := by
 rcases Nat.lt_trichotomy i b with e | e | e
 · have h1 := numM_succ f i
   rw [hi, if_pos rfl] at h1
   have := numM_le f (show i + 1 ≤ b by omega)
   omega
 · exact e
 · have h1 := numM_succ f b
   rw [hb, if_pos rfl] at h1
   have := numM_le f (show b + 1 ≤ i by omega)
   omega
/-- the numbers of the blocks that are met, the first ones -/
def nuV (f : Nat → Bool) (k b : Nat) : Int := if f b = true ∧ numM f b < k then (numM f b : Int) else 0
theorem nuV_zero (f : Nat → Bool) (b : Nat) : nuV f 0 b = 0 := if_neg (fun h => by omega)
theorem nuV_step {f : Nat → Bool} {b k : Nat} (hf : f b = true) (hk : numM f b = k) (i : Nat) : nuV f (k + 1) i = if i = b then (k : Int) else nuV f k i := by
 unfold nuV
 by_cases e : i = b
 · subst e
   rw [if_pos ⟨hf, by omega⟩, if_pos rfl, hk]
 · rw [if_neg e]
   by_cases h : f i = true ∧ numM f i < k
   · rw [if_pos h, if_pos ⟨h.1, by omega⟩]
   · rw [if_neg h, if_neg]
     intro h'
     refine h ⟨h'.1, ?_⟩
     rcases Nat.lt_or_ge (numM f i) k with h2 | h2
     · exact h2
     · exact absurd (numM_inj h'.1 hf (by omega)) e
theorem nuV_all {f : Nat → Bool} {b n : Nat} (hf : f b = true) (hb : b < n) : nuV f (numM f n) b = (numM f b : Int) := by
 have h1 := numM_succ f b
 rw [hf, if_pos rfl] at h1
 have := numM_le f (show b + 1 ≤ n by omega)
 exact if_pos ⟨hf, by omega⟩
abbrev fmV (x : Bk) : Value := .slice x.fa x.fm.length x.fcap
theorem CtI.grown {B g : Nat} {bs : List Bk} {W W' : World} {row : Option Nat} (h : CtI B g bs W) (hgr : W.grownBy W' row) (h1 : row ≠ some g) (h2 : ∀ {e : TypeId} {c : Nat} {v : Value} {n : Nat} {xs : List Value}, e = 44 ∨ e = 3 → W.ownsRow B e c v n xs → ∀ k, row = some k → v.ownBlock ≠ some k) : CtI B g bs W' :=
 ⟨Xg h.own hgr h1, fun j x hx => Zx (h.code j x hx) hgr (h2 (.inl rfl) (h.code j x hx)), fun j x hx => Zx (h.to j x hx) hgr (h2 (.inr rfl) (h.to j x hx)), h.cap, h.tap⟩
/-- a graph in the making: a box, a row of blocks -/
structure GbI (B q g : Nat) (hd : List Value) (bs : List Bk) (ba : Option Addr) (bcap : Nat) (L : List Bk) (W : World) : Prop where
 box : W.heap[q]? = some (.cells ⟨hd ++ [.slice ba L.length bcap]⟩ 37 (0, 0))
 blk : W.ownsRow B 42 4 (.slice ba L.length bcap) L.length (Qu L)
 row : ∀ (i : Nat) (x : Bk), L[i]? = some x → (x.phis = [] ∧ x.pa = none ∧ x.pcap = 0) ∧ ∃ y ∈ bs, x.ca = y.ca ∧ x.ccap = y.ccap ∧ x.code = y.code
 to : ∀ (i : Nat) (x : Bk), L[i]? = some x → W.ownsRow B 3 1 (toV x) x.tt.length (Qc x.tt)
 fm : ∀ (i : Nat) (x : Bk), L[i]? = some x → W.ownsRow B 3 1 (fmV x) x.fm.length (Qc x.fm)
 ct : CtI (g + 1) g bs W
 hg : g < B
theorem GbI.keep {B q g : Nat} {hd : List Value} {bs : List Bk} {ba : Option Addr} {bcap : Nat} {L : List Bk} {W W' : World} (h : GbI B q g hd bs ba bcap L W) (hb : Below W.heap.size W W') : GbI B q g hd bs ba bcap L W' :=
 ⟨(hb.block _ (Array.getElem?_eq_some_iff.1 h.box).1).trans h.box, Qn h.blk hb, h.row, fun i x hx => Qn (h.to i x hx) hb, fun i x hx => Qn (h.fm i x hx) hb, h.ct.keep hb, h.hg⟩
theorem row_set {B g q o : Nat} {e T : TypeId} {c : Nat} {v u : Value} {n : Nat} {xs : List Value} {cur : Array Value} {W : World} (h : W.ownsRow B e c v n xs) (hq : W.heap[q]? = some (.cells cur T (0, 0))) (hT : T ≠ e) : (W.setCell ⟨q, o, none⟩ u).ownsRow B e c v n xs :=
 Zx h (Q9 W q o u) (fun k ek => by cases ek; exact Zb h hq hT)
theorem ct_set {B g q o : Nat} {T : TypeId} {u : Value} {bs : List Bk} {cur : Array Value} {W : World} (h : CtI B g bs W) (hq : W.heap[q]? = some (.cells cur T (0, 0))) (h1 : T ≠ 44) (h2 : T ≠ 3) (hne : q ≠ g) : CtI B g bs (W.setCell ⟨q, o, none⟩ u) :=
 h.grown (Q9 W q o u) (fun e => hne (Option.some.inj e)) (fun he hr k ek => by
  cases ek
  rcases he with rfl | rfl
  · exact Zb hr hq h1
  · exact Zb hr hq h2)
/-- a block more -/
theorem GbI.add {B q g : Nat} {hd : List Value} {bs : List Bk} {ba : Option Addr} {bcap : Nat} {L : List Bk} {V w3 : World} {x : Bk} {v' : Value} (h : GbI B q g hd bs ba bcap L V) (h4 : hd.length = 4) (hgr : V.grownBy w3 (Value.slice ba L.length bcap).ownBlock)
 (hown : w3.ownsRow B 42 4 v' (L.length + 1) (Qu L ++ x.vals)) (hx1 : x.phis = [] ∧ x.pa = none ∧ x.pcap = 0) (hx2 : ∃ y ∈ bs, x.ca = y.ca ∧ x.ccap = y.ccap ∧ x.code = y.code) (hx3 : V.ownsRow B 3 1 (toV x) x.tt.length (Qc x.tt)) (hx4 : V.ownsRow B 3 1 (fmV x) x.fm.length (Qc x.fm)) :
 ∃ a c, v' = .slice a (L.length + 1) c ∧ GbI B q g hd bs a c (L ++ [x]) (w3.setCell ⟨q, 4, none⟩ v') := by
 obtain ⟨a, c, rfl⟩ := own_sl hown
 have hbx : w3.heap[q]? = some (.cells ⟨hd ++ [.slice ba L.length bcap]⟩ 37 (0, 0)) := (hgr.block q (Array.getElem?_eq_some_iff.1 h.box).1 (fun e => Zb h.blk h.box (by decide) e.symm)).trans h.box
 have hi : ∀ {v n xs}, V.ownsRow B 3 1 v n xs → (w3.setCell ⟨q, 4, none⟩ (.slice a (L.length + 1) c)).ownsRow B 3 1 v n xs := fun hr =>
  row_set (g := 0) (Zx hr hgr (fun k e => own_apartT hr h.blk (by decide) k e)) hbx (by decide)
 have hqg : q ≠ g := fun e => by
  have h1 := h.box
  rw [e, h.ct.own.ex] at h1
  injection h1 with h1
  injection h1 with _ h2 _
  revert h2; decide
 have hct : CtI (g + 1) g bs w3 := h.ct.grown hgr (fun e => by have := (h.blk.lt g e).1; have := h.hg; omega) (fun he hr k e => by
  rcases he with rfl | rfl
  · exact own_apartT hr h.blk (by decide) k e
  · exact own_apartT hr h.blk (by decide) k e)
 have hget : ∀ {i : Nat} {z : Bk}, (L ++ [x])[i]? = some z → L[i]? = some z ∨ z = x := fun {i z} hz => by
  by_cases e : i < L.length
  · rw [List.getElem?_append_left e] at hz; exact .inl hz
  · rw [List.getElem?_append_right (by omega)] at hz
    have := List.mem_of_getElem? hz
    simp at this
    exact .inr this
 refine ⟨a, c, rfl, ?_, ?_, fun i z hz => ?_, fun i z hz => ?_, fun i z hz => ?_, ct_set hct hbx (by decide) (by decide) hqg, h.hg⟩
 · rw [Qy hbx]
   have : ((⟨hd ++ [Value.slice ba L.length bcap]⟩ : Array Value).setIfInBounds 4 (.slice a (L.length + 1) c)) = ⟨hd ++ [.slice a (L ++ [x]).length c]⟩ := by
    apply Array.ext'
    simp [h4]
   rw [this]
 · rw [List.length_append]
   have e2 : Qu (L ++ [x]) = Qu L ++ x.vals := by unfold Qu; simp
   rw [e2]
   exact row_set (g := 0) hown hbx (by decide)
 · rcases hget hz with hz | rfl
   · exact h.row i z hz
   · exact ⟨hx1, hx2⟩
 · rcases hget hz with hz | rfl
   · exact hi (h.to i z hz)
   · exact hi hx3
 · rcases hget hz with hz | rfl
   · exact hi (h.fm i z hz)
   · exact hi hx4
/-- a block's From -/
theorem GbI.tell {B q g gb bcap : Nat} {hd : List Value} {bs : List Bk} {L : List Bk} {V : World} {x : Bk} {k fcap : Nat} {fa : Option Addr} {fm : List Int} (h : GbI B q g hd bs (some ⟨gb, 0, none⟩) bcap L V) (hx : L[k]? = some x) (hf : V.ownsRow B 3 1 (.slice fa fm.length fcap) fm.length (Qc fm)) :
 GbI B q g hd bs (some ⟨gb, 0, none⟩) bcap (L.set k (putF fa fcap fm x)) (V.setCell ⟨gb, k * 4 + 2, none⟩ (.slice fa fm.length fcap)) := by
 have hkl := (List.getElem?_eq_some_iff.1 hx).1
 obtain ⟨g', cap', hv, hC⟩ := OwnC.of h.blk (by omega)
 cases hv
 have hgb := (h.blk.lt gb rfl).1
 obtain ⟨cur, hex, _⟩ := hC.ex
 have hS := hC.set (j := 2) (x' := putF fa fcap fm x) (v := .slice fa fm.length fcap) hx (by omega) rfl
 have hbx : V.heap[q]? ≠ none := by rw [h.box]; simp
 have hqb : gb ≠ q := fun e => by
  subst e
  rw [h.box] at hex
  injection hex with hex
  injection hex with _ h2 _
  revert h2; decide
 refine ⟨?_, ?_, fun i z hz => ?_, fun i z hz => ?_, fun i z hz => ?_, ct_set h.ct hex (by decide) (by decide) (by have := h.hg; omega), h.hg⟩
 · rw [List.length_set]
   exact ((Q9 V gb _ _).block q (Array.getElem?_eq_some_iff.1 h.box).1 (fun e => hqb (Option.some.inj e).symm)).trans h.box
 · have := hS.to
   rw [List.length_set] at this ⊢
   exact this
 · rcases Xs hx hz with ⟨rfl, rfl⟩ | ⟨_, hz'⟩
   · exact h.row _ x hx
   · exact h.row i z hz'
 · rcases Xs hx hz with ⟨rfl, rfl⟩ | ⟨_, hz'⟩
   · exact row_set (g := 0) (h.to _ x hx) hex (by decide)
   · exact row_set (g := 0) (h.to i z hz') hex (by decide)
 · rcases Xs hx hz with ⟨rfl, rfl⟩ | ⟨_, hz'⟩
   · exact row_set (g := 0) hf hex (by decide)
   · exact row_set (g := 0) (h.fm i z hz') hex (by decide)
end Go.Proofs.YthiiahlgncngoaaDoorRR.Fw
namespace Go.Proofs.YthiiahlgncngoaaDoorRR.QrP
open Go
open Go.Proofs.YthiiahlgncngoaaDoorRR.Qr Go.Proofs.YthiiahlgncngoaaDoorRR.QrT
theorem wanted_free {o : Oper} {f : Nat → Option Bool} (h : o.guard = none) : Region.wanted o f = true := by unfold Region.wanted; rw [h]
variable {P : Program} {ops : Array Oper} {Q : Exit → Act → World → Prop} {C : World → Prop} {E : World → World → Prop} {R : Nat → Value → World → Prop} {a0 : Act}
theorem wp_region_tail2 {id : Nat} {w : World} (p : Nat) (hm0 : P.follows .mixedOrders = true) (hC : C w.drew) (hB : relB ops a0.tmps.size = true)
 (hmono : ∀ i v w w', C w → E w w' → R i v w → R i v w')
 {m : Nat} (hpm : p < m) (hm : m + 1 = ops.size) {om : Oper} (hom : ops[m]? = some om) (hg : om.guard = none)
 (hwait : waitsAll ops om m = true)
 (hstep : ∀ j o, j < m → ops[j]? = some o → ∀ (a : Act) (w : World), C w → Seen ops R a0 o a w →
  (Region.wanted o (yielded ops a.tmps) = true → o.wp P a w (fun a' w' => C w' ∧ E w w' ∧ ∃ v, a' = a.put o.dst v ∧ R j v w') Q) ∧
  (Region.wanted o (yielded ops a.tmps) = false → E w w ∧ R j undef w))
 {op : Oper} (hop : ops[p]? = some op) (hw : op.guard = none)
 (hlast : ∀ (σ : Nat → Value) (w : World), C w → (∀ i, i < m → R i (σ i) w) → om.wp P (Q6 ops σ (fun i => decide (i < m)) (List.range ops.size) a0) w (fun a' w' => Q .normal a' w') Q) :
 (Code.region id ops true).wp P Q a0 w :=
 Zl (C := fun _ => C) (R := fun _ => R) (EP := E) p hm0 hC hB (fun _ => hmono) (fun i v w w' _ h1 h2 h3 => hmono i v w w' h1 h2 h3) hpm hm hom hg hwait (fun _ j o hj _ ho => hstep j o hj ho) hop
  (fun a w hC hs => ⟨wanted_free hw, (hstep p op hpm hop a w hC hs).1 (wanted_free hw)⟩) hlast
end Go.Proofs.YthiiahlgncngoaaDoorRR.QrP
