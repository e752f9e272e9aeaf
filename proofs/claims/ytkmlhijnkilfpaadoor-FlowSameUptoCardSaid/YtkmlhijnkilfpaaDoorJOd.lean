/- Parts of rows of instructions; rows of blocks of the call's own. Conditions: none. What cut makes of instructions, block by block. Conditions: none. -/
import Derived.Test.YtkmlhijnkilfpaaDoorJOc
namespace Go.Proofs.YtkmlhijnkilfpaaDoor.Fw
open Go Go.RowKit
open Go.Proofs.YtkmlhijnkilfpaaDoor.Lx Go.Proofs.YtkmlhijnkilfpaaDoor.Tr Go.Proofs.YtkmlhijnkilfpaaDoor.Cd

def seg (l : List Ins) (lo hi : Nat) : List Ins := (l.drop lo).take (hi - lo)
theorem seg_len {l : List Ins} {lo hi : Nat} (h1 : lo ≤ hi) (h2 : hi ≤ l.length) : (seg l lo hi).length = hi - lo := by
  unfold seg; rw [List.length_take, List.length_drop]; omega
theorem seg_get {l : List Ins} {lo hi j : Nat} {x : Ins} (h : (seg l lo hi)[j]? = some x) : l[lo + j]? = some x ∧ j < hi - lo := by
  unfold seg at h
  rw [List.getElem?_take] at h
  split at h
  · rename_i hj
    rw [List.getElem?_drop] at h
    exact ⟨h, hj⟩
  · cases h
theorem row_sub {W : World} {S : Nat → Prop} {a : Option Addr} {cap : Nat} {l : List Ins} {lo hi mx : Nat} (h : RowAt W S a cap l.length (inCells l)) (h1 : lo ≤ hi) (h2 : hi ≤ l.length) (h3 : hi ≤ mx) (h4 : mx ≤ cap) :
    RowAt W S (if mx = lo then a else a.map (·.add (lo * 6))) (mx - lo) (seg l lo hi).length (inCells (seg l lo hi)) := by
  have hl := seg_len h1 h2
  refine ⟨by omega, by have := h.lim; omega, fun e => ?_, fun j u hj => ?_⟩
  · have ha : a = none := by
      split at e
      · exact e
      · cases a with
        | none => rfl
        | some a => cases e
    have := h.nil ha
    omega
  · have hjl : j < (hi - lo) * 6 := by
      have := (List.getElem?_eq_some_iff.1 hj).1
      rw [in_len, hl] at this
      exact this
    have hj2 : (inCells l)[lo * 6 + j]? = some u := by
      have hj' : j = j / 6 * 6 + j % 6 := by have := Nat.div_add_mod j 6; omega
      have hk : j / 6 < (seg l lo hi).length := by rw [hl]; omega
      obtain ⟨x, hx⟩ : ∃ x, (seg l lo hi)[j / 6]? = some x := ⟨_, List.getElem?_eq_getElem hk⟩
      have e1 := flat_at Ins.vals 6 Ins.vals_len (seg l lo hi) (j / 6) (j % 6) x hx (Nat.mod_lt _ (by omega))
      have e2 := flat_at Ins.vals 6 Ins.vals_len l (lo + j / 6) (j % 6) x (seg_get hx).1 (Nat.mod_lt _ (by omega))
      rw [← hj'] at e1
      rw [show (lo + j / 6) * 6 + j % 6 = lo * 6 + j by omega] at e2
      show (l.flatMap Ins.vals)[lo * 6 + j]? = some u
      rw [e2, ← e1]
      exact hj
    obtain ⟨b, off, rfl, hS, hc⟩ := h.at_ _ _ hj2
    rw [if_neg (by omega)]
    refine ⟨b, off + lo * 6, by rw [Option.map_some, Go.WideShapes.add_plain], hS, ?_⟩
    rw [Nat.add_assoc]
    exact hc
theorem seg_last {l : List Ins} {lo hi : Nat} : lastI (seg l lo hi) ∈ l ∨ lastI (seg l lo hi) = lastI [] := by
  by_cases h : (seg l lo hi) = []
  · rw [h]; exact .inr rfl
  · refine .inl ?_
    obtain ⟨x, hx⟩ : ∃ x, (seg l lo hi)[(seg l lo hi).length - 1]? = some x := ⟨_, List.getElem?_eq_getElem (by have := List.length_pos_iff.2 h; omega)⟩
    rw [lastI_at hx]
    exact List.mem_of_getElem? (seg_get hx).1
/-! ### rows of blocks -/
theorem bk_len (l : List Bk) : (bkCells l).length = l.length * 4 := flat_lenM Bk.vals 4 Bk.vals_len l
def Bk0 : Bk := ⟨none, 0, [], none, 0, [], none, 0, [], none, 0, []⟩
theorem set_bk : ∀ (l : List Bk) (k j : Nat) (x x' : Bk) (v : Value), l[k]? = some x → j < 4 → x'.vals = x.vals.set j v → bkCells (l.set k x') = (bkCells l).set (k * 4 + j) v
  | [], k, _, _, _, _, h, _, _ => by simp at h
  | y :: r, 0, j, x, x', v, h, hj, he => by
    obtain rfl : y = x := by simpa using h
    show x'.vals ++ bkCells r = (y.vals ++ bkCells r).set (0 * 4 + j) v
    rw [List.set_append_left _ _ (by rw [Bk.vals_len]; omega), he, Nat.zero_mul, Nat.zero_add]
  | y :: r, k + 1, j, x, x', v, h, hj, he => by
    show y.vals ++ bkCells (r.set k x') = (y.vals ++ bkCells r).set ((k + 1) * 4 + j) v
    rw [List.set_append_right _ _ (by rw [Bk.vals_len]; omega), set_bk r k j x x' v (by simpa using h) hj he, Bk.vals_len, show (k + 1) * 4 + j - 4 = k * 4 + j by omega]
structure OwnB (g : Nat) (bs : List Bk) (W : World) : Prop where
  ex : W.heap[g]? = some (.cells ⟨bkCells bs⟩ 42 (0, 0))
theorem OwnB.keep {g : Nat} {l : List Bk} {W W' : World} (h : OwnB g l W) (hb : Below W.heap.size W W') : OwnB g l W' :=
  ⟨(hb.block g (Array.getElem?_eq_some_iff.1 h.ex).1).trans h.ex⟩
theorem OwnB.lt {g : Nat} {l : List Bk} {W : World} (h : OwnB g l W) : g < W.heap.size := (Array.getElem?_eq_some_iff.1 h.ex).1
theorem OwnB.free {g : Nat} {l : List Bk} {W : World} (h : OwnB g l W) (j : Nat) : W.frozen? ⟨g, j, none⟩ = false := blk_free h.ex j
theorem OwnB.row {g : Nat} {l : List Bk} {W : World} (h : OwnB g l W) (hn : l.length ≤ maxLen) : RowAt W (fun b => b = g) (some ⟨g, 0, none⟩) l.length l.length (bkCells l) := by
  refine ⟨Nat.le_refl _, hn, fun e => (by cases e), fun j u hu => ⟨g, 0, rfl, rfl, ?_⟩⟩
  rw [Nat.zero_add]
  exact blk_cell h.ex (by simpa using hu)
theorem OwnB.get {g : Nat} {l : List Bk} {W : World} (h : OwnB g l W) (hn : l.length ≤ maxLen) {k : Nat} {e : Bk} (hx : l[k]? = some e) :
    W.cell? ⟨g, k * 4, none⟩ = some (.slice e.pa e.phis.length e.pcap) ∧ W.cell? ⟨g, k * 4 + 1, none⟩ = some (.slice e.ca e.code.length e.ccap) ∧ W.cell? ⟨g, k * 4 + 2, none⟩ = some (.slice e.fa e.fm.length e.fcap) ∧ W.cell? ⟨g, k * 4 + 3, none⟩ = some (.slice e.ta e.tt.length e.tcap) := by
  obtain ⟨b, off, ha, _, c0, c1, c2, c3⟩ := bk_row (h.row hn) k e hx
  cases ha
  simp only [Nat.zero_add] at c0 c1 c2 c3
  exact ⟨c0, c1, c2, c3⟩
theorem OwnB.set {g : Nat} {l : List Bk} {W : World} (h : OwnB g l W) {k j : Nat} {x x' : Bk} {v : Value} (hx : l[k]? = some x) (hj : j < 4) (he : x'.vals = x.vals.set j v) : OwnB g (l.set k x') (W.setCell ⟨g, k * 4 + j, none⟩ v) := by
  refine ⟨?_⟩
  rw [heap_set1 h.ex]
  congr 2
  apply Array.toList_inj.1
  rw [Array.toList_setIfInBounds, set_bk l k j x x' v hx hj he]
/-- a whole block is stored -/
theorem OwnB.set4 {g : Nat} {l : List Bk} {W : World} (h : OwnB g l W) {k : Nat} {x : Bk} (y : Bk) (hx : l[k]? = some x) :
    OwnB g (l.set k y) ((((W.setCell ⟨g, k * 4, none⟩ (.slice y.pa y.phis.length y.pcap)).setCell ⟨g, k * 4 + 1, none⟩ (.slice y.ca y.code.length y.ccap)).setCell ⟨g, k * 4 + 2, none⟩ (.slice y.fa y.fm.length y.fcap)).setCell ⟨g, k * 4 + 3, none⟩ (.slice y.ta y.tt.length y.tcap)) := by
  have hk : k < l.length := (List.getElem?_eq_some_iff.1 hx).1
  have h0 := h.set (j := 0) (x' := { x with pa := y.pa, phis := y.phis, pcap := y.pcap }) hx (by omega) rfl
  have h1 := h0.set (j := 1) (x' := { y with fa := x.fa, fm := x.fm, fcap := x.fcap, ta := x.ta, tt := x.tt, tcap := x.tcap }) (List.getElem?_set_self (by simpa using hk)) (by omega) rfl
  have h2 := h1.set (j := 2) (x' := { y with ta := x.ta, tt := x.tt, tcap := x.tcap }) (List.getElem?_set_self (by simpa using hk)) (by omega) rfl
  have h3 := h2.set (j := 3) (x' := y) (List.getElem?_set_self (by simpa using hk)) (by omega) rfl
  simp only [List.set_set] at h3
  exact h3
set_option maxRecDepth 100000 in
theorem info_bk4 : ∃ i, Tryd.prog.info? 42 = some i ∧ i.zero = some (.agg ⟨Bk0.vals⟩) ∧ i.size = 4 ∧ i.bytes = 96 := ⟨_, rfl, rfl, rfl, rfl⟩
theorem made_bk (n : Nat) : madeCells (Value.agg ⟨Bk0.vals⟩).cells (n * 4) = ⟨bkCells (List.replicate n Bk0)⟩ := by
  apply Array.toList_inj.1
  apply List.ext_getElem?
  intro j
  have hl : (bkCells (List.replicate n Bk0)).length = n * 4 := by rw [bk_len, List.length_replicate]
  by_cases hj : j < n * 4
  · have hj' : j = j / 4 * 4 + j % 4 := by have := Nat.div_add_mod j 4; omega
    have hk : j / 4 < n := by omega
    have e1 := flat_at Bk.vals 4 Bk.vals_len (List.replicate n Bk0) (j / 4) (j % 4) Bk0 (by rw [List.getElem?_replicate, if_pos hk]) (Nat.mod_lt _ (by omega))
    rw [← hj'] at e1
    show _ = (List.flatMap Bk.vals (List.replicate n Bk0))[j]?
    rw [e1]
    have hm : j % 4 = 0 ∨ j % 4 = 1 ∨ j % 4 = 2 ∨ j % 4 = 3 := by omega
    unfold madeCells
    rcases hm with hm | hm | hm | hm <;> simp [hj, hm, Bk0, Bk.vals, Value.cells]
  · rw [List.getElem?_eq_none (by simp [madeCells]; omega), List.getElem?_eq_none (by rw [hl]; omega)]
theorem make_bk (n : Nat) (hn : n ≤ 1000000) (V : World) : (Instr.makeSlice 35 (.int .i64 (n : Int)) (.int .i64 (n : Int))).run Tryd.prog V = .ok (.slice (some ⟨V.heap.size, 0, none⟩) n n) (V.alloc (.cells ⟨bkCells (List.replicate n Bk0)⟩ 42)) := by
  obtain ⟨i0, hi0, hz0, hz1, hz2⟩ := info_bk4
  have h := run_makeSlice (P := Tryd.prog) V 35 42 i0 _ Tryd.underlying35 hi0 hz0 .i64 .i64 (n : Int) (n : Int) (by omega) (Int.le_refl _) (by rw [hz1]; omega) (by rw [hz2]; omega) (by omega)
  rw [hz1, Int.toNat_natCast, made_bk] at h
  exact h
theorem OwnB.start (W : World) (n : Nat) : OwnB W.heap.size (List.replicate n Bk0) (W.alloc (.cells ⟨bkCells (List.replicate n Bk0)⟩ 42)) := ⟨blk_new W _ rfl⟩
end Go.Proofs.YtkmlhijnkilfpaaDoor.Fw
namespace Go.Proofs.YtkmlhijnkilfpaaDoor.Fw
open Go Go.RowKit
open Go.Proofs.YtkmlhijnkilfpaaDoor.Lx Go.Proofs.YtkmlhijnkilfpaaDoor.Tr Go.Proofs.YtkmlhijnkilfpaaDoor.Cd

/-- where block b begins and ends -/
def stN (l : List Ins) (b : Nat) : Nat := ((begL l).getD b 0).toNat
def enN (l : List Ins) (b : Nat) : Nat := if b + 1 < (begL l).length then ((begL l).getD (b + 1) 0).toNat else l.length
/-- to which block an instruction belongs that begins one -/
def blkL (l : List Ins) : List Int := nums l.length (numF 0 (begL l) fun _ => 0)
def toL (l : List Ins) (b : Nat) : List Int := goL (lastI (seg l (stN l b) (enN l b))) ((b : Int) + 1) (blkL l)
theorem stN_of {l : List Ins} {b : Nat} {x : Int} (h : (begL l)[b]? = some x) : (stN l b : Int) = x := by
  unfold stN
  rw [List.getD_eq_getElem?_getD, h]
  have := begL_in l x (List.mem_of_getElem? h)
  simp; omega
theorem st_en {l : List Ins} {b : Nat} (h : b < (begL l).length) : stN l b ≤ enN l b ∧ enN l b ≤ l.length := by
  obtain ⟨x, hx⟩ : ∃ x, (begL l)[b]? = some x := ⟨_, List.getElem?_eq_getElem h⟩
  have h1 := stN_of hx
  have h2 := begL_in l x (List.mem_of_getElem? hx)
  unfold enN
  split
  · rename_i h3
    obtain ⟨y, hy⟩ : ∃ y, (begL l)[b + 1]? = some y := ⟨_, List.getElem?_eq_getElem h3⟩
    have h4 := stN_of hy
    have h5 := begL_in l y (List.mem_of_getElem? hy)
    have h6 := begL_rise l hx hy
    unfold stN at h4
    omega
  · omega
/-- what is stored for block b -/
structure CutR (a7 : Option Addr) (g : Nat) (l m : List Ins) (b : Nat) (x : Bk) (W : World) : Prop where
  code : x.code = seg m (stN l b) (enN l b)
  ca : x.ca = if enN l b = stN l b then a7 else a7.map (·.add (stN l b * 6))
  ccap : x.ccap = enN l b - stN l b
  ph : x.phis = [] ∧ x.pa = none ∧ x.pcap = 0
  fm : x.fm = [] ∧ x.fa = none ∧ x.fcap = 0
  tt : x.tt = toL l b
  tow : W.ownsRow (g + 1) 3 1 (.slice x.ta x.tt.length x.tcap) x.tt.length (numCells x.tt)
theorem CutR.keep {a7 : Option Addr} {g b : Nat} {l m : List Ins} {x : Bk} {W W' : World} (h : CutR a7 g l m b x W) (hb : Below W.heap.size W W') : CutR a7 g l m b x W' :=
  ⟨h.code, h.ca, h.ccap, h.ph, h.fm, h.tt, own_below h.tow hb⟩
theorem CutR.put {a7 : Option Addr} {g b o : Nat} {l m : List Ins} {x : Bk} {W : World} (h : CutR a7 g l m b x W) (v : Value) : CutR a7 g l m b x (W.setCell ⟨g, o, none⟩ v) :=
  ⟨h.code, h.ca, h.ccap, h.ph, h.fm, h.tt, ownsRow_setCell_other h.tow (show _ ≠ some g from own_apart h.tow (Nat.lt_succ_self g)) v⟩
structure CutI (a7 : Option Addr) (g : Nat) (l m : List Ins) (bs : List Bk) (k : Nat) (W : World) : Prop where
  len : bs.length = (begL l).length
  own : OwnB g bs W
  done : ∀ (j : Nat) (x : Bk), j < k → bs[j]? = some x → CutR a7 g l m j x W
  apart : ∀ (i j : Nat) (x y : Bk), i < j → j < k → bs[i]? = some x → bs[j]? = some y → ∀ q, (Value.slice y.ta y.tt.length y.tcap).ownBlock = some q → (Value.slice x.ta x.tt.length x.tcap).ownBlock ≠ some q
def put4 (W : World) (g k : Nat) (y : Bk) : World := (((W.setCell ⟨g, k * 4, none⟩ (.slice y.pa y.phis.length y.pcap)).setCell ⟨g, k * 4 + 1, none⟩ (.slice y.ca y.code.length y.ccap)).setCell ⟨g, k * 4 + 2, none⟩ (.slice y.fa y.fm.length y.fcap)).setCell ⟨g, k * 4 + 3, none⟩ (.slice y.ta y.tt.length y.tcap)
theorem CutI.step {a7 : Option Addr} {g k : Nat} {l m : List Ins} {bs : List Bk} {W w1 : World} {y : Bk} (h : CutI a7 g l m bs k W) (hk : k < (begL l).length) (hb : Below W.heap.size W w1)
    (hy : CutR a7 g l m k y w1) (hto : w1.ownsRow W.heap.size 3 1 (.slice y.ta y.tt.length y.tcap) y.tt.length (numCells y.tt)) : CutI a7 g l m (bs.set k y) (k + 1) (put4 w1 g k y) := by
  obtain ⟨x0, hx0⟩ : ∃ x, bs[k]? = some x := ⟨_, List.getElem?_eq_getElem (by rw [h.len]; exact hk)⟩
  have hget : ∀ (j : Nat) (x : Bk), (bs.set k y)[j]? = some x → (j = k ∧ x = y) ∨ (j ≠ k ∧ bs[j]? = some x) := fun j x hx => by
    by_cases e : j = k
    · subst e
      rw [List.getElem?_set_self (by rw [h.len]; exact hk)] at hx
      cases hx; exact .inl ⟨rfl, rfl⟩
    · rw [List.getElem?_set_ne (by omega)] at hx
      exact .inr ⟨e, hx⟩
  refine ⟨by simp [h.len], (h.own.keep hb).set4 y hx0, fun j x hj hx => ?_, fun i j x z hij hj hx hz q hq => ?_⟩
  · rcases hget j x hx with ⟨rfl, rfl⟩ | ⟨e, hx⟩
    · exact (((hy.put _).put _).put _).put _
    · exact (((((h.done j x (by omega) hx).keep hb).put _).put _).put _).put _
  · rcases hget i x hx with ⟨rfl, rfl⟩ | ⟨e, hx1⟩
    · omega
    · rcases hget j z hz with ⟨rfl, rfl⟩ | ⟨e', hz1⟩
      · intro e2
        have h1 := (hto.lt q hq).1
        have h2 := ((h.done i x (by omega) hx1).tow.lt q e2).2
        omega
      · exact h.apart i j x z hij (by omega) hx1 hz1 q hq
end Go.Proofs.YtkmlhijnkilfpaaDoor.Fw
