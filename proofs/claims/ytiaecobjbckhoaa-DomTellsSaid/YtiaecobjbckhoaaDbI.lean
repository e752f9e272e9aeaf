/- Walk of through: the walk through a graph. Conditions: the graph lies in memory, leads to blocks, and is not too large. -/
import Derived.Test.YtiaecobjbckhoaaDbH
import Derived.Laws.EntriesVeiled
set_option linter.unusedVariables false
set_option linter.unusedSimpArgs false
namespace Go.Proofs.Ytiaecobjbckhoaa.Db
open Go Go.RowKit
open Go.WideShapes Go.MapKept Dm
open Go.Proofs.Ytiaecobjbckhoaa.Qr Go.Proofs.Ytiaecobjbckhoaa.Vq Go.Proofs.Ytiaecobjbckhoaa.QrS

def th0 : Th := ⟨fun _ => -1, [], [], []⟩
def thr (n : Nat) (T : List Tl) : Th := come n (tos T) th0 0 (-1)
def gIn (rank : Nat → Int) (f : Nat) (s : (Nat → Int) × (Nat → List Int)) (l : List Int) : (Nat → Int) × (Nat → List Int) := l.foldl (fun s x => goesF s f (rank x.toNat).toNat) s
def gAll (T : List Tl) (rank : Nat → Int) (met : List Int) (low : Nat → Int) (k : Nat) : (Nat → Int) × (Nat → List Int) :=
  (List.range k).foldl (fun s f => gIn rank f s (tos T (met.getD f 0).toNat)) (low, fun _ => [])
def fn (l : List Int) (i : Nat) : Int := l.getD i 0
theorem fn_get {l : List Int} {i : Nat} {x : Int} (h : l[i]? = some x) : fn l i = x := by unfold fn; rw [List.getD_eq_getElem?_getD, h]; rfl
theorem nums_fn (l : List Int) : nums l.length (fn l) = l := by
  apply List.ext_getElem?
  intro i
  unfold nums
  by_cases h : i < l.length
  · rw [List.getElem?_map, List.getElem?_range h]
    simp [fn, List.getD_eq_getElem?_getD, List.getElem?_eq_getElem h]
  · rw [List.getElem?_eq_none (by simp; omega), List.getElem?_eq_none (by omega)]
theorem th0_bd (n : Nat) : Bd n th0 := ⟨by
  have : left n th0 = n := by simp [left, th0]
  rw [this]; simp [th0], rfl, rfl⟩
theorem th0_wk (n : Nat) (S : Nat → List Int) : Wk n S th0 := ⟨rfl, rfl, fun b _ => .inl rfl, fun k x h => by simp [th0] at h, fun v h => by simp [th0] at h, fun k v _ h => by simp [th0] at h⟩
theorem thr_gone {n : Nat} {T : List Tl} (hn : 0 < n) (hS : ∀ b, b < n → ∀ t ∈ tos T b, 0 ≤ t ∧ t < (n : Int)) : Gone n (tos T) th0 (thr n T) ∧ 0 ≤ (thr n T).rank 0 :=
  come_gone hS n th0 0 (-1) (th0_wk _ _) hn (by simp [left, th0]) (fun _ => ⟨fun _ => rfl, fun h => absurd rfl h⟩)
theorem goesF_len (s : (Nat → Int) × (Nat → List Int)) (f t i : Nat) : ((goesF s f t).2 i).length ≤ (s.2 i).length + 1 := by
  unfold goesF
  split
  · simp
  · split
    · simp only [Dm.upd]
      split
      · rename_i h; subst h; simp
      · omega
    · simp
theorem gIn_len (rank : Nat → Int) (f i : Nat) : ∀ (l : List Int) (s : (Nat → Int) × (Nat → List Int)), ((gIn rank f s l).2 i).length ≤ (s.2 i).length + l.length
  | [], s => by simp [gIn]
  | x :: r, s => by
    have h1 := gIn_len rank f i r (goesF s f (rank x.toNat).toNat)
    have h2 := goesF_len s f (rank x.toNat).toNat i
    show ((gIn rank f (goesF s f (rank x.toNat).toNat) r).2 i).length ≤ _
    rw [List.length_cons]
    omega
theorem gAll_len (T : List Tl) (rank : Nat → Int) (met : List Int) (low : Nat → Int) (i K : Nat) (hK : ∀ b, (tos T b).length ≤ K) : ∀ k, ((gAll T rank met low k).2 i).length ≤ k * K := by
  intro k
  induction k with
  | zero => simp [gAll]
  | succ k ih =>
    unfold gAll at ih ⊢
    rw [List.range_succ, List.foldl_append]
    have := gIn_len rank k i (tos T (met.getD k 0).toNat) ((List.range k).foldl (fun s f => gIn rank f s (tos T (met.getD f 0).toNat)) (low, fun _ => []))
    have h2 := hK (met.getD k 0).toNat
    rw [Nat.succ_mul]
    show ((gIn rank k _ _).2 i).length ≤ _
    omega
theorem gAll_succ (T : List Tl) (rank : Nat → Int) (met : List Int) (low : Nat → Int) (k : Nat) : gAll T rank met low (k + 1) = gIn rank k (gAll T rank met low k) (tos T (met.getD k 0).toNat) := by
  unfold gAll
  rw [List.range_succ, List.foldl_append]; rfl
theorem own_some {W : World} {B : Nat} {v : Value} {l : List Int} (h : W.ownsRow B 3 1 v l.length (numCells l)) (h0 : 0 < l.length) : ∃ g c, v = .slice (some ⟨g, 0, none⟩) l.length c ∧ InR g l.length (fn l) W ∧ l.length ≤ c ∧ c ≤ maxLen ∧ B ≤ g ∧ g < W.heap.size := by
  have h2 : W.ownsRow B 3 1 v l.length (numCells (nums l.length (fn l))) := by rw [nums_fn]; exact h
  rcases h.2 with ⟨rfl, e⟩ | ⟨g, c, cur, rfl, hb, hg, h3, h4, h5⟩
  · omega
  · exact ⟨g, c, rfl, InR.of_own h2, h3, h4, hb, (Array.getElem?_eq_some_iff.1 hg).1⟩
theorem WkM.step {B wb gm go gl gt m cm co cl : Nat} {met over : Nat → Int} {s s' : (Nat → Int) × (Nat → List Int)} {W W' : World} (h : WkM B wb gm go gl gt m cm co cl met over s W) (hf : Fr (fun i => i = gl ∨ B ≤ i) W W') (hl : InR gl m s'.1 W') (ht : Src B gt m s'.2 W') (hn : ∀ i, i < m → (s'.2 i).length ≤ 1048575) : WkM B wb gm go gl gt m cm co cl met over s' W' := by
  obtain ⟨hwb, hgm, hgo, hgl, hBs, hBt⟩ := h.lt
  obtain ⟨n1, n2, n3⟩ := h.ne
  exact ⟨(hf.block wb (by omega) (by omega)).trans h.c, hf.inr h.met (by omega), hf.inr h.over (by omega), hl, ht, ⟨hwb, hgm, hgo, hgl, Nat.le_trans hBs hf.size, hBt⟩, h.ne, h.cap, hn⟩
set_option maxHeartbeats 8000000 in
set_option maxRecDepth 100000 in
theorem through_c {T : List Tl} (n tcap K : Nat) (ta : Option Addr) (w : World) (hn0 : 0 < n) (hn : n ≤ 32768) (hT : T.length = n) (hto : ∀ b, b < n → ∀ t ∈ tos T b, 0 ≤ t ∧ t < (n : Int)) (hK : ∀ b, (tos T b).length ≤ K) (hnK : n * K ≤ 1000000) (hg : ToM w.heap.size ta tcap T w) :
    Calls Try.prog 26 #[.slice ta n tcap] w fun e w' => ∃ B wb gm go gl gt cm co cl, e = .returned (.pointer (some ⟨wb, 0, none⟩)) ∧ WkM B wb gm go gl gt (thr n T).met.length cm co cl (fn (thr n T).met) (fn (thr n T).over) (gAll T (thr n T).rank (thr n T).met (fn (thr n T).low) (thr n T).met.length) w' ∧ w.heap.size ≤ wb ∧ w.heap.size ≤ gm ∧ w.heap.size ≤ gl ∧ w.heap.size ≤ go ∧ Below w.heap.size w w' := by
  obtain ⟨G, hr0⟩ := thr_gone hn0 hto
  obtain ⟨hc1, hc2⟩ := len_i hg.row
  rw [hT] at hc1
  -- what is made
  have hnone := Lib.hid (fun V => none_c n hn0 (by omega) V)
  replace hto := Lib.hid hto
  replace hg := Lib.hid hg
  go_enter Try.func26, Try.ntmps26
  go_wp2_with fail
  -- the three blocks that are made ahead of the ranks
  have hA : Below w.heap.size w (((w.alloc (.cells #[.slice ta n tcap] 22)).alloc (.cells #[.slice none 0 0, .slice none 0 0, .slice none 0 0, .slice none 0 0] 58)).alloc (.cells #[.pointer (some ⟨w.heap.size + 1, 0, none⟩)] 48)) :=
    (((Below.refl _ _).alloc (Nat.le_refl _) _).alloc (by simp) _).alloc (by simp; omega) _
  have hA0 : (((w.alloc (.cells #[.slice ta n tcap] 22)).alloc (.cells #[.slice none 0 0, .slice none 0 0, .slice none 0 0, .slice none 0 0] 58)).alloc (.cells #[.pointer (some ⟨w.heap.size + 1, 0, none⟩)] 48)).heap[w.heap.size]? = some (.cells #[.slice ta n tcap] 22) :=
    (Below.heap_alloc _ _ _ (by simp; omega)).trans ((Below.heap_alloc _ _ _ (by simp)).trans (blk_new w _ rfl))
  have hA1 : (((w.alloc (.cells #[.slice ta n tcap] 22)).alloc (.cells #[.slice none 0 0, .slice none 0 0, .slice none 0 0, .slice none 0 0] 58)).alloc (.cells #[.pointer (some ⟨w.heap.size + 1, 0, none⟩)] 48)).heap[w.heap.size + 1]? = some (.cells #[.slice none 0 0, .slice none 0 0, .slice none 0 0, .slice none 0 0] 58) :=
    (Below.heap_alloc _ _ _ (by simp)).trans (blk_new _ _ (by simp))
  have hA2 : (((w.alloc (.cells #[.slice ta n tcap] 22)).alloc (.cells #[.slice none 0 0, .slice none 0 0, .slice none 0 0, .slice none 0 0] 58)).alloc (.cells #[.pointer (some ⟨w.heap.size + 1, 0, none⟩)] 48)).heap[w.heap.size + 2]? = some (.cells #[.pointer (some ⟨w.heap.size + 1, 0, none⟩)] 48) :=
    blk_new _ _ (by simp)
  have hAz : (((w.alloc (.cells #[.slice ta n tcap] 22)).alloc (.cells #[.slice none 0 0, .slice none 0 0, .slice none 0 0, .slice none 0 0] 58)).alloc (.cells #[.pointer (some ⟨w.heap.size + 1, 0, none⟩)] 48)).heap.size = w.heap.size + 3 := by simp
  generalize ((w.alloc (.cells #[.slice ta n tcap] 22)).alloc (.cells #[.slice none 0 0, .slice none 0 0, .slice none 0 0, .slice none 0 0] 58)).alloc (.cells #[.pointer (some ⟨w.heap.size + 1, 0, none⟩)] 48) = W1 at *
  refine (hnone.out W1).mono ?_
  rintro e W2 ⟨gr, rfl, hgr, hrank, hb2⟩
  have hb2s := hb2.size
  have h0 := (hb2.block _ (by omega)).trans hA0
  have h1 := (hb2.block _ (by omega)).trans hA1
  have h2 := (hb2.block _ (by omega)).trans hA2
  have hb3 := hA.trans (hb2.mono (by omega))
  have hgl := hrank.lt
  clear hA hA0 hA1 hA2 hnone hb2
  replace h0 := Lib.hid h0
  replace h1 := Lib.hid h1
  replace h2 := Lib.hid h2
  replace hb3 := Lib.hid hb3
  replace hrank := Lib.hid hrank
  go_upto_region 4 with fail
  have k0 : ((W2.alloc (.cells #[.slice (some ⟨gr, 0, none⟩) n n] 33)).alloc (.cells #[Value.nilFunc] 59)).heap[W2.heap.size]? = some (.cells #[.slice (some ⟨gr, 0, none⟩) n n] 33) :=
    (Below.heap_alloc _ _ _ (by simp)).trans (blk_new W2 _ rfl)
  have k1 : ((W2.alloc (.cells #[.slice (some ⟨gr, 0, none⟩) n n] 33)).alloc (.cells #[Value.nilFunc] 59)).heap[W2.heap.size + 1]? = some (.cells #[Value.nilFunc] 59) := blk_new _ _ (by simp)
  have kz : ((W2.alloc (.cells #[.slice (some ⟨gr, 0, none⟩) n n] 33)).alloc (.cells #[Value.nilFunc] 59)).heap.size = W2.heap.size + 2 := by simp
  have kb : Below W2.heap.size W2 ((W2.alloc (.cells #[.slice (some ⟨gr, 0, none⟩) n n] 33)).alloc (.cells #[Value.nilFunc] 59)) := ((Below.refl _ _).alloc (Nat.le_refl _) _).alloc (by simp) _
  generalize hW3 : (W2.alloc (.cells #[.slice (some ⟨gr, 0, none⟩) n n] 33)).alloc (.cells #[Value.nilFunc] 59) = W3 at *
  have q0 := (kb.block _ (by omega)).trans h0.out
  have q1 := (kb.block _ (by omega)).trans h1.out
  have q2 := (kb.block _ (by omega)).trans h2.out
  have qr := hrank.out.at_ (kb.block _ hgl)
  have qb := hb3.out.trans (kb.mono (by omega))
  clear hW3
  obtain ⟨fv, hfv⟩ : ∃ fv, fv = Value.func (.func 36) #[] #[.pointer (some ⟨W2.heap.size, 0, none⟩), .pointer (some ⟨w.heap.size + 1 + 1, 0, none⟩), .pointer (some ⟨w.heap.size, 0, none⟩), .pointer (some ⟨W2.heap.size + 1, 0, none⟩)] := ⟨_, rfl⟩
  have hf4 : Fr (fun i => i = W2.heap.size + 1) W3 (W3.setCell ⟨W2.heap.size + 1, 0, none⟩ fv) := Fr.set _ _ rfl
  have hst : ThM (W2.heap.size + 2) (W2.heap.size) (w.heap.size + 1 + 1) w.heap.size (W2.heap.size + 1) (w.heap.size + 1) gr n ta tcap th0 (W3.setCell ⟨W2.heap.size + 1, 0, none⟩ fv) := by
    refine ⟨hf4.cell (by omega) (blk_cell k0 rfl), hf4.cell (by omega) (blk_cell q2 rfl), hf4.cell (by omega) (blk_cell q0 rfl), ?_, (hf4.inr qr (by omega)), ⟨.slice none 0 0, .slice none 0 0, .slice none 0 0, (hf4.block _ (by omega) (by omega)).trans q1, World.ownsRow_nil _ _ _ _, World.ownsRow_nil _ _ _ _, World.ownsRow_nil _ _ _ _, ?_, ?_, ?_⟩, ⟨by omega, by omega, by omega, by omega, by omega, by omega, by have := hf4.size; omega⟩, ⟨by omega, by omega, by omega, by omega, by omega, by omega, by omega, by omega, by omega⟩, hn⟩
    · rw [← hfv]
      exact World.cell?_setCell_same W3 _ fv (blk_cell k1 rfl)
    · intro q e; cases e
    · intro q e; cases e
    · intro q e; cases e
  have hg4 := hg.out.keep (B := w.heap.size) (W' := W3.setCell ⟨W2.heap.size + 1, 0, none⟩ fv) (qb.trans (hf4.below (n := w.heap.size) (by omega) (fun i e => by omega)))
  have hb4 : Below w.heap.size w (W3.setCell ⟨W2.heap.size + 1, 0, none⟩ fv) := qb.trans (hf4.below (n := w.heap.size) (by omega) (fun i e => by omega))
  have hcome := Lib.hid (come_c (T := T) w.heap.size (W2.heap.size + 2) (W2.heap.size) (w.heap.size + 1 + 1) w.heap.size (W2.heap.size + 1) (w.heap.size + 1) gr n tcap ta hT hto.out (by omega) n th0 0 (-1) _ hst hg4 (th0_bd n) (by simp [left, th0]) hn0)
  have hz4 : (W3.setCell ⟨W2.heap.size + 1, 0, none⟩ fv).heap.size = W3.heap.size := by simp [World.setCell]
  have hcC := Lib.hid hst.cC
  replace hg4 := Lib.hid hg4
  replace hb4 := Lib.hid hb4
  have kc : W3.cell? ⟨W2.heap.size + 1, 0, none⟩ = some Value.nilFunc := blk_cell k1 (j := 0) rfl
  have kf : W3.frozen? ⟨W2.heap.size + 1, 0, none⟩ = false := blk_free k1 0
  clear hst hf4 q0 q1 q2 qr qb k0 k1 kb h0 h1 h2 hrank
  have hl3 : W2.heap.size + 1 < W3.heap.size := by omega
  have hfv' := Lib.hid hfv
  clear hfv
  go_upto_region 5 with fail
  rw [← hfv'.out]
  generalize W3.setCell ⟨W2.heap.size + 1, 0, none⟩ fv = W4 at *
  clear hfv' kc kf
  have c3 := hcC.out
  go_wp2_with fail
  refine hcome.out.mono ?_
  rintro e W5 ⟨rfl, hf5, hM5⟩
  change ThM _ _ _ _ _ _ _ _ _ _ (thr n T) W5 at hM5
  generalize hs1 : thr n T = s1 at *
  have hmr : 0 < s1.met.length := by
    obtain ⟨k, _, hk, _⟩ := G.wk.rank_lt hn0 hr0
    omega
  obtain ⟨vm, vo, vl, hwb5, ho1, ho2, ho3, a12, a13, a23⟩ := hM5.ex
  have hol := G.wk.lo
  have hll : s1.low.length = s1.met.length := by rw [G.wk.ll]; simp
  obtain ⟨gm, cm, rfl, im, lm1, lm2, lm3, lm4⟩ := own_some ho1 hmr
  obtain ⟨go, co, rfl, io, lo1, lo2, lo3, lo4⟩ := own_some ho2 (by omega)
  obtain ⟨gl, cl, rfl, il, ll1, ll2, ll3, ll4⟩ := own_some ho3 (by omega)
  have hgm : gm ≠ gl := fun e => a13 gm rfl (by rw [e]; rfl)
  have hgo : go ≠ gl := fun e => a23 go rfl (by rw [e]; rfl)
  rw [hol] at io lo1 hwb5
  rw [hll] at il ll1 hwb5
  have hmn : s1.met.length ≤ n := by
    have := (come_bd hto.out n th0 0 (-1) (th0_bd n) hn0).1
    have h1 : Bd n s1 := by rw [← hs1]; exact this
    have := h1.m; omega
  have hg5 := Lib.hid (hg4.out.keep (hf5.below (n := w.heap.size) (by omega) (fun i e => by omega)))
  have hb5 := Lib.hid (hb4.out.trans (hf5.below (n := w.heap.size) (by omega) (fun i e => by omega)))
  have hS := Lib.hid G.cl
  have hmt := Lib.hid G.wk.mt
  generalize hm : s1.met.length = m at *
  have c5 := hM5.cW
  have cT5 := hM5.cT
  have cR5 := hM5.cR
  have irk := hM5.rank
  have hlt5 := hM5.lt
  have hcw := blk_cell (j := 0) hwb5 rfl
  have hcl := blk_cell (j := 3) hwb5 rfl
  have hfl := blk_free hwb5 3
  have hmk := fun V => make_ll m (by omega) V
  have hlw1 : w.heap.size + 1 < W5.heap.size := by omega
  have hlw2 : w.heap.size + 1 + 1 < W5.heap.size := by omega
  clear ho1 ho2 ho3 a12 a13 a23 hM5 hf5 G hcome hcC c3 hb4 hg4
  replace im := Lib.hid im
  replace io := Lib.hid io
  replace il := Lib.hid il
  replace irk := Lib.hid irk
  replace hwb5 := Lib.hid hwb5
  replace cT5 := Lib.hid cT5
  replace cR5 := Lib.hid cR5
  replace hs1 := Lib.hid hs1
  replace hm := Lib.hid hm
  go_wp2_with fail
  go_region
  have hz6 : (W5.setCell ⟨w.heap.size + 1, 3, none⟩ (.slice (some ⟨W5.heap.size, 0, none⟩) m m)).heap.size = W5.heap.size := by simp [World.setCell]
  have hf6 : Fr (fun i => i = w.heap.size + 1) W5 (W5.setCell ⟨w.heap.size + 1, 3, none⟩ (.slice (some ⟨W5.heap.size, 0, none⟩) m m)) := Fr.set _ _ rfl
  have hw6 := heap_set1 hwb5.out 3 (.slice (some ⟨W5.heap.size, 0, none⟩) m m)
  generalize W5.setCell ⟨w.heap.size + 1, 3, none⟩ (.slice (some ⟨W5.heap.size, 0, none⟩) m m) = W6 at *
  have hsr := Src.start W6 W6.heap.size m (Nat.le_refl _)
  have hal : Fr (fun _ => False) W6 ((W6.alloc (.cells (Array.replicate m (.slice none 0 0)) 33)).drew) := (Fr.of_below (b_alloc _ _)).trans (Fr.drew _ _ 1)
  have hsr7 := hsr.frame (Fr.drew (fun _ => False) _ 1) id (fun _ _ => id)
  have hz7 : ((W6.alloc (.cells (Array.replicate m (.slice none 0 0)) 33)).drew).heap.size = W6.heap.size + 1 := by simp [World.drew]
  rw [hz6] at hsr7 hz7
  change Src _ _ _ _ ((W6.alloc (.cells (Array.replicate m (.slice none 0 0)) 33)).drew) at hsr7
  generalize (W6.alloc (.cells (Array.replicate m (.slice none 0 0)) 33)).drew = W7 at *
  have hf7 : Fr (fun i => i = w.heap.size + 1) W5 W7 := hf6.trans (hal.mono fun i _ e => e.elim)
  obtain ⟨gt, hgt⟩ : ∃ gt, gt = W5.heap.size := ⟨_, rfl⟩
  have hWk : Hid (WkM gt (w.heap.size + 1) gm go gl gt m cm co cl (fn s1.met) (fn s1.over) (gAll T s1.rank s1.met (fn s1.low) 0) W7) := Lib.hid ⟨by rw [hgt]; exact (hal.block _ (by omega) id).trans hw6, hf7.inr im.out (by omega), hf7.inr io.out (by omega), hf7.inr il.out (by omega), by rw [hgt]; exact hsr7, ⟨by omega, by omega, by omega, by omega, by omega, by omega⟩, ⟨by omega, hgm, hgo⟩, ⟨by omega, lm1, lm2, lo1, lo2, ll1, ll2⟩, fun i _ => by simp [gAll]⟩
  have hb7 := Lib.hid (hb5.out.trans (hf7.below (n := w.heap.size) (by omega) (fun i e => by omega)))
  have hg7 := Lib.hid (hg5.out.keep (hf7.below (n := w.heap.size) (by omega) (fun i e => by omega)))
  have cT7 := Lib.hid (hf7.cell (by omega) cT5.out)
  have cR7 := Lib.hid (hf7.cell (by omega) cR5.out)
  have cW7 := Lib.hid (hf7.cell (by omega) c5)
  have rk7 := Lib.hid (hf7.inr irk.out (by omega))
  have hcm := blk_cell (j := 0) hWk.out.c rfl
  have c5' := cW7.out
  have hlen : ∀ k, k ≤ m → ∀ j, j ≤ K → ∀ i, k * K + j ≤ 1000000 ∨ k = m := fun k hk j hj i => by
    by_cases e : k = m
    · exact .inr e
    · refine .inl ?_
      have h1 : (k + 1) * K ≤ n * K := Nat.mul_le_mul_right K (by omega)
      rw [Nat.succ_mul] at h1
      omega
  clear hf6 hw6 hsr hal hsr7 hf7 hb5 hg5 cT5 cR5 c5 irk im io il hwb5 hmk hcw hcl hfl hz6 hz7
  go_wp2_with fail
  go_loopw [32] (fun i wr => ∃ k : Nat, k ≤ m ∧ i = .int .i64 k ∧ Hid (WkM gt (w.heap.size + 1) gm go gl gt m cm co cl (fn s1.met) (fn s1.over) (gAll T s1.rank s1.met (fn s1.low) k) wr) ∧ Hid (Fr (fun i => i = gl ∨ gt ≤ i) W7 wr)) (fun i _ => m - (intOf i).toNat)
  case atStart => exact ⟨0, Nat.zero_le _, rfl, hWk, Lib.hid (Fr.refl _ _)⟩
  case round =>
    clear hWk
    obtain ⟨k, hk, rfl, hWk, hf⟩ := hrel
    by_cases hlt : k < m
    · obtain ⟨y, hy⟩ : ∃ y, s1.met[k]? = some y := ⟨_, List.getElem?_eq_getElem (by have := hm.out; omega)⟩
      obtain ⟨b, rfl, hbn, hbr⟩ := hmt.out k y hy
      obtain ⟨x, hx⟩ : ∃ x, T[b]? = some x := ⟨_, List.getElem?_eq_getElem (by omega)⟩
      have hxt : tos T b = x.l := by unfold tos; rw [List.getD_eq_getElem?_getD, hx]; rfl
      have hxm := List.mem_of_getElem? hx
      have hgr7 := Lib.hid (hg7.out.keep (hf.out.below (n := w.heap.size) (by have := hb7.out.size; omega) (fun i e => by omega)))
      obtain ⟨tb, toff, hta, htB, hxc⟩ := tl_row hgr7.out.row b x hx
      obtain ⟨hl1, hl2⟩ := len_i hgr7.out.row
      obtain ⟨hl3, hl4⟩ := len_i (hgr7.out.rows x hxm)
      have hxS := Lib.hid (fun t (ht : t ∈ x.l) => hS.out k b (Nat.zero_le _) hy t (by rw [hxt]; exact ht))
      have hxto := Lib.hid (fun t (ht : t ∈ x.l) => hto.out b hbn t (by rw [hxt]; exact ht))
      have hxK : x.l.length ≤ K := by rw [← hxt]; exact hK b
      obtain ⟨t1, _⟩ := hWk.out.met.get hlt
      rw [fn_get hy] at t1
      have cT := hf.out.cell (by omega) cT7.out
      have hgs := Lib.hid (gAll_succ T s1.rank s1.met (fn s1.low) k)
      have hgb : Hid (∀ i, ((gAll T s1.rank s1.met (fn s1.low) k).2 i).length ≤ k * K) := Lib.hid (fun i => gAll_len T s1.rank s1.met (fn s1.low) i K hK k)
      have hbd : (k + 1) * K ≤ 1000000 := Nat.le_trans (Nat.mul_le_mul_right K (by omega)) hnK
      rw [List.getD_eq_getElem?_getD, hy] at hgs
      change Hid (_ = gIn s1.rank k (gAll T s1.rank s1.met (fn s1.low) k) (tos T b)) at hgs
      rw [hxt] at hgs
      have hi0 : (0 : Int) ≤ (k : Int) := by omega
      have hi1 : (k : Int) < (m : Int) := by omega
      have hb0 : (0 : Int) ≤ (b : Int) := by omega
      have hb1 : (b : Int) < (n : Int) := by omega
      subst hta
      generalize gAll T s1.rank s1.met (fn s1.low) k = gk at *
      go_wp2_with fail
      go_loopw [42] (fun i wq => ∃ j : Nat, j ≤ x.l.length ∧ i = .int .i64 j ∧ Hid (WkM gt (w.heap.size + 1) gm go gl gt m cm co cl (fn s1.met) (fn s1.over) (gIn s1.rank k gk (x.l.take j)) wq) ∧ Hid (Fr (fun i => i = gl ∨ gt ≤ i) W7 wq)) (fun i _ => x.l.length - (intOf i).toNat)
      case atStart => exact ⟨0, Nat.zero_le _, rfl, hWk, hf⟩
      case round =>
        clear hWk hf hgr7 hxc t1 cT
        obtain ⟨j, hj, rfl, hWk, hf⟩ := hrel
        by_cases hjl : j < x.l.length
        · obtain ⟨y2, hy2⟩ : ∃ y, x.l[j]? = some y := ⟨_, List.getElem?_eq_getElem hjl⟩
          have hr2 := hxto.out y2 (List.mem_of_getElem? hy2)
          obtain ⟨t, rfl⟩ : ∃ t : Nat, y2 = t := ⟨y2.toNat, by omega⟩
          obtain ⟨r, hr3, hr4, _⟩ := hxS.out _ (List.mem_of_getElem? hy2)
          rw [Int.toNat_natCast] at hr3
          have hgq := hg7.out.keep (hf.out.below (n := w.heap.size) (by have := hb7.out.size; omega) (fun i e => by omega))
          obtain ⟨yb, yoff, hya, _, hyc⟩ := numS_row (hgq.rows x hxm) j _ hy2
          have cR := hf.out.cell (by omega) cR7.out
          have cW := hf.out.cell (by omega) cW7.out
          obtain ⟨t2, _⟩ := (hf.out.inr rk7.out (by omega)).get (show t < n by omega)
          rw [hr3] at t2
          have hcall := Lib.hid (fun V (h : WkM gt (w.heap.size + 1) gm go gl gt m cm co cl (fn s1.met) (fn s1.over) (gIn s1.rank k gk (x.l.take j)) V) => goes_c gt (w.heap.size + 1) gm go gl gt m cm co cl (fn s1.met) (fn s1.over) (gIn s1.rank k gk (x.l.take j)) k r V h hlt hr4)
          have hnx : Hid (gIn s1.rank k gk (x.l.take (j + 1)) = goesF (gIn s1.rank k gk (x.l.take j)) k r) := Lib.hid (by
            unfold gIn
            rw [List.take_add_one, hy2, List.foldl_append]
            simp [hr3])
          have hj0 : (0 : Int) ≤ (j : Int) := by omega
          have hj1 : (j : Int) < (x.l.length : Int) := by omega
          have ht0 : (0 : Int) ≤ (t : Int) := by omega
          have ht1 : (t : Int) < (n : Int) := by omega
          rw [hya]
          clear hgq
          go_wp2_with fail
          refine Qt.quiet_tail (C := fun V => ∃ m, V = wr.drewN m) 6 (by kernel_rfl) (by kernel_rfl) ⟨1, rfl⟩ ?_
          simp only [List.take_succ_cons, List.take_zero, List.drop_succ_cons, List.drop_zero]
          repeat (go_big_quiet_step (fail))
          refine wpQuiet_nil ?_
          rintro _ ⟨nq, rfl⟩
          have hdq : Fr (fun _ => False) wr (wr.drewN nq) := Fr.drew _ _ _
          have hWq := hWk.out.step (hdq.mono fun i _ e => e.elim) (hdq.inr hWk.out.low id) (hWk.out.late.frame hdq id (fun _ _ => id)) hWk.out.len
          have hcq := Lib.hid (hcall.out _ hWq)
          have hfq := Lib.hid (hf.out.trans (hdq.mono fun i _ e => e.elim))
          have hst := Lib.hid (fun V h1 h2 h3 => hWq.step (s' := goesF (gIn s1.rank k gk (x.l.take j)) k r) (W' := V) h1 h2 h3 (fun i _ => by
            have h4 := gIn_len s1.rank k i (x.l.take (j + 1)) gk
            have h5 := hgb.out i
            rw [← hnx.out]
            rw [List.length_take] at h4
            have h6 : (k + 1) * K = k * K + K := Nat.succ_mul k K
            omega))
          clear hWq hdq hcall hWk hf cR cW t2 hyc hy2 hr3
          go_wp2_with fail
          refine hcq.out.mono ?_
          rintro e w4 ⟨rfl, hf5, hl5, ht5⟩
          have hf6 := Lib.hid (hfq.out.trans hf5)
          have hW6 := Lib.hid (hst.out _ hf5 hl5 ht5)
          rw [← hnx.out] at hW6
          clear hf5 hl5 ht5 hcq hfq hst hnx
          go_wp2_with fail
          go_roundw
          case rel => exact ⟨j + 1, by omega, by go_num, hW6, hf6⟩
          case measure => simp [intOf]; omega
        · have hj2 : j = x.l.length := by omega
          subst hj2
          rw [List.take_length, ← hgs.out] at hWk
          clear hgs
          go_wp2_with fail
          go_roundw
          case rel => exact ⟨k + 1, by omega, by go_num, hWk, hf⟩
          case measure => simp [intOf]; omega
    · have hk2 : k = m := by omega
      subst hk2
      have c := (cW7.out)
      have cw := hf.out.cell (by omega) cW7.out
      have hbb := Lib.hid (hb7.out.trans (hf.out.below (n := w.heap.size) (by have := hb7.out.size; omega) (fun i e => by omega)))
      clear hb7
      go_wp2_with fail
      go_ret
      have hmm := hm.out
      subst hmm
      rw [hs1.out] at *
      exact ⟨gt, w.heap.size + 1, gm, go, gl, gt, cm, co, cl, rfl, hWk.out, by omega, by omega, by omega, by omega, hbb.out⟩
end Go.Proofs.Ytiaecobjbckhoaa.Db
