/- The walk's later state in memory, and the method goes. Conditions: both ranks are there. -/
import Derived.Test.YtiaecobjbckhoaaDbG
import Derived.Test.YtiaecobjbckhoaaDmC
set_option linter.unusedVariables false
set_option linter.unusedSimpArgs false
namespace Go.Proofs.Ytiaecobjbckhoaa.Db
open Go Go.RowKit
open Go.WideShapes Go.MapKept Dm
open Go.Proofs.Ytiaecobjbckhoaa.Qr Go.Proofs.Ytiaecobjbckhoaa.Vq Go.Proofs.Ytiaecobjbckhoaa.QrS

theorem Src.step0 {B g n : Nat} {f : Nat → List Int} {W w3 : World} {v v' : Value} {x : Int} (h : Src B g n f W) {k : Nat} (hk : k < n) (hc : W.cell? ⟨g, k, none⟩ = some v) (hgr : W.grownBy w3 v.ownBlock)
    (ho : w3.ownsRow B 3 1 v' ((f k).length + 1) (numCells (f k) ++ [.int .i64 x])) (hloc : v'.ownBlock = v.ownBlock ∨ v'.ownBlock = some W.heap.size) :
    Src B g n (fun i => if i = k then f k ++ [x] else f i) (w3.setCell ⟨g, k, none⟩ v') := by
  obtain ⟨hg, vs, h1, h2, h3, h4⟩ := h
  have hgl := (Array.getElem?_eq_some_iff.1 h2).1
  have hv : vs[k]? = some v := by
    obtain ⟨u, hu⟩ : ∃ v, vs[k]? = some v := ⟨_, List.getElem?_eq_getElem (by omega)⟩
    have := blk_cell h2 (j := k) (u := u) (by simpa using hu)
    rw [hc] at this; cases this; exact hu
  have hb3 : w3.heap[g]? = some (.cells ⟨vs⟩ 33 (0, 0)) :=
    (hgr.block g hgl (fun e => own_ne h2 (h3 k v hv) e.symm)).trans h2
  have hnew : ∀ (i : Nat) (y : Value), (vs.set k v')[i]? = some y → (i = k ∧ y = v') ∨ (i ≠ k ∧ vs[i]? = some y) := by
    intro i y hy
    by_cases hik : i = k
    · subst hik
      rw [List.getElem?_set_self (by omega)] at hy
      cases hy; exact .inl ⟨rfl, rfl⟩
    · rw [List.getElem?_set_ne (by omega)] at hy
      exact .inr ⟨hik, hy⟩
  refine ⟨hg, vs.set k v', by simp [h1], ?_, ?_, ?_⟩
  · have := heap_set1 hb3 k v'
    rw [this]; simp
  · intro i y hy
    rcases hnew i y hy with ⟨rfl, rfl⟩ | ⟨hik, hvi⟩
    · simp only [if_true]
      have hx : numCells (f i ++ [x]) = numCells (f i) ++ [.int .i64 x] := by unfold numCells; rw [List.map_append]; rfl
      rw [hx, List.length_append]
      exact ownsRow_setCell_other ho (own_ne hb3 ho) _
    · simp only [if_neg hik]
      have hr := h3 i y hvi
      have hr3 : w3.ownsRow B 3 1 y (f i).length (numCells (f i)) := by
        refine World.ownsRow.kept hr hgr ?_
        by_cases hn : y.ownBlock = none
        · exact .inl hn
        · exact .inr (h4 i k y v hik hvi hv hn)
      exact ownsRow_setCell_other hr3 (own_ne hb3 hr3) _
  · intro i j y u hij hy hu hne
    have hlt : ∀ (i : Nat) (y : Value), vs[i]? = some y → y.ownBlock ≠ some W.heap.size := by
      intro i y hy e
      have := (h3 i y hy).lt _ e
      omega
    rcases hnew i y hy with ⟨rfl, rfl⟩ | ⟨hik, hvi⟩
    · rcases hnew j u hu with ⟨rfl, _⟩ | ⟨hjk, hvj⟩
      · exact absurd rfl hij
      · rcases hloc with e | e
        · rw [e] at hne ⊢
          exact h4 i j v u hij hv hvj hne
        · rw [e]
          exact fun e' => hlt j u hvj e'.symm
    · rcases hnew j u hu with ⟨rfl, rfl⟩ | ⟨hjk, hvj⟩
      · rcases hloc with e | e
        · rw [e]
          exact h4 i j y v hij hvi hv hne
        · rw [e]
          exact hlt i y hvi
      · exact h4 i j y u hij hvi hvj hne


theorem Src.frame {B g n : Nat} {f : Nat → List Int} {W W' : World} {S : Nat → Prop} (h : Src B g n f W) (hf : Fr S W W') (hg : ¬S g) (hS : ∀ i, B ≤ i → ¬S i) : Src B g n f W' := by
  obtain ⟨h0, vs, h1, h2, h3, h4⟩ := h
  refine ⟨h0, vs, h1, (hf.block g (Array.getElem?_eq_some_iff.1 h2).1 hg).trans h2, fun k v hv => ?_, h4⟩
  have := h3 k v hv
  exact ⟨this.1, this.2.imp id fun ⟨q, cap, cur, hv, hB, hq, hr⟩ => ⟨q, cap, cur, hv, hB, (hf.block q (Array.getElem?_eq_some_iff.1 hq).1 (hS q hB)).trans hq, hr⟩⟩
/-- 'l[k] = append(l[k], x)' on its way -/
structure AC (B g n : Nat) (f : Nat → List Int) (k : Nat) (x : Int) (W0 : World) (v0 : Value) (nw : Bool) (s : Value) (ap : Bool) (v : Value) (st : Bool) (w : World) : Prop where
  fr : Fr (fun i => B ≤ i ∨ i = g) W0 w
  lt : k < n ∧ B ≤ W0.heap.size
  src : ap = false → Src B g n f w
  cell0 : ap = false → w.cell? ⟨g, k, none⟩ = some v0
  row : ap = false → w.ownsRow B 3 1 v0 (f k).length (numCells (f k))
  nw : nw = true → ap = false → ∃ q, s = .slice (some ⟨q, 0, none⟩) 1 1 ∧ w.heap[q]? = some (.cells #[.int .i64 x] 3 (0, 0))
  vs : ap = true → ∃ a c, v = .slice a ((f k).length + 1) c
  mid : ap = true → st = false → ∃ W1, Src B g n f W1 ∧ W1.cell? ⟨g, k, none⟩ = some v0 ∧ W1.grownBy w v0.ownBlock ∧ w.ownsRow B 3 1 v ((f k).length + 1) (numCells (f k) ++ [.int .i64 x]) ∧ (v.ownBlock = v0.ownBlock ∨ v.ownBlock = some W1.heap.size)
  fin : ap = true → st = true → Src B g n (upd f k (f k ++ [x])) w
  ko : KeepsOthers W0 w
theorem ko_own {W W' : World} {B n : Nat} {e : TypeId} {c : Nat} {v : Value} {xs : List Value} (h : W.ownsRow B e c v n xs) (hg : W.grownBy W' v.ownBlock) : KeepsOthers W W' :=
  KeepsOthers.of_grownBy hg fun j o hj ho => by
    rcases h.2 with ⟨rfl, _⟩ | ⟨g, cap, cur, rfl, _, hgb, _⟩
    · simp [Value.ownBlock] at hj
    · have : g = j := by simpa [Value.ownBlock] using hj
      subst this; rw [hgb] at ho; cases ho; rfl
section
variable {B g n : Nat} {f : Nat → List Int} {k : Nat} {x : Int} {W0 : World} {v0 : Value} {nw : Bool} {s : Value} {ap : Bool} {v : Value} {st : Bool} {w : World}
theorem AC.size (h : AC B g n f k x W0 v0 nw s ap v st w) : B ≤ w.heap.size := Nat.le_trans h.lt.2 h.fr.size
theorem AC.wcell (h : AC B g n f k x W0 v0 nw s ap v st w) {b o : Nat} {u : Value} (hb : (b < B ∧ b ≠ g) ∧ W0.cell? ⟨b, o, none⟩ = some u) : w.cell? ⟨b, o, none⟩ = some u := h.fr.cell (by omega) hb.2
theorem AC.start {W : World} (h : Src B g n f W) (hk : k < n) (hB : B ≤ W.heap.size) (hc : W.cell? ⟨g, k, none⟩ = some v0) (hr : W.ownsRow B 3 1 v0 (f k).length (numCells (f k))) : AC B g n f k x W v0 false undef false undef false W :=
  ⟨Fr.refl _ _, ⟨hk, hB⟩, fun _ => h, fun _ => hc, fun _ => hr, fun e => (by cases e), fun e => (by cases e), fun e => (by cases e), fun e => (by cases e), KeepsOthers.refl _⟩
theorem AC.al (h : AC B g n f k x W0 v0 nw s false v false w) : AC B g n f k x W0 v0 true (.slice (some ⟨w.heap.size, 0, none⟩) 1 1) false v false (w.alloc (.cells #[.int .i64 x] 3)) := by
  have hb := b_alloc w (.cells #[.int .i64 x] 3)
  have hs := h.size
  exact ⟨h.fr.trans (Fr.of_below hb), h.lt, fun e => (h.src e).keep hb, fun e => (hb.cell (p := ⟨g, k, none⟩) (World.block_lt_of_cell? _ _ (h.cell0 e))).trans (h.cell0 e), fun e => own_below (h.row e) hb, fun _ _ => ⟨w.heap.size, rfl, blk_new w _ rfl⟩, fun e => (by cases e), fun e => (by cases e), fun e => (by cases e), h.ko.trans (KeepsOthers.alloc _ _)⟩
theorem AC.app {w' : World} {v' : Value} (h : AC B g n f k x W0 v0 nw s false v false w) (ho : w'.ownsRow B 3 1 v' ((f k).length + 1) (numCells (f k) ++ [.int .i64 x])) (hg : w.grownBy w' v0.ownBlock) (hl : v'.ownBlock = v0.ownBlock ∨ v'.ownBlock = some w.heap.size) :
    AC B g n f k x W0 v0 nw s true v' false w' :=
  ⟨fr_grown h.fr hg (fun q e => .inl ((h.row rfl).lt q e).1), h.lt, fun e => (by cases e), fun e => (by cases e), fun e => (by cases e), fun _ e => (by cases e), fun _ => own_slice ho, fun _ _ => ⟨w, h.src rfl, h.cell0 rfl, hg, ho, hl⟩, fun _ e => (by cases e), h.ko.trans (ko_own (h.row rfl) hg)⟩
theorem AC.cell1 (h : AC B g n f k x W0 v0 nw s ap v st w) (ha : ap = true) (hs : st = false) : w.cell? ⟨g, k, none⟩ = some v0 ∧ w.frozen? ⟨g, k, none⟩ = false := by
  obtain ⟨W1, h1, h2, h3, h4, h5⟩ := h.mid ha hs
  obtain ⟨hg, vs, k1, k2, k3, k4⟩ := h1
  have hgl := (Array.getElem?_eq_some_iff.1 k2).1
  obtain ⟨u, hu⟩ : ∃ u, vs[k]? = some u := ⟨_, List.getElem?_eq_getElem (by have := h.lt.1; omega)⟩
  have e1 := blk_cell k2 (j := k) (u := u) (by simpa using hu)
  rw [h2] at e1
  cases e1
  have hb3 : w.heap[g]? = some (.cells ⟨vs⟩ 33 (0, 0)) := (h3.block g hgl (fun e => own_ne k2 (k3 k _ hu) e.symm)).trans k2
  exact ⟨blk_cell hb3 (by simpa using hu), blk_free hb3 _⟩
theorem AC.pt (h : AC B g n f k x W0 v0 nw s true v false w) : AC B g n f k x W0 v0 nw s true v true (w.setCell ⟨g, k, none⟩ v) := by
  obtain ⟨W1, h1, h2, h3, h4, h5⟩ := h.mid rfl rfl
  refine ⟨h.fr.trans (Fr.set w v (.inr rfl)), h.lt, fun e => (by cases e), fun e => (by cases e), fun e => (by cases e), fun _ e => (by cases e), h.vs, fun _ e => (by cases e), fun _ _ => ?_, h.ko.trans (KeepsOthers.setCell _ _ _)⟩
  exact (h1.step0 h.lt.1 h2 h3 h4 h5).cong fun i _ => rfl
end
theorem ld_ll {V : World} {b o : Nat} {a : Option Addr} {n c : Nat} (h : V.cell? ⟨b, o, none⟩ = some (.slice a n c)) : (Instr.loadAt 22 (.pointer (some ⟨b, o, none⟩))).run Try.prog V = .ok (.slice a n c) V := by go_simp
theorem ix_llN {V : World} {b n cap k : Nat} (h : k < n) : (Instr.indexAt 22 (.slice (some ⟨b, 0, none⟩) n cap) (.int .i64 (k : Int))).run Try.prog V = .ok (.pointer (some ⟨b, k, none⟩)) V := by
  have h2 : (k : Int) < (n : Int) := by omega
  go_simp

/-- that one goes from one rank to another one -/
def goesF (s : (Nat → Int) × (Nat → List Int)) (f t : Nat) : (Nat → Int) × (Nat → List Int) :=
  if f < t then (Dm.upd s.1 t (min (s.1 t) f), s.2) else if t < f ∧ 0 < s.1 t then (s.1, Dm.upd s.2 t (s.2 t ++ [(f : Int)])) else s
/-- the walk in memory: what is met, what over, the lowest ones, the late ones -/
structure WkM (B wb gm go gl gt m cm co cl : Nat) (met over : Nat → Int) (s : (Nat → Int) × (Nat → List Int)) (W : World) : Prop where
  c : W.heap[wb]? = some (.cells #[.slice (some ⟨gm, 0, none⟩) m cm, .slice (some ⟨go, 0, none⟩) m co, .slice (some ⟨gl, 0, none⟩) m cl, .slice (some ⟨gt, 0, none⟩) m m] 58 (0, 0))
  met : InR gm m met W
  over : InR go m over W
  low : InR gl m s.1 W
  late : Src B gt m s.2 W
  lt : wb < B ∧ gm < B ∧ go < B ∧ gl < B ∧ B ≤ W.heap.size ∧ B ≤ gt
  ne : wb ≠ gl ∧ gm ≠ gl ∧ go ≠ gl
  cap : m ≤ 32768 ∧ m ≤ cm ∧ cm ≤ maxLen ∧ m ≤ co ∧ co ≤ maxLen ∧ m ≤ cl ∧ cl ≤ maxLen
  len : ∀ i, i < m → (s.2 i).length ≤ 1048575
set_option maxHeartbeats 8000000 in
set_option maxRecDepth 100000 in
theorem goes_c (B wb gm go gl gt m cm co cl : Nat) (met over : Nat → Int) (s : (Nat → Int) × (Nat → List Int)) (f t : Nat) (W : World) (h : WkM B wb gm go gl gt m cm co cl met over s W) (hf : f < m) (ht : t < m) :
    Calls Try.prog 37 #[.pointer (some ⟨wb, 0, none⟩), .int .i64 (f : Int), .int .i64 (t : Int)] W fun e W' => e = .returned (.tuple #[]) ∧ Fr (fun i => i = gl ∨ B ≤ i) W W' ∧ InR gl m (goesF s f t).1 W' ∧ Src B gt m (goesF s f t).2 W' := by
  obtain ⟨hwb, hgm, hgo, hgl, hBs, hBt⟩ := h.lt
  obtain ⟨n1, n2, n3⟩ := h.ne
  obtain ⟨k1, k2, k3, k4, k5, k6, k7⟩ := h.cap
  have c2 := blk_cell (j := 2) h.c rfl
  have c3 := blk_cell (j := 3) h.c rfl
  obtain ⟨t1, f1⟩ := h.low.get ht
  have ht0 : (0 : Int) ≤ (t : Int) := by omega
  have ht1 : (t : Int) < (m : Int) := by omega
  unfold goesF
  by_cases hlt : f < t
  · rw [if_pos hlt]
    have hlt' : (f : Int) < (t : Int) := by omega
    have hfin : Hid (Fr (fun i => i = gl ∨ B ≤ i) W (W.setCell ⟨gl, t, none⟩ (.int .i64 (min (s.1 t) f))) ∧ InR gl m (Dm.upd s.1 t (min (s.1 t) f)) (W.setCell ⟨gl, t, none⟩ (.int .i64 (min (s.1 t) f))) ∧ Src B gt m s.2 (W.setCell ⟨gl, t, none⟩ (.int .i64 (min (s.1 t) f)))) := Lib.hid (by
      refine ⟨Fr.set _ _ (.inl rfl), h.low.set ht _ _ (fun i _ => rfl), h.late.frame (Fr.set (S := fun i => i = gl) _ _ rfl) (by omega) (fun i hi e => by omega)⟩)
    generalize Dm.upd s.1 t (min (s.1 t) f) = F at *
    clear h
    generalize s.1 t = lt at *
    go_enter Try.func37, Try.ntmps37
    go_wp2_with fail
    go_region
    go_wp2_with fail
    all_goals
      first | rw [Int.min_eq_left h] at hfin | rw [Int.min_eq_right (by omega)] at hfin
      obtain ⟨r1, r2, r3⟩ := hfin.out
      exact ⟨rfl, .tuple #[], by simp [results, Try.results37, go_sem], rfl, r1.trans (Fr.drew _ _ 1), r2.at_ rfl, r3.frame (Fr.drew (fun _ => False) _ 1) id (fun _ _ => id)⟩
  · rw [if_neg hlt]
    have hge : ¬ (f : Int) < (t : Int) := by omega
    by_cases hc : t < f ∧ 0 < s.1 t
    · rw [if_pos hc]
      have hgt : (t : Int) < (f : Int) := by have := hc.1; omega
      have hlow := hc.2
      have hlen : (s.2 t).length + 1 ≤ 1048577 := by have := h.len t ht; omega
      obtain ⟨a0, c0, hcell, hfree, hown, _⟩ := h.late.get ht
      obtain ⟨v0, hv0⟩ : ∃ v0, v0 = Value.slice a0 (s.2 t).length c0 := ⟨_, rfl⟩
      rw [← hv0] at hcell hown
      have hdW : Fr (fun _ => False) W W.drew := ⟨rfl, rfl, rfl, Nat.le_refl _, fun _ _ _ => rfl⟩
      have hst : AC B gt m s.2 t (f : Int) W.drew v0 false undef false undef false W.drew := AC.start (h.late.frame hdW id (fun _ _ => id)) ht hBs hcell hown
      have hwt : (wb < B ∧ wb ≠ gt) ∧ W.drew.cell? ⟨wb, 3, none⟩ = some (.slice (some ⟨gt, 0, none⟩) m m) := ⟨⟨hwb, by omega⟩, c3⟩
      have hfr0 : Hid (Fr (fun i => i = gl ∨ B ≤ i) W W.drew) := Lib.hid (hdW.mono fun i _ e => e.elim)
      have hlo := Lib.hid h.low
      have hs0 : ∃ a n c, v0 = .slice a n c := ⟨_, _, _, hv0⟩
      generalize hW0 : W.drew = W0 at *
      have hWl : Hid (InR gl m s.1 W0) := Lib.hid (hlo.out.at_ (by rw [← hW0]; rfl))
      clear h hlo hcell hown hfree hdW
      generalize s.1 t = lt at *
      go_enter Try.func37, Try.ntmps37
      go_wp2_with fail
      refine wp_region_set (I := RI [(fun v => v = .pointer (some ⟨wb, 0, none⟩)), (fun v => v = .pointer (some ⟨wb, 0, none⟩)), (fun v => v = .pointer (some ⟨wb, 3, none⟩)), (fun v => v = .slice (some ⟨gt, 0, none⟩) m m), (fun v => v = .int .i64 (t : Int)), (fun v => v = .pointer (some ⟨wb, 0, none⟩)), (fun v => v = .pointer (some ⟨wb, 0, none⟩)), (fun v => v = .pointer (some ⟨wb, 3, none⟩)), (fun v => v = .slice (some ⟨gt, 0, none⟩) m m), (fun v => v = .int .i64 (t : Int)), (fun v => v = .pointer (some ⟨gt, t, none⟩)), (fun v => v = v0), (fun v => v = .int .i64 (f : Int)), fun _ => True, fun _ => True, (fun v => v = .pointer (some ⟨gt, t, none⟩)), fun _ => True] (fun L σ w => AC B gt m s.2 t (f : Int) W0 v0 (L 13) (σ 13) (L 14) (σ 14) (L 16) w)) (by kernel_rfl) ?hI (by kernel_rfl) (stepsI_all ?hs) ?he
      case hI =>
        refine ⟨fun i e => (by cases e), ?_⟩
        rw [hW0]
        exact hst
      case hs =>
        clear hst hW0 hfr0 hWl
        refine stepsI_cons (fun L σ a w hL hW hS hI hs => ?_) ?_
        · exact ⟨wanted_none rfl, wp_val (run_mv (.inl rfl) (hs.ev0 0 (by kernel_rfl) (by rfl))) ⟨_, rfl, hI.pure (j := 0) rfl hI.c⟩⟩
        refine stepsI_cons (fun L σ a w hL hW hS hI hs => ?_) ?_
        · exact ⟨wanted_none rfl, wp_val (run_nil rfl (hs.ev 0 37 (by kernel_rfl) (by rfl) (hI.pv 0 (hW 0 (by kernel_rfl))))) ⟨_, rfl, hI.pure (j := 1) rfl hI.c⟩⟩
        refine stepsI_cons (fun L σ a w hL hW hS hI hs => ?_) ?_
        · exact ⟨wanted_none rfl, wp_val (run_fa rfl (hs.ev 1 38 (by kernel_rfl) (by rfl) (hI.pv 1 (hW 1 (by kernel_rfl)))) fl_w3) ⟨_, rfl, hI.pure (j := 2) rfl hI.c⟩⟩
        refine stepsI_cons (fun L σ a w hL hW hS hI hs => ?_) ?_
        · exact ⟨wanted_none rfl, wp_val (run_ld rfl (hs.ev 2 39 (by kernel_rfl) (by rfl) (hI.pv 2 (hW 2 (by kernel_rfl)))) (ld_ll (hI.c.wcell hwt))) ⟨_, rfl, hI.pure (j := 3) rfl hI.c⟩⟩
        refine stepsI_cons (fun L σ a w hL hW hS hI hs => ?_) ?_
        · exact ⟨wanted_none rfl, wp_val (run_mv (.inl rfl) (hs.ev0 2 (by kernel_rfl) (by rfl))) ⟨_, rfl, hI.pure (j := 4) rfl hI.c⟩⟩
        refine stepsI_cons (fun L σ a w hL hW hS hI hs => ?_) ?_
        · exact ⟨wanted_none rfl, wp_val (run_mv (.inl rfl) (hs.ev0 0 (by kernel_rfl) (by rfl))) ⟨_, rfl, hI.pure (j := 5) rfl hI.c⟩⟩
        refine stepsI_cons (fun L σ a w hL hW hS hI hs => ?_) ?_
        · exact ⟨wanted_none rfl, wp_val (run_nil rfl (hs.ev 5 42 (by kernel_rfl) (by rfl) (hI.pv 5 (hW 5 (by kernel_rfl))))) ⟨_, rfl, hI.pure (j := 6) rfl hI.c⟩⟩
        refine stepsI_cons (fun L σ a w hL hW hS hI hs => ?_) ?_
        · exact ⟨wanted_none rfl, wp_val (run_fa rfl (hs.ev 6 43 (by kernel_rfl) (by rfl) (hI.pv 6 (hW 6 (by kernel_rfl)))) fl_w3) ⟨_, rfl, hI.pure (j := 7) rfl hI.c⟩⟩
        refine stepsI_cons (fun L σ a w hL hW hS hI hs => ?_) ?_
        · exact ⟨wanted_none rfl, wp_val (run_ld rfl (hs.ev 7 44 (by kernel_rfl) (by rfl) (hI.pv 7 (hW 7 (by kernel_rfl)))) (ld_ll (hI.c.wcell hwt))) ⟨_, rfl, hI.pure (j := 8) rfl hI.c⟩⟩
        refine stepsI_cons (fun L σ a w hL hW hS hI hs => ?_) ?_
        · exact ⟨wanted_none rfl, wp_val (run_mv (.inl rfl) (hs.ev0 2 (by kernel_rfl) (by rfl))) ⟨_, rfl, hI.pure (j := 9) rfl hI.c⟩⟩
        refine stepsI_cons (fun L σ a w hL hW hS hI hs => ?_) ?_
        · exact ⟨wanted_none rfl, wp_val (run_ixB rfl (hs.ev 8 45 (by kernel_rfl) (by rfl) (hI.pv 8 (hW 8 (by kernel_rfl)))) (hs.ev 9 46 (by kernel_rfl) (by rfl) (hI.pv 9 (hW 9 (by kernel_rfl)))) (ix_llN ht)) ⟨_, rfl, hI.pure (j := 10) rfl hI.c⟩⟩
        refine stepsI_cons (fun L σ a w hL hW hS hI hs => ?_) ?_
        · have hc := hI.c
          rw [hS.not 14 11 (o := _) (by rfl) (by kernel_rfl) hL, hS.not 16 11 (o := _) (by rfl) (by kernel_rfl) hL] at hc
          have hcell := hc.cell0 rfl
          obtain ⟨va, vn, vc, hve⟩ := hs0
          rw [hve] at hcell
          exact ⟨wanted_none rfl, wp_val (run_ld rfl (hs.ev 10 47 (by kernel_rfl) (by rfl) (hI.pv 10 (hW 10 (by kernel_rfl)))) (ld_li hcell)) ⟨_, rfl, hI.pure (j := 11) hve.symm hI.c⟩⟩
        refine stepsI_cons (fun L σ a w hL hW hS hI hs => ?_) ?_
        · exact ⟨wanted_none rfl, wp_val (run_mv (.inl rfl) (hs.ev0 1 (by kernel_rfl) (by rfl))) ⟨_, rfl, hI.pure (j := 12) rfl hI.c⟩⟩
        refine stepsI_cons (fun L σ a w hL hW hS hI hs => ?_) ?_
        · have e := (hs.ev 12 49 (by kernel_rfl) (by rfl) (hI.pv 12 (hW 12 (by kernel_rfl))))
          have h14 := hS.not 14 13 (o := _) (by rfl) (by kernel_rfl) hL
          have h16 := hS.not 16 13 (o := _) (by rfl) (by kernel_rfl) hL
          refine ⟨wanted_none rfl, wp_val (run_bs (qs := #[(0, .int .i64 (f : Int))]) rfl (by simp [e]) (mk_int1 _ _)) ⟨_, rfl, hI.pure (j := 13) trivial ?_⟩⟩
          have hc := hI.c
          rw [h14, h16] at hc
          have := hc.al
          show AC B gt m s.2 t (f : Int) W0 v0 true _ (L 14) (σ 14) (L 16) _
          rw [h14, h16]
          exact this
        refine stepsI_cons (fun L σ a w hL hW hS hI hs => ?_) ?_
        · have h16 := hS.not 16 14 (o := _) (by rfl) (by kernel_rfl) hL
          have h13 := hW 13 (by kernel_rfl)
          have hc := hI.c
          rw [hL, h16, h13] at hc
          obtain ⟨g, g1, g2⟩ := hc.nw rfl rfl
          have hr := hc.row rfl
          obtain ⟨i0, hi0, hz0, hz1, hz2⟩ := info_i
          refine ⟨wanted_none rfl, p_app1 (t := 33) (e := 3) rfl Try.underlying33 hi0 hz0 hz1 hz2 rfl (by decide) (hs.ev 11 48 (by kernel_rfl) (by rfl) (hI.pv 11 (hW 11 (by kernel_rfl)))) (hs.ev 13 50 (by kernel_rfl) (by rfl) g1) hr rfl g2 (one_int _) hlen (by omega) hc.size fun v' w' k1 k2 k3 => ⟨_, rfl, hI.pure (j := 14) trivial ?_⟩⟩
          have := hc.app (v' := v') k1 k2 k3
          show AC B gt m s.2 t (f : Int) W0 v0 (L 13) (σ 13) true v' (L 16) _
          rw [h16, h13]
          exact this
        refine stepsI_cons (fun L σ a w hL hW hS hI hs => ?_) ?_
        · exact ⟨wanted_none rfl, wp_val (run_ixB rfl (hs.ev 3 40 (by kernel_rfl) (by rfl) (hI.pv 3 (hW 3 (by kernel_rfl)))) (hs.ev 4 41 (by kernel_rfl) (by rfl) (hI.pv 4 (hW 4 (by kernel_rfl)))) (ix_llN ht)) ⟨_, rfl, hI.pure (j := 15) rfl hI.c⟩⟩
        refine stepsI_cons (fun L σ a w hL hW hS hI hs => ?_) ?_
        · have h14 := hW 14 (by kernel_rfl)
          have hc := hI.c
          rw [hL, h14] at hc
          obtain ⟨qa, qc, hqv⟩ := hc.vs rfl
          refine ⟨wanted_none rfl, wp_storeL rfl rfl (hs.ev 15 52 (by kernel_rfl) (by rfl) (hI.pv 15 (hW 15 (by kernel_rfl)))) (hs.ev 14 51 (by kernel_rfl) (by rfl) rfl) ⟨_, _, _, hqv⟩ (hc.cell1 rfl rfl).1 (hc.cell1 rfl rfl).2 ⟨_, rfl, hI.pure (j := 16) trivial ?_⟩⟩
          have := hc.pt
          show AC B gt m s.2 t (f : Int) W0 v0 (L 13) (σ 13) (L 14) (σ 14) true _
          rw [h14]
          exact this
        exact trivial
      case he =>
        intro σ W3 hI
        have hc : AC B gt m s.2 t (f : Int) W0 v0 true (σ 13) true (σ 14) true W3 := hI.c
        generalize hF : fillL _ _ _ _ _ = F
        simp [fillL, dstOf, List.range, List.range.loop, Act.put] at hF
        subst hF
        have r1 := Lib.hid (hfr0.out.trans (hc.fr.mono fun i _ e => .inr (by omega)))
        have r2 := Lib.hid (hc.fr.inr hWl.out (by omega))
        have r3 := Lib.hid (hc.fin rfl rfl)
        clear hI hc hst hW0 hfr0 hWl
        go_wp2_with fail
        exact ⟨rfl, .tuple #[], by simp [results, Try.results37, go_sem], rfl, r1.out, r2.out, r3.out⟩
    · rw [if_neg hc]
      have hfin := Lib.hid (⟨Fr.refl (fun i => i = gl ∨ B ≤ i) W, h.low, h.late⟩ : Fr (fun i => i = gl ∨ B ≤ i) W W ∧ InR gl m s.1 W ∧ Src B gt m s.2 W)
      clear h
      by_cases htf : t < f
      · have hlow : ¬ 0 < s.1 t := fun e => hc ⟨htf, e⟩
        have hgt : (t : Int) < (f : Int) := by omega
        clear hc
        generalize s.1 t = lt at *
        have hd : decide (0 < lt) = false := by simpa using hlow
        go_enter Try.func37, Try.ntmps37
        go_wp2_with fail
        obtain ⟨r1, r2, r3⟩ := hfin.out
        exact ⟨rfl, .tuple #[], by simp [results, Try.results37, go_sem], rfl, r1, r2, r3⟩
      · have hgt : ¬ (t : Int) < (f : Int) := by omega
        have hd : decide ((t : Int) < (f : Int)) = false := by simpa using hgt
        clear hc
        go_enter Try.func37, Try.ntmps37
        go_wp2_with fail
        obtain ⟨r1, r2, r3⟩ := hfin.out
        exact ⟨rfl, .tuple #[], by simp [results, Try.results37, go_sem], rfl, r1, r2, r3⟩
end Go.Proofs.Ytiaecobjbckhoaa.Db
