/- Walks of idle, mayWays. Conditions: the blocks lie in memory; each goes to blocks, one without instructions to one at least. Walks of idle, mayWays. Conditions: the blocks lie in memory; each goes to blocks, one without instructions to one at least. Walk of mayWays. Conditions: the blocks lie in memory; each goes to blocks, one without instructions to one at least. -/
import Derived.Test.YtkmlhijnkilfpaaDoorJaK
import Derived.BigQuiet
namespace Go.Proofs.YtkmlhijnkilfpaaDoor.Fw
open Go Go.RowKit
open Go.Proofs.YtkmlhijnkilfpaaDoor.Lx Go.Proofs.YtkmlhijnkilfpaaDoor.Tr Go.Proofs.YtkmlhijnkilfpaaDoor.Cd

/-- over blocks without instructions one comes from one to another one, by a way at least -/
inductive Lead (l : List Bk) : Nat → Nat → Prop where
  | one (i : Nat) (h : bareB l i = true) : Lead l i (nxt l i)
  | on (i j : Nat) (h : bareB l i = true) (r : Lead l (nxt l i) j) : Lead l i j
theorem Lead.out {l : List Bk} {i j : Nat} (h : Lead l i j) (o : Out l j) : Out l i := by
  induction h with
  | one i h => exact .on _ h o
  | on i j h _ ih => exact .on _ h (ih o)
theorem Lead.snoc {l : List Bk} {i j : Nat} (h : Lead l i j) (hj : bareB l j = true) : Lead l i (nxt l j) := by
  induction h with
  | one i h => exact .on _ _ h (.one _ hj)
  | on i j h _ ih => exact .on _ _ h (ih hj)
theorem Lead.bare {l : List Bk} {i j : Nat} (h : Lead l i j) : bareB l i = true := by cases h <;> assumption
theorem Lead.parts {l : List Bk} {i j : Nat} (h : Lead l i j) : nxt l i = j ∨ Lead l (nxt l i) j := by
  cases h with
  | one _ _ => exact .inl rfl
  | on _ _ _ r => exact .inr r
theorem Out.no {l : List Bk} {k : Nat} (h : Out l k) : ¬ Lead l k k := by
  induction h with
  | here k h => intro r; rw [r.bare] at h; cases h
  | on k h _ ih =>
    intro r
    rcases r.parts with e | r2
    · rw [e] at ih; exact ih r
    · exact ih (r2.snoc h)
theorem bare_at {l : List Bk} {k : Nat} {x : Bk} (h : l[k]? = some x) : bareB l k = decide (x.code.length = 0) := by unfold bareB; rw [h]
theorem nxt_at {l : List Bk} {k m : Nat} {x : Bk} (h : l[k]? = some x) (h0 : x.tt[0]? = some (m : Int)) : nxt l k = m := by
  unfold nxt
  rw [h]
  obtain ⟨pa, pcap, phis, ca, ccap, code, fa, fcap, fm, ta, tcap, tt⟩ := x
  cases tt with
  | nil => simp at h0
  | cons y r => simp at h0; subst h0; simp
open Classical in
theorem out_no {l : List Bk} {k : Nat} (hk : k < l.length) (h : Lead l k k) : outP l = false := by
  unfold outP
  exact decide_eq_false fun o => (o k hk).no h
open Classical in
theorem out_yes {l : List Bk} (h : ∀ k, k < l.length → Out l k) : outP l = true := by
  unfold outP
  exact decide_eq_true h
/-- how many of a block's numbers are 0 -/
def zc (W : World) (g : Nat) : Nat := match W.heap[g]? with | some (.cells vs _ _) => (vs.toList.filter fun v => decide (intOf v = 0)).length | _ => 0
def zl (ws : List Int) : Nat := (ws.filter fun v => decide (v = 0)).length
theorem zl_map (ws : List Int) : ((numCells ws).filter fun v => decide (intOf v = 0)).length = zl ws := by
  unfold zl numCells
  induction ws with
  | nil => rfl
  | cons x r ih =>
    rw [List.map_cons, List.filter_cons, List.filter_cons]
    have hx : intOf (Value.int .i64 x) = x := rfl
    rw [hx]
    split
    · simp only [List.length_cons]; rw [ih]
    · rw [ih]
theorem zc_eq {W : World} {g : Nat} {ws : List Int} (h : W.heap[g]? = some (.cells ⟨numCells ws⟩ 3 (0, 0))) : zc W g = zl ws := by
  unfold zc
  rw [h]
  exact zl_map ws
theorem zl_set {ws : List Int} {k : Nat} {x : Int} (h : ws[k]? = some 0) (hx : x ≠ 0) : zl (ws.set k x) < zl ws := by
  induction ws generalizing k with
  | nil => simp at h
  | cons y r ih =>
    cases k with
    | zero => simp at h; subst h; simp [zl, hx]
    | succ k =>
      have := ih (k := k) (by simpa using h)
      unfold zl at *
      rw [List.set_cons_succ, List.filter_cons, List.filter_cons]
      split <;> simp <;> omega
/-- what is marked when so many blocks are gone through -/
structure Mks (l : List Bk) (k : Nat) (ws : List Int) : Prop where
  out : ∀ i, i < k → Out l i
  mrk : ∀ (i : Nat) (v : Int), ws[i]? = some v → v ≠ 0 → Out l i
  le : ∀ (i : Nat) (v : Int), ws[i]? = some v → v ≤ k
/-- and on a way from the next one -/
structure Mkt (l : List Bk) (k at_ : Nat) (ws : List Int) : Prop where
  out : ∀ i, i < k → Out l i
  way : at_ = k ∨ Lead l k at_
  old : ∀ (i : Nat) (v : Int), ws[i]? = some v → v ≠ 0 → v ≠ (k : Int) + 1 → Out l i
  new : ∀ (i : Nat), ws[i]? = some ((k : Int) + 1) → Lead l i at_
  le : ∀ (i : Nat) (v : Int), ws[i]? = some v → v ≤ (k : Int) + 1
theorem Mks.start (l : List Bk) (n : Nat) : Mks l 0 (List.replicate n 0) := by
  refine ⟨fun i h => by omega, fun i v h hv => ?_, fun i v h => ?_⟩ <;>
  · rw [List.getElem?_replicate] at h
    split at h
    · cases h
      first | exact absurd rfl hv | simp
    · cases h
theorem Mks.way {l : List Bk} {k : Nat} {ws : List Int} (h : Mks l k ws) : Mkt l k k ws :=
  ⟨h.out, .inl rfl, fun i v hv h0 _ => h.mrk i v hv h0, fun i hv => by have := h.le i _ hv; omega, fun i v hv => by have := h.le i v hv; omega⟩
theorem Mkt.done {l : List Bk} {k at_ : Nat} {ws : List Int} (h : Mkt l k at_ ws) (o : Out l at_) : Mks l (k + 1) ws := by
  have hk : Out l k := by
    rcases h.way with e | r
    · rw [← e]; exact o
    · exact r.out o
  refine ⟨fun i hi => ?_, fun i v hv h0 => ?_, fun i v hv => by have := h.le i v hv; push_cast; omega⟩
  · rcases Nat.lt_or_ge i k with h1 | h1
    · exact h.out i h1
    · rw [show i = k by omega]; exact hk
  · by_cases e : v = (k : Int) + 1
    · subst e; exact (h.new i hv).out o
    · exact h.old i v hv h0 e
theorem Mkt.step {l : List Bk} {k at_ : Nat} {ws : List Int} (h : Mkt l k at_ ws) (hb : bareB l at_ = true) (hl : at_ < ws.length) : Mkt l k (nxt l at_) (ws.set at_ ((k : Int) + 1)) := by
  have hnew : ∀ (i : Nat) (v : Int), (ws.set at_ ((k : Int) + 1))[i]? = some v → (i = at_ ∧ v = (k : Int) + 1) ∨ ws[i]? = some v := by
    intro i y hy
    by_cases hik : i = at_
    · subst hik
      rw [List.getElem?_set_self hl] at hy
      cases hy; exact .inl ⟨rfl, rfl⟩
    · rw [List.getElem?_set_ne (by omega)] at hy
      exact .inr hy
  refine ⟨h.out, .inr ?_, fun i v hv h0 h1 => ?_, fun i hv => ?_, fun i v hv => ?_⟩
  · rcases h.way with e | r
    · rw [← e]; exact .one _ hb
    · exact r.snoc hb
  · rcases hnew i v hv with ⟨_, e⟩ | e
    · exact absurd e h1
    · exact h.old i v e h0 h1
  · rcases hnew i _ hv with ⟨e, _⟩ | e
    · subst e; exact .one _ hb
    · exact (h.new i e).snoc hb
  · rcases hnew i v hv with ⟨_, e⟩ | e
    · omega
    · exact h.le i v e
/-- the marks in memory -/
structure Wks (g n : Nat) (ws : List Int) (W : World) : Prop where
  len : ws.length = n
  blk : W.heap[g]? = some (.cells ⟨numCells ws⟩ 3 (0, 0))
theorem Wks.start (w : World) (n : Nat) : Wks w.heap.size n (List.replicate n 0) (w.alloc (.cells (Array.replicate n (Value.int .i64 0)) 3)) := by
  refine ⟨by simp, ?_⟩
  rw [blk_new w _ rfl]
  unfold numCells
  simp
theorem Wks.at_ {g n : Nat} {ws : List Int} {W : World} (h : Wks g n ws W) {k : Nat} {v : Int} (hv : ws[k]? = some v) : W.cell? ⟨g, k, none⟩ = some (.int .i64 v) ∧ W.frozen? ⟨g, k, none⟩ = false ∧ g < W.heap.size := by
  refine ⟨blk_cell h.blk ?_, blk_free h.blk _, (Array.getElem?_eq_some_iff.1 h.blk).1⟩
  unfold numCells
  simp [hv]
theorem Wks.set {g n : Nat} {ws : List Int} {W : World} (h : Wks g n ws W) (k : Nat) (v : Int) : Wks g n (ws.set k v) (W.setCell ⟨g, k, none⟩ (.int .i64 v)) := by
  refine ⟨by simp [h.len], ?_⟩
  have := heap_set1 h.blk k (.int .i64 v)
  rw [this]
  unfold numCells
  simp [List.map_set]
theorem Wks.keep {g n : Nat} {ws : List Int} {W W' : World} (h : Wks g n ws W) (hb : Below W.heap.size W W') : Wks g n ws W' :=
  ⟨h.len, (hb.block g (Array.getElem?_eq_some_iff.1 h.blk).1).trans h.blk⟩
end Go.Proofs.YtkmlhijnkilfpaaDoor.Fw
namespace Go.Proofs.YtkmlhijnkilfpaaDoor.Fw
open Go Go.RowKit
open Go.Proofs.YtkmlhijnkilfpaaDoor.Lx Go.Proofs.YtkmlhijnkilfpaaDoor.Tr Go.Proofs.YtkmlhijnkilfpaaDoor.Cd

set_option maxHeartbeats 4000000 in
set_option maxRecDepth 1000000 in
theorem idle_c (l : List Bk) (a : Option Addr) (cap : Nat) (w : World) (hrow : RowAt w Tt a cap l.length (bkCells l)) (hin : ∀ b ∈ l, Bk.In w b) (hto : ∀ b ∈ l, ∀ t ∈ b.tt, 0 ≤ t ∧ t < l.length) (hne : ∀ b ∈ l, b.code.length = 0 → 0 < b.tt.length) (hn : l.length ≤ 32768) :
    Calls Tryd.prog 68 #[.slice a l.length cap] w fun e w' => e = .returned (.bool (!outP l)) ∧ Below w.heap.size w w' := by
  obtain ⟨hc1, hc2⟩ := len_i hrow
  have hR := Lib.hid (fun V (hv : Below w.heap.size w V) => hrow.below (Kps.of_below hv))
  have hT := Lib.hid (fun (b : Bk) V (hb : b ∈ l) (hv : Below w.heap.size w V) => ((hin b hb).keep hv).trow)
  have hC := Lib.hid (fun (b : Bk) V (hb : b ∈ l) (hv : Below w.heap.size w V) => len_i ((hin b hb).keep hv).crow)
  replace hto := Lib.hid hto
  replace hne := Lib.hid hne
  have hW0 := Lib.hid (Wks.start w l.length)
  have hmk := make_in l.length (by omega) w
  have hB0 := Lib.hid (b_alloc w (.cells (Array.replicate l.length (.int .i64 0)) 3))
  clear hrow hin
  go_enter Tryd.func68, Tryd.ntmps68
  go_wp2_with fail
  go_loopw [11] (fun i wr => ∃ k : Nat, k ≤ l.length ∧ i = .int .i64 k ∧ Hid (Below w.heap.size w wr) ∧ ∃ ws, Hid (Mks l k ws) ∧ Hid (Wks w.heap.size l.length ws wr)) (fun i _ => l.length - (intOf i).toNat)
  case atStart => exact ⟨0, Nat.zero_le _, rfl, hB0, _, Lib.hid (Mks.start l l.length), hW0⟩
  case round =>
    clear hW0 hmk
    obtain ⟨k, hk, rfl, hb, ws, hM, hW⟩ := hrel
    by_cases hlt : k < l.length
    · have hi0' : (0 : Int) ≤ (k : Int) := by omega
      have hi1 : (k : Int) < (l.length : Int) := by omega
      have hkw : (k : Int) + 1 ≤ 32768 := by omega
      have hM1 := Lib.hid hM.out.way
      obtain ⟨b, off, ha, hjunk⟩ := bk_row (hR.out wr hb.out) k _ (List.getElem?_eq_getElem hlt)
      clear hjunk
      subst ha
      clear hM
      go_wp2_with fail
      go_loopw [5] (fun v wq => ∃ m : Nat, v = .int .i64 m ∧ m < l.length ∧ Hid (Below w.heap.size w wq) ∧ ∃ ws, Hid (Mkt l k m ws) ∧ Hid (Wks w.heap.size l.length ws wq)) (fun _ wq => zc wq w.heap.size)
      case atStart => exact ⟨k, rfl, hlt, hb, ws, hM1, hW⟩
      case round =>
        clear hM1 hW ws
        obtain ⟨m, rfl, hml, hbq, ws, hM, hW⟩ := hrel
        obtain ⟨x, hx⟩ : ∃ x, l[m]? = some x := ⟨_, List.getElem?_eq_getElem hml⟩
        obtain ⟨b2, off2, ha, _, c0, c1, c2, c3⟩ := bk_row (hR.out _ hbq.out) m x hx
        cases ha
        obtain ⟨b3, off3, ha, _, z0, z1, z2, z3⟩ := bk_row (hR.out _ (Below.refl _ _)) m x hx
        cases ha
        have hbw : b < w.heap.size := World.block_lt_of_cell? _ _ z0
        clear z0 z1 z2 z3
        have hm0 : (0 : Int) ≤ (m : Int) := by omega
        have hm1 : (m : Int) < (l.length : Int) := by omega
        have hxm := List.mem_of_getElem? hx
        obtain ⟨cc1, cc2⟩ := hC.out x _ hxm hbq.out
        have hbare := Lib.hid (bare_at hx)
        by_cases h0 : x.code.length = 0
        · have hbt : Hid (bareB l m = true) := Lib.hid (by rw [hbare.out, h0]; rfl)
          have htl := hne.out x hxm h0
          obtain ⟨y, hy⟩ : ∃ y, x.tt[0]? = some y := ⟨_, List.getElem?_eq_getElem htl⟩
          have hyr := hto.out x hxm y (List.mem_of_getElem? hy)
          obtain ⟨n, rfl⟩ : ∃ n : Nat, y = n := ⟨y.toNat, by omega⟩
          have hnl : n < l.length := by omega
          have hnx := Lib.hid (nxt_at hx hy)
          have hrt := hT.out x _ hxm hbq.out
          obtain ⟨tt1, tt2⟩ := len_i hrt
          obtain ⟨b', off', ha', _, d0⟩ := num_row hrt 0 _ hy
          obtain ⟨b4, off4, ha4, _, z0⟩ := num_row (hT.out x _ hxm (Below.refl _ _)) 0 _ hy
          rw [ha'] at ha4
          cases ha4
          have hbw' : b' < w.heap.size := World.block_lt_of_cell? _ _ z0
          clear z0
          rw [ha'] at c3
          rw [Nat.add_zero] at d0
          obtain ⟨v, hv⟩ : ∃ v, ws[m]? = some v := ⟨_, List.getElem?_eq_getElem (by rw [hW.out.len]; exact hml)⟩
          obtain ⟨w0, w1, w2⟩ := hW.out.at_ hv
          rw [h0] at c1
          replace h0 := Lib.hid h0
          have htl0 : (0 : Int) < (x.tt.length : Int) := by omega
          clear hx hxm hrt ha' hy hyr hbare cc1 cc2
          by_cases e1 : v = (k : Int) + 1
          · subst e1
            have hfin := Lib.hid (out_no hml (hM.out.new m hv))
            clear hv
            go_wp2_with fail
            go_ret
            exact ⟨ret_bool (by rw [hfin.out]; rfl), hbq.out⟩
          · have ne1 := ne_b e1
            by_cases e2 : v = 0
            · subst e2
              have hM2 := Lib.hid (hM.out.step hbt.out (by rw [hW.out.len]; exact hml))
              rw [hnx.out] at hM2
              have hW2 := Lib.hid (hW.out.set m ((k : Int) + 1))
              have hz1 := Lib.hid (zc_eq hW.out.blk)
              have hz2 := Lib.hid (zc_eq hW2.out.blk)
              have hz3 := Lib.hid (zl_set (x := (k : Int) + 1) hv (by omega))
              have hb2 := Lib.hid (hbq.out.setCell (p := ⟨w.heap.size, m, none⟩) (Nat.le_refl _) (.int .i64 ((k : Int) + 1)))
              clear hv hM hW hbt hnx
              go_wp2_with fail
              go_roundw
              case rel => exact ⟨n, rfl, hnl, hb2, _, hM2, hW2⟩
              case measure => rw [hz1.out, hz2.out]; exact hz3.out
            · have ne2 := ne_n e2
              have hM2 := Lib.hid (hM.out.done (hM.out.old m v hv e2 e1))
              clear hv e1 e2
              go_wp2_with fail
              go_roundw
              case rel => exact ⟨k + 1, by omega, by go_num, hbq, ws, hM2, hW⟩
              case measure => simp [intOf]; omega
        · have hbt : Hid (bareB l m = false) := Lib.hid (by rw [hbare.out]; simp [h0])
          have hne0 : ((x.code.length : Int) == 0) = false := ne_b (by omega)
          have hM2 := Lib.hid (hM.out.done (.here _ hbt.out))
          clear hx hxm hbare
          go_wp2_with fail
          go_roundw
          case rel => exact ⟨k + 1, by omega, by go_num, hbq, ws, hM2, hW⟩
          case measure => simp [intOf]; omega
    · have hk2 : k = l.length := by omega
      subst hk2
      have hfin := Lib.hid (out_yes hM.out.out)
      clear hM
      go_wp2_with fail
      go_ret
      exact ⟨ret_bool (by rw [hfin.out]; rfl), hb.out⟩
end Go.Proofs.YtkmlhijnkilfpaaDoor.Fw
namespace Go.Proofs.YtkmlhijnkilfpaaDoor.Fw
open Go Go.RowKit
open Go.Proofs.YtkmlhijnkilfpaaDoor.Lx Go.Proofs.YtkmlhijnkilfpaaDoor.Tr Go.Proofs.YtkmlhijnkilfpaaDoor.Cd

theorem fromOk_at {l : List Bk} {k : Nat} {x : Bk} (h : l[k]? = some x) : fromOk l k = decide (x.fm = fromsP l k) := by unfold fromOk; rw [h]
theorem first_at {l : List Bk} {x : Bk} (h : l[0]? = some x) : firstOk l = decide (x.fm.length = 0) := by
  cases l with
  | nil => simp at h
  | cons y r => simp at h; subst h; rfl
set_option maxHeartbeats 4000000 in
set_option maxRecDepth 100000 in
theorem mayWays_c (l : List Bk) (a : Option Addr) (cap : Nat) (w : World) (hrow : RowAt w Tt a cap l.length (bkCells l)) (hin : ∀ b ∈ l, Bk.In w b) (hto : ∀ b ∈ l, ∀ t ∈ b.tt, 0 ≤ t ∧ t < l.length) (hne : ∀ b ∈ l, b.code.length = 0 → 0 < b.tt.length) (hn : l.length ≤ 32768) (hpos : 1 ≤ l.length) :
    Calls Tryd.prog 28 #[.slice a l.length cap] w fun e w' => e = .returned (.bool (waysP l)) ∧ Below w.heap.size w w' := by
  obtain ⟨hc1, hc2⟩ := len_i hrow
  have hS0 := Lib.hid (sources_c l a cap w hrow hin hto hn)
  have hI := Lib.hid (fun V (hv : Below w.heap.size w V) => idle_c l a cap V (hrow.below (Kps.of_below hv)) (fun b hb => (hin b hb).keep hv) hto hne hn)
  have hR := Lib.hid (fun V (hv : Below w.heap.size w V) => hrow.below (Kps.of_below hv))
  have hF := Lib.hid (fun (b : Bk) V (hb : b ∈ l) (hv : Below w.heap.size w V) => ((hin b hb).keep hv).frow)
  have hE := Lib.hid (fun (xs ys : List Int) (a a' : Option Addr) (cap cap' : Nat) (V : World) h1 h2 => equalI_any xs ys a a' cap cap' V h1 h2)
  have hw : Hid (waysP l = (fromsOk l && (firstOk l && outP l))) := Lib.hid rfl
  have hfo : Hid (fromsOk l = (List.range l.length).all (fromOk l)) := Lib.hid rfl
  obtain ⟨b, off, ha, hjunk⟩ := bk_row hrow 0 _ (List.getElem?_eq_getElem (by omega))
  subst ha
  clear hrow hin hto hne hjunk
  go_enter Tryd.func28, Tryd.ntmps28
  go_wp2_with fail
  refine hS0.out.mono ?_
  rintro e w1 ⟨g, rfl, hS, hb1⟩
  replace hS := Lib.hid hS
  replace hb1 := Lib.hid hb1
  clear hS0
  have hgl : (l.length : Int) ≤ 32768 := by omega
  go_wp2_with fail
  go_loopw [8] (fun i wr => ∃ k : Nat, k ≤ l.length ∧ i = .int .i64 k ∧ Hid (((List.range l.length).take k).all (fromOk l) = true) ∧ Hid (Below w1.heap.size w1 wr)) (fun i _ => l.length - (intOf i).toNat)
  case atStart => exact ⟨0, Nat.zero_le _, rfl, Lib.hid rfl, Lib.hid (Below.refl _ _)⟩
  case round =>
    obtain ⟨k, hk, rfl, hall, hb⟩ := hrel
    have hbw := Lib.hid (hb1.out.trans (hb.out.mono hb1.out.size))
    by_cases hlt : k < l.length
    · obtain ⟨x, hx⟩ : ∃ x, l[k]? = some x := ⟨_, List.getElem?_eq_getElem hlt⟩
      obtain ⟨b2, off2, ha, _, c0, c1, c2, c3⟩ := bk_row (hR.out _ hbw.out) k x hx
      cases ha
      have hi0' : (0 : Int) ≤ (k : Int) := by omega
      have hi1 : (k : Int) < (l.length : Int) := by omega
      have hxm := List.mem_of_getElem? hx
      have hrk : (List.range l.length)[k]? = some k := by simp [hlt]
      have hno := Lib.hid (fun h => all_no (f := fromOk l) hrk h)
      have hyes := Lib.hid (all_take (f := fromOk l) hrk)
      have hfk := Lib.hid (fromOk_at hx)
      obtain ⟨fa, fcap, e0, ef, ho, hro⟩ := (hS.out.keep hb.out).get hlt
      have hEx := Lib.hid (hE.out x.fm (fromsP l k) x.fa fa x.fcap fcap _ (hF.out x _ hxm hbw.out) hro)
      clear hx hxm hrk ho hro hE
      cases hv : decide (x.fm = fromsP l k)
      · rw [hv] at hEx
        have hfin := Lib.hid (hno.out (by rw [hfk.out, hv]))
        clear hv hfk hno hyes hall
        go_wp2_with fail
        refine hEx.out.mono ?_
        rintro e w2 ⟨rfl, hb2⟩
        have g2 := Lib.hid (hbw.out.trans (hb2.mono hbw.out.size))
        clear hb2
        go_wp2_with fail
        go_ret
        exact ⟨ret_bool (by rw [hw.out, hfo.out, hfin.out]; rfl), g2.out⟩
      · rw [hv] at hEx
        have hn2 : Hid (((List.range l.length).take (k + 1)).all (fromOk l) = true) := Lib.hid (by rw [hyes.out, hall.out, hfk.out, hv]; rfl)
        clear hv hfk hno hyes hall
        go_wp2_with fail
        refine hEx.out.mono ?_
        rintro e w2 ⟨rfl, hb2⟩
        have g2 := Lib.hid (hb.out.trans (hb2.mono hb.out.size))
        clear hb2
        go_wp2_with fail
        go_roundw
        case rel => exact ⟨k + 1, by omega, by go_num, hn2, g2⟩
        case measure => simp [intOf]; omega
    · have hk2 : k = l.length := by omega
      have hfos : Hid (fromsOk l = true) := Lib.hid (by
        rw [hfo.out]
        have := hall.out
        rw [List.take_of_length_le (by simp; omega)] at this
        exact this)
      obtain ⟨x, hx⟩ : ∃ x, l[0]? = some x := ⟨_, List.getElem?_eq_getElem (by omega)⟩
      obtain ⟨b2, off2, ha, _, c0, c1, c2, c3⟩ := bk_row (hR.out _ hbw.out) 0 x hx
      cases ha
      obtain ⟨cf1, cf2⟩ := len_i (hF.out x _ (List.mem_of_getElem? hx) hbw.out)
      rw [Nat.zero_mul, Nat.add_zero] at c2
      have hfi := Lib.hid (first_at hx)
      have hIx := Lib.hid (hI.out _ hbw.out)
      have hpos0 : 0 < l.length := by omega
      clear hx hall hI c0 c1 c3
      by_cases h0 : x.fm.length = 0
      · have hfi2 : Hid (firstOk l = true) := Lib.hid (by rw [hfi.out, h0]; rfl)
        rw [h0] at c2
        clear hfi h0
        generalize outP l = v at *
        go_wp2_with fail
        refine hIx.out.mono ?_
        rintro e w2 ⟨rfl, hb2⟩
        have g2 := Lib.hid (hbw.out.trans (hb2.mono hbw.out.size))
        clear hb2
        go_wp2_with fail
        go_ret
        exact ⟨ret_bool (by rw [hw.out, hfos.out, hfi2.out]; simp), g2.out⟩
      · have hfi2 : Hid (firstOk l = false) := Lib.hid (by rw [hfi.out]; simp [h0])
        have hne0 := ne_b (a := (x.fm.length : Int)) (b := 0) (by omega)
        clear hfi h0
        go_wp2_with fail
        go_ret
        exact ⟨ret_bool (by rw [hw.out, hfi2.out]; simp), hbw.out⟩
end Go.Proofs.YtkmlhijnkilfpaaDoor.Fw
