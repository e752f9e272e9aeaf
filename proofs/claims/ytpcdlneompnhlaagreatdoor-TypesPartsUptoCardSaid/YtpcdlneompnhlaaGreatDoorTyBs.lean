/- The looker between declarations; the search for a circle in memory: what it keeps. Conditions: none. · Walk of returns: do calls lead back to a declaration? Conditions: the looker lies in memory. · Walk of circles. Conditions: the looker lies in memory. -/
import Derived.Test.YtpcdlneompnhlaaGreatDoorTyR1
import Derived.Test.YtpcdlneompnhlaaGreatDoorTyV0
import Derived.Laws.MakeOwn
import Derived.Laws.OwnMore
import Derived.WalkSmall
import Derived.Maps.AppendAt
import Derived.Deep.LoopGhost
namespace Go.Proofs.YtpcdlneompnhlaaGreatDoor.Ty
open Go Go.RowKit
open Go.Proofs.YtpcdlneompnhlaaGreatDoor.Lx Go.Proofs.YtpcdlneompnhlaaGreatDoor.Tr

def lkVals1 (c : Lc) (x1 x2 x3 : Value) (x4 : Bool) : Array Value := ⟨[.slice c.pa c.ds.length c.pcap, .map (some c.dm)] ++ exFs ++ stFs ++ [.slice (some ⟨c.cb, 0, none⟩) c.ds.length c.ds.length, x1, x2, x3, .bool x4]⟩
/-- the looker between declarations -/
structure LkA (c : Lc) (rs : List CRow) (w : World) : Prop where
  blk : ∃ x1 x2 x3 x4, w.heap[c.lb]? = some (.cells (lkVals1 c x1 x2 x3 x4) 127 (0, 0))
  mD : MpS w c.dm (c.D.map fun x => (x.1, .int .i64 x.2))
  row : RowAt w (fun b => b < c.B) c.pa c.pcap c.ds.length (deCells c.ds)
  ins : De.InL w (fun b => b < c.B) c.ds
  dlt : ∀ x ∈ c.D, x.2 < c.ds.length
  cbl : w.heap[c.cb]? = some (.cells ⟨rs.map CRow.val⟩ 180 (0, 0))
  cln : rs.length = c.ds.length
  rows : ∀ (i : Nat) (r : CRow), rs[i]? = some r → w.ownsRow c.B 3 1 r.val r.l.length (r.l.map fun n : Nat => Value.int .i64 (n : Int)) ∧ (∀ n ∈ r.l, n < c.ds.length) ∧ ∀ b, r.val.ownBlock = some b → b ≠ c.lb ∧ b ≠ c.cb
  rone : ∀ (i j : Nat) (ri rj : CRow) (b : Nat), rs[i]? = some ri → rs[j]? = some rj → ri.val.ownBlock = some b → rj.val.ownBlock = some b → i = j
  rnd : ∀ r ∈ rs, r.l.Nodup
  few : c.ds.length ≤ 256
  hi : c.B ≤ c.lb ∧ c.B ≤ c.dm ∧ c.B ≤ c.cb
  ne : c.lb ≠ c.cb
theorem Lk.toA {c : Lc} {s : Ls} {w : World} (h : Lk c s w) : LkA c s.calls w :=
  ⟨⟨_, _, _, _, h.blk⟩, h.mD, h.row, h.ins, h.dlt, h.cbl, h.cln, h.rows, h.rone, h.rnd, h.few, ⟨h.hi.1, h.hi.2.1, h.hi.2.2.1⟩, h.ne.2.2.2⟩
theorem LkA.ext {c : Lc} {rs : List CRow} {w w' : World} (h : LkA c rs w) (hb : Below w.heap.size w w') : LkA c rs w' where
  blk := by
    obtain ⟨x1, x2, x3, x4, h1⟩ := h.blk
    exact ⟨x1, x2, x3, x4, (hb.block _ (cells_lt h1)).trans h1⟩
  mD := h.mD.below hb h.mD.lt
  row := h.row.below (Kps.of_below hb)
  ins := De.InL.below (Kps.of_below hb) h.ins
  dlt := h.dlt
  cbl := (hb.block _ (cells_lt h.cbl)).trans h.cbl
  cln := h.cln
  rows := fun i r hr => ⟨own_keep (h.rows i r hr).1 fun _ hb' => hb.block _ (own_lt (h.rows i r hr).1 hb'), (h.rows i r hr).2⟩
  rone := h.rone
  rnd := h.rnd
  few := h.few
  hi := h.hi
  ne := h.ne
/-- a row of callees: its cells -/
theorem crow_at {w : World} {B : Nat} {r : CRow} (h : w.ownsRow B 3 1 r.val r.l.length (r.l.map fun n : Nat => Value.int .i64 (n : Int))) : ∃ a cap, r.val = .slice a r.l.length cap ∧ ∀ (j t : Nat), r.l[j]? = some t → ∃ g, a = some ⟨g, 0, none⟩ ∧ w.cell? ⟨g, j, none⟩ = some (.int .i64 (t : Int)) := by
  obtain ⟨v, l⟩ := r
  rcases h.2 with ⟨hv, h0⟩ | ⟨g, cap, cur, hv, _, hg, _, _, _, htk⟩
  · simp only at hv h0 ⊢
    have : l = [] := List.length_eq_zero_iff.1 h0
    subst this
    exact ⟨none, 0, hv, fun j t ht => by simp at ht⟩
  · simp only at hv htk ⊢
    refine ⟨some ⟨g, 0, none⟩, cap, hv, fun j t ht => ⟨g, rfl, ?_⟩⟩
    have hj : j < l.length := (List.getElem?_eq_some_iff.1 ht).1
    refine blk_cell hg ?_
    have h1 := congrArg (·[j]?) htk
    simp only [List.getElem?_take, Nat.mul_one, hj, if_true, List.getElem?_map, ht, Option.map_some] at h1
    rw [Array.getElem?_toList] at h1
    exact h1
def flags (n : Nat) (met : List Nat) : Array Value := ⟨(List.range n).map fun j => .bool (decide (j ∈ met))⟩
theorem flags_at {n : Nat} {met : List Nat} {t : Nat} (h : t < n) : (flags n met)[t]? = some (.bool (decide (t ∈ met))) := by
  unfold flags
  simp [h]
theorem flags_set {n : Nat} {met : List Nat} {t : Nat} : (flags n met).setIfInBounds t (.bool true) = flags n (t :: met) := by
  unfold flags
  apply Array.ext'
  rw [Array.toList_setIfInBounds]
  apply List.ext_getElem?
  intro j
  simp only [List.getElem?_set, List.length_map, List.length_range, List.getElem?_map]
  by_cases hj : t = j
  · subst hj
    by_cases hn : t < n
    · simp [hn]
    · simp [hn]
  · rw [if_neg hj]
    by_cases hn : j < n
    · simp [hn, Ne.symm hj]
    · simp [hn]
theorem flags_made (n : Nat) : madeCells #[.bool false] n = flags n [] := by
  unfold flags madeCells
  apply Array.ext'
  simp
  intro a _
  rw [Nat.mod_one]
  rfl
theorem info_bool : (Tryz.prog.info? 4).map (fun i => (i.zero, i.size, i.bytes)) = some (some (.bool false), 1, 1) := by kernel_rfl
theorem info_int2 : (Tryz.prog.info? 3).map (fun i => (i.zero, i.size, i.bytes)) = some (some (.int .i64 0), 1, 8) := by kernel_rfl
theorem make_met (n : Nat) (hn : n ≤ 256) (V : World) : (Instr.makeSlice 183 (.int .i64 (n : Int)) (.int .i64 (n : Int))).run Tryz.prog V = .ok (.slice (some ⟨V.heap.size, 0, none⟩) n n) (V.alloc (.cells (flags n []) 4)) := by
  obtain ⟨i0, hi0, hz0, hz1, hz2⟩ := info_parts info_bool
  have h := run_makeSlice (P := Tryz.prog) V 183 4 i0 _ Tryz.underlying183 hi0 hz0 .i64 .i64 (n : Int) (n : Int) (by omega) (Int.le_refl _) (by rw [hz1]; omega) (by rw [hz2]; omega) (by omega)
  rw [hz1, Int.toNat_natCast, Nat.mul_one] at h
  rw [h]
  have e : madeCells (Value.bool false).cells n = flags n [] := flags_made n
  rw [e]
/-- what the search keeps in memory: the met ones in block mb, the rest to be looked at -/
structure RetI (n mb : Nat) (w wr : World) (met left : List Nat) (v : Value) : Prop where
  own : wr.ownsRow (mb + 1) 3 1 v left.length (left.map fun n : Nat => Value.int .i64 (n : Int))
  blk : wr.heap[mb]? = some (.cells (flags n met) 4 (0, 0))
  below : Below w.heap.size w wr
  big : w.heap.size ≤ mb
  nd : met.Nodup
  lt : ∀ x ∈ met, x < n
  llt : ∀ x ∈ left, x < n
theorem RetI.form {n mb : Nat} {w wr : World} {met left : List Nat} {v : Value} (h : RetI n mb w wr met left v) : ∃ a cap, v = .slice a left.length cap := by
  obtain ⟨a, cap, h1, _⟩ := crow_at (r := ⟨v, left⟩) h.own
  exact ⟨a, cap, h1⟩
theorem RetI.pop {n mb : Nat} {w wr : World} {met ini : List Nat} {t : Nat} {v : Value} (h : RetI n mb w wr met (ini ++ [t]) v) : ∃ g cap, v = .slice (some ⟨g, 0, none⟩) (ini.length + 1) cap ∧ ini.length + 1 ≤ cap ∧ cap ≤ maxLen ∧ wr.cell? ⟨g, ini.length, none⟩ = some (.int .i64 (t : Int)) ∧ RetI n mb w wr met ini (.slice (some ⟨g, 0, none⟩) ini.length cap) ∧ t < n := by
  have hown := h.own
  rw [List.length_append, List.map_append] at hown
  obtain ⟨hl, ⟨_, h0⟩ | ⟨g, cap, cur, hv, hB, hg, h1, h2, h3, h4⟩⟩ := hown
  · simp at h0
  · obtain ⟨a, cap', hv', hc⟩ := crow_at (r := ⟨v, ini ++ [t]⟩) h.own
    obtain ⟨g', he, hcell⟩ := hc ini.length t (by simp)
    have hv2 : v = .slice (some ⟨g, 0, none⟩) (ini.length + 1) cap := hv
    simp only at hv'
    rw [hv2, he] at hv'
    simp at hv'
    obtain ⟨e1, e2⟩ := hv'
    subst e1
    refine ⟨g, cap, hv2, h1, h2, hcell, ⟨?_, h.blk, h.below, h.big, h.nd, h.lt, fun x hx => h.llt x (List.mem_append_left _ hx)⟩, h.llt t (by simp)⟩
    exact ownsRow_pop (last := [.int .i64 (t : Int)]) (by simp) (show wr.ownsRow (mb + 1) 3 1 (.slice (some ⟨g, 0, none⟩) (ini.length + 1) cap) (ini.length + 1) (ini.map (fun n : Nat => Value.int .i64 (n : Int)) ++ [.int .i64 (t : Int)]) from ⟨hl, .inr ⟨g, cap, cur, rfl, hB, hg, h1, h2, h3, h4⟩⟩)
/-- one more is met, and to be looked at -/
theorem RetI.push {n mb : Nat} {w wr W6 : World} {met left : List Nat} {v v' : Value} {t : Nat} (h : RetI n mb w wr met left v) (ht : t < n) (hm : t ∉ met)
    (hown : W6.ownsRow (mb + 1) 3 1 v' (left.length + 1) (left.map (fun n : Nat => Value.int .i64 (n : Int)) ++ [.int .i64 (t : Int)])) (hg : ((wr.setCell ⟨mb, t, none⟩ (.bool true)).alloc (.cells #[.int .i64 (t : Int)] 3)).grownBy W6 v.ownBlock) : RetI n mb w W6 (t :: met) (left ++ [t]) v' := by
  have hbs := h.below.size
  have hmb := cells_lt h.blk
  have hlow : ∀ k, v.ownBlock = some k → mb + 1 ≤ k := fun k hk => (h.own.lt k hk).1
  have h1 : (wr.setCell ⟨mb, t, none⟩ (.bool true)).heap[mb]? = some (.cells (flags n (t :: met)) 4 (0, 0)) := by
    have := heap_set h.blk t (.bool true)
    rw [flags_set] at this
    exact this
  have hsz : (wr.setCell ⟨mb, t, none⟩ (.bool true)).heap.size = wr.heap.size := by simp [World.setCell]
  have h2 := (Below.heap_alloc (wr.setCell ⟨mb, t, none⟩ (.bool true)) (.cells #[.int .i64 (t : Int)] 3) mb (by rw [hsz]; exact hmb)).trans h1
  refine ⟨?_, ?_, ?_, h.big, List.nodup_cons.2 ⟨hm, h.nd⟩, fun x hx => ?_, fun x hx => ?_⟩
  · rw [List.length_append, List.map_append]; exact hown
  · exact (hg.block mb (cells_lt h2) (fun e => by have := hlow mb e.symm; omega)).trans h2
  · refine Below.grown (((h.below.setCell (show w.heap.size ≤ (⟨mb, t, none⟩ : Addr).block from h.big) _)).alloc (by rw [hsz]; omega) _) hg (by simp [hsz]; omega) (fun k hk => by have := hlow k hk; have := h.big; omega)
  · rcases List.mem_cons.1 hx with rfl | hx
    · exact ht
    · exact h.lt x hx
  · rcases List.mem_append.1 hx with hx | hx
    · exact h.llt x hx
    · rw [List.mem_singleton.1 hx]; exact ht
theorem dfsK_succ (calls : List (List Nat)) (start f : Nat) (met ini : List Nat) (t : Nat) : dfsK calls start (f + 1) met (ini ++ [t]) = match rowK start (calls.getD t []) met ini with
    | none => true
    | some (m, l) => dfsK calls start f m l := by
  conv => lhs; unfold dfsK
  rw [show (ini ++ [t]).getLast? = some t by simp, show (ini ++ [t]).dropLast = ini by simp]
  rfl
theorem dfsK_nil (calls : List (List Nat)) (start f : Nat) (met : List Nat) : dfsK calls start f met [] = false := by
  cases f <;> simp [dfsK]
theorem rowK_stop (start : Nat) (r met left : List Nat) : rowK start (start :: r) met left = none := by
  unfold rowK; rw [if_pos rfl]
theorem rowK_old {start t : Nat} (r : List Nat) {met : List Nat} (left : List Nat) (h : t ≠ start) (hm : t ∈ met) : rowK start (t :: r) met left = rowK start r met left := by
  conv => lhs; unfold rowK
  rw [if_neg h, if_pos hm]
theorem rowK_push {start t : Nat} (r : List Nat) {met : List Nat} (left : List Nat) (h : t ≠ start) (hm : t ∉ met) : rowK start (t :: r) met left = rowK start r (t :: met) (left ++ [t]) := by
  conv => lhs; unfold rowK
  rw [if_neg h, if_neg hm]
theorem rowK_nil (start : Nat) (met left : List Nat) : rowK start [] met left = some (met, left) := rfl
end Go.Proofs.YtpcdlneompnhlaaGreatDoor.Ty

namespace Go.Proofs.YtpcdlneompnhlaaGreatDoor.Ty
open Go Go.RowKit
open Go.Proofs.YtpcdlneompnhlaaGreatDoor.Lx Go.Proofs.YtpcdlneompnhlaaGreatDoor.Tr

set_option maxHeartbeats 8000000 in
set_option maxRecDepth 100000 in
theorem returns_c {c : Lc} {rs : List CRow} {w : World} (h : LkA c rs w) (start : Nat) (hst : start < c.ds.length) :
    Calls Tryz.prog 137 #[.pointer (some ⟨c.lb, 0, none⟩), .int .i64 (start : Int)] w fun e w' => e = .returned (.bool (backK (rs.map CRow.l) start)) ∧ Below w.heap.size w w' := by
  generalize hr : backK (rs.map CRow.l) start = r
  unfold backK at hr
  obtain ⟨n, hn⟩ : ∃ n, c.ds.length = n := ⟨_, rfl⟩
  have hlen : (rs.map CRow.l).length = n := by rw [List.length_map, h.cln, hn]
  rw [hlen] at hr
  rw [hn] at hst
  have hn256 : n ≤ 256 := by rw [← hn]; exact h.few
  obtain ⟨x1, x2, x3, x4, hblk⟩ := h.blk
  have c0 : w.cell? ⟨c.lb, 0, none⟩ = some (.slice c.pa n c.pcap) := by rw [← hn]; exact blk_cell hblk rfl
  have hmk := make_met n hn256
  have hL30 : Hid (∀ V, Below w.heap.size w V → V.cell? ⟨c.lb, 30, none⟩ = some (.slice (some ⟨c.cb, 0, none⟩) n n)) := Lib.hid fun V hV => by
    rw [← hn]; exact blk_cell ((hV.block _ (cells_lt hblk)).trans hblk) rfl
  have hLrow : Hid (∀ V, Below w.heap.size w V → ∀ t, t < n → ∃ row : CRow, rs[t]? = some row ∧ (rs.map CRow.l).getD t [] = row.l ∧ V.cell? ⟨c.cb, t, none⟩ = some row.val ∧ V.ownsRow c.B 3 1 row.val row.l.length (row.l.map fun n : Nat => Value.int .i64 (n : Int)) ∧ (∀ x ∈ row.l, x < n) ∧ row.l.length ≤ 256) := Lib.hid fun V hV t ht => by
    have hx := h.ext hV
    obtain ⟨row, hrow⟩ : ∃ row, rs[t]? = some row := ⟨_, List.getElem?_eq_getElem (by rw [h.cln, hn]; exact ht)⟩
    have hrw := hx.rows t row hrow
    rw [hn] at hrw
    refine ⟨row, hrow, ?_, blk_cell hx.cbl (by simp [hrow]), hrw.1, hrw.2.1, ?_⟩
    · rw [List.getD_eq_getElem?_getD, List.getElem?_map, hrow]; rfl
    · have := lt_len (h.rnd _ (List.mem_of_getElem? hrow)) hrw.2.1
      omega
  generalize (rs.map CRow.l) = calls at *
  obtain ⟨i0, hi0, hz0, hz1, hz2⟩ := info_parts info_int2
  have hinit : Hid (RetI n w.heap.size w ((w.alloc (.cells (flags n []) 4)).alloc (.cells #[.int .i64 (start : Int)] 3)) [] [start] (.slice (some ⟨w.heap.size + 1, 0, none⟩) 1 1)) := Lib.hid (by
    have hs1 : (w.alloc (.cells (flags n []) 4)).heap.size = w.heap.size + 1 := by simp
    refine ⟨?_, ?_, ((Below.refl _ _).alloc (Nat.le_refl _) _).alloc (by simp) _, Nat.le_refl _, by simp, by simp, by simp; exact hst⟩
    · refine ⟨by simp, .inr ⟨w.heap.size + 1, 1, #[.int .i64 (start : Int)], rfl, Nat.le_refl _, ?_, Nat.le_refl _, by unfold maxLen; omega, rfl, rfl⟩⟩
      have := World.alloc_heap_new (w.alloc (.cells (flags n []) 4)) (.cells #[.int .i64 (start : Int)] 3)
      rw [hs1] at this
      exact this
    · exact (Below.heap_alloc _ _ _ (by simp)).trans (World.alloc_heap_new w _))
  replace hr := Lib.hid hr
  clear h hblk hn
  go_enter Tryz.func137, Tryz.ntmps137
  go_wp2_with fail
  go_loopg [6] (2 * n + 2) (fun f v wr => ∃ met left : List Nat, Hid (RetI n w.heap.size w wr met left v) ∧ Hid (dfsK calls start f met left = r) ∧ left.length + 2 * (n - met.length) + 1 ≤ f ∧ left.length + 2 * (n - met.length) ≤ 2 * n + 1)
  case atStart => exact ⟨[], [start], hinit, hr, by simp; omega, by simp; omega⟩
  case round =>
    obtain ⟨met, left, hI, hd, hf, hf2⟩ := hrel
    clear hinit hr c0 hmk
    rcases List.eq_nil_or_concat left with hl | ⟨ini, t, hl⟩
    · subst hl
      obtain ⟨a, cap, hv⟩ := hI.out.form
      subst hv
      have hd' := hd.out
      rw [dfsK_nil] at hd'
      subst hd'
      clear hd
      go_wp2_with fail
      go_ret
      exact ⟨rfl, hI.out.below⟩
    · rw [List.concat_eq_append] at hl
      subst hl
      obtain ⟨g, cap, hv, hc1, hc2, hcell, hI2, htn⟩ := hI.out.pop
      subst hv
      obtain ⟨f', hf'⟩ : ∃ f', gk = f' + 1 := ⟨gk - 1, by omega⟩
      have hd' := hd.out
      rw [hf', dfsK_succ] at hd'
      obtain ⟨row, hrow0, hrow1, hrow2, hrow3, hrow4, hrow5⟩ := hLrow.out wr hI.out.below t htn
      rw [hrow1] at hd'
      have c30 := hL30.out wr hI.out.below
      obtain ⟨ra, rcap, hrv, hrc⟩ := crow_at hrow3
      rw [hrv] at hrow2
      have hrest : Hid (∀ V, Below w.heap.size w V → ∀ (j x : Nat), row.l[j]? = some x → ∃ g, ra = some ⟨g, 0, none⟩ ∧ V.cell? ⟨g, j, none⟩ = some (.int .i64 (x : Int))) := Lib.hid fun V hV j x hx => by
        obtain ⟨row', hr0, _, _, hr3, _⟩ := hLrow.out V hV t htn
        rw [hrow0] at hr0
        cases hr0
        obtain ⟨ra', rcap', hrv', hrc'⟩ := crow_at hr3
        rw [hrv] at hrv'
        simp only [Value.slice.injEq, true_and] at hrv'
        obtain ⟨e1, _⟩ := hrv'
        subst e1
        exact hrc' j x hx
      have hmeas : Hid (ini.length + 2 * (n - met.length) + 1 ≤ f' ∧ ini.length + 2 * (n - met.length) ≤ 2 * n) := Lib.hid (by
        rw [List.length_append, List.length_singleton] at hf hf2
        omega)
      have hil : ini.length ≤ 1000 := by have := hmeas.out; omega
      obtain ⟨m, hm⟩ : ∃ m, ini.length = m := ⟨_, rfl⟩
      rw [hm] at hc1 hcell hil ⊢
      have hm' := Lib.hid hm
      have hgk := Lib.hid hf'
      have hkap : cap ≤ 9223372036854775807 := by unfold maxLen at hc2; exact hc2
      replace hI2 := Lib.hid hI2
      replace hd' := Lib.hid hd'
      replace hrow3 := Lib.hid hrow3
      replace hrow4 := Lib.hid hrow4
      replace hrow0 := Lib.hid hrow0
      replace hc2 := Lib.hid hc2
      have ht0 : (0 : Int) ≤ (t : Int) := by omega
      have ht1 : (t : Int) < (n : Int) := by omega
      have hm0 : (0 : Int) < (m : Int) + 1 := by omega
      clear hd hf hf2 hI hrow1 hrv hm hf' hrc
      go_wp2_with fail
      have hI3 : Hid (RetI n w.heap.size w wr met ini (.slice (some ⟨g, 0, none⟩) m cap)) := Lib.hid (by rw [← hm'.out]; exact hI2.out)
      have hmm : Hid (ini.length + 2 * (n - met.length) ≤ ini.length + 2 * (n - met.length)) := Lib.hid (Nat.le_refl _)
      obtain ⟨q, hq⟩ : ∃ q, rowK start row.l met ini = q := ⟨_, rfl⟩
      have hd2 := hd'.out
      rw [hq] at hd2
      replace hq := Lib.hid hq
      replace hd2 := Lib.hid hd2
      clear hd' hI2 hcell hc1 hrow0 hrow2 hrow3 c30
      go_loopg [6, 40] row.l.length (fun k v iv wi => ∃ (j : Nat) (met' left' : List Nat), iv = .int .i64 j ∧ j ≤ row.l.length ∧ k = row.l.length - j ∧ Hid (RetI n w.heap.size w wi met' left' v) ∧ Hid (rowK start (row.l.drop j) met' left' = q) ∧ Hid (left'.length + 2 * (n - met'.length) ≤ ini.length + 2 * (n - met.length)))
      case atStart => exact ⟨0, met, ini, rfl, Nat.zero_le _, rfl, hI3, hq, hmm⟩
      case round =>
        obtain ⟨j, met', left', rfl, hj, hk, hI', hq', hms⟩ := hrel
        clear hI3 hq hmm
        by_cases hlt : j < row.l.length
        · obtain ⟨x, hx⟩ : ∃ x, row.l[j]? = some x := ⟨_, List.getElem?_eq_getElem hlt⟩
          obtain ⟨rg, hrg, hrcell⟩ := hrest.out wr hI'.out.below j x hx
          subst hrg
          have hxn : x < n := hrow4.out x (List.mem_of_getElem? hx)
          have hdrop : row.l.drop j = x :: row.l.drop (j + 1) := drop_c1 hx
          have hq2 := hq'.out
          rw [hdrop] at hq2
          have hj0 : (0 : Int) ≤ (j : Int) := by omega
          have hj1 : (j : Int) < (row.l.length : Int) := by omega
          have hx0 : (0 : Int) ≤ (x : Int) := by omega
          have hx1 : (x : Int) < (n : Int) := by omega
          have hkk := Lib.hid hk
          clear hdrop hx hk hq'
          by_cases hxs : x = start
          · subst hxs
            rw [rowK_stop] at hq2
            subst hq2
            have hr3 : Hid (true = r) := hd2
            have hfin := Lib.hid hI'.out.below
            clear hI' hd2
            go_wp2_with fail
            go_ret
            exact ⟨by rw [← hr3.out]; rfl, hfin.out⟩
          · have hxs0 : ((x : Int) == (start : Int)) = false := by
              rw [beq_eq_false_iff_ne]
              omega
            have hcm : wr.cell? ⟨w.heap.size, x, none⟩ = some (.bool (decide (x ∈ met'))) := blk_cell hI'.out.blk (flags_at hxn)
            have hfm : wr.frozen? ⟨w.heap.size, x, none⟩ = false := blk_free hI'.out.blk x
            by_cases hmem : x ∈ met'
            · rw [decide_eq_true hmem] at hcm
              rw [rowK_old _ _ hxs hmem] at hq2
              replace hq2 := Lib.hid hq2
              clear hxs hmem
              go_wp2_with fail
              go_roundg (row.l.length - (j + 1))
              case measure => have := hkk.out; omega
              case rel => exact ⟨j + 1, met', left', by go_num, by omega, rfl, hI', hq2, hms⟩
            · rw [decide_eq_false hmem] at hcm
              rw [rowK_push _ _ hxs hmem] at hq2
              replace hq2 := Lib.hid hq2
              have hmem' := Lib.hid hmem
              have hsz : (wr.setCell ⟨w.heap.size, x, none⟩ (.bool true)).heap.size = wr.heap.size := by simp [World.setCell]
              have hbig := Nat.lt_of_lt_of_le (Nat.lt_succ_self w.heap.size) (show w.heap.size + 1 ≤ wr.heap.size from cells_lt hI'.out.blk)
              have hown : ((wr.setCell ⟨w.heap.size, x, none⟩ (.bool true)).alloc (.cells #[.int .i64 (x : Int)] 3)).ownsRow (w.heap.size + 1) 3 1 u6 left'.length (left'.map fun n : Nat => Value.int .i64 (n : Int)) := own_keep hI'.out.own fun k hk => by
                have h1 := hI'.out.own.lt k hk
                exact (Below.heap_alloc _ _ k (by rw [hsz]; exact h1.2)).trans (Below.heap_setCell _ _ _ _ (by show k ≠ w.heap.size; omega))
              have hll : left'.length ≤ 1000 := by have h1 := hms.out; have h2 := hmeas.out; omega
              have hle : Hid ((x :: met').length ≤ n) := Lib.hid (lt_len (List.nodup_cons.2 ⟨hmem, hI'.out.nd⟩) (fun y hy => by
                rcases List.mem_cons.1 hy with rfl | hy
                · exact hxn
                · exact hI'.out.lt y hy))
              clear hxs hmem
              go_wp2_with (at_builtin; refine wpList_append_own_at _ rfl (.tmp 55) (.tmp 57) 180 rfl (w.heap.size + 1) 3 i0 _ 1 8 Tryz.underlying180 hi0 hz0 hz1 hz2 rfl (by decide) u6 left'.length _ rfl hown ⟨wr.heap.size, 0, none⟩ 1 1 [.int .i64 (x : Int)] rfl rfl ?c1 ?c2 ?c3 ?c4 ?c5 ?_)
              case c1 =>
                intro j u hj
                have hj0 : j = 0 := by
                  have := (List.getElem?_eq_some_iff.1 hj).1
                  simp at this
                  omega
                subst hj0
                simp at hj
                subst hj
                have h1 := World.alloc_heap_new (wr.setCell ⟨w.heap.size, x, none⟩ (.bool true)) (.cells #[.int .i64 (x : Int)] 3)
                rw [hsz] at h1
                exact blk_cell h1 rfl
              case c2 => intro u hu; simp at hu; subst hu; rfl
              case c3 => unfold maxLen; omega
              case c4 => omega
              case c5 => simp [hsz]; omega
              intro v' W6 hown' hgrow _ _
              have hpush := Lib.hid (hI'.out.push hxn hmem'.out hown' hgrow)
              have hms2 : Hid ((left' ++ [x]).length + 2 * (n - (x :: met').length) ≤ ini.length + 2 * (n - met.length)) := Lib.hid (by
                have h1 := hms.out
                have h2 := hle.out
                simp only [List.length_append, List.length_cons, List.length_nil] at h2 ⊢
                omega)
              clear hown' hgrow hown hI'
              go_wp2_with fail
              go_roundg (row.l.length - (j + 1))
              case measure => have := hkk.out; omega
              case rel => exact ⟨j + 1, x :: met', left' ++ [x], by go_num, by omega, rfl, hpush, hq2, hms2⟩
        · have hge : ¬ ((j : Int) < (row.l.length : Int)) := by omega
          have hq2 := hq'.out
          rw [List.drop_eq_nil_of_le (by omega), rowK_nil] at hq2
          subst hq2
          have hd3 : Hid (dfsK calls start f' met' left' = r) := hd2
          have hm3 : Hid (left'.length + 2 * (n - met'.length) + 1 ≤ f' ∧ left'.length + 2 * (n - met'.length) ≤ 2 * n + 1) := Lib.hid (by
            have h1 := hms.out
            have h2 := hmeas.out
            omega)
          have hgk2 := hgk.out
          clear hlt hk hq' hd2
          go_wp2_with fail
          go_roundg f'
          case measure => omega
          case rel => exact ⟨met', left', hI', hd3, hm3.out.1, hm3.out.2⟩
end Go.Proofs.YtpcdlneompnhlaaGreatDoor.Ty

namespace Go.Proofs.YtpcdlneompnhlaaGreatDoor.Ty
open Go Go.RowKit
open Go.Proofs.YtpcdlneompnhlaaGreatDoor.Lx Go.Proofs.YtpcdlneompnhlaaGreatDoor.Tr

theorem circK_drop {calls : List (List Nat)} {ds : List De} {k : Nat} {d : De} (hd : ds[k]? = some d) : circK calls (ds.drop k) k = if backK calls k = true then .error (d.pos, 67) else circK calls (ds.drop (k + 1)) (k + 1) := by
  rw [drop_c1 hd]
  conv => lhs; unfold circK
set_option maxHeartbeats 4000000 in
set_option maxRecDepth 100000 in
theorem circles_c {c : Lc} {rs : List CRow} {w : World} (h : LkA c rs w) : Calls Tryz.prog 90 #[.pointer (some ⟨c.lb, 0, none⟩)] w (PostW w (circK (rs.map CRow.l) c.ds 0)) := by
  generalize hr : circK (rs.map CRow.l) c.ds 0 = r
  have hll : c.ds.length ≤ 256 := h.few
  obtain ⟨x1, x2, x3, x4, hblk⟩ := h.blk
  have c0 : w.cell? ⟨c.lb, 0, none⟩ = some (.slice c.pa c.ds.length c.pcap) := blk_cell hblk rfl
  have hR := Lib.hid refuse_c
  have hC := Lib.hid (fun (V : World) (hV : Below w.heap.size w V) (k : Nat) (hk : k < c.ds.length) => returns_c (h.ext hV) k hk)
  have hrow := Lib.hid (fun (V : World) (hV : Below w.heap.size w V) => h.row.below (Kps.of_below hV))
  have hb0 : Hid (Below w.heap.size w w) := Lib.hid (Below.refl _ _)
  replace hr := Lib.hid hr
  clear h hblk
  go_enter Tryz.func90, Tryz.ntmps90
  go_wp2_with fail
  go_loopw [9] (fun i wr => ∃ k : Nat, i = .int .i64 k ∧ k ≤ c.ds.length ∧ Hid (Below w.heap.size w wr) ∧ Hid (circK (rs.map CRow.l) (c.ds.drop k) k = r)) (fun i _ => c.ds.length - (intOf i).toNat)
  case atStart => exact ⟨0, rfl, Nat.zero_le _, hb0, hr⟩
  case round =>
    obtain ⟨k, rfl, hk, hb, hrk⟩ := hrel
    clear hr c0 hb0
    by_cases hlt : k < c.ds.length
    · obtain ⟨d, hd⟩ : ∃ d, c.ds[k]? = some d := ⟨_, List.getElem?_eq_getElem hlt⟩
      have hrk' := hrk.out
      rw [circK_drop hd] at hrk'
      obtain ⟨b, off, ha, hbd, d0, d1, d2, d3, d4, d5⟩ := de_at (hrow.out wr hb.out) hd
      rw [ha]
      have hi0 : (0 : Int) ≤ (k : Int) := by omega
      have hi1 : (k : Int) < (c.ds.length : Int) := by omega
      clear hd
      obtain ⟨dk, dn, e2, pa, pcap, ps, ba, bcap, body, e5⟩ := d
      simp only at d0 d1 d2 d3 d4 d5 hrk'
      generalize ps.length = pl at *
      generalize body.length = bl at *
      have hb1 : Below wr.heap.size wr (wr.alloc (.cells #[.int .u8 dk, .string dn, .int .i64 e2, .slice pa pl pcap, .slice ba bl bcap, .int .i64 e5] 31)) := (Below.refl _ _).alloc (Nat.le_refl _) _
      have hbw := hb.out.trans (hb1.mono hb.out.size)
      have hc := hC.out _ hbw k hlt
      have hbx : (wr.alloc (.cells #[.int .u8 dk, .string dn, .int .i64 e2, .slice pa pl pcap, .slice ba bl bcap, .int .i64 e5] 31)).heap[wr.heap.size]? = some (.cells #[.int .u8 dk, .string dn, .int .i64 e2, .slice pa pl pcap, .slice ba bl bcap, .int .i64 e5] 31 (0, 0)) := World.alloc_heap_new wr _
      generalize backK (rs.map CRow.l) k = q at hc hrk'
      replace hc := Lib.hid hc
      replace hbw := Lib.hid hbw
      replace hbx := Lib.hid hbx
      replace hrk' := Lib.hid hrk'
      clear hb hb1 hrk hbd
      go_wp2_with fail
      refine hc.out.mono ?_
      rintro e w2 ⟨rfl, hb2⟩
      have hbw2 := Lib.hid (hbw.out.trans (hb2.mono hbw.out.size))
      have g5 := blk_cell ((hb2.block _ (cells_lt hbx.out)).trans hbx.out) (j := 5) rfl
      have hrk2 := hrk'.out
      clear hb2 hbx hbw hc hrk' d0 d1 d2 d3 d4 d5
      cases q with
      | true =>
        rw [if_pos rfl] at hrk2
        subst hrk2
        go_wp2_with fail
        refine (hR.out _ _ _).mono ?_
        rintro e w' ⟨rfl, rfl⟩
        exact ⟨rfl, hbw2.out, rfl⟩
      | false =>
        rw [if_neg (by decide)] at hrk2
        replace hrk2 := Lib.hid hrk2
        go_wp2_with fail
        go_roundw
        case rel => exact ⟨k + 1, by go_num, by omega, hbw2, hrk2⟩
        case measure => simp [intOf]; omega
    · have hge : ¬ ((k : Int) < (c.ds.length : Int)) := by omega
      have hrk' := hrk.out
      rw [show k = c.ds.length by omega, List.drop_length] at hrk'
      unfold circK at hrk'
      subst hrk'
      clear hrk hlt
      go_wp2_with fail
      exact ⟨rfl, .tuple #[], by simp [results, Tryz.results90, go_sem], hb.out, rfl⟩
end Go.Proofs.YtpcdlneompnhlaaGreatDoor.Ty
