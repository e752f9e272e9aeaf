/- Walk of names. Conditions: the declarations lie in memory; the looker holds them, and a map. -/
import Derived.Test.YtpcdlneompnhlaaGreatDoorTyR
import Derived.Deep.Cut
import Derived.OrdersHeld
import Derived.Deep.RegionHeld3
namespace Go.Proofs.YtpcdlneompnhlaaGreatDoor.Ty
open Go Go.RowKit
open Go.Proofs.YtpcdlneompnhlaaGreatDoor.Lx Go.Proofs.YtpcdlneompnhlaaGreatDoor.Tr

theorem bel_dr (B : Nat) (w : World) (n : Nat) : Below B w (w.drewN n) := ⟨rfl, rfl, rfl, Nat.le_refl _, fun _ _ => rfl⟩
/-- how names ends -/
def PostN (dm : Nat) (w : World) (r : Except (Int × Int) (List (ByteArray × Nat))) (e : Ending) (w' : World) : Prop := (∀ b, b < w.heap.size → b ≠ dm → w'.heap[b]? = w.heap[b]?) ∧ (∀ B, B ≤ dm → B ≤ w.heap.size → Below B w w') ∧ match r with
  | .ok D => e = .returned (.tuple #[]) ∧ MpS w' dm (D.map fun x => (x.1, .int .i64 x.2))
  | .error p => e = badT p.1 p.2
/-- what the loop keeps -/
structure NmI (lb dm : Nat) (vs : Array Value) (w wr : World) (D : List (ByteArray × Nat)) : Prop where
  same : ∀ b, b < w.heap.size → b ≠ dm → wr.heap[b]? = w.heap[b]?
  below : ∀ B, B ≤ dm → B ≤ w.heap.size → Below B w wr
  mp : MpS wr dm (D.map fun x => (x.1, .int .i64 x.2))
  lk : wr.heap[lb]? = some (.cells vs 127 (0, 0))
theorem NmI.ext {lb dm : Nat} {vs : Array Value} {w wr wx : World} {D : List (ByteArray × Nat)} (h : NmI lb dm vs w wr D) (hb : Below wr.heap.size wr wx) : NmI lb dm vs w wx D where
  same := fun b h1 h2 => by
    have hs := (h.below 0 (Nat.zero_le _) (Nat.zero_le _)).size
    exact (hb.block b (by omega)).trans (h.same b h1 h2)
  below := fun B h1 h2 => by
    have hs := (h.below B h1 h2).size
    exact (h.below B h1 h2).trans (hb.mono (by omega))
  mp := h.mp.below hb h.mp.lt
  lk := (hb.block _ (cells_lt h.lk)).trans h.lk
theorem NmI.put {lb dm : Nat} {vs : Array Value} {w wr wx : World} {D : List (ByteArray × Nat)} (h : NmI lb dm vs w wr D) {nm : ByteArray} {i : Nat} (hm : MpS wx dm (putV (D.map fun x => (x.1, .int .i64 x.2)) nm (.int .i64 i))) (hg : wr.grownBy wx (some dm)) : NmI lb dm vs w wx (putA D nm i) where
  same := fun b h1 h2 => by
    have hs := (h.below 0 (Nat.zero_le _) (Nat.zero_le _)).size
    exact (hg.block b (by omega) (by simpa using h2)).trans (h.same b h1 h2)
  below := fun B h1 h2 => by
    have hs := (h.below B h1 h2).size
    exact (h.below B h1 h2).trans (grown_below hg h1 (by omega))
  mp := by rw [putV_map (fun n : Nat => Value.int .i64 n) D nm i] at hm; exact hm
  lk := (hg.block _ (cells_lt h.lk) (fun e => by
    obtain ⟨es, k, h1, _⟩ := h.mp.ex
    have e' : lb = dm := by simpa using e
    rw [← e', h.lk] at h1
    cases h1)).trans h.lk
theorem NmI.kps {lb dm : Nat} {vs : Array Value} {w wr : World} {D : List (ByteArray × Nat)} (h : NmI lb dm vs w wr D) (hd : dm < w.heap.size) : Kps (fun b => b < dm) w wr := fun b o _ hb hc => (World.cell?_of_block (w := w) (a := ⟨b, o, none⟩) (h.same b (Nat.lt_trans hb hd) (Nat.ne_of_lt hb))).trans hc
theorem look_N {W : World} {dm : Nat} {D : List (ByteArray × Nat)} (h : MpS W dm (D.map fun x => (x.1, .int .i64 x.2))) (nm : ByteArray) (hn : nm.size ≤ maxLen) : (Instr.lookup 116 (.map (some dm)) (.string nm) true).run Tryz.prog W = .ok (match findA D nm with | some n => .tuple #[.int .i64 n, .bool true] | none => .tuple #[.int .i64 0, .bool false]) W := by
  have := look_run (k := 9) (e := 3) (t := 116) (by kernel_rfl) (by kernel_rfl) (zero_int W) h nm hn true
  rw [findV_map (fun n : Nat => Value.int .i64 n)] at this
  rw [this]
  cases findA D nm <;> rfl
theorem drop_c1 {α : Type} {l : List α} {i : Nat} {e : α} (he : l[i]? = some e) : l.drop i = e :: l.drop (i + 1) := by
  obtain ⟨hlt, h⟩ := List.getElem?_eq_some_iff.1 he
  rw [List.drop_eq_getElem_cons hlt, h]
theorem namesK_drop {ds : List De} {k : Nat} {d : De} {D : List (ByteArray × Nat)} (hd : ds[k]? = some d) : namesK (ds.drop k) k D = if (findA D d.name).isSome = true then .error (d.pos, 64) else namesK (ds.drop (k + 1)) (k + 1) (putA D d.name k) := by
  rw [drop_c1 hd]
  conv => lhs; unfold namesK

set_option maxHeartbeats 4000000 in
set_option maxRecDepth 100000 in
theorem names_c {w : World} {lb dm cap : Nat} {a : Option Addr} {ds : List De} {vs : Array Value} (hlk : w.heap[lb]? = some (.cells vs 127 (0, 0))) (hv0 : vs[0]? = some (.slice a ds.length cap)) (hv1 : vs[1]? = some (.map (some dm))) (hmp : MpS w dm [])
    (hrow : RowAt w (fun b => b < dm) a cap ds.length (deCells ds)) (hin : De.InL w (fun b => b < dm) ds) :
    Calls Tryz.prog 88 #[.pointer (some ⟨lb, 0, none⟩)] w (PostN dm w (namesK ds 0 [])) := by
  generalize hr : namesK ds 0 [] = r
  have hll : ds.length ≤ 9223372036854775807 := by have := hrow.le; have := hrow.lim; unfold maxLen at this; omega
  have h0 : NmI lb dm vs w w [] := ⟨fun _ _ _ => rfl, fun _ _ _ => Below.refl _ _, hmp, hlk⟩
  have c0 : w.cell? ⟨lb, 0, none⟩ = some (.slice a ds.length cap) := blk_cell hlk hv0
  have hdl := Lib.hid hmp.lt
  have hR := Lib.hid refuse_c
  replace h0 := Lib.hid h0
  replace hr := Lib.hid hr
  replace hrow := Lib.hid hrow
  replace hin := Lib.hid hin
  replace hv1 := Lib.hid hv1
  clear hmp hlk hv0
  go_enter Tryz.func88, Tryz.ntmps88
  go_wp2_with fail
  go_loopw [11] (fun i wr => ∃ (k : Nat) (D : List (ByteArray × Nat)), i = .int .i64 k ∧ k ≤ ds.length ∧ Hid (NmI lb dm vs w wr D) ∧ Hid (namesK (ds.drop k) k D = r)) (fun i _ => ds.length - (intOf i).toNat)
  case atStart => exact ⟨0, [], rfl, Nat.zero_le _, h0, hr⟩
  case round =>
    obtain ⟨k, D, rfl, hk, hI, hrk⟩ := hrel
    clear hr h0 c0
    by_cases hlt : k < ds.length
    · obtain ⟨d, hd⟩ : ∃ d, ds[k]? = some d := ⟨_, List.getElem?_eq_getElem hlt⟩
      have hrk' := hrk.out
      rw [namesK_drop hd] at hrk'
      have hkp := hI.out.kps hdl.out
      obtain ⟨b, off, ha, hbd, d0, d1, d2, d3, d4, d5⟩ := de_at (hrow.out.below hkp) hd
      subst ha
      have hns : d.name.size ≤ maxLen := (hin.out d (List.mem_of_getElem? hd)).2.1
      have hi0 : (0 : Int) ≤ (k : Int) := by omega
      have hi1 : (k : Int) < (ds.length : Int) := by omega
      clear hd
      obtain ⟨dk, dn, e2, pa, pcap, ps, ba, bcap, body, e5⟩ := d
      simp only at d0 d1 d2 d3 d4 d5 hrk' hns
      generalize ps.length = pl at *
      generalize body.length = bl at *
      have hb1 := ((Below.refl _ _).alloc (Nat.le_refl _) (.cells #[.int .u8 dk, .string dn, .int .i64 e2, .slice pa pl pcap, .slice ba bl bcap, .int .i64 e5] 31) : Below wr.heap.size wr (wr.alloc (.cells #[.int .u8 dk, .string dn, .int .i64 e2, .slice pa pl pcap, .slice ba bl bcap, .int .i64 e5] 31)))
      have hI1 := hI.out.ext hb1
      have f1 : (wr.alloc (.cells #[.int .u8 dk, .string dn, .int .i64 e2, .slice pa pl pcap, .slice ba bl bcap, .int .i64 e5] 31)).cell? ⟨lb, 1, none⟩ = some (.map (some dm)) := blk_cell hI1.lk hv1.out
      have hbx : (wr.alloc (.cells #[.int .u8 dk, .string dn, .int .i64 e2, .slice pa pl pcap, .slice ba bl bcap, .int .i64 e5] 31)).heap[wr.heap.size]? = some (.cells #[.int .u8 dk, .string dn, .int .i64 e2, .slice pa pl pcap, .slice ba bl bcap, .int .i64 e5] 31 (0, 0)) := World.alloc_heap_new wr _
      have hlook := Lib.hid (fun m => look_N (W := (wr.alloc (.cells #[.int .u8 dk, .string dn, .int .i64 e2, .slice pa pl pcap, .slice ba bl bcap, .int .i64 e5] 31)).drewN m) (hI1.mp.below (bel_dr _ _ m) hI1.mp.lt) dn hns)
      replace hI1 := Lib.hid hI1
      replace hbx := Lib.hid hbx
      replace hns := Lib.hid hns
      clear hrk hkp hb1
      cases hf : findA D dn with
      | some i0 =>
        have hlk0 := fun m => hlook.out m
        rw [hf] at hlk0
        simp only at hlk0
        rw [hf, if_pos (by simp)] at hrk'
        subst hrk'
        clear hlook
        go_wp2_with fail
        go_quiet (fail)
        have hfin := Lib.hid (fun (W : World) (h : Below (wr.alloc (.cells #[.int .u8 dk, .string dn, .int .i64 e2, .slice pa pl pcap, .slice ba bl bcap, .int .i64 e5] 31)).heap.size (wr.alloc (.cells #[.int .u8 dk, .string dn, .int .i64 e2, .slice pa pl pcap, .slice ba bl bcap, .int .i64 e5] 31)) W) => hI1.out.ext h)
        have hbxd := ((bel_dr (wr.alloc (.cells #[.int .u8 dk, .string dn, .int .i64 e2, .slice pa pl pcap, .slice ba bl bcap, .int .i64 e5] 31)).heap.size (wr.alloc (.cells #[.int .u8 dk, .string dn, .int .i64 e2, .slice pa pl pcap, .slice ba bl bcap, .int .i64 e5] 31)) nq).block _ (cells_lt hbx.out)).trans hbx.out
        have g5 := blk_cell hbxd (j := 5) rfl
        obtain ⟨V, hV⟩ : ∃ V, (wr.alloc (.cells #[.int .u8 dk, .string dn, .int .i64 e2, .slice pa pl pcap, .slice ba bl bcap, .int .i64 e5] 31)).drewN nq = V := ⟨_, rfl⟩
        have hfv := Lib.hid (hfin.out V (by rw [← hV]; exact bel_dr _ _ nq))
        rw [hV] at g5
        clear hlk0 hbxd hfin hI1 hbx f1 d0 d1 d2 d3 d4 d5
        try simp only [hV]
        clear hV
        go_wp2_with fail
        refine (hR.out _ _ _).mono ?_
        rintro e w' ⟨rfl, rfl⟩
        exact ⟨rfl, hfv.out.same, hfv.out.below, rfl⟩
      | none =>
        have hlk0 := fun m => hlook.out m
        rw [hf] at hlk0
        simp only at hlk0
        rw [hf, if_neg (by simp)] at hrk'
        replace hrk' := Lib.hid hrk'
        clear hlook
        go_wp2_with fail
        go_quiet (fail)
        have hbxd := ((bel_dr (wr.alloc (.cells #[.int .u8 dk, .string dn, .int .i64 e2, .slice pa pl pcap, .slice ba bl bcap, .int .i64 e5] 31)).heap.size (wr.alloc (.cells #[.int .u8 dk, .string dn, .int .i64 e2, .slice pa pl pcap, .slice ba bl bcap, .int .i64 e5] 31)) nq).block _ (cells_lt hbx.out)).trans hbx.out
        have hIV := hI1.out.ext (bel_dr (wr.alloc (.cells #[.int .u8 dk, .string dn, .int .i64 e2, .slice pa pl pcap, .slice ba bl bcap, .int .i64 e5] 31)).heap.size (wr.alloc (.cells #[.int .u8 dk, .string dn, .int .i64 e2, .slice pa pl pcap, .slice ba bl bcap, .int .i64 e5] 31)) nq)
        obtain ⟨V, hV⟩ : ∃ V, (wr.alloc (.cells #[.int .u8 dk, .string dn, .int .i64 e2, .slice pa pl pcap, .slice ba bl bcap, .int .i64 e5] 31)).drewN nq = V := ⟨_, rfl⟩
        rw [hV] at hbxd hIV
        clear hlk0 hI1 hbx f1 d0 d1 d2 d3 d4 d5
        try simp only [hV]
        clear hV
        go_wp2_with fail
        have hBd : Below V.heap.size V V.drew := (Below.refl _ _).drew
        have hId := hIV.ext hBd
        have hbd2 := (hBd.block _ (cells_lt hbxd)).trans hbxd
        have hS : (fun X : World => X.cell? ⟨lb, 1, none⟩ = some (.map (some dm)) ∧ X.cell? ⟨wr.heap.size, 1, none⟩ = some (.string dn)) V.drew := ⟨blk_cell hId.lk hv1.out, blk_cell hbd2 rfl⟩
        obtain ⟨W6, hrun, hm6, hg6⟩ := put_run (P := Tryz.prog) (k := 9) (e := 3) (t := 116) (by kernel_rfl) (by kernel_rfl) hId.mp dn hns.out (.int .i64 (k : Int))
        have hI6 := Lib.hid (hId.put hm6 hg6)
        have hbd6 := (hg6.block _ (cells_lt hbd2) (fun e => by
          obtain ⟨es, kk, h1, _⟩ := hId.mp.ex
          have e' : wr.heap.size = dm := by simpa using e
          rw [← e', hbd2] at h1
          cases h1)).trans hbd2
        have hS6 : (fun X : World => X.cell? ⟨lb, 1, none⟩ = some (.map (some dm)) ∧ X.cell? ⟨wr.heap.size, 1, none⟩ = some (.string dn)) W6 := ⟨blk_cell hI6.out.lk hv1.out, blk_cell hbd6 rfl⟩
        clear hm6 hg6 hbd6 hbd2 hId hBd hIV hbxd
        refine wp_region_noPanic ?_
        refine wp_region_held_drew (S := (fun X : World => X.cell? ⟨lb, 1, none⟩ = some (.map (some dm)) ∧ X.cell? ⟨wr.heap.size, 1, none⟩ = some (.string dn))) (by kernel_rfl) hS (fun hHeld => ?_)
        refine' wpAnyH_take (i := 0) (oi := _) (v := _) rfl (by kernel_rfl) (by kernel_rfl) (by kernel_rfl) (fun _ _ _ h => h) (Or.inl ⟨by rfl, ?hyn0⟩) (by assumption) ?restn0
        case hyn0 => (intro w hSw; go_simp; all_goals (with_reducible rfl))
        try simp only [Act.put, List.getElem_toArray, List.getElem_cons_zero, List.setIfInBounds_toArray, List.set_cons_zero, List.set_cons_succ]
        refine' wpAnyH_take (i := 1) (oi := _) (v := _) rfl (by kernel_rfl) (by kernel_rfl) (by kernel_rfl) (fun _ _ _ h => h) (Or.inl ⟨by rfl, ?hyn1⟩) (by assumption) ?restn1
        case hyn1 => (intro w hSw; go_simp; all_goals (with_reducible rfl))
        try simp only [Act.put, List.getElem_toArray, List.getElem_cons_zero, List.getElem_cons_succ, List.setIfInBounds_toArray, List.set_cons_zero, List.set_cons_succ]
        refine' wpAnyH_take (i := 2) (oi := _) (v := _) rfl (by kernel_rfl) (by kernel_rfl) (by kernel_rfl) (fun _ _ _ h => h) (Or.inl ⟨by rfl, ?hyn2⟩) (by assumption) ?restn2
        case hyn2 => (intro w hSw; go_simp; all_goals (with_reducible rfl))
        try simp only [Act.put, List.getElem_toArray, List.getElem_cons_zero, List.getElem_cons_succ, List.setIfInBounds_toArray, List.set_cons_zero, List.set_cons_succ]
        refine' wpAnyH_take (i := 3) (oi := _) (v := _) rfl (by kernel_rfl) (by kernel_rfl) (by kernel_rfl) (fun _ _ _ h => h) (Or.inl ⟨by rfl, ?hyn3⟩) (by assumption) ?restn3
        case hyn3 => (intro w hSw; go_simp; all_goals (with_reducible rfl))
        try simp only [Act.put, List.getElem_toArray, List.getElem_cons_zero, List.getElem_cons_succ, List.setIfInBounds_toArray, List.set_cons_zero, List.set_cons_succ]
        refine' wpAnyH_take (i := 4) (oi := _) (v := _) rfl (by kernel_rfl) (by kernel_rfl) (by kernel_rfl) (fun _ _ _ h => h) (Or.inl ⟨by rfl, ?hyn4⟩) (by assumption) ?restn4
        case hyn4 => (intro w hSw; go_simp; all_goals (with_reducible rfl))
        try simp only [Act.put, List.getElem_toArray, List.getElem_cons_zero, List.getElem_cons_succ, List.setIfInBounds_toArray, List.set_cons_zero, List.set_cons_succ]
        refine' wpAnyH_take (i := 5) (oi := _) (v := _) rfl (by kernel_rfl) (by kernel_rfl) (by kernel_rfl) (fun _ _ _ h => h) (Or.inl ⟨by rfl, ?hyn5⟩) (by assumption) ?restn5
        case hyn5 => (intro w hSw; go_simp; all_goals (with_reducible rfl))
        try simp only [Act.put, List.getElem_toArray, List.getElem_cons_zero, List.getElem_cons_succ, List.setIfInBounds_toArray, List.set_cons_zero, List.set_cons_succ]
        refine' wpAnyH_take (i := 6) (oi := _) (v := _) rfl (by kernel_rfl) (by kernel_rfl) (by kernel_rfl) (fun _ _ _ h => h) (Or.inl ⟨by rfl, ?hyn6⟩) (by assumption) ?restn6
        case hyn6 => (intro w hSw; go_simp; all_goals (with_reducible rfl))
        try simp only [Act.put, List.getElem_toArray, List.getElem_cons_zero, List.getElem_cons_succ, List.setIfInBounds_toArray, List.set_cons_zero, List.set_cons_succ]
        refine wpAnyH_ready (rs := [7]) (by kernel_rfl) (by simp) ?_
        refine AllReadyH.cons (o := _) rfl (fun K hK => ?_) AllReadyH.nil
        replace hK := Lib.hid hK
        go_simp
        refine hK.out.out _ _ hS6 (fun hHeld => ?_)
        clear hK K
        try simp only [Act.put, List.setIfInBounds_toArray, List.set_cons_zero, List.set_cons_succ]
        refine wpAnyH_done (by kernel_rfl) ?_ _
        refine NoPanic.normal ?_
        clear hHeld hS hS6 hrun hf
        go_wp2_with fail
        go_roundw
        case rel => exact ⟨k + 1, putA D dn k, by go_num, by omega, hI6, hrk'⟩
        case measure => simp [intOf]; omega
    · have hge : ¬ ((k : Int) < (ds.length : Int)) := by omega
      have hrk' := hrk.out
      rw [show k = ds.length by omega, List.drop_length] at hrk'
      unfold namesK at hrk'
      subst hrk'
      clear hrk hlt
      go_wp2_with fail
      exact ⟨rfl, .tuple #[], by simp [results, Tryz.results88, go_sem], hI.out.same, hI.out.below, rfl, hI.out.mp⟩
end Go.Proofs.YtpcdlneompnhlaaGreatDoor.Ty
