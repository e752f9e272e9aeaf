/- Walks of code.Threads, maySizes, mayHeads, mayCode, mayCodes. Conditions: the program lies in memory. -/
import Derived.Test.YthiiahlgncngoaaDoorRRJaG
import Derived.Maps.AppendAt
import Derived.OwnWalk
import Derived.Test.YthiiahlgncngoaaDoorRRJaF
set_option maxHeartbeats 16000000
set_option maxRecDepth 100000
namespace Go.Proofs.YthiiahlgncngoaaDoorRR.Cd
open Go Go.RowKit
open Go.Proofs.YthiiahlgncngoaaDoorRR.Lx Go.Proofs.YthiiahlgncngoaaDoorRR.Tr
theorem thrs_from (l r : List Fn) (k : Nat) : Zp k (l ++ r) = Zp k l ++ Zp (k + l.length) r := by
 induction l generalizing k with
 | nil => simp [Zp]
 | cons f l ih =>
   rw [List.cons_append, Zp, Zp, ih (k + 1), List.append_assoc, List.length_cons, show k + 1 + l.length = k + (l.length + 1) by omega]
theorem thrs_take {l : List Fn} {k : Nat} {f : Fn} (h : l[k]? = some f) : Zp 0 (l.take (k + 1)) = Zp 0 (l.take k) ++ if f.thread then [(k : Int)] else [] := by
 have hk : k < l.length := (List.getElem?_eq_some_iff.1 h).1
 rw [List.take_add_one, h, thrs_from]
 have : (l.take k).length = k := by rw [List.length_take]; omega
 rw [this]
 simp [Zp]
theorem thrs_len : ∀ (l : List Fn) (k : Nat), (Zp k l).length ≤ l.length
 | [], _ => by simp [Zp]
 | f :: r, k => by
   unfold Zp
   have := thrs_len r (k + 1)
   rw [List.length_append, List.length_cons]
   split <;> simp <;> omega
theorem Xn : ∃ i, Tryd.prog.info? 3 = some i ∧ i.zero = some (.int .i64 0) ∧ i.size = 1 ∧ i.bytes = 8 := ⟨_, rfl, rfl, rfl, rfl⟩
theorem Qn {B : Nat} {e : TypeId} {c : Nat} {v : Value} {n : Nat} {xs : List Value} {W W' : World} (h : W.ownsRow B e c v n xs) (hb : Below W.heap.size W W') : W'.ownsRow B e c v n xs :=
 ⟨h.1, h.2.imp id fun ⟨g, cap, cur, hv, hB, hg, hr⟩ => ⟨g, cap, cur, hv, hB, (hb.block g (Array.getElem?_eq_some_iff.1 hg).1).trans hg, hr⟩⟩
theorem one_at (W : World) (v : Value) (t : TypeId) (B : Nat) (hB : W.heap.size = B) : ∀ j u, [v][j]? = some u → (W.alloc (.cells #[v] t)).cell? ((⟨B, 0, none⟩ : Addr).add j) = some u := by
 subst hB; exact cell_one_new _ _ _
theorem threads_any (p : Pg) (w : World) (hrow : RowAt w (fun _ => True) p.fa p.fcap p.funs.length (Zw p.funs)) (hlen : p.funs.length ≤ 8796093022208) :
 Calls Tryd.prog 32 #[p.val] w fun e w' => ∃ v, e = .returned v ∧ w'.ownsRow w.heap.size 3 1 v (Xw p).length (Qc (Xw p)) ∧ Below w.heap.size w w' := by
 obtain ⟨hc1, hc2⟩ := Q2 hrow
 obtain ⟨i0, hi0, hz0, hz1, hz2⟩ := Xn
 unfold Xw
 obtain ⟨ma, mcap, mems, la, lcap, locks, fa, fcap, funs⟩ := p
 simp only at hrow hlen hc1 hc2 ⊢
 unfold Pg.val
 simp only
 generalize mems.length = ml
 generalize locks.length = ll
 go_enter Tryd.func32, Tryd.ntmps32
 go_wp2_with fail
 go_loopw [3, 9] (fun v i wr => ∃ k : Nat, k ≤ funs.length ∧ i = .int .i64 k ∧ Hid (wr.ownsRow w.heap.size 3 1 v (Zp 0 (funs.take k)).length (Qc (Zp 0 (funs.take k)))) ∧ Hid (Below w.heap.size w wr)) (fun _ i _ => funs.length - (intOf i).toNat)
 case atStart => exact ⟨0, Nat.zero_le _, rfl, Lh (World.ownsRow_nil _ _ _ _), Lh (Qh _ _)⟩
 case round =>
  obtain ⟨k, hk, rfl, hown, hb⟩ := hrel
  by_cases hlt : k < funs.length
  · obtain ⟨f, hf⟩ : ∃ f, funs[k]? = some f := ⟨_, List.getElem?_eq_getElem hlt⟩
    obtain ⟨b, off, ha, _, c0, c1, c2, c3, c4⟩ := Yd (hrow.below (Kps.of_below hb.out)) k f hf
    subst ha
    have htk := thrs_take hf
    have hln := thrs_len (funs.take k) 0
    rw [List.length_take] at hln
    have hi0' : (0 : Int) ≤ (k : Int) := by omega
    have hi1 : (k : Int) < (funs.length : Int) := by omega
    have hbe := Lh (Qh wr (.cells #[.string f.name, .bool f.thread, .int .i64 f.params, .int .i64 f.regs, .slice f.ca f.code.length f.ccap] 50))
    have hbx := Lh (hb.out.trans (hbe.out.mono hb.out.size))
    have hsz := hb.out.size
    clear hf hrow
    cases ht : f.thread
    · rw [ht] at htk c1 hbe hbx
      have hown2 := Lh (Qn hown.out hbe.out)
      rw [if_neg (by simp), List.append_nil] at htk
      rw [← htk] at hown2
      clear ht htk hown
      go_wp2_with fail
      go_roundw
      case rel => exact ⟨k + 1, by omega, by go_num, hown2, hbx⟩
      case measure => simp [intOf]; omega
    · rw [ht] at htk c1 hbe hbx
      have hown2 := Lh (Qn hown.out hbe.out)
      rw [if_pos rfl] at htk
      generalize Zp 0 (funs.take k) = T at *
      replace htk := Lh htk
      clear ht hown
      go_wp2_with (at_builtin; refine wpList_append_own_at _ rfl _ _ 40 rfl w.heap.size 3 i0 _ 1 8 Tryd.underlying40 hi0 hz0 hz1 hz2 rfl (by decide) _ _ _ rfl (Qn hown2.out (Qh _ _)) _ 1 1 [.int .i64 k] rfl rfl (one_at _ _ _ _ (by first | rfl | simp)) (by simp [Value.oneCell']) ?c1 ?c2 ?c3 ?_)
      case c1 => unfold maxLen; omega
      case c2 => omega
      case c3 => simp; omega
      intro v' w3 hown3 hg3 _ hat3
      have hfin : Hid (w3.ownsRow w.heap.size 3 1 v' (Zp 0 (funs.take (k + 1))).length (Qc (Zp 0 (funs.take (k + 1))))) := Lh (by
       rw [htk.out, List.length_append]
       have he : Qc (T ++ [(k : Int)]) = Qc T ++ [.int .i64 k] := by unfold Qc; rw [List.map_append]; rfl
       rw [he]; exact hown3)
      have hbz : Hid (Below w.heap.size w w3) := Lh ((hbx.out.alloc (by have := hbx.out.size; omega) _).grown hg3 (by simp; omega) (fun q e => (hown2.out.lt q e).1))
      clear hown3 hg3 hat3
      go_wp2_with fail
      go_roundw
      case rel => exact ⟨k + 1, by omega, by go_num, hfin, hbz⟩
      case measure => simp [intOf]; omega
  · have hk2 : k = funs.length := by omega
    subst hk2
    rw [List.take_length] at hown
    go_wp2_with fail
    go_ret
    exact ⟨_, rfl, hown.out, hb.out⟩
theorem Z4 {α : Type} {f : α → Bool} {l : List α} {k : Nat} {x : α} (h : l[k]? = some x) : (l.take (k + 1)).all f = ((l.take k).all f && f x) := by
 rw [List.take_add_one, h, List.all_append]
 simp
theorem all_no {α : Type} {f : α → Bool} {l : List α} {k : Nat} {x : α} (h : l[k]? = some x) (hf : f x = false) : l.all f = false := by
 rw [List.all_eq_false]
 exact ⟨x, List.mem_of_getElem? h, by simp [hf]⟩
theorem u8_11 {k : Int} (h : ¬ k = 11) : (k == 11) = false := by simpa using h
theorem maySizes_any (l : List Mm) (a : Option Addr) (cap : Nat) (w : World) (hrow : RowAt w (fun _ => True) a cap l.length (mmCells l)) :
 Calls Tryd.prog 31 #[.slice a l.length cap] w fun e w' => e = .returned (.bool (sizesP l)) ∧ Below w.heap.size w w' := by
 obtain ⟨hc1, hc2⟩ := Q2 hrow
 unfold sizesP
 go_enter Tryd.func31, Tryd.ntmps31
 go_wp2_with fail
 go_loopw [7] (fun i wr => ∃ k : Nat, k ≤ l.length ∧ i = .int .i64 k ∧ Hid ((l.take k).all (fun m => decide (1 ≤ m.size) && decide (m.size ≤ 1024)) = true) ∧ Hid (Below w.heap.size w wr)) (fun i _ => l.length - (intOf i).toNat)
 case atStart => exact ⟨0, Nat.zero_le _, rfl, Lh rfl, Lh (Below.refl _ _)⟩
 case round =>
  obtain ⟨k, hk, rfl, hall, hb⟩ := hrel
  by_cases hlt : k < l.length
  · obtain ⟨x, hx⟩ : ∃ x, l[k]? = some x := ⟨_, List.getElem?_eq_getElem hlt⟩
    obtain ⟨b, off, ha, _, c0, c1, c2⟩ := mm_row (hrow.below (Kps.of_below hb.out)) k x hx
    subst ha
    have hi0' : (0 : Int) ≤ (k : Int) := by omega
    have hi1 : (k : Int) < (l.length : Int) := by omega
    have hbx := Lh (hb.out.trans ((Qh wr (.cells #[.string x.name, .int .i64 x.size, .int .i64 x.first] 57)).mono hb.out.size))
    have hno := Lh (fun h => all_no (f := fun m : Mm => decide (1 ≤ m.size) && decide (m.size ≤ 1024)) hx h)
    have hyes := Lh (Z4 (f := fun m : Mm => decide (1 ≤ m.size) && decide (m.size ≤ 1024)) hx)
    clear hx hrow
    by_cases h1 : 1 ≤ x.size
    · by_cases h2 : x.size ≤ 1024
      · have hn : Hid ((l.take (k + 1)).all (fun m => decide (1 ≤ m.size) && decide (m.size ≤ 1024)) = true) := Lh (by rw [hyes.out, hall.out]; simp [h1, h2])
        clear hyes hno hall
        go_wp2_with fail
        go_roundw
        case rel => exact ⟨k + 1, by omega, by go_num, hn, hbx⟩
        case measure => simp [intOf]; omega
      · have hn := Lh (hno.out (by simp; omega))
        clear hyes hno hall
        go_wp2_with fail
        go_ret
        exact ⟨Qi hn.out.symm, hbx.out⟩
    · have hn := Lh (hno.out (by simp; omega))
      clear hyes hno hall
      go_wp2_with fail
      go_ret
      exact ⟨Qi hn.out.symm, hbx.out⟩
  · have hk2 : k = l.length := by omega
    subst hk2
    rw [List.take_length] at hall
    go_wp2_with fail
    go_ret
    exact ⟨Qi hall.out.symm, hb.out⟩
theorem mayHeads_any (l : List Fn) (a : Option Addr) (cap : Nat) (w : World) (hrow : RowAt w (fun _ => True) a cap l.length (Zw l)) :
 Calls Tryd.prog 33 #[.slice a l.length cap] w fun e w' => e = .returned (.bool (l.all Xd)) ∧ Below w.heap.size w w' := by
 obtain ⟨hc1, hc2⟩ := Q2 hrow
 go_enter Tryd.func33, Tryd.ntmps33
 go_wp2_with fail
 go_loopw [8] (fun i wr => ∃ k : Nat, k ≤ l.length ∧ i = .int .i64 k ∧ Hid ((l.take k).all Xd = true) ∧ Hid (Below w.heap.size w wr)) (fun i _ => l.length - (intOf i).toNat)
 case atStart => exact ⟨0, Nat.zero_le _, rfl, Lh rfl, Lh (Below.refl _ _)⟩
 case round =>
  obtain ⟨k, hk, rfl, hall, hb⟩ := hrel
  by_cases hlt : k < l.length
  · obtain ⟨x, hx⟩ : ∃ x, l[k]? = some x := ⟨_, List.getElem?_eq_getElem hlt⟩
    obtain ⟨b, off, ha, _, c0, c1, c2, c3, c4⟩ := Yd (hrow.below (Kps.of_below hb.out)) k x hx
    subst ha
    have hi0' : (0 : Int) ≤ (k : Int) := by omega
    have hi1 : (k : Int) < (l.length : Int) := by omega
    have hbx := Lh (hb.out.trans ((Qh wr (.cells #[.string x.name, .bool x.thread, .int .i64 x.params, .int .i64 x.regs, .slice x.ca x.code.length x.ccap] 50)).mono hb.out.size))
    have hno := Lh (fun h => all_no (f := Xd) hx h)
    have hyes := Lh (Z4 (f := Xd) hx)
    have hh : Hid (Xd x = (decide (0 ≤ x.params) && decide (x.params ≤ if x.thread then 0 else 8) && decide (x.params ≤ x.regs) && decide (x.regs ≤ 4096))) := Lh rfl
    clear hx hrow
    obtain ⟨q, hq⟩ : ∃ q : Int, q = if x.thread then 0 else 8 := ⟨_, rfl⟩
    rw [← hq] at hh
    cases ht : x.thread
    · rw [ht] at c1 hq hbx
      have hq' : q = 8 := by simpa using hq
      subst hq'
      clear hq
      by_cases h1 : 0 ≤ x.params
      · by_cases h2 : x.params ≤ 8
        · by_cases h3 : x.params ≤ x.regs
          · by_cases h4 : x.regs ≤ 4096
            · have hn : Hid ((l.take (k + 1)).all Xd = true) := Lh (by rw [hyes.out, hall.out, hh.out]; simp [h1, h2, h3, h4])
              clear hyes hno hall hh
              go_wp2_with fail
              go_roundw
              case rel => exact ⟨k + 1, by omega, by go_num, hn, hbx⟩
              case measure => simp [intOf]; omega
            · have hn := Lh (hno.out (by rw [hh.out]; simp; omega))
              clear hyes hno hall hh
              go_wp2_with fail
              go_ret
              exact ⟨Qi hn.out.symm, hbx.out⟩
          · have hn := Lh (hno.out (by rw [hh.out]; simp; omega))
            clear hyes hno hall hh
            go_wp2_with fail
            go_ret
            exact ⟨Qi hn.out.symm, hbx.out⟩
        · have hn := Lh (hno.out (by rw [hh.out]; simp; omega))
          clear hyes hno hall hh
          go_wp2_with fail
          go_ret
          exact ⟨Qi hn.out.symm, hbx.out⟩
      · have hn := Lh (hno.out (by rw [hh.out]; simp; omega))
        clear hyes hno hall hh
        go_wp2_with fail
        go_ret
        exact ⟨Qi hn.out.symm, hbx.out⟩
    · rw [ht] at c1 hq hbx
      have hq' : q = 0 := by simpa using hq
      subst hq'
      clear hq
      by_cases h1 : 0 ≤ x.params
      · by_cases h2 : x.params ≤ 0
        · by_cases h3 : x.params ≤ x.regs
          · by_cases h4 : x.regs ≤ 4096
            · have hn : Hid ((l.take (k + 1)).all Xd = true) := Lh (by rw [hyes.out, hall.out, hh.out]; simp [h1, h2, h3, h4])
              clear hyes hno hall hh
              go_wp2_with fail
              go_roundw
              case rel => exact ⟨k + 1, by omega, by go_num, hn, hbx⟩
              case measure => simp [intOf]; omega
            · have hn := Lh (hno.out (by rw [hh.out]; simp; omega))
              clear hyes hno hall hh
              go_wp2_with fail
              go_ret
              exact ⟨Qi hn.out.symm, hbx.out⟩
          · have hn := Lh (hno.out (by rw [hh.out]; simp; omega))
            clear hyes hno hall hh
            go_wp2_with fail
            go_ret
            exact ⟨Qi hn.out.symm, hbx.out⟩
        · have hn := Lh (hno.out (by rw [hh.out]; simp; omega))
          clear hyes hno hall hh
          go_wp2_with fail
          go_ret
          exact ⟨Qi hn.out.symm, hbx.out⟩
      · have hn := Lh (hno.out (by rw [hh.out]; simp; omega))
        clear hyes hno hall hh
        go_wp2_with fail
        go_ret
        exact ⟨Qi hn.out.symm, hbx.out⟩
  · have hk2 : k = l.length := by omega
    subst hk2
    rw [List.take_length] at hall
    go_wp2_with fail
    go_ret
    exact ⟨Qi hall.out.symm, hb.out⟩
theorem lastOp_at {l : List Ins} {x : Ins} (h : l[l.length - 1]? = some x) : Zv l = x.op := by
 unfold Zv
 rw [List.getLast?_eq_getElem?, h]
theorem Xo (p : Pg) (f : Fn) : Xq p f = (decide (1 ≤ f.code.length) && decide (f.code.length ≤ 16384) && f.code.all (mayF p f) && (decide (Zv f.code = 11) || decide (Zv f.code = 13))) := rfl
theorem mayCode_any (p : Pg) (m : Nat) (f : Fn) (w : World) (hf : p.funs[m]? = some f) (hp : Pg.In w (fun _ => True) p) (hT : OpTab w) :
 Calls Tryd.prog 59 #[p.val, .int .i64 m] w fun e w' => e = .returned (.bool (Xq p f)) ∧ Below w.heap.size w w' := by
 have hml : m < p.funs.length := (List.getElem?_eq_some_iff.1 hf).1
 obtain ⟨b, off, hfa, _, g0, g1, g2, g3, g4⟩ := Yd hp.frow m f hf
 have hbl : b < w.heap.size := World.block_lt_of_cell? _ _ g0
 have hml2 : (m : Int) < p.funs.length := by omega
 have hm0 : (0 : Int) ≤ m := by omega
 have hcf := hp.funs f (List.mem_of_getElem? hf)
 obtain ⟨hc1, hc2⟩ := Q2 hcf.row
 obtain ⟨hd1, hd2⟩ := Q2 hp.frow
 have hcall := Lh (fun (i : Ins) (V : World) (hi : i ∈ f.code) (hb : Below w.heap.size w V) => mayIns_any p m i V (hcf.code i hi).op ((hcf.code i hi).row.below (Kps.of_below hb)) (hT.keep hb) (hp.frow.below (Kps.of_below hb)))
 have hmi := Lh (fun (i : Ins) => mayI_at hf i)
 have hcr := Lh (fun (V : World) (hb : Below w.heap.size w V) => hcf.row.below (Kps.of_below hb))
 rw [Xo]
 unfold Pg.val at hcall ⊢
 rw [hfa] at hcall ⊢
 generalize hcd : f.code = code at *
 clear hp hT hcf hf
 by_cases h1 : 1 ≤ code.length
 · by_cases h2 : code.length ≤ 16384
   · obtain ⟨y, hy⟩ : ∃ y, code[code.length - 1]? = some y := ⟨_, List.getElem?_eq_getElem (by omega)⟩
     have hlast := lastOp_at hy
     rw [hlast, decide_eq_true h1, decide_eq_true h2]
     clear hlast
     replace hcd := Lh hcd
     go_enter Tryd.func59, Tryd.ntmps59
     go_wp2_with fail
     have hst : Hid (Below w.heap.size w (w.alloc (.cells #[.slice p.ma p.mems.length p.mcap, .slice p.la p.locks.length p.lcap, .slice (some ⟨b, off, none⟩) p.funs.length p.fcap] 26))) := Lh (Qh _ _)
     have hbox := Lh (fun (V : World) (hb : Below (w.alloc (.cells #[.slice p.ma p.mems.length p.mcap, .slice p.la p.locks.length p.lcap, .slice (some ⟨b, off, none⟩) p.funs.length p.fcap] 26)).heap.size (w.alloc (.cells #[.slice p.ma p.mems.length p.mcap, .slice p.la p.locks.length p.lcap, .slice (some ⟨b, off, none⟩) p.funs.length p.fcap] 26)) V) =>
      (fun j u hu => Qe hb (Zk w [.slice p.ma p.mems.length p.mcap, .slice p.la p.locks.length p.lcap, .slice (some ⟨b, off, none⟩) p.funs.length p.fcap] 26 j u hu) : ∀ j u, [Value.slice p.ma p.mems.length p.mcap, .slice p.la p.locks.length p.lcap, .slice (some ⟨b, off, none⟩) p.funs.length p.fcap][j]? = some u → V.cell? ⟨w.heap.size, j, none⟩ = some u))
     generalize hW0 : w.alloc (.cells #[.slice p.ma p.mems.length p.mcap, .slice p.la p.locks.length p.lcap, .slice (some ⟨b, off, none⟩) p.funs.length p.fcap] 26) = W0 at *
     clear hW0
     go_loopw [25] (fun i wr => ∃ k : Nat, k ≤ code.length ∧ i = .int .i64 k ∧ Hid ((code.take k).all (mayF p f) = true) ∧ Hid (Below W0.heap.size W0 wr)) (fun i _ => code.length - (intOf i).toNat)
     case atStart => exact ⟨0, Nat.zero_le _, rfl, Lh rfl, Lh (Below.refl _ _)⟩
     case round =>
      obtain ⟨k, hk, rfl, hall, hb⟩ := hrel
      have hbw := Lh (hst.out.trans (hb.out.mono hst.out.size))
      by_cases hlt : k < code.length
      · obtain ⟨x, hx⟩ : ∃ x, code[k]? = some x := ⟨_, List.getElem?_eq_getElem hlt⟩
        obtain ⟨b', off', ha, _, c0, c1, c2, c3, c4, c5⟩ := X1 (hcr.out wr hbw.out) k x hx
        have hi0' : (0 : Int) ≤ (k : Int) := by omega
        have hi1 : (k : Int) < (code.length : Int) := by omega
        have q0 := hbox.out wr hb.out 0 _ rfl
        have q1 := hbox.out wr hb.out 1 _ rfl
        have q2 := hbox.out wr hb.out 2 _ rfl
        have hlw : w.heap.size < wr.heap.size := World.block_lt_of_cell? _ _ q0
        have hbe := Lh (Qh wr (.cells #[.int .u8 x.op, .int .i64 x.r, .int .i64 x.a, .int .i64 x.b, .int .i64 x.n, .slice x.aa x.args.length x.acap] 44))
        have hbx := Lh (hbw.out.trans (hbe.out.mono hbw.out.size))
        have hbx0 := Lh (hb.out.trans (hbe.out.mono hb.out.size))
        have hno := Lh (fun h => all_no (f := mayF p f) hx h)
        have hyes := Lh (Z4 (f := mayF p f) hx)
        have hc := Lh (hcall.out x _ (List.mem_of_getElem? hx) hbx.out)
        have hme := Lh (hmi.out x)
        rw [ha]
        clear hx hcr hcall hy hmi
        cases hv : mayF p f x
        · have hn := Lh (hno.out hv)
          have hc2 := hc.out
          rw [hme.out, hv] at hc2
          replace hc2 := Lh hc2
          clear hyes hno hall hc hv hme
          go_wp2_with fail
          refine hc2.out.mono ?_
          rintro e w3 ⟨rfl, hb3⟩
          have hbz := Lh (hbx.out.trans (hb3.mono hbx.out.size))
          clear hb3
          go_wp2_with fail
          go_ret
          exact ⟨Qi (by rw [hn.out]; rfl), hbz.out⟩
        · have hn : Hid ((code.take (k + 1)).all (mayF p f) = true) := Lh (by rw [hyes.out, hall.out, hv]; rfl)
          have hc2 := hc.out
          rw [hme.out, hv] at hc2
          replace hc2 := Lh hc2
          clear hyes hno hall hc hv hme
          go_wp2_with fail
          refine hc2.out.mono ?_
          rintro e w3 ⟨rfl, hb3⟩
          have hbz := Lh (hbx0.out.trans (hb3.mono hbx0.out.size))
          clear hb3
          go_wp2_with fail
          go_roundw
          case rel => exact ⟨k + 1, by omega, by go_num, hn, hbz⟩
          case measure => simp [intOf]; omega
      · have hk2 : k = code.length := by omega
        subst hk2
        rw [List.take_length] at hall
        obtain ⟨b', off', ha, _, c0, c1, c2, c3, c4, c5⟩ := X1 (hcr.out wr hbw.out) _ y hy
        have hl1 : (0 : Int) ≤ (code.length : Int) - 1 := by omega
        have hl2 : (code.length : Int) - 1 < (code.length : Int) := by omega
        have hl3 : ((code.length : Int) - 1).toNat = code.length - 1 := by omega
        rw [ha]
        clear hy hcr hcall hmi
        have hfin : Hid (∀ v, v = (decide (y.op = 11) || decide (y.op = 13)) → Ending.returned (.bool v) = .returned (.bool (true && true && code.all (mayF p f) && (decide (y.op = 11) || decide (y.op = 13))))) := Lh (fun v hv => Qi (by rw [hall.out, hv]; rfl))
        by_cases h11 : y.op = 11
        · rw [h11] at c0
          clear hfin
          go_wp2_with fail
          go_ret
          exact ⟨Qi (by rw [hall.out, h11]; rfl), hbw.out⟩
        · have e11 := u8_11 h11
          by_cases h13 : y.op = 13
          · rw [h13] at c0
            clear hfin
            go_wp2_with fail
            go_ret
            exact ⟨Qi (by rw [hall.out, h13]; rfl), hbw.out⟩
          · have e13 : (y.op == 13) = false := by simpa using h13
            go_wp2_with fail
            go_ret
            exact ⟨hfin.out _ (by simp [h11, h13]), hbw.out⟩
   · rw [decide_eq_false h2]
     clear hcall hmi hcr
     go_enter Tryd.func59, Tryd.ntmps59
     go_wp2_with fail
     go_ret
     exact ⟨Qi (by simp), Qh _ _⟩
 · rw [decide_eq_false h1]
   clear hcall hmi hcr
   go_enter Tryd.func59, Tryd.ntmps59
   go_wp2_with fail
   go_ret
   exact ⟨Qi (by simp), Qh _ _⟩
theorem mayCodes_any (p : Pg) (w : World) (hp : Pg.In w (fun _ => True) p) (hT : OpTab w) :
 Calls Tryd.prog 34 #[p.val] w fun e w' => e = .returned (.bool (p.funs.all (Xq p))) ∧ Below w.heap.size w w' := by
 obtain ⟨hd1, hd2⟩ := Q2 hp.frow
 have hcall := Lh (fun (m : Nat) (f : Fn) (V : World) (hf : p.funs[m]? = some f) (hb : Below w.heap.size w V) => mayCode_any p m f V hf (hp.below (Kps.of_below hb)) (hT.keep hb))
 unfold Pg.val at hcall ⊢
 clear hp hT
 go_enter Tryd.func34, Tryd.ntmps34
 go_wp2_with fail
 have hst : Hid (Below w.heap.size w (w.alloc (.cells #[.slice p.ma p.mems.length p.mcap, .slice p.la p.locks.length p.lcap, .slice p.fa p.funs.length p.fcap] 26))) := Lh (Qh _ _)
 have hbox := Lh (fun (V : World) (hb : Below (w.alloc (.cells #[.slice p.ma p.mems.length p.mcap, .slice p.la p.locks.length p.lcap, .slice p.fa p.funs.length p.fcap] 26)).heap.size (w.alloc (.cells #[.slice p.ma p.mems.length p.mcap, .slice p.la p.locks.length p.lcap, .slice p.fa p.funs.length p.fcap] 26)) V) =>
  (fun j u hu => Qe hb (Zk w [.slice p.ma p.mems.length p.mcap, .slice p.la p.locks.length p.lcap, .slice p.fa p.funs.length p.fcap] 26 j u hu) : ∀ j u, [Value.slice p.ma p.mems.length p.mcap, .slice p.la p.locks.length p.lcap, .slice p.fa p.funs.length p.fcap][j]? = some u → V.cell? ⟨w.heap.size, j, none⟩ = some u))
 generalize hW0 : w.alloc (.cells #[.slice p.ma p.mems.length p.mcap, .slice p.la p.locks.length p.lcap, .slice p.fa p.funs.length p.fcap] 26) = W0 at *
 clear hW0
 go_loopw [7] (fun i wr => ∃ k : Nat, k ≤ p.funs.length ∧ i = .int .i64 k ∧ Hid ((p.funs.take k).all (Xq p) = true) ∧ Hid (Below W0.heap.size W0 wr)) (fun i _ => p.funs.length - (intOf i).toNat)
 case atStart => exact ⟨0, Nat.zero_le _, rfl, Lh rfl, Lh (Below.refl _ _)⟩
 case round =>
  obtain ⟨k, hk, rfl, hall, hb⟩ := hrel
  have hbw := Lh (hst.out.trans (hb.out.mono hst.out.size))
  by_cases hlt : k < p.funs.length
  · obtain ⟨x, hx⟩ : ∃ x, p.funs[k]? = some x := ⟨_, List.getElem?_eq_getElem hlt⟩
    have q0 := hbox.out wr hb.out 0 _ rfl
    have q1 := hbox.out wr hb.out 1 _ rfl
    have q2 := hbox.out wr hb.out 2 _ rfl
    have hlw : w.heap.size < wr.heap.size := World.block_lt_of_cell? _ _ q0
    have hno := Lh (fun h => all_no (f := Xq p) hx h)
    have hyes := Lh (Z4 (f := Xq p) hx)
    have hc := Lh (hcall.out k x _ hx hbw.out)
    clear hx hcall
    cases hv : Xq p x
    · have hn := Lh (hno.out hv)
      have hc2 := hc.out
      rw [hv] at hc2
      replace hc2 := Lh hc2
      clear hyes hno hall hc hv
      go_wp2_with fail
      refine hc2.out.mono ?_
      rintro e w3 ⟨rfl, hb3⟩
      have hbz := Lh (hbw.out.trans (hb3.mono hbw.out.size))
      clear hb3
      go_wp2_with fail
      go_ret
      exact ⟨Qi hn.out.symm, hbz.out⟩
    · have hn : Hid ((p.funs.take (k + 1)).all (Xq p) = true) := Lh (by rw [hyes.out, hall.out, hv]; rfl)
      have hc2 := hc.out
      rw [hv] at hc2
      replace hc2 := Lh hc2
      clear hyes hno hall hc hv
      go_wp2_with fail
      refine hc2.out.mono ?_
      rintro e w3 ⟨rfl, hb3⟩
      have hbz := Lh (hb.out.trans (hb3.mono hb.out.size))
      clear hb3
      go_wp2_with fail
      go_roundw
      case rel => exact ⟨k + 1, by omega, by go_num, hn, hbz⟩
      case measure => simp [intOf]; omega
  · have hk2 : k = p.funs.length := by omega
    subst hk2
    rw [List.take_length] at hall
    go_wp2_with fail
    go_ret
    exact ⟨Qi hall.out.symm, hbw.out⟩
/-- may a program be? -/
def mayP (p : Pg) : Bool := Zg p && (sizesP p.mems && (decide ((Xw p).length ≤ 16) && (p.funs.all Xd && p.funs.all (Xq p))))
theorem len_run (v : Value) {w : World} {B : Nat} {e : TypeId} {c n : Nat} {xs : List Value} (h : w.ownsRow B e c v n xs) : ∃ a cap, v = .slice a n cap ∧ n ≤ cap ∧ cap ≤ maxLen := by
 rcases h.2 with ⟨rfl, rfl⟩ | ⟨g, cap, cur, rfl, _, _, h1, h2, _⟩
 · exact ⟨none, 0, rfl, Nat.le_refl _, Nat.zero_le _⟩
 · exact ⟨_, cap, rfl, h1, h2⟩
theorem may_n (p : Pg) (w : World) (hp : Pg.In w (fun _ => True) p) (hsg : SignsIn w) (hsum : p.mems.length + p.locks.length + p.funs.length ≤ 4398046511104) (h0 : Zg p = false) :
 Calls Tryd.prog 11 #[p.val] w fun e w' => e = .returned (.bool (mayP p)) ∧ Below w.heap.size w w' := by
 unfold mayP
 rw [h0]
 have c0 := Lh (fun (V : World) (hb : Below w.heap.size w V) => mayNames_any p V (hp.below (Kps.of_below hb)) (hsg.below hsg.lt hb) (by omega))
 have c0' := c0.out; rw [h0] at c0'; replace c0' := Lh c0'; clear c0
 clear hp hsg h0
 go_enter Tryd.func11, Tryd.ntmps11
 go_wp2_with fail
 have hb0 := Lh (Qh w (.cells #[.slice p.ma p.mems.length p.mcap, .slice p.la p.locks.length p.lcap, .slice p.fa p.funs.length p.fcap] 26))
 refine (c0'.out _ hb0.out).mono ?_
 rintro e w1 ⟨rfl, hb⟩
 obtain ⟨hc, hf⟩ := Q1 hb
 have hlt : w.heap.size < w1.heap.size := by have := hb.size; simp at this; omega
 have hq0 := Lh (hb0.out.trans (hb.mono hb0.out.size))
 clear hb
 go_wp2_with fail
 go_ret
 exact ⟨Qi (by simp), hq0.out⟩
theorem may_s (p : Pg) (w : World) (hp : Pg.In w (fun _ => True) p) (hsg : SignsIn w) (hsum : p.mems.length + p.locks.length + p.funs.length ≤ 4398046511104) (h0 : Zg p = true) (h1 : sizesP p.mems = false) :
 Calls Tryd.prog 11 #[p.val] w fun e w' => e = .returned (.bool (mayP p)) ∧ Below w.heap.size w w' := by
 unfold mayP
 rw [h0, h1]
 have c0 := Lh (fun (V : World) (hb : Below w.heap.size w V) => mayNames_any p V (hp.below (Kps.of_below hb)) (hsg.below hsg.lt hb) (by omega))
 have c1 := Lh (fun (V : World) (hb : Below w.heap.size w V) => maySizes_any p.mems p.ma p.mcap V (hp.mrow.below (Kps.of_below hb)))
 have c0' := c0.out; rw [h0] at c0'; replace c0' := Lh c0'; clear c0
 have c1' := c1.out; rw [h1] at c1'; replace c1' := Lh c1'; clear c1
 clear hp hsg h0 h1
 go_enter Tryd.func11, Tryd.ntmps11
 go_wp2_with fail
 have hb0 := Lh (Qh w (.cells #[.slice p.ma p.mems.length p.mcap, .slice p.la p.locks.length p.lcap, .slice p.fa p.funs.length p.fcap] 26))
 refine (c0'.out _ hb0.out).mono ?_
 rintro e w1 ⟨rfl, hb⟩
 obtain ⟨hc, hf⟩ := Q1 hb
 have hlt : w.heap.size < w1.heap.size := by have := hb.size; simp at this; omega
 have hq0 := Lh (hb0.out.trans (hb.mono hb0.out.size))
 clear hb
 go_wp2_with fail
 refine (c1'.out _ hq0.out).mono ?_
 rintro e w2 ⟨rfl, hb⟩
 obtain ⟨hc1, hf1⟩ := Q1 hb
 have hlt1 : w.heap.size < w2.heap.size := by have := hb.size; omega
 have hq1 := Lh (hq0.out.trans (hb.mono hq0.out.size))
 clear hb
 go_wp2_with fail
 go_ret
 exact ⟨Qi (by simp), hq1.out⟩
theorem may_t (p : Pg) (w : World) (hp : Pg.In w (fun _ => True) p) (hsg : SignsIn w) (hsum : p.mems.length + p.locks.length + p.funs.length ≤ 4398046511104) (h0 : Zg p = true) (h1 : sizesP p.mems = true) (h2 : decide ((Xw p).length ≤ 16) = false) :
 Calls Tryd.prog 11 #[p.val] w fun e w' => e = .returned (.bool (mayP p)) ∧ Below w.heap.size w w' := by
 unfold mayP
 rw [h0, h1, h2]
 have c0 := Lh (fun (V : World) (hb : Below w.heap.size w V) => mayNames_any p V (hp.below (Kps.of_below hb)) (hsg.below hsg.lt hb) (by omega))
 have c1 := Lh (fun (V : World) (hb : Below w.heap.size w V) => maySizes_any p.mems p.ma p.mcap V (hp.mrow.below (Kps.of_below hb)))
 have c2 := Lh (fun (V : World) (hb : Below w.heap.size w V) => threads_any p V (hp.frow.below (Kps.of_below hb)) (by omega))
 have c0' := c0.out; rw [h0] at c0'; replace c0' := Lh c0'; clear c0
 have c1' := c1.out; rw [h1] at c1'; replace c1' := Lh c1'; clear c1
 clear hp hsg h0 h1
 go_enter Tryd.func11, Tryd.ntmps11
 go_wp2_with fail
 have hb0 := Lh (Qh w (.cells #[.slice p.ma p.mems.length p.mcap, .slice p.la p.locks.length p.lcap, .slice p.fa p.funs.length p.fcap] 26))
 refine (c0'.out _ hb0.out).mono ?_
 rintro e w1 ⟨rfl, hb⟩
 obtain ⟨hc, hf⟩ := Q1 hb
 have hlt : w.heap.size < w1.heap.size := by have := hb.size; simp at this; omega
 have hq0 := Lh (hb0.out.trans (hb.mono hb0.out.size))
 clear hb
 go_wp2_with fail
 refine (c1'.out _ hq0.out).mono ?_
 rintro e w2 ⟨rfl, hb⟩
 obtain ⟨hc1, hf1⟩ := Q1 hb
 have hlt1 : w.heap.size < w2.heap.size := by have := hb.size; omega
 have hq1 := Lh (hq0.out.trans (hb.mono hq0.out.size))
 clear hb
 go_wp2_with fail
 refine (c2.out _ hq1.out).mono ?_
 rintro e w3 ⟨v, rfl, hv, hb⟩
 obtain ⟨va, vc, rfl, hv1, hv2⟩ := len_run v hv
 have hv3 : (Xw p).length ≤ 9223372036854775807 := by unfold maxLen at hv2; omega
 have hle : ¬ ((Xw p).length : Int) ≤ 16 := by have := of_decide_eq_false h2; omega
 clear hv
 obtain ⟨hc2, hf2⟩ := Q1 hb
 have hlt2 : w.heap.size < w3.heap.size := by have := hb.size; omega
 have hq2 := Lh (hq1.out.trans (hb.mono hq1.out.size))
 clear hb
 go_wp2_with fail
 go_ret
 exact ⟨Qi (by simp), hq2.out⟩
theorem may_h (p : Pg) (w : World) (hp : Pg.In w (fun _ => True) p) (hsg : SignsIn w) (hsum : p.mems.length + p.locks.length + p.funs.length ≤ 4398046511104) (h0 : Zg p = true) (h1 : sizesP p.mems = true) (h2 : decide ((Xw p).length ≤ 16) = true) (h3 : p.funs.all Xd = false) :
 Calls Tryd.prog 11 #[p.val] w fun e w' => e = .returned (.bool (mayP p)) ∧ Below w.heap.size w w' := by
 unfold mayP
 rw [h0, h1, h2, h3]
 have c0 := Lh (fun (V : World) (hb : Below w.heap.size w V) => mayNames_any p V (hp.below (Kps.of_below hb)) (hsg.below hsg.lt hb) (by omega))
 have c1 := Lh (fun (V : World) (hb : Below w.heap.size w V) => maySizes_any p.mems p.ma p.mcap V (hp.mrow.below (Kps.of_below hb)))
 have c2 := Lh (fun (V : World) (hb : Below w.heap.size w V) => threads_any p V (hp.frow.below (Kps.of_below hb)) (by omega))
 have c3 := Lh (fun (V : World) (hb : Below w.heap.size w V) => mayHeads_any p.funs p.fa p.fcap V (hp.frow.below (Kps.of_below hb)))
 have c0' := c0.out; rw [h0] at c0'; replace c0' := Lh c0'; clear c0
 have c1' := c1.out; rw [h1] at c1'; replace c1' := Lh c1'; clear c1
 have c3' := c3.out; rw [h3] at c3'; replace c3' := Lh c3'; clear c3
 clear hp hsg h0 h1 h3
 go_enter Tryd.func11, Tryd.ntmps11
 go_wp2_with fail
 have hb0 := Lh (Qh w (.cells #[.slice p.ma p.mems.length p.mcap, .slice p.la p.locks.length p.lcap, .slice p.fa p.funs.length p.fcap] 26))
 refine (c0'.out _ hb0.out).mono ?_
 rintro e w1 ⟨rfl, hb⟩
 obtain ⟨hc, hf⟩ := Q1 hb
 have hlt : w.heap.size < w1.heap.size := by have := hb.size; simp at this; omega
 have hq0 := Lh (hb0.out.trans (hb.mono hb0.out.size))
 clear hb
 go_wp2_with fail
 refine (c1'.out _ hq0.out).mono ?_
 rintro e w2 ⟨rfl, hb⟩
 obtain ⟨hc1, hf1⟩ := Q1 hb
 have hlt1 : w.heap.size < w2.heap.size := by have := hb.size; omega
 have hq1 := Lh (hq0.out.trans (hb.mono hq0.out.size))
 clear hb
 go_wp2_with fail
 refine (c2.out _ hq1.out).mono ?_
 rintro e w3 ⟨v, rfl, hv, hb⟩
 obtain ⟨va, vc, rfl, hv1, hv2⟩ := len_run v hv
 have hv3 : (Xw p).length ≤ 9223372036854775807 := by unfold maxLen at hv2; omega
 have hle : ((Xw p).length : Int) ≤ 16 := by have := of_decide_eq_true h2; omega
 clear hv
 obtain ⟨hc2, hf2⟩ := Q1 hb
 have hlt2 : w.heap.size < w3.heap.size := by have := hb.size; omega
 have hq2 := Lh (hq1.out.trans (hb.mono hq1.out.size))
 clear hb
 go_wp2_with fail
 refine (c3'.out _ hq2.out).mono ?_
 rintro e w4 ⟨rfl, hb⟩
 obtain ⟨hc3, hf3⟩ := Q1 hb
 have hlt3 : w.heap.size < w4.heap.size := by have := hb.size; omega
 have hq3 := Lh (hq2.out.trans (hb.mono hq2.out.size))
 clear hb
 go_wp2_with fail
 go_ret
 exact ⟨Qi (by simp), hq3.out⟩
theorem may_c (p : Pg) (w : World) (hp : Pg.In w (fun _ => True) p) (hT : OpTab w) (hsg : SignsIn w) (hsum : p.mems.length + p.locks.length + p.funs.length ≤ 4398046511104) (h0 : Zg p = true) (h1 : sizesP p.mems = true) (h2 : decide ((Xw p).length ≤ 16) = true) (h3 : p.funs.all Xd = true) (h4 : p.funs.all (Xq p) = false) :
 Calls Tryd.prog 11 #[p.val] w fun e w' => e = .returned (.bool (mayP p)) ∧ Below w.heap.size w w' := by
 unfold mayP
 rw [h0, h1, h2, h3, h4]
 have c0 := Lh (fun (V : World) (hb : Below w.heap.size w V) => mayNames_any p V (hp.below (Kps.of_below hb)) (hsg.below hsg.lt hb) (by omega))
 have c1 := Lh (fun (V : World) (hb : Below w.heap.size w V) => maySizes_any p.mems p.ma p.mcap V (hp.mrow.below (Kps.of_below hb)))
 have c2 := Lh (fun (V : World) (hb : Below w.heap.size w V) => threads_any p V (hp.frow.below (Kps.of_below hb)) (by omega))
 have c3 := Lh (fun (V : World) (hb : Below w.heap.size w V) => mayHeads_any p.funs p.fa p.fcap V (hp.frow.below (Kps.of_below hb)))
 have c4 := Lh (fun (V : World) (hb : Below w.heap.size w V) => mayCodes_any p V (hp.below (Kps.of_below hb)) (hT.keep hb))
 have c0' := c0.out; rw [h0] at c0'; replace c0' := Lh c0'; clear c0
 have c1' := c1.out; rw [h1] at c1'; replace c1' := Lh c1'; clear c1
 have c3' := c3.out; rw [h3] at c3'; replace c3' := Lh c3'; clear c3
 have c4' := c4.out; rw [h4] at c4'; replace c4' := Lh c4'; clear c4
 clear hp hsg hT h0 h1 h3 h4
 go_enter Tryd.func11, Tryd.ntmps11
 go_wp2_with fail
 have hb0 := Lh (Qh w (.cells #[.slice p.ma p.mems.length p.mcap, .slice p.la p.locks.length p.lcap, .slice p.fa p.funs.length p.fcap] 26))
 refine (c0'.out _ hb0.out).mono ?_
 rintro e w1 ⟨rfl, hb⟩
 obtain ⟨hc, hf⟩ := Q1 hb
 have hlt : w.heap.size < w1.heap.size := by have := hb.size; simp at this; omega
 have hq0 := Lh (hb0.out.trans (hb.mono hb0.out.size))
 clear hb
 go_wp2_with fail
 refine (c1'.out _ hq0.out).mono ?_
 rintro e w2 ⟨rfl, hb⟩
 obtain ⟨hc1, hf1⟩ := Q1 hb
 have hlt1 : w.heap.size < w2.heap.size := by have := hb.size; omega
 have hq1 := Lh (hq0.out.trans (hb.mono hq0.out.size))
 clear hb
 go_wp2_with fail
 refine (c2.out _ hq1.out).mono ?_
 rintro e w3 ⟨v, rfl, hv, hb⟩
 obtain ⟨va, vc, rfl, hv1, hv2⟩ := len_run v hv
 have hv3 : (Xw p).length ≤ 9223372036854775807 := by unfold maxLen at hv2; omega
 have hle : ((Xw p).length : Int) ≤ 16 := by have := of_decide_eq_true h2; omega
 clear hv
 obtain ⟨hc2, hf2⟩ := Q1 hb
 have hlt2 : w.heap.size < w3.heap.size := by have := hb.size; omega
 have hq2 := Lh (hq1.out.trans (hb.mono hq1.out.size))
 clear hb
 go_wp2_with fail
 refine (c3'.out _ hq2.out).mono ?_
 rintro e w4 ⟨rfl, hb⟩
 obtain ⟨hc3, hf3⟩ := Q1 hb
 have hlt3 : w.heap.size < w4.heap.size := by have := hb.size; omega
 have hq3 := Lh (hq2.out.trans (hb.mono hq2.out.size))
 clear hb
 go_wp2_with fail
 refine (c4'.out _ hq3.out).mono ?_
 rintro e w5 ⟨rfl, hb⟩
 obtain ⟨hc4, hf4⟩ := Q1 hb
 have hlt4 : w.heap.size < w5.heap.size := by have := hb.size; omega
 have hq4 := Lh (hq3.out.trans (hb.mono hq3.out.size))
 clear hb
 go_wp2_with fail
 go_ret
 exact ⟨Qi (by simp), hq4.out⟩
theorem may_y (p : Pg) (w : World) (hp : Pg.In w (fun _ => True) p) (hT : OpTab w) (hsg : SignsIn w) (hsum : p.mems.length + p.locks.length + p.funs.length ≤ 4398046511104) (h0 : Zg p = true) (h1 : sizesP p.mems = true) (h2 : decide ((Xw p).length ≤ 16) = true) (h3 : p.funs.all Xd = true) (h4 : p.funs.all (Xq p) = true) :
 Calls Tryd.prog 11 #[p.val] w fun e w' => e = .returned (.bool (mayP p)) ∧ Below w.heap.size w w' := by
 unfold mayP
 rw [h0, h1, h2, h3, h4]
 have c0 := Lh (fun (V : World) (hb : Below w.heap.size w V) => mayNames_any p V (hp.below (Kps.of_below hb)) (hsg.below hsg.lt hb) (by omega))
 have c1 := Lh (fun (V : World) (hb : Below w.heap.size w V) => maySizes_any p.mems p.ma p.mcap V (hp.mrow.below (Kps.of_below hb)))
 have c2 := Lh (fun (V : World) (hb : Below w.heap.size w V) => threads_any p V (hp.frow.below (Kps.of_below hb)) (by omega))
 have c3 := Lh (fun (V : World) (hb : Below w.heap.size w V) => mayHeads_any p.funs p.fa p.fcap V (hp.frow.below (Kps.of_below hb)))
 have c4 := Lh (fun (V : World) (hb : Below w.heap.size w V) => mayCodes_any p V (hp.below (Kps.of_below hb)) (hT.keep hb))
 have c0' := c0.out; rw [h0] at c0'; replace c0' := Lh c0'; clear c0
 have c1' := c1.out; rw [h1] at c1'; replace c1' := Lh c1'; clear c1
 have c3' := c3.out; rw [h3] at c3'; replace c3' := Lh c3'; clear c3
 have c4' := c4.out; rw [h4] at c4'; replace c4' := Lh c4'; clear c4
 clear hp hsg hT h0 h1 h3 h4
 go_enter Tryd.func11, Tryd.ntmps11
 go_wp2_with fail
 have hb0 := Lh (Qh w (.cells #[.slice p.ma p.mems.length p.mcap, .slice p.la p.locks.length p.lcap, .slice p.fa p.funs.length p.fcap] 26))
 refine (c0'.out _ hb0.out).mono ?_
 rintro e w1 ⟨rfl, hb⟩
 obtain ⟨hc, hf⟩ := Q1 hb
 have hlt : w.heap.size < w1.heap.size := by have := hb.size; simp at this; omega
 have hq0 := Lh (hb0.out.trans (hb.mono hb0.out.size))
 clear hb
 go_wp2_with fail
 refine (c1'.out _ hq0.out).mono ?_
 rintro e w2 ⟨rfl, hb⟩
 obtain ⟨hc1, hf1⟩ := Q1 hb
 have hlt1 : w.heap.size < w2.heap.size := by have := hb.size; omega
 have hq1 := Lh (hq0.out.trans (hb.mono hq0.out.size))
 clear hb
 go_wp2_with fail
 refine (c2.out _ hq1.out).mono ?_
 rintro e w3 ⟨v, rfl, hv, hb⟩
 obtain ⟨va, vc, rfl, hv1, hv2⟩ := len_run v hv
 have hv3 : (Xw p).length ≤ 9223372036854775807 := by unfold maxLen at hv2; omega
 have hle : ((Xw p).length : Int) ≤ 16 := by have := of_decide_eq_true h2; omega
 clear hv
 obtain ⟨hc2, hf2⟩ := Q1 hb
 have hlt2 : w.heap.size < w3.heap.size := by have := hb.size; omega
 have hq2 := Lh (hq1.out.trans (hb.mono hq1.out.size))
 clear hb
 go_wp2_with fail
 refine (c3'.out _ hq2.out).mono ?_
 rintro e w4 ⟨rfl, hb⟩
 obtain ⟨hc3, hf3⟩ := Q1 hb
 have hlt3 : w.heap.size < w4.heap.size := by have := hb.size; omega
 have hq3 := Lh (hq2.out.trans (hb.mono hq2.out.size))
 clear hb
 go_wp2_with fail
 refine (c4'.out _ hq3.out).mono ?_
 rintro e w5 ⟨rfl, hb⟩
 obtain ⟨hc4, hf4⟩ := Q1 hb
 have hlt4 : w.heap.size < w5.heap.size := by have := hb.size; omega
 have hq4 := Lh (hq3.out.trans (hb.mono hq3.out.size))
 clear hb
 go_wp2_with fail
 go_ret
 exact ⟨Qi (by simp), hq4.out⟩
theorem may_any (p : Pg) (w : World) (hp : Pg.In w (fun _ => True) p) (hT : OpTab w) (hsg : SignsIn w) (hsum : p.mems.length + p.locks.length + p.funs.length ≤ 4398046511104) :
 Calls Tryd.prog 11 #[p.val] w fun e w' => e = .returned (.bool (mayP p)) ∧ Below w.heap.size w w' := by
 cases h0 : Zg p
 · exact may_n p w hp hsg hsum h0
 · cases h1 : sizesP p.mems
   · exact may_s p w hp hsg hsum h0 h1
   · cases h2 : decide ((Xw p).length ≤ 16)
     · exact may_t p w hp hsg hsum h0 h1 h2
     · cases h3 : p.funs.all Xd
       · exact may_h p w hp hsg hsum h0 h1 h2 h3
       · cases h4 : p.funs.all (Xq p)
         · exact may_c p w hp hT hsg hsum h0 h1 h2 h3 h4
         · exact may_y p w hp hT hsg hsum h0 h1 h2 h3 h4
end Go.Proofs.YthiiahlgncngoaaDoorRR.Cd
