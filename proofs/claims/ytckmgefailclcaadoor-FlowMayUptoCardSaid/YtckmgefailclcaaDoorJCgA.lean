/- Walk of bobbinref07.Threads. Conditions: the program's Funs lie in memory. -/
import Derived.Test.YtckmgefailclcaaDoorJaH
import Derived.Deep.Cut
namespace Go.Proofs.YtckmgefailclcaaDoor.Cd
open Go Go.RowKit
open Go.Proofs.YtckmgefailclcaaDoor.Lx Go.Proofs.YtckmgefailclcaaDoor.Tr

theorem own_lower {W : World} {B B' : Nat} {e : TypeId} {c : Nat} {v : Value} {n : Nat} {xs : List Value} (h : W.ownsRow B e c v n xs) (hB : B' ≤ B) : W.ownsRow B' e c v n xs :=
  ⟨h.1, h.2.imp id fun ⟨g, cap, cur, q1, q2, q3⟩ => ⟨g, cap, cur, q1, Nat.le_trans hB q2, q3⟩⟩
set_option maxHeartbeats 2000000 in
set_option maxRecDepth 100000 in
theorem rthreads_any (p : Pg) (w : World) (hrow : RowAt w (fun _ => True) p.fa p.fcap p.funs.length (fnCells p.funs)) (hlen : p.funs.length ≤ 8796093022208) :
    Calls Tryd.prog 52 #[p.val] w fun e w' => ∃ v, e = .returned v ∧ w'.ownsRow w.heap.size 3 1 v (thrsP p).length (numCells (thrsP p)) ∧ Below w.heap.size w w' := by
  obtain ⟨hc1, hc2⟩ := len_i hrow
  obtain ⟨i0, hi0, hz0, hz1, hz2⟩ := info_i
  unfold thrsP
  have hst : Below w.heap.size w (w.alloc (.cells #[.slice p.ma p.mems.length p.mcap, .slice p.la p.locks.length p.lcap, .slice p.fa p.funs.length p.fcap] 26)) := b_alloc _ _
  have hbx : (w.alloc (.cells #[.slice p.ma p.mems.length p.mcap, .slice p.la p.locks.length p.lcap, .slice p.fa p.funs.length p.fcap] 26)).cell? ⟨w.heap.size, 2, none⟩ = some (.slice p.fa p.funs.length p.fcap) := box_new w p.vals 26 2 _ rfl
  obtain ⟨ma, mcap, mems, la, lcap, locks, fa, fcap, funs⟩ := p
  simp only at hrow hlen hc1 hc2 hst hbx ⊢
  unfold Pg.val
  simp only
  generalize mems.length = ml at *
  generalize locks.length = ll at *
  have hbx2 : Hid (∀ V, Below w.heap.size w V → V.heap[w.heap.size]? = (w.alloc (.cells #[.slice ma ml mcap, .slice la ll lcap, .slice fa funs.length fcap] 26)).heap[w.heap.size]? → V.cell? ⟨w.heap.size, 2, none⟩ = some (.slice fa funs.length fcap)) := Lib.hid fun V _ hV => (World.cell?_of_block (w := w.alloc (.cells #[.slice ma ml mcap, .slice la ll lcap, .slice fa funs.length fcap] 26)) (a := ⟨w.heap.size, 2, none⟩) hV).trans hbx
  go_enter Tryd.func52, Tryd.ntmps52
  go_upto_region 1 with fail
  generalize hW0 : w.alloc (.cells #[.slice ma ml mcap, .slice la ll lcap, .slice fa funs.length fcap] 26) = W0 at *
  have hW0s : w.heap.size < W0.heap.size := by rw [← hW0]; simp
  clear hW0
  go_wp2_with fail
  go_loopw [3, 4] (fun v i wr => ∃ k : Nat, k ≤ funs.length ∧ i = .int .i64 k ∧ Hid (wr.ownsRow W0.heap.size 3 1 v (thrsFrom 0 (funs.take k)).length (numCells (thrsFrom 0 (funs.take k)))) ∧ Hid (Below W0.heap.size W0 wr)) (fun _ i _ => funs.length - (intOf i).toNat)
  case atStart => exact ⟨0, Nat.zero_le _, rfl, Lib.hid (World.ownsRow_nil _ _ _ _), Lib.hid (Below.refl _ _)⟩
  case round =>
    obtain ⟨k, hk, rfl, hown, hb⟩ := hrel
    have hbw := hst.trans (hb.out.mono (Nat.le_of_lt hW0s))
    have cb := hbx2.out wr hbw (hb.out.block _ hW0s)
    clear hbx
    by_cases hlt : k < funs.length
    · obtain ⟨f, hf⟩ : ∃ f, funs[k]? = some f := ⟨_, List.getElem?_eq_getElem hlt⟩
      obtain ⟨b, off, ha, _, c0, c1, c2, c3, c4⟩ := fn_row (hrow.below (Kps.of_below hbw)) k f hf
      subst ha
      have htk := thrs_take hf
      have hln := thrs_len (funs.take k) 0
      rw [List.length_take] at hln
      have hi0' : (0 : Int) ≤ (k : Int) := by omega
      have hi1 : (k : Int) < (funs.length : Int) := by omega
      have hsz := hb.out.size
      clear hf hrow hbw
      cases ht : f.thread
      · rw [ht] at htk c1
        have hown2 := hown
        rw [if_neg (by simp), List.append_nil] at htk
        rw [← htk] at hown2
        clear ht htk hown
        go_wp2_with fail
        go_roundw
        case rel => exact ⟨k + 1, by omega, by go_num, hown2, hb⟩
        case measure => simp [intOf]; omega
      · rw [ht] at htk c1
        have hown2 := hown
        rw [if_pos rfl] at htk
        generalize thrsFrom 0 (funs.take k) = T at *
        replace htk := Lib.hid htk
        clear ht hown
        go_wp2_with (at_builtin; refine wpList_append_own_at _ rfl _ _ 40 rfl W0.heap.size 3 i0 _ 1 8 Tryd.underlying40 hi0 hz0 hz1 hz2 rfl (by decide) _ _ _ rfl (own_below hown2.out (b_alloc _ _)) _ 1 1 [.int .i64 k] rfl rfl (one_at _ _ _ _ (by first | rfl | simp)) (by simp [Value.oneCell']) ?c1 ?c2 ?c3 ?_)
        case c1 => unfold maxLen; omega
        case c2 => omega
        case c3 => simp; omega
        intro v' w3 hown3 hg3 _ hat3
        have hfin : Hid (w3.ownsRow W0.heap.size 3 1 v' (thrsFrom 0 (funs.take (k + 1))).length (numCells (thrsFrom 0 (funs.take (k + 1))))) := Lib.hid (by
          rw [htk.out, List.length_append]
          have he : numCells (T ++ [(k : Int)]) = numCells T ++ [.int .i64 k] := by unfold numCells; rw [List.map_append]; rfl
          rw [he]; exact hown3)
        have hbz : Hid (Below W0.heap.size W0 w3) := Lib.hid ((hb.out.alloc hb.out.size _).grown hg3 (by simp; omega) (fun q e => (hown2.out.lt q e).1))
        clear hown3 hg3 hat3
        go_wp2_with fail
        go_roundw
        case rel => exact ⟨k + 1, by omega, by go_num, hfin, hbz⟩
        case measure => simp [intOf]; omega
    · have hk2 : k = funs.length := by omega
      subst hk2
      rw [List.take_length] at hown
      have hbf := Lib.hid hbw
      have hsz0 := Lib.hid (own_lower hown.out (Nat.le_of_lt hW0s))
      clear hown hbw
      go_wp2_with fail
      go_ret
      exact ⟨_, rfl, hsz0.out, hbf.out⟩
end Go.Proofs.YtckmgefailclcaaDoor.Cd
