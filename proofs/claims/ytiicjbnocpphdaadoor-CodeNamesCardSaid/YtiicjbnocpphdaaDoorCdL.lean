/- Walks of code.Threads, maySizes, mayHeads, mayCode, mayCodes. Conditions: the program lies in memory. -/
import Derived.Test.YtiicjbnocpphdaaDoorCdI
import Derived.Test.YtiicjbnocpphdaaDoorCdK
import Derived.Maps.AppendAt
import Derived.OwnWalk
namespace Go.Proofs.YtiicjbnocpphdaaDoor.Cd
open Go Go.RowKit
open Go.Proofs.YtiicjbnocpphdaaDoor.Lx Go.Proofs.YtiicjbnocpphdaaDoor.Tr

theorem thrs_from (l r : List Fn) (k : Nat) : thrsFrom k (l ++ r) = thrsFrom k l ++ thrsFrom (k + l.length) r := by
  induction l generalizing k with
  | nil => simp [thrsFrom]
  | cons f l ih =>
    rw [List.cons_append, thrsFrom, thrsFrom, ih (k + 1), List.append_assoc, List.length_cons, show k + 1 + l.length = k + (l.length + 1) by omega]
theorem thrs_take {l : List Fn} {k : Nat} {f : Fn} (h : l[k]? = some f) : thrsFrom 0 (l.take (k + 1)) = thrsFrom 0 (l.take k) ++ if f.thread then [(k : Int)] else [] := by
  have hk : k < l.length := (List.getElem?_eq_some_iff.1 h).1
  rw [List.take_add_one, h, thrs_from]
  have : (l.take k).length = k := by rw [List.length_take]; omega
  rw [this]
  simp [thrsFrom]
theorem thrs_len : ∀ (l : List Fn) (k : Nat), (thrsFrom k l).length ≤ l.length
  | [], _ => by simp [thrsFrom]
  | f :: r, k => by
    unfold thrsFrom
    have := thrs_len r (k + 1)
    rw [List.length_append, List.length_cons]
    split <;> simp <;> omega
theorem info_i : ∃ i, Tryd.prog.info? 3 = some i ∧ i.zero = some (.int .i64 0) ∧ i.size = 1 ∧ i.bytes = 8 := ⟨_, rfl, rfl, rfl, rfl⟩
theorem own_below {B : Nat} {e : TypeId} {c : Nat} {v : Value} {n : Nat} {xs : List Value} {W W' : World} (h : W.ownsRow B e c v n xs) (hb : Below W.heap.size W W') : W'.ownsRow B e c v n xs :=
  ⟨h.1, h.2.imp id fun ⟨g, cap, cur, hv, hB, hg, hr⟩ => ⟨g, cap, cur, hv, hB, (hb.block g (Array.getElem?_eq_some_iff.1 hg).1).trans hg, hr⟩⟩

theorem one_at (W : World) (v : Value) (t : TypeId) (B : Nat) (hB : W.heap.size = B) : ∀ j u, [v][j]? = some u → (W.alloc (.cells #[v] t)).cell? ((⟨B, 0, none⟩ : Addr).add j) = some u := by
  subst hB; exact cell_one_new _ _ _
set_option maxHeartbeats 2000000 in
set_option maxRecDepth 100000 in
theorem threads_any (p : Pg) (w : World) (hrow : RowAt w (fun _ => True) p.fa p.fcap p.funs.length (fnCells p.funs)) (hlen : p.funs.length ≤ 8796093022208) :
    Calls Tryd.prog 18 #[p.val] w fun e w' => ∃ v, e = .returned v ∧ w'.ownsRow w.heap.size 3 1 v (thrsP p).length (numCells (thrsP p)) ∧ Below w.heap.size w w' := by
  obtain ⟨hc1, hc2⟩ := len_i hrow
  obtain ⟨i0, hi0, hz0, hz1, hz2⟩ := info_i
  unfold thrsP
  obtain ⟨ma, mcap, mems, la, lcap, locks, fa, fcap, funs⟩ := p
  simp only at hrow hlen hc1 hc2 ⊢
  unfold Pg.val
  simp only
  generalize mems.length = ml
  generalize locks.length = ll
  go_enter Tryd.func18, Tryd.ntmps18
  go_wp2_with fail
  go_loopw [3, 9] (fun v i wr => ∃ k : Nat, k ≤ funs.length ∧ i = .int .i64 k ∧ Hid (wr.ownsRow w.heap.size 3 1 v (thrsFrom 0 (funs.take k)).length (numCells (thrsFrom 0 (funs.take k)))) ∧ Hid (Below w.heap.size w wr)) (fun _ i _ => funs.length - (intOf i).toNat)
  case atStart => exact ⟨0, Nat.zero_le _, rfl, Lib.hid (World.ownsRow_nil _ _ _ _), Lib.hid (b_alloc _ _)⟩
  case round =>
    obtain ⟨k, hk, rfl, hown, hb⟩ := hrel
    by_cases hlt : k < funs.length
    · obtain ⟨f, hf⟩ : ∃ f, funs[k]? = some f := ⟨_, List.getElem?_eq_getElem hlt⟩
      obtain ⟨b, off, ha, _, c0, c1, c2, c3, c4⟩ := fn_row (hrow.below (Kps.of_below hb.out)) k f hf
      subst ha
      have htk := thrs_take hf
      have hln := thrs_len (funs.take k) 0
      rw [List.length_take] at hln
      have hi0' : (0 : Int) ≤ (k : Int) := by omega
      have hi1 : (k : Int) < (funs.length : Int) := by omega
      have hbe := Lib.hid (b_alloc wr (.cells #[.string f.name, .bool f.thread, .int .i64 f.params, .int .i64 f.regs, .slice f.ca f.code.length f.ccap] 42))
      have hbx := Lib.hid (hb.out.trans (hbe.out.mono hb.out.size))
      have hsz := hb.out.size
      clear hf hrow
      cases ht : f.thread
      · rw [ht] at htk c1 hbe hbx
        have hown2 := Lib.hid (own_below hown.out hbe.out)
        rw [if_neg (by simp), List.append_nil] at htk
        rw [← htk] at hown2
        clear ht htk hown
        go_wp2_with fail
        go_roundw
        case rel => exact ⟨k + 1, by omega, by go_num, hown2, hbx⟩
        case measure => simp [intOf]; omega
      · rw [ht] at htk c1 hbe hbx
        have hown2 := Lib.hid (own_below hown.out hbe.out)
        rw [if_pos rfl] at htk
        generalize thrsFrom 0 (funs.take k) = T at *
        replace htk := Lib.hid htk
        clear ht hown
        go_wp2_with (at_builtin; refine wpList_append_own_at _ rfl _ _ 29 rfl w.heap.size 3 i0 _ 1 8 Tryd.underlying29 hi0 hz0 hz1 hz2 rfl (by decide) _ _ _ rfl (own_below hown2.out (b_alloc _ _)) _ 1 1 [.int .i64 k] rfl rfl (one_at _ _ _ _ (by first | rfl | simp)) (by simp [Value.oneCell']) ?c1 ?c2 ?c3 ?_)
        case c1 => unfold maxLen; omega
        case c2 => omega
        case c3 => simp; omega
        intro v' w3 hown3 hg3 _ hat3
        have hfin : Hid (w3.ownsRow w.heap.size 3 1 v' (thrsFrom 0 (funs.take (k + 1))).length (numCells (thrsFrom 0 (funs.take (k + 1))))) := Lib.hid (by
          rw [htk.out, List.length_append]
          have he : numCells (T ++ [(k : Int)]) = numCells T ++ [.int .i64 k] := by unfold numCells; rw [List.map_append]; rfl
          rw [he]; exact hown3)
        have hbz : Hid (Below w.heap.size w w3) := Lib.hid ((hbx.out.alloc (by have := hbx.out.size; omega) _).grown hg3 (by simp; omega) (fun q e => (hown2.out.lt q e).1))
        clear hown3 hg3 hat3
        go_wp2_with fail
        go_roundw
        case rel => exact ⟨k + 1, by omega, by go_num, hfin, hbz⟩
        case measure => simp [intOf]; omega
    · have hk2 : k = funs.length := by omega
      subst hk2
      rw [List.take_length] at hown
      go_wp2_with fail
      go_ret
      exact ⟨_, rfl, hown.out, hb.out⟩
end Go.Proofs.YtiicjbnocpphdaaDoor.Cd
