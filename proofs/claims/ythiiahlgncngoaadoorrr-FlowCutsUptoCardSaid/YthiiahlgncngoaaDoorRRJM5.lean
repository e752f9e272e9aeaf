/- Walk of bobbinref07.Threads. Conditions: the program's Funs lie in memory. -/
import Derived.Deep.Cut
import Derived.Test.YthiiahlgncngoaaDoorRRJaI
set_option maxHeartbeats 16000000
set_option maxRecDepth 100000
namespace Go.Proofs.YthiiahlgncngoaaDoorRR.Cd
open Go Go.RowKit
open Go.Proofs.YthiiahlgncngoaaDoorRR.Lx Go.Proofs.YthiiahlgncngoaaDoorRR.Tr
theorem own_lower {W : World} {B B' : Nat} {e : TypeId} {c : Nat} {v : Value} {n : Nat} {xs : List Value} (h : W.ownsRow B e c v n xs) (hB : B' ≤ B) : W.ownsRow B' e c v n xs :=
 ⟨h.1, h.2.imp id fun ⟨g, cap, cur, q1, q2, q3⟩ => ⟨g, cap, cur, q1, Nat.le_trans hB q2, q3⟩⟩
theorem rthreads_any (p : Pg) (w : World) (hrow : RowAt w (fun _ => True) p.fa p.fcap p.funs.length (Zw p.funs)) (hlen : p.funs.length ≤ 8796093022208) :
 Calls Tryd.prog 48 #[p.val] w fun e w' => ∃ v, e = .returned v ∧ w'.ownsRow w.heap.size 3 1 v (Xw p).length (Qc (Xw p)) ∧ Below w.heap.size w w' := by
 obtain ⟨hc1, hc2⟩ := Q2 hrow
 obtain ⟨i0, hi0, hz0, hz1, hz2⟩ := Xn
 unfold Xw
 have hst : Below w.heap.size w (w.alloc (.cells #[.slice p.ma p.mems.length p.mcap, .slice p.la p.locks.length p.lcap, .slice p.fa p.funs.length p.fcap] 26)) := Qh _ _
 have hbx : (w.alloc (.cells #[.slice p.ma p.mems.length p.mcap, .slice p.la p.locks.length p.lcap, .slice p.fa p.funs.length p.fcap] 26)).cell? ⟨w.heap.size, 2, none⟩ = some (.slice p.fa p.funs.length p.fcap) := Zk w p.vals 26 2 _ rfl
 obtain ⟨ma, mcap, mems, la, lcap, locks, fa, fcap, funs⟩ := p
 simp only at hrow hlen hc1 hc2 hst hbx ⊢
 unfold Pg.val
 simp only
 generalize mems.length = ml at *
 generalize locks.length = ll at *
 have hbx2 : Hid (∀ V, Below w.heap.size w V → V.heap[w.heap.size]? = (w.alloc (.cells #[.slice ma ml mcap, .slice la ll lcap, .slice fa funs.length fcap] 26)).heap[w.heap.size]? → V.cell? ⟨w.heap.size, 2, none⟩ = some (.slice fa funs.length fcap)) := Lh fun V _ hV => (World.cell?_of_block (w := w.alloc (.cells #[.slice ma ml mcap, .slice la ll lcap, .slice fa funs.length fcap] 26)) (a := ⟨w.heap.size, 2, none⟩) hV).trans hbx
 go_enter Tryd.func48, Tryd.ntmps48
 go_upto_region 1 with fail
 generalize hW0 : w.alloc (.cells #[.slice ma ml mcap, .slice la ll lcap, .slice fa funs.length fcap] 26) = W0 at *
 have hW0s : w.heap.size < W0.heap.size := by rw [← hW0]; simp
 clear hW0
 go_wp2_with fail
 go_loopw [3, 4] (fun v i wr => ∃ k : Nat, k ≤ funs.length ∧ i = .int .i64 k ∧ Hid (wr.ownsRow W0.heap.size 3 1 v (Zp 0 (funs.take k)).length (Qc (Zp 0 (funs.take k)))) ∧ Hid (Below W0.heap.size W0 wr)) (fun _ i _ => funs.length - (intOf i).toNat)
 case atStart => exact ⟨0, Nat.zero_le _, rfl, Lh (World.ownsRow_nil _ _ _ _), Lh (Below.refl _ _)⟩
 case round =>
  obtain ⟨k, hk, rfl, hown, hb⟩ := hrel
  have hbw := hst.trans (hb.out.mono (Nat.le_of_lt hW0s))
  have cb := hbx2.out wr hbw (hb.out.block _ hW0s)
  clear hbx
  by_cases hlt : k < funs.length
  · obtain ⟨f, hf⟩ : ∃ f, funs[k]? = some f := ⟨_, List.getElem?_eq_getElem hlt⟩
    obtain ⟨b, off, ha, _, c0, c1, c2, c3, c4⟩ := Yd (hrow.below (Kps.of_below hbw)) k f hf
    subst ha
    have htk := thrs_take hf
    have hln := thrs_len (funs.take k) 0
    rw [List.length_take] at hln
    have hi0' : (0 : Int) ≤ (k : Int) := by omega
    have hi1 : (k : Int) < (funs.length : Int) := by omega
    have hsz := hb.out.size
    clear hf hrow hbw
    cases ht : f.thread
    · rw [ht] at htk c1
      have hown2 := hown
      rw [if_neg (by simp), List.append_nil] at htk
      rw [← htk] at hown2
      clear ht htk hown
      go_wp2_with fail
      go_roundw
      case rel => exact ⟨k + 1, by omega, by go_num, hown2, hb⟩
      case measure => simp [intOf]; omega
    · rw [ht] at htk c1
      have hown2 := hown
      rw [if_pos rfl] at htk
      generalize Zp 0 (funs.take k) = T at *
      replace htk := Lh htk
      clear ht hown
      go_wp2_with (at_builtin; refine wpList_append_own_at _ rfl _ _ 40 rfl W0.heap.size 3 i0 _ 1 8 Tryd.underlying40 hi0 hz0 hz1 hz2 rfl (by decide) _ _ _ rfl (Qn hown2.out (Qh _ _)) _ 1 1 [.int .i64 k] rfl rfl (one_at _ _ _ _ (by first | rfl | simp)) (by simp [Value.oneCell']) ?c1 ?c2 ?c3 ?_)
      case c1 => unfold maxLen; omega
      case c2 => omega
      case c3 => simp; omega
      intro v' w3 hown3 hg3 _ hat3
      have hfin : Hid (w3.ownsRow W0.heap.size 3 1 v' (Zp 0 (funs.take (k + 1))).length (Qc (Zp 0 (funs.take (k + 1))))) := Lh (by
       rw [htk.out, List.length_append]
       have he : Qc (T ++ [(k : Int)]) = Qc T ++ [.int .i64 k] := by unfold Qc; rw [List.map_append]; rfl
       rw [he]; exact hown3)
      have hbz : Hid (Below W0.heap.size W0 w3) := Lh ((hb.out.alloc hb.out.size _).grown hg3 (by simp; omega) (fun q e => (hown2.out.lt q e).1))
      clear hown3 hg3 hat3
      go_wp2_with fail
      go_roundw
      case rel => exact ⟨k + 1, by omega, by go_num, hfin, hbz⟩
      case measure => simp [intOf]; omega
  · have hk2 : k = funs.length := by omega
    subst hk2
    rw [List.take_length] at hown
    have hbf := Lh hbw
    have hsz0 := Lh (own_lower hown.out (Nat.le_of_lt hW0s))
    clear hown hbw
    go_wp2_with fail
    go_ret
    exact ⟨_, rfl, hsz0.out, hbf.out⟩
end Go.Proofs.YthiiahlgncngoaaDoorRR.Cd
namespace Go.Proofs.YthiiahlgncngoaaDoorRR.Tr
open Go Go.RowKit
open Go.Proofs.YthiiahlgncngoaaDoorRR.Lx Go.Proofs.YthiiahlgncngoaaDoorRR.Cd
def okc : List UInt8 → Bool
 | [] => true
 | c :: r => bgn c && r.all wth
def nmeR (l : List UInt8) : Bool := !l.isEmpty && decide (l.length ≤ 32) && !rsv l && okc l
theorem run_all (p : UInt8 → Bool) : ∀ l, run p l = l.length ↔ l.all p = true
 | [] => by simp [run]
 | c :: r => by
   have := run_le p r
   unfold run
   by_cases h : p c = true
   · rw [if_pos h, List.length_cons, List.all_cons, h, Bool.true_and, ← run_all p r]; omega
   · rw [if_neg h, List.length_cons, List.all_cons, Bool.eq_false_iff.2 h, Bool.false_and]; simp
theorem okc_cons (c : UInt8) (r : List UInt8) : okc (c :: r) = (bgn c && r.all wth) := rfl
theorem nme_eq (l : List UInt8) : nme l = nmeR l := by
 cases l with
 | nil => rfl
 | cons c r =>
   unfold nme nmeR
   rw [cutL_cons, okc_cons]
   have hr := run_all wth (c :: r)
   have hle := run_le wth (c :: r)
   by_cases hb : bgn c = true
   · have hw : wth c = true := by unfold wth; rw [hb]; rfl
     rw [if_pos hb, hb]
     have hal : (c :: r).all wth = r.all wth := by rw [List.all_cons, hw, Bool.true_and]
     rw [hal] at hr
     by_cases h32 : 32 < run wth (c :: r)
     · rw [if_pos h32]
       have : ¬ (c :: r).length ≤ 32 := by omega
       rw [decide_eq_false this]
       simp
     · rw [if_neg h32, Bool.eq_iff_iff]
       simp only [Bool.and_eq_true, beq_iff_eq, decide_eq_true_eq, Bool.true_and]
       constructor
       · rintro ⟨⟨⟨h1, h2⟩, _⟩, h4⟩
         exact ⟨⟨⟨h1, by omega⟩, h2⟩, hr.1 h4⟩
       · rintro ⟨⟨⟨h1, h2⟩, h3⟩, h4⟩
         exact ⟨⟨⟨h1, h3⟩, trivial⟩, hr.2 h4⟩
   · rw [if_neg hb, Bool.eq_false_iff.2 hb, Bool.false_and, Bool.and_false, Bool.eq_false_iff]
     intro h
     simp only [Bool.and_eq_true, beq_iff_eq] at h
     obtain ⟨⟨_, h3⟩, _⟩ := h
     split at h3
     · split at h3 <;> simp at h3
     · split at h3 <;> simp at h3
theorem okc_snoc (l : List UInt8) (c : UInt8) : okc (l ++ [c]) = if l = [] then bgn c else okc l && wth c := by
 cases l with
 | nil => simp [okc]
 | cons x r =>
   simp [okc, Bool.and_assoc]
theorem okc_take {l : List UInt8} (h : okc l = true) (k : Nat) : okc (l.take k) = true := by
 cases l with
 | nil => simp [okc]
 | cons c r =>
   cases k with
   | zero => rfl
   | succ k =>
     rw [List.take_succ_cons]
     unfold okc at h ⊢
     simp only [Bool.and_eq_true, List.all_eq_true] at h ⊢
     exact ⟨h.1, fun x hx => h.2 x (List.mem_of_mem_take hx)⟩
theorem words_len : words.length = 15 := by rfl
def wordCells : Array Value := (words.map fun x => Value.string ⟨x.toArray⟩).toArray
theorem refres_any (s : ByteArray) (w : World) :
 Calls Tryd.prog 79 #[.string s] w fun e w' => e = .returned (.bool (rsv s.data.toList)) ∧ Below w.heap.size w w' := by
 have hW : ∀ j x, words[j]? = some x → (w.alloc (.cells wordCells 9)).cell? ⟨w.heap.size, j, none⟩ = some (.string ⟨x.toArray⟩) := fun j x hx => Qk (Qt _ _ rfl) (by
  unfold wordCells
  rw [List.getElem?_toArray, List.getElem?_map, hx]; rfl)
 replace hW := Lh hW
 go_enter Tryd.func79, Tryd.ntmps79
 go_wp2_with fail
 obtain ⟨w1, hw1⟩ : ∃ W, w.alloc (.cells wordCells 9) = W := ⟨_, rfl⟩
 have hb1 : Below w.heap.size w w1 := by rw [← hw1]; exact (Below.refl _ _).alloc (Nat.le_refl _) _
 rw [hw1] at hW
 have hw1' := hw1
 unfold wordCells words at hw1'
 simp only [List.map_cons, List.map_nil] at hw1'
 rw [hw1']
 clear hw1 hw1'
 go_loopw [7] (fun i wr => ∃ j : Nat, j ≤ 15 ∧ i = .int .i64 j ∧ Hid (∀ x ∈ words.take j, ¬ s.data.toList = x) ∧ wr = w1) (fun i _ => 15 - (intOf i).toNat)
 case atStart => exact ⟨0, by omega, rfl, Lh (fun x hx => by simp at hx), rfl⟩
 case round =>
  obtain ⟨j, hj, rfl, hno, rfl⟩ := hrel
  by_cases hlt : j < 15
  · obtain ⟨x, hx⟩ : ∃ x, words[j]? = some x := ⟨words[j]'(by rw [words_len]; exact hlt), by simp [words_len, hlt]⟩
    have hc := hW.out j x hx
    have hmem := List.mem_of_getElem? hx
    have htk : words.take (j + 1) = words.take j ++ [x] := by rw [List.take_add_one, hx]; rfl
    obtain ⟨X, hX⟩ : ∃ X : ByteArray, X = ⟨x.toArray⟩ := ⟨_, rfl⟩
    have hXl : X.data.toList = x := by rw [hX]
    rw [← hX] at hc
    replace hX := Lh hX
    replace hXl := Lh hXl
    replace htk := Lh htk
    replace hx := Lh hx
    by_cases hs : s = X
    · subst hs
      have hyes : rsv s.data.toList = true := by rw [hXl.out]; unfold rsv; simpa using hmem
      replace hyes := Lh hyes
      go_wp2_with fail
      go_ret
      exact ⟨Qi hyes.out.symm, hb1⟩
    · have hne := str_ne hs
      have hsl : ¬ s.data.toList = x := fun h => hs (by rw [hX.out, ← h, Lib.mk_data])
      replace hsl := Lh hsl
      replace hs := Lh hs
      go_wp2_with fail
      go_roundw
      case rel => exact ⟨j + 1, by omega, by go_num, Lh (fun y hy => by
       rw [htk.out] at hy
       rcases List.mem_append.1 hy with hy | hy
       · exact hno.out y hy
       · rw [List.mem_singleton.1 hy]; exact hsl.out), trivial⟩
      case measure => simp [intOf]; omega
  · have hfin : rsv s.data.toList = false := by
     unfold rsv
     rw [Bool.eq_false_iff]
     intro h
     have hm : s.data.toList ∈ words := by simpa using h
     exact hno.out _ (by rw [List.take_of_length_le (by rw [words_len]; omega)]; exact hm) rfl
    replace hfin := Lh hfin
    go_wp2_with fail
    go_ret
    exact ⟨Qi hfin.out.symm, hb1⟩
end Go.Proofs.YthiiahlgncngoaaDoorRR.Tr
namespace Go.Proofs.YthiiahlgncngoaaDoorRR.Tr
open Go Go.RowKit
open Go.Proofs.YthiiahlgncngoaaDoorRR.Lx
/-- may a byte stand at a place of a name? -/
def chAt (k : Nat) (c : UInt8) : Prop := (97 ≤ (c.toNat : Int) ∧ (c.toNat : Int) ≤ 122) ∨ (65 ≤ (c.toNat : Int) ∧ (c.toNat : Int) ≤ 90) ∨ (c.toNat : Int) = 95 ∨ (k ≠ 0 ∧ 48 ≤ (c.toNat : Int) ∧ (c.toNat : Int) ≤ 57)
theorem bgn_iff (c : UInt8) : bgn c = true ↔ chAt 0 c := by
 unfold bgn chAt
 simp only [Bool.or_eq_true, decide_eq_true_eq]
 omega
theorem wth_iff (c : UInt8) (k : Nat) (hk : k ≠ 0) : wth c = true ↔ chAt k c := by
 unfold wth bgn dgt chAt
 simp only [Bool.or_eq_true, decide_eq_true_eq]
 omega
theorem okc_next (l : List UInt8) (k : Nat) (c : UInt8) (hc : l[k]? = some c) : okc (l.take (k + 1)) = true ↔ okc (l.take k) = true ∧ chAt k c := by
 have ht : l.take (k + 1) = l.take k ++ [c] := by rw [List.take_add_one, hc]; rfl
 have hlt := (List.getElem?_eq_some_iff.1 hc).1
 rw [ht, okc_snoc]
 by_cases hk : k = 0
 · subst hk
   rw [List.take_zero, if_pos rfl, bgn_iff]
   simp [okc]
 · rw [if_neg (by intro h; have := congrArg List.length h; rw [List.length_take] at this; simp only [List.length_nil] at this; omega), Bool.and_eq_true, wth_iff c k hk]
theorem okc_no (l : List UInt8) (k : Nat) (c : UInt8) (hc : l[k]? = some c) (h : ¬ chAt k c) : okc l = false := by
 rw [Bool.eq_false_iff]
 intro ho
 exact h ((okc_next l k c hc).1 (okc_take ho (k + 1))).2
theorem refname_any (s : ByteArray) (w : World) (hs : s.size ≤ maxLen) :
 Calls Tryd.prog 49 #[.string s] w fun e w' => e = .returned (.bool (nme s.data.toList)) ∧ Below w.heap.size w w' := by
 rw [nme_eq]
 have hsz : s.data.toList.length = s.size := (Lib.size_eq s).symm
 have hfin : ∀ b, b = nmeR s.data.toList → Ending.returned (.bool b) = .returned (.bool (nmeR s.data.toList)) := fun b h => Qi h
 have hspec : nmeR s.data.toList = (!s.data.toList.isEmpty && decide (s.size ≤ 32) && !rsv s.data.toList && okc s.data.toList) := by unfold nmeR; rw [hsz]
 have hget : ∀ k, (h : k < s.size) → s.data.toList[k]? = some s[k] := fun k h => by
  rw [List.getElem?_eq_getElem (by rw [hsz]; exact h)]; rfl
 replace hspec := Lh hspec
 replace hfin := Lh hfin
 replace hget := Lh hget
 replace hsz := Lh hsz
 unfold maxLen at hs
 by_cases h0 : s.size = 0
 · have hn : s.data.toList = [] := by have := hsz.out; exact List.eq_nil_of_length_eq_zero (by omega)
   have hn' : s.toList = [] := by rw [Lib.toList_data]; exact hn
   replace hn := Lh hn
   replace h0 := Lh h0
   go_enter Tryd.func49, Tryd.ntmps49
   go_wp2_with fail
   go_ret
   exact ⟨hfin.out _ (by rw [hspec.out, hn.out]; rfl), Below.refl _ _⟩
 · have hne : ¬ s.toList = [] := by rw [Lib.toList_data]; intro h; have := hsz.out; rw [h] at this; simp at this; omega
   have hne' : s.toList.isEmpty = false := by simpa using hne
   have hne2 : s.data.toList.isEmpty = false := by rw [← Lib.toList_data]; exact hne'
   replace hne2 := Lh hne2
   by_cases h32 : 32 < s.size
   · go_enter Tryd.func49, Tryd.ntmps49
     go_wp2_with fail
     go_ret
     exact ⟨hfin.out _ (by rw [hspec.out, decide_eq_false (by omega : ¬ s.size ≤ 32)]; simp), Below.refl _ _⟩
   · have hcr := refres_any s w
     cases hr : rsv s.data.toList
     · rw [hr] at hcr
       replace hcr := Lh hcr
       replace hr := Lh hr
       go_enter Tryd.func49, Tryd.ntmps49
       go_wp2_with fail
       refine hcr.out.mono ?_
       rintro x w1 ⟨rfl, hb1⟩
       go_wp2_with fail
       go_loopw [3] (fun i wr => ∃ k : Nat, k ≤ s.size ∧ i = .int .i64 k ∧ Hid (okc (s.data.toList.take k) = true) ∧ wr = w1) (fun i _ => s.size - (intOf i).toNat)
       case atStart => exact ⟨0, by omega, rfl, Lh (by simp [okc]), rfl⟩
       case round =>
        obtain ⟨k, hk, rfl, hok, rfl⟩ := hrel
        by_cases hlt : k < s.size
        · have hg := hget.out k hlt
          obtain ⟨c, hc⟩ : ∃ c, s[k] = c := ⟨_, rfl⟩
          have hc0 : 0 ≤ (s[k].toNat : Int) ∧ (s[k].toNat : Int) ≤ 255 := by have := s[k].toNat_lt; omega
          have hyes : Hid (chAt k s[k] → okc (s.data.toList.take (k + 1)) = true) := Lh fun h => (okc_next _ k _ hg).2 ⟨hok.out, h⟩
          have hno : Hid (¬ chAt k s[k] → nmeR s.data.toList = false) := Lh fun h => by rw [hspec.out, okc_no _ k _ hg h]; simp
          replace hg := Lh hg
          clear hc
          obtain ⟨hc1, hc2⟩ := hc0
          have hrg : (0 ≤ (s[k].toNat : Int) ∧ (s[k].toNat : Int) ≤ 47 ∧ ((s[k].toNat : Int) == 95) = false ∧ decide ((s[k].toNat : Int) ≤ 122) = true ∧ decide ((s[k].toNat : Int) ≤ 90) = true) ∨ (48 ≤ (s[k].toNat : Int) ∧ (s[k].toNat : Int) ≤ 57 ∧ ((s[k].toNat : Int) == 95) = false ∧ decide ((s[k].toNat : Int) ≤ 122) = true ∧ decide ((s[k].toNat : Int) ≤ 90) = true) ∨ (58 ≤ (s[k].toNat : Int) ∧ (s[k].toNat : Int) ≤ 64 ∧ ((s[k].toNat : Int) == 95) = false ∧ decide ((s[k].toNat : Int) ≤ 122) = true ∧ decide ((s[k].toNat : Int) ≤ 90) = true) ∨ (65 ≤ (s[k].toNat : Int) ∧ (s[k].toNat : Int) ≤ 90 ∧ ((s[k].toNat : Int) == 95) = false ∧ decide ((s[k].toNat : Int) ≤ 122) = true ∧ decide ((s[k].toNat : Int) ≤ 90) = true) ∨ (91 ≤ (s[k].toNat : Int) ∧ (s[k].toNat : Int) ≤ 94 ∧ ((s[k].toNat : Int) == 95) = false ∧ decide ((s[k].toNat : Int) ≤ 122) = true ∧ decide ((s[k].toNat : Int) ≤ 90) = false) ∨ (95 ≤ (s[k].toNat : Int) ∧ (s[k].toNat : Int) ≤ 95 ∧ ((s[k].toNat : Int) == 95) = true ∧ decide ((s[k].toNat : Int) ≤ 122) = true ∧ decide ((s[k].toNat : Int) ≤ 90) = false) ∨ (96 ≤ (s[k].toNat : Int) ∧ (s[k].toNat : Int) ≤ 96 ∧ ((s[k].toNat : Int) == 95) = false ∧ decide ((s[k].toNat : Int) ≤ 122) = true ∧ decide ((s[k].toNat : Int) ≤ 90) = false) ∨ (97 ≤ (s[k].toNat : Int) ∧ (s[k].toNat : Int) ≤ 122 ∧ ((s[k].toNat : Int) == 95) = false ∧ decide ((s[k].toNat : Int) ≤ 122) = true ∧ decide ((s[k].toNat : Int) ≤ 90) = false) ∨ (123 ≤ (s[k].toNat : Int) ∧ (s[k].toNat : Int) ≤ 255 ∧ ((s[k].toNat : Int) == 95) = false ∧ decide ((s[k].toNat : Int) ≤ 122) = false ∧ decide ((s[k].toNat : Int) ≤ 90) = false) := by
           have e : ∀ b, ((s[k].toNat : Int) == 95) = b ↔ decide ((s[k].toNat : Int) = 95) = b := fun b => Iff.rfl
           simp only [e, decide_eq_true_eq, decide_eq_false_iff_not]
           omega
          clear hc1 hc2
          by_cases hk0 : k = 0
          · subst hk0
            rcases hrg with ⟨hr1, hr2, hr3, hr4, hr5⟩ | ⟨hr1, hr2, hr3, hr4, hr5⟩ | ⟨hr1, hr2, hr3, hr4, hr5⟩ | ⟨hr1, hr2, hr3, hr4, hr5⟩ | ⟨hr1, hr2, hr3, hr4, hr5⟩ | ⟨hr1, hr2, hr3, hr4, hr5⟩ | ⟨hr1, hr2, hr3, hr4, hr5⟩ | ⟨hr1, hr2, hr3, hr4, hr5⟩ | ⟨hr1, hr2, hr3, hr4, hr5⟩
            all_goals
             go_wp2_with fail
             all_goals first
              | (go_roundw; (case rel => exact ⟨0 + 1, by omega, by go_num, Lh (hyes.out (by unfold chAt; first | omega | (simp at hr3; omega))), trivial⟩); (case measure => (simp [intOf]; omega)))
              | (go_ret; exact ⟨hfin.out _ (hno.out (by unfold chAt; omega)).symm, hb1⟩)
          · have hkb : ((k : Int) == 0) = false := by simp; exact hk0
            rcases hrg with ⟨hr1, hr2, hr3, hr4, hr5⟩ | ⟨hr1, hr2, hr3, hr4, hr5⟩ | ⟨hr1, hr2, hr3, hr4, hr5⟩ | ⟨hr1, hr2, hr3, hr4, hr5⟩ | ⟨hr1, hr2, hr3, hr4, hr5⟩ | ⟨hr1, hr2, hr3, hr4, hr5⟩ | ⟨hr1, hr2, hr3, hr4, hr5⟩ | ⟨hr1, hr2, hr3, hr4, hr5⟩ | ⟨hr1, hr2, hr3, hr4, hr5⟩
            all_goals
             go_wp2_with fail
             all_goals first
              | (go_roundw; (case rel => exact ⟨k + 1, by omega, by go_num, Lh (hyes.out (by unfold chAt; first | omega | (simp at hr3; omega))), trivial⟩); (case measure => (simp [intOf]; omega)))
              | (go_ret; exact ⟨hfin.out _ (hno.out (by unfold chAt; omega)).symm, hb1⟩)
        · have hall : nmeR s.data.toList = true := by
           have h1 := hok.out
           rw [List.take_of_length_le (by have := hsz.out; omega)] at h1
           rw [hspec.out, hne2.out, hr.out, h1, decide_eq_true (by omega : s.size ≤ 32)]; rfl
          replace hall := Lh hall
          go_wp2_with fail
          go_ret
          exact ⟨hfin.out _ hall.out.symm, hb1⟩
     · rw [hr] at hcr
       replace hcr := Lh hcr
       replace hr := Lh hr
       go_enter Tryd.func49, Tryd.ntmps49
       go_wp2_with fail
       refine hcr.out.mono ?_
       rintro x w1 ⟨rfl, hb1⟩
       go_wp2_with fail
       go_ret
       exact ⟨hfin.out _ (by rw [hspec.out, hr.out]; simp), hb1⟩
end Go.Proofs.YthiiahlgncngoaaDoorRR.Tr
