/- The walk of lex.Tokens: it returns the text's tokens, laid in new memory, or the error and its place, and makes new memory alone. Conditions: lex.signs holds its list. -/
import Derived.Test.YtpgbgjljlidifaaDoorLexE
import Derived.Test.YtpgbgjljlidifaaDoorLexF
import Derived.OwnWalk
namespace Go.Proofs.YtpgbgjljlidifaaDoor.Lx
open Go Go.RowKit

/-- what holds at the head of a round of Tokens: so many tokens have been cut, the next one begins at a place -/
def Q (s : ByteArray) (acc : List Tok) (a : Nat) : Prop :=
  a ≤ s.size ∧ skp false (s.data.toList.drop a) = 0 ∧ acc.length ≤ a ∧ lexs s.data.toList 0 = pre acc (lexs (s.data.toList.drop a) a)
theorem pre_nil (r : Except Nat (List Tok)) : pre [] r = r := by cases r <;> rfl
theorem pre_pre (a b : List Tok) (r : Except Nat (List Tok)) : pre a (pre b r) = pre (a ++ b) r := by cases r <;> simp [pre]
theorem Q_start (s : ByteArray) : Q s [] (idl s 0) := by
  have e : idl s 0 = skp false s.data.toList := by unfold idl; rw [List.drop_zero, Nat.zero_add]
  refine ⟨idl_le s 0 (by omega), ?_, by simp, ?_⟩
  · rw [e]; exact skp_again false _
  · rw [e, pre_nil]
    have := lexs_skip s.data.toList 0
    rw [Nat.zero_add] at this
    exact this.symm
theorem ke_cut (s : ByteArray) (a k e : Nat) (h : cutKE s a = (k, e)) (hk : k ≠ 0) : (cutL (s.data.toList.drop a)).1 = k ∧ a + (cutL (s.data.toList.drop a)).2 = e ∧ a < e ∧ e ≤ s.size := by
  unfold cutKE at h
  by_cases hc : (cutL (s.data.toList.drop a)).1 = 0
  · rw [if_pos hc] at h
    exact absurd (Prod.mk.inj h).1.symm hk
  · rw [if_neg hc] at h
    obtain ⟨h1, h2⟩ := Prod.mk.inj h
    have hb := cutL_bd _ hc
    rw [List.length_drop, ← Lib.size_eq] at hb
    exact ⟨h1, h2, by omega, by omega⟩
theorem ke_cut0 (s : ByteArray) (a e : Nat) (h : cutKE s a = (0, e)) : (cutL (s.data.toList.drop a)).1 = 0 := by
  unfold cutKE at h
  by_cases hc : (cutL (s.data.toList.drop a)).1 = 0
  · exact hc
  · rw [if_neg hc] at h
    exact (Prod.mk.inj h).1
theorem drop_ne (s : ByteArray) (a : Nat) (h : a < s.size) : s.data.toList.drop a ≠ [] := by
  rw [drop_cons s a h]; simp
theorem Q_bad (s : ByteArray) (acc : List Tok) (a e : Nat) (h : Q s acc a) (hlt : a < s.size) (hk : cutKE s a = (0, e)) : lexs s.data.toList 0 = .error a := by
  obtain ⟨h1, h2, h3, h4⟩ := h
  rw [h4, lexs_bad (s.data.toList.drop a) (s.data.toList.drop a) a (by rw [h2]; rfl) (drop_ne s a hlt) (ke_cut0 s a e hk), h2]
  rfl
theorem Q_end (s : ByteArray) (acc : List Tok) (a : Nat) (h : Q s acc a) (hlt : ¬ a < s.size) : lexs s.data.toList 0 = .ok acc := by
  obtain ⟨h1, h2, h3, h4⟩ := h
  rw [h4, lexs_end _ _ (by rw [h2, List.drop_zero]; exact List.drop_of_length_le (by rw [← Lib.size_eq]; omega))]
  simp [pre]
theorem Q_tok (s : ByteArray) (acc : List Tok) (a k e : Nat) (h : Q s acc a) (hlt : a < s.size) (hke : cutKE s a = (k, e)) (hk : k ≠ 0) :
    Q s (acc ++ [⟨k, (s.extract a e).data.toList, a⟩]) (idl s e) := by
  obtain ⟨h1, h2, h3, h4⟩ := h
  obtain ⟨c1, c2, c3, c4⟩ := ke_cut s a k e hke hk
  have hi := idl_le s e c4
  have hi2 : e ≤ idl s e := by unfold idl; omega
  refine ⟨hi, ?_, by simp; omega, ?_⟩
  · unfold idl; rw [← List.drop_drop]; exact skp_again false _
  · have hx : (s.extract a e).data.toList = (s.data.toList.drop a).take (cutL (s.data.toList.drop a)).2 := by
      rw [Lib.extract_data]; congr 1; omega
    have hy : lexs (s.data.toList.drop (idl s e)) (idl s e) = lexs (s.data.toList.drop e) e := by
      unfold idl; rw [← List.drop_drop]; exact lexs_skip _ _
    rw [h4, lexs_tok (s.data.toList.drop a) (s.data.toList.drop a) a (by rw [h2]; rfl) (drop_ne s a hlt) (by rw [c1]; exact hk), h2, hy, hx, c1, List.drop_drop, Nat.add_zero, c2]
    cases lexs (s.data.toList.drop e) e with
    | error q => rfl
    | ok ts => simp [pre]

/-- a token, and tokens, as memory holds them -/
def tokCells (t : Tok) : List Value := [.int .u8 (t.kind : Int), .string ⟨t.txt.toArray⟩, .int .i64 (t.pos : Int)]
def cellsOf (ts : List Tok) : List Value := ts.flatMap tokCells
theorem cellsOf_snoc (ts : List Tok) (t : Tok) : cellsOf (ts ++ [t]) = cellsOf ts ++ tokCells t := by simp [cellsOf]
theorem own_below {w w' : World} {base : Nat} {e : TypeId} {size : Nat} {v : Value} {n : Nat} {xs : List Value} (h : w.ownsRow base e size v n xs) (hb : Below w.heap.size w w') : w'.ownsRow base e size v n xs :=
  h.kept (row := none) ⟨hb.os, hb.tape, hb.output, hb.size, fun k hk _ => hb.block k hk⟩ (by cases v.ownBlock <;> simp)
theorem SignsIn.below {w w' : World} {B : Nat} (h : SignsIn w) (hB : 0 < B) (hb : Below B w w') : SignsIn w' := by
  obtain ⟨t, fr, hg⟩ := h
  exact ⟨t, fr, (hb.block 0 hB).trans hg⟩
theorem cells_new (w : World) (xs : Array Value) (t : TypeId) : ∀ j u, xs.toList[j]? = some u → (w.alloc (.cells xs t)).cell? ((⟨w.heap.size, 0, none⟩ : Addr).add j) = some u := by
  intro j u hu
  rw [Addr.add_lit, cell_of_row _ _ _ xs t (0, 0) (heap_alloc_new w _)]
  simpa using hu
theorem own_snoc {w : World} {base : Nat} {v : Value} {acc : List Tok} {s : ByteArray} {k a e : Nat} (h : w.ownsRow base 36 3 v (acc.length + 1) (cellsOf acc ++ [Value.int .u8 (k : Int), Value.string (s.extract a e), Value.int .i64 (a : Int)])) :
    w.ownsRow base 36 3 v (acc ++ [Tok.mk k (s.extract a e).data.toList a]).length (cellsOf (acc ++ [Tok.mk k (s.extract a e).data.toList a])) := by
  rw [cellsOf_snoc, List.length_append]
  unfold tokCells
  rw [Lib.mk_data]
  exact h
theorem Tryd.info36 : (Tryd.prog.info? 36).map (fun i => (i.zero, i.size, i.bytes)) = some (some (.agg #[.int .u8 0, .string ⟨#[]⟩, .int .i64 0]), 3, 32) := by kernel_rfl

theorem idle_at (s : ByteArray) (k : Nat) (w : World) (hs : s.size ≤ maxLen) (h1 : k ≤ s.size) :
    Calls Tryd.prog 21 #[.string s, .int .i64 (k : Int)] w fun e w' => e = .returned (.int .i64 (idl s k : Int)) ∧ w = w' := by
  have h := idle_any s (k : Int) w hs (by omega) (by omega)
  rw [Int.toNat_natCast] at h
  exact h
theorem cut_at (s : ByteArray) (a k e : Nat) (hke : cutKE s a = (k, e)) (w : World) (hs : s.size ≤ maxLen) (h1 : a < s.size) (hsg : SignsIn w) :
    Calls Tryd.prog 20 #[.string s, .int .i64 (a : Int)] w fun en w' => en = .returned (.tuple #[.int .u8 (k : Int), .int .i64 (e : Int)]) ∧ Below w.heap.size w w' := by
  have h := cut_any s (a : Int) w hs (by omega) (by omega) hsg
  rw [Int.toNat_natCast, hke] at h
  exact h

set_option maxHeartbeats 1600000 in
set_option maxRecDepth 100000 in
theorem tokens_any (s : ByteArray) (w : World) (hs : s.size ≤ maxLen) (hsg : SignsIn w) :
    Calls Tryd.prog 14 #[.string s] w fun e w' => ∃ v, e = .returned (.tuple #[v, .int .i64 ((res s.data.toList).2.1 : Int), .int .i64 ((res s.data.toList).2.2 : Int)]) ∧
      w'.ownsRow w.heap.size 36 3 v (res s.data.toList).1.length (cellsOf (res s.data.toList).1) ∧ Below w.heap.size w w' ∧ ((res s.data.toList).1 = [] → v = .slice none 0 0) := by
  have hw0 : 0 < w.heap.size := by obtain ⟨t, fr, hg⟩ := hsg; exact (Array.getElem?_eq_some_iff.1 hg).1
  by_cases hbig : 65536 < s.size
  · have hr : res s.data.toList = ([], 0, 40) := by unfold res; rw [← Lib.size_eq, if_pos hbig]
    rw [hr]
    go_enter Tryd.func14, Tryd.ntmps14
    go_wp2
    go_ret3
    exact ⟨_, rfl, World.ownsRow_nil _ _ _ _, Below.refl _ _, fun _ => rfl⟩
  · have hok : ∀ acc, lexs s.data.toList 0 = .ok acc → res s.data.toList = (acc, 0, 0) := fun acc h => by unfold res; rw [← Lib.size_eq, if_neg hbig, h]
    have hno : ∀ q, lexs s.data.toList 0 = .error q → res s.data.toList = ([], q, 63) := fun q h => by unfold res; rw [← Lib.size_eq, if_neg hbig, h]
    have Hok := Lib.hid hok
    have Hno := Lib.hid hno
    have hs' := Lib.hid hs
    have hq0 := Q_start s
    have hi0 := idl_le s 0 (by omega)
    clear hok hno
    unfold maxLen at hs
    obtain ⟨i0, hi, hz0, hz1, hz2⟩ := info_parts Tryd.info36
    go_enter Tryd.func14, Tryd.ntmps14
    go_wp2_with (go_at_call 21; refine (idle_any s 0 _ hs'.out (by omega) (by omega)).mono ?_; rintro e w' ⟨rfl, rfl⟩)
    go_loopw [5, 6] (fun v a wr => ∃ (acc : List Tok) (k : Nat), a = .int .i64 k ∧ Q s acc k ∧ wr.ownsRow w.heap.size 36 3 v acc.length (cellsOf acc) ∧ Below w.heap.size w wr ∧ (acc = [] → v = .slice none 0 0))
      (fun _ a _ => s.size - (intOf a).toNat)
    case atStart => exact ⟨[], idl s 0, by simp, hq0, World.ownsRow_nil _ _ _ _, Below.refl _ _, fun _ => rfl⟩
    case round =>
      obtain ⟨acc, a, rfl, hq, hown, hbl, hnil⟩ := hrel
      have hsz := hbl.size
      have hsg1 := hsg.below hw0 hbl
      have haq := hq.1
      have hal := hq.2.2.1
      by_cases hlt : a < s.size
      · obtain ⟨k, e, hke⟩ : ∃ k e, cutKE s a = (k, e) := ⟨_, _, rfl⟩
        by_cases hk0 : k = 0
        · subst hk0
          have HE := Lib.hid (Hno.out a (Q_bad s acc a e hq hlt hke))
          have hke := Lib.hid hke
          clear hq hal
          go_wp2_with (go_at_call 20; refine (cut_at s a 0 e hke.out _ hs'.out hlt hsg1).mono ?_; rintro e w' ⟨rfl, hb⟩)
          go_ret3
          rw [HE.out]
          exact ⟨_, rfl, World.ownsRow_nil _ _ _ _, hbl.trans (hb.mono hsz), fun _ => rfl⟩
        · obtain ⟨q1, q2, q3, q4⟩ := ke_cut s a k e hke hk0
          have hQ := Lib.hid (Q_tok s acc a k e hq hlt hke hk0)
          have hke := Lib.hid hke
          have hkb : ((k : Int) == 0) = false := by simp; exact hk0
          have hie := idl_le s e q4
          have hie2 : e ≤ idl s e := by unfold idl; omega
          clear hq q1 q2
          have hxs : (s.extract a e).size ≤ 281474976710656 := by rw [Lib.size_eq, Lib.extract_data, List.length_take, List.length_drop, ← Lib.size_eq]; omega
          go_wp2_with (first
            | (go_at_call 20; refine (cut_at s a k e hke.out _ hs'.out hlt hsg1).mono ?_; rintro e w1 ⟨rfl, hb1⟩)
            | (go_at_call 22; refine (clone_any _ _ hxs).mono ?_; rintro e w2 ⟨rfl, hb2⟩)
            | (at_builtin; refine wpList_append_own _ rfl (.tmp 30) (.tmp 39) 30 rfl w.heap.size 36 i0 (.agg #[.int .u8 0, .string ⟨#[]⟩, .int .i64 0]) 3 32 Tryd.underlying30 hi hz0 hz1 hz2 rfl (by decide) _ _ _ rfl ((own_below (own_below hown hb1) hb2).alloc _) ⟨w2.heap.size, 0, none⟩ 1 1 [.int .u8 (k : Int), .string (s.extract a e), .int .i64 (a : Int)] rfl rfl ?c1 ?c2 ?c3 ?c4 ?c5 ?_))
          case c1 => exact cells_new w2 #[.int .u8 (k : Int), .string (s.extract a e), .int .i64 (a : Int)] 36
          case c2 => intro u hu; simp at hu; rcases hu with rfl | rfl | rfl <;> rfl
          case c3 => unfold maxLen; omega
          case c4 => omega
          case c5 => have := hb1.size; have := hb2.size; simp; omega
          intro v' w3 hown3 hgrow3 hnn
          have hB : Below w.heap.size w w3 := by
            have h1 := hbl.trans (hb1.mono hsz)
            have h2 := h1.trans (hb2.mono (by have := hb1.size; omega))
            exact (h2.alloc (by have := hb1.size; have := hb2.size; omega) _).grown hgrow3 (by have := hb1.size; have := hb2.size; simp; omega) (fun j hj => (hown.lt j hj).1)
          have HO := own_snoc hown3
          clear hown3 hgrow3 hown hb1 hb2 hbl hnil hsg1
          go_wp2_with (go_at_call 21; refine (idle_at s e _ hs'.out q4).mono ?_; rintro e w' ⟨rfl, rfl⟩)
          go_roundw
          case rel => exact ⟨acc ++ [⟨k, (s.extract a e).data.toList, a⟩], idl s e, rfl, hQ.out, HO, hB, fun h => by simp at h⟩
          case measure => simp [intOf]; omega
      · have HE := Lib.hid (Hok.out acc (Q_end s acc a hq hlt))
        clear hq hal
        go_wp2
        go_ret3
        rw [HE.out]
        exact ⟨_, rfl, hown, hbl, hnil⟩
end Go.Proofs.YtpgbgjljlidifaaDoor.Lx
