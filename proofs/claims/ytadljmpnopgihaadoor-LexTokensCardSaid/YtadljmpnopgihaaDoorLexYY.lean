/- The walk of the reference's Tokens: it returns what the code's does. Conditions: none. -/
import Derived.Test.YtadljmpnopgihaaDoorLexX
namespace Go.Proofs.YtadljmpnopgihaaDoor.Lx
open Go Go.RowKit

/-- the tokens of a text, what is passed over first within a remark or not -/
def lexS (b : Bool) (l : List UInt8) (p : Nat) : Except Nat (List Tok) := lexs (l.drop (skp b l)) (p + skp b l)
theorem lexS_false (l : List UInt8) (p : Nat) : lexS false l p = lexs l p := lexs_skip l p
theorem lexS_step (b b' : Bool) (c : UInt8) (r : List UInt8) (p : Nat) (h : skp b (c :: r) = skp b' r + 1) : lexS b (c :: r) p = lexS b' r (p + 1) := by
  unfold lexS
  rw [h, List.drop_succ_cons, show p + (skp b' r + 1) = p + 1 + skp b' r by omega]
/-- what holds at the head of a round of the reference's Tokens -/
def Q2 (s : ByteArray) (acc : List Tok) (b : Bool) (a : Nat) : Prop :=
  a ≤ s.size ∧ acc.length ≤ a ∧ lexs s.data.toList 0 = pre acc (lexS b (s.data.toList.drop a) a)
theorem Q2_start (s : ByteArray) : Q2 s [] false 0 := ⟨by omega, by simp, by rw [List.drop_zero, lexS_false, pre_nil]⟩
theorem Q2_step (s : ByteArray) (acc : List Tok) (b b' : Bool) (a : Nat) (h : Q2 s acc b a) (hlt : a < s.size) (hs : skp b (s[a] :: s.data.toList.drop (a + 1)) = skp b' (s.data.toList.drop (a + 1)) + 1) : Q2 s acc b' (a + 1) := by
  obtain ⟨h1, h2, h3⟩ := h
  refine ⟨by omega, by omega, ?_⟩
  rw [h3, drop_cons s a hlt, lexS_step b b' _ _ _ hs]
theorem Q2_rem10 (s : ByteArray) (acc : List Tok) (a : Nat) (h : Q2 s acc true a) (hlt : a < s.size) (hc : s[a].toNat = 10) : Q2 s acc false (a + 1) :=
  Q2_step s acc true false a h hlt (by rw [skp_true_cons, if_pos hc])
theorem Q2_rem (s : ByteArray) (acc : List Tok) (a : Nat) (h : Q2 s acc true a) (hlt : a < s.size) (hc : ¬ s[a].toNat = 10) : Q2 s acc true (a + 1) :=
  Q2_step s acc true true a h hlt (by rw [skp_true_cons, if_neg hc])
theorem Q2_blk (s : ByteArray) (acc : List Tok) (a : Nat) (h : Q2 s acc false a) (hlt : a < s.size) (hc : blk s[a] = true) : Q2 s acc false (a + 1) :=
  Q2_step s acc false false a h hlt (by rw [skp_false_cons, if_pos hc])
theorem Q2_hash (s : ByteArray) (acc : List Tok) (a : Nat) (h : Q2 s acc false a) (hlt : a < s.size) (hc : s[a].toNat = 35) : Q2 s acc true (a + 1) :=
  Q2_step s acc false true a h hlt (by rw [skp_false_cons, if_neg (by simp [blk, hc]), if_pos hc])
theorem Q2_Q (s : ByteArray) (acc : List Tok) (a : Nat) (h : Q2 s acc false a) (hlt : a < s.size) (hb : blk s[a] = false) (hc : ¬ s[a].toNat = 35) : Q s acc a := by
  obtain ⟨h1, h2, h3⟩ := h
  refine ⟨h1, ?_, h2, by rw [h3, lexS_false]⟩
  rw [drop_cons s a hlt, skp_false_cons, if_neg (by simp [hb]), if_neg hc]
theorem Q2_tok (s : ByteArray) (acc : List Tok) (a k e : Nat) (h : Q s acc a) (hlt : a < s.size) (hke : cutKE s a = (k, e)) (hk : k ≠ 0) : Q2 s (acc ++ [⟨k, (s.extract a e).data.toList, a⟩]) false e := by
  obtain ⟨q1, q2, q3, q4⟩ := ke_cut s a k e hke hk
  obtain ⟨_, _, _, h4⟩ := Q_tok s acc a k e h hlt hke hk
  have h3 := h.2.2.1
  refine ⟨q4, by simp; omega, ?_⟩
  rw [h4, lexS_false]
  unfold idl; rw [← List.drop_drop, lexs_skip]
theorem Q2_end (s : ByteArray) (acc : List Tok) (b : Bool) (a : Nat) (h : Q2 s acc b a) (hlt : ¬ a < s.size) : lexs s.data.toList 0 = .ok acc := by
  obtain ⟨h1, h2, h3⟩ := h
  rw [h3, List.drop_of_length_le (by rw [← Lib.size_eq]; omega)]
  unfold lexS
  rw [skp_nil, List.drop_zero, lexs_end [] _ (by rw [skp_nil]; rfl)]
  simp [pre]
theorem run_take (p : UInt8 → Bool) : ∀ (l : List UInt8), ∀ c ∈ l.take (run p l), p c = true
  | [], c, h => by simp [run] at h
  | a :: r, c, h => by
    unfold run at h
    by_cases ha : p a = true
    · rw [if_pos ha, List.take_succ_cons] at h
      rcases List.mem_cons.1 h with rfl | h
      · exact ha
      · exact run_take p r c h
    · rw [if_neg ha] at h; simp at h
theorem far_digits (s : ByteArray) (a : Nat) : ∀ (i : Nat) (h : i < (s.extract a (far dgt s a)).size), dgt (s.extract a (far dgt s a))[i] = true := by
  intro i h
  have hl : (s.extract a (far dgt s a)).data.toList = (s.data.toList.drop a).take (run dgt (s.data.toList.drop a)) := by
    rw [Lib.extract_data]; unfold far; rw [Nat.add_sub_cancel_left]
  have hi : i < (s.extract a (far dgt s a)).data.toList.length := by rw [← Lib.size_eq]; exact h
  refine run_take dgt (s.data.toList.drop a) _ ?_
  rw [← hl]
  exact List.getElem_mem hi
theorem sgB_drop (s : ByteArray) (a : Nat) : sgB (s.extract a s.size) = sgn (s.data.toList.drop a) := by
  unfold sgB; rw [Lib.extract_data, List.take_of_length_le (by rw [List.length_drop, ← Lib.size_eq]; omega)]

theorem cells_next (w : World) (o : Obj) (xs : Array Value) (t : TypeId) : ∀ j u, xs.toList[j]? = some u → ((w.alloc o).alloc (.cells xs t)).cell? ((⟨w.heap.size + 1, 0, none⟩ : Addr).add j) = some u := by
  intro j u hu
  have h := cells_new (w.alloc o) xs t j u hu
  have e : (w.alloc o).heap.size = w.heap.size + 1 := by simp
  rw [e] at h
  exact h
theorem rsign_n (s : ByteArray) (n : Nat) (hn : sgB s = n) (w : World) (h : 0 < s.size) (hs : s.size ≤ 100000) :
    Calls Tryd.prog 26 #[.string s] w fun e w' => e = .returned (.int .i64 (n : Int)) ∧ Below w.heap.size w w' := hn ▸ rsign_any s w h hs
theorem tok_kept {w w1 : World} {x0 x1 x2 : Value} (hb : Below (w.alloc (.cells #[x0, x1, x2] 36)).heap.size (w.alloc (.cells #[x0, x1, x2] 36)) w1) :
    w1.cell? ⟨w.heap.size, 0, none⟩ = some x0 ∧ w1.cell? ⟨w.heap.size, 1, none⟩ = some x1 ∧ w1.cell? ⟨w.heap.size, 2, none⟩ = some x2 ∧ w1.frozen? ⟨w.heap.size, 1, none⟩ = false ∧ w.heap.size < w1.heap.size := by
  have hlt : w.heap.size < (w.alloc (.cells #[x0, x1, x2] 36)).heap.size := by simp
  have hg : (w.alloc (.cells #[x0, x1, x2] 36)).heap[w.heap.size]? = some (.cells #[x0, x1, x2] 36 (0, 0)) := heap_alloc_new w _
  refine ⟨?_, ?_, ?_, ?_, Nat.lt_of_lt_of_le hlt hb.size⟩
  · rw [hb.cell (p := ⟨w.heap.size, 0, none⟩) hlt, cell_of_row _ _ _ _ _ _ hg]; rfl
  · rw [hb.cell (p := ⟨w.heap.size, 1, none⟩) hlt, cell_of_row _ _ _ _ _ _ hg]; rfl
  · rw [hb.cell (p := ⟨w.heap.size, 2, none⟩) hlt, cell_of_row _ _ _ _ _ _ hg]; rfl
  · rw [hb.frozen (p := ⟨w.heap.size, 1, none⟩) hlt, frozen_of_row _ _ _ _ _ hg]
theorem own_set {w : World} {base : Nat} {e : TypeId} {size : Nat} {v : Value} {n : Nat} {xs : List Value} (h : w.ownsRow base e size v n xs) (g j : Nat) (u : Value) (hv : ∀ k, v.ownBlock = some k → k ≠ g) : (w.setCell ⟨g, j, none⟩ u).ownsRow base e size v n xs :=
  h.kept (row := some g) ⟨rfl, rfl, rfl, by simp, fun k _ hk => heap_setCell_other w ⟨g, j, none⟩ k u (fun e => hk (by simp [e]))⟩ (by
    cases hb : v.ownBlock with
    | none => exact .inl rfl
    | some k => exact .inr (fun e => hv k hb (Option.some.inj e)))
theorem cells_set_new (w : World) (p : Addr) (u : Value) (xs : Array Value) (t : TypeId) : ∀ j x, xs.toList[j]? = some x → ((w.setCell p u).alloc (.cells xs t)).cell? ((⟨w.heap.size, 0, none⟩ : Addr).add j) = some x := by
  intro j x hx
  have h := cells_new (w.setCell p u) xs t j x hx
  have e : (w.setCell p u).heap.size = w.heap.size := by simp
  rw [e] at h
  exact h
theorem base_set {B n : Nat} (w : World) (p : Addr) (u : Value) (o : Obj) (h : B ≤ n) (h2 : n < w.heap.size) : B ≤ ((w.setCell p u).alloc o).heap.size := by simp; omega
theorem one_cells (k : Int) (x : ByteArray) (a : Int) : ∀ u ∈ [Value.int .u8 k, Value.string x, Value.int .i64 a], u.oneCell' = true := by
  intro u hu; simp at hu; rcases hu with rfl | rfl | rfl <;> rfl

set_option maxHeartbeats 4000000 in
set_option maxRecDepth 100000 in
theorem rtokens_any (s : ByteArray) (w : World) (hs : s.size ≤ maxLen) :
    Calls Tryd.prog 15 #[.string s] w fun e w' => ∃ v, e = .returned (.tuple #[v, .int .i64 ((res s.data.toList).2.1 : Int), .int .i64 ((res s.data.toList).2.2 : Int)]) ∧
      w'.ownsRow w.heap.size 36 3 v (res s.data.toList).1.length (cellsOf (res s.data.toList).1) ∧ Below w.heap.size w w' ∧ ((res s.data.toList).1 = [] → v = .slice none 0 0) := by
  by_cases hbig : 65536 < s.size
  · have hr : res s.data.toList = ([], 0, 40) := by unfold res; rw [← Lib.size_eq, if_pos hbig]
    rw [hr]
    go_enter Tryd.func15, Tryd.ntmps15
    go_wp2
    go_ret3
    exact ⟨_, rfl, World.ownsRow_nil _ _ _ _, Below.refl _ _, fun _ => rfl⟩
  · have hok : ∀ acc, lexs s.data.toList 0 = .ok acc → res s.data.toList = (acc, 0, 0) := fun acc h => res_ok _ acc (by rw [← Lib.size_eq]; omega) h
    have hno : ∀ q, lexs s.data.toList 0 = .error q → res s.data.toList = ([], q, 63) := fun q h => res_err _ q (by rw [← Lib.size_eq]; omega) h
    have Hok := Lib.hid hok
    have Hno := Lib.hid hno
    replace hs := Lib.hid hs
    clear hok hno
    obtain ⟨i0, hi, hz0, hz1, hz2⟩ := info_parts Tryd.info36
    go_enter Tryd.func15, Tryd.ntmps15
    go_wp2_with fail
    go_loopw [5, 6, 7] (fun v rm i wr => ∃ (acc : List Tok) (b : Bool) (k : Nat), rm = .bool b ∧ i = .int .i64 k ∧ Q2 s acc b k ∧ wr.ownsRow w.heap.size 36 3 v acc.length (cellsOf acc) ∧ Below w.heap.size w wr ∧ (acc = [] → v = .slice none 0 0))
      (fun _ _ i _ => s.size - (intOf i).toNat)
    case atStart => exact ⟨[], false, 0, rfl, rfl, Q2_start s, World.ownsRow_nil _ _ _ _, Below.refl _ _, fun _ => rfl⟩
    case round =>
      obtain ⟨acc, b, a, rfl, rfl, hq, hown, hbl, hnil⟩ := hrel
      have hsz := hbl.size
      have haq := hq.1
      have hal := hq.2.1
      by_cases hlt : a < s.size
      · cases b
        · cases hb : blk s[a]
          · by_cases hh : s[a].toNat = 35
            · have HQ := Lib.hid (Q2_hash s acc a hq hlt hh)
              have hc : (s[a].toNat : Int) = 35 := by omega
              clear hq hb hh
              go_wp2_with fail
              go_roundw
              case rel => exact ⟨acc, true, a + 1, rfl, by go_num, HQ.out, hown, hbl, hnil⟩
              case measure => simp [intOf]; omega
            · have hq' := Q2_Q s acc a hq hlt hb hh
              have n1 : ((s[a].toNat : Int) == 35) = false := by simp; omega
              have n2 : ((s[a].toNat : Int) == 32) = false := by unfold blk at hb; simp at hb; simp; omega
              have n3 : ((s[a].toNat : Int) == 9) = false := by unfold blk at hb; simp at hb; simp; omega
              have n4 : ((s[a].toNat : Int) == 10) = false := by unfold blk at hb; simp at hb; simp; omega
              clear hq hb hh
              cases hg : bgn s[a]
              · cases hd : dgt s[a]
                · have hl1 : acc.length + 1 ≤ maxLen := by unfold maxLen; omega
                  have hl2 : (acc.length + 1) * 32 ≤ 140737488355328 := by omega
                  have hbs : ∀ o1 o2, w.heap.size ≤ ((wr.alloc o1).alloc o2).heap.size := fun o1 o2 => by simp; omega
                  replace hq' := Lib.hid hq'
                  have hxs : 0 < (s.extract a s.size).size ∧ (s.extract a s.size).size ≤ 100000 := by rw [Lib.size_eq, Lib.extract_data, List.length_take, List.length_drop, ← Lib.size_eq]; omega
                  obtain ⟨hx1, hx2⟩ := hxs
                  obtain ⟨n, hn⟩ : ∃ n, sgB (s.extract a s.size) = n := ⟨_, rfl⟩
                  have hsl : n ≤ s.size - a := by
                    rw [← hn, sgB_drop]
                    have := sgnIn_le signs (s.data.toList.drop a)
                    rw [List.length_drop, ← Lib.size_eq] at this
                    exact this
                  have hsd : sgn (s.data.toList.drop a) = n := by rw [← sgB_drop]; exact hn
                  replace hn := Lib.hid hn
                  by_cases hn0 : n = 0
                  · subst hn0
                    have hke : Hid (cutKE s a = (0, 0)) := Lib.hid (cut_none s a hlt hg hd hsd)
                    have HE := Lib.hid (Hno.out a (Q_bad s acc a _ hq'.out hlt hke.out))
                    clear hsd
                    go_wp2_with (first | (go_at_call 24; refine (rdigit_any _ _).mono ?_; rintro e w' ⟨rfl, rfl⟩) | (go_at_call 23; refine (rletter_any _ _).mono ?_; rintro e w' ⟨rfl, rfl⟩) | (go_at_call 26; refine (rsign_n _ 0 hn.out _ hx1 hx2).mono ?_; rintro e w1 ⟨rfl, hb1⟩))
                    go_ret3
                    rw [HE.out]
                    exact ⟨_, rfl, World.ownsRow_nil _ _ _ _, (hbl.alloc hsz _).trans (hb1.mono (by simp; omega)), fun _ => rfl⟩
                  · have hke : Hid (cutKE s a = (3, a + n)) := Lib.hid (cut_sign s a hlt hg hd n hsd hn0)
                    have hQ := Lib.hid (Q2_tok s acc a 3 (a + n) hq'.out hlt hke.out (by omega))
                    have hnp : 0 < n := by omega
                    have hdec : decide ((a : Int) < (a : Int) + (n : Int)) = true := decide_eq_true (by omega)
                    clear hsd hn0
                    go_wp2_with (first | (go_at_call 24; refine (rdigit_any _ _).mono ?_; rintro e w' ⟨rfl, rfl⟩) | (go_at_call 23; refine (rletter_any _ _).mono ?_; rintro e w' ⟨rfl, rfl⟩) | (go_at_call 26; refine (rsign_n _ n hn.out _ hx1 hx2).mono ?_; rintro e w1 ⟨rfl, hb1⟩; obtain ⟨d0, d1, d2, d3, d4⟩ := tok_kept hb1) | (at_builtin; refine wpList_append_own _ rfl (.tmp 128) (.tmp 130) 30 rfl w.heap.size 36 i0 (.agg #[.int .u8 0, .string ⟨#[]⟩, .int .i64 0]) 3 32 Tryd.underlying30 hi hz0 hz1 hz2 rfl (by decide) _ _ _ rfl ((own_set (own_below (hown.alloc _) hb1) wr.heap.size 1 _ (fun j hj => by have := (hown.lt j hj).2; omega)).alloc _) ⟨w1.heap.size, 0, none⟩ 1 1 [.int .u8 3, .string (s.extract a (a + n)), .int .i64 (a : Int)] rfl rfl (cells_set_new w1 _ _ #[.int .u8 3, .string (s.extract a (a + n)), .int .i64 (a : Int)] 36) (one_cells _ _ _) hl1 hl2 (base_set _ _ _ _ hsz d4) ?_))
                    intro v' w3 hown3 hgrow3 hnn
                    have hB1 : Below w.heap.size w (w1.setCell ⟨wr.heap.size, 1, none⟩ (.string (s.extract a (a + n)))) := ((hbl.alloc hsz _).trans (hb1.mono (by simp; omega))).setCell hsz _
                    have hB : Below w.heap.size w w3 := (hB1.alloc (by simp; omega) _).grown hgrow3 (base_set _ _ _ _ hsz d4) (fun j hj => (hown.lt j hj).1)
                    have HO : w3.ownsRow w.heap.size 36 3 v' (acc ++ [Tok.mk 3 (s.extract a (a + n)).data.toList a]).length (cellsOf (acc ++ [Tok.mk 3 (s.extract a (a + n)).data.toList a])) := own_snoc hown3
                    replace HO := Lib.hid HO
                    clear hown3 hgrow3 hB1
                    go_wp2_with fail
                    go_roundw
                    case rel => exact ⟨acc ++ [⟨3, (s.extract a (a + n)).data.toList, a⟩], false, a + n, rfl, by go_num, hQ.out, HO.out, hB, fun h => by simp at h⟩
                    case measure => simp [intOf]; omega
                · have hl1 : acc.length + 1 ≤ maxLen := by unfold maxLen; omega
                  have hl2 : (acc.length + 1) * 32 ≤ 140737488355328 := by omega
                  have hbs : ∀ o1 o2, w.heap.size ≤ ((wr.alloc o1).alloc o2).heap.size := fun o1 o2 => by simp; omega
                  replace hq' := Lib.hid hq'
                  obtain ⟨hfw1, hfw2⟩ := far_le dgt s a (by omega)
                  have hfw3 : a < far dgt s a := by
                    have h1 := far_on dgt s a hlt hd
                    have h2 := far_le dgt s (a + 1) (by omega)
                    omega
                  go_wp2_with (first | (go_at_call 24; refine (rdigit_any _ _).mono ?_; rintro e w' ⟨rfl, rfl⟩) | (go_at_call 23; refine (rletter_any _ _).mono ?_; rintro e w' ⟨rfl, rfl⟩))
                  go_loop [10] (fun x => ∃ k : Nat, k ≤ s.size ∧ x = .int .i64 k ∧ far dgt s k = far dgt s a) (fun x => s.size - (intOf x).toNat)
                  case atStart => exact ⟨a, by omega, rfl, rfl⟩
                  case round =>
                    obtain ⟨k, hk, rfl, hI⟩ := hrel
                    by_cases hlk : k < s.size
                    · cases e2 : dgt s[k]
                      · have hfar : far dgt s a = k := by rw [← hI]; exact far_off dgt s k hlk e2
                        have hfw4 : a < k := by omega
                        clear hI hfw1 hfw2 hfw3
                        have hxd : Hid (∀ (i : Nat) (h : i < (s.extract a k).size), dgt (s.extract a k)[i] = true) := Lib.hid (by have h := far_digits s a; rw [hfar] at h; exact h)
                        have hx0 : 0 < (s.extract a k).size := by rw [Lib.size_eq, Lib.extract_data, List.length_take, List.length_drop, ← Lib.size_eq]; omega

                        cases hn : numB (s.extract a k)
                        · have hke : Hid (cutKE s a = (0, 0)) := Lib.hid (cut_num_bad s a hlt hg hd (by rw [hfar]; exact hn))
                          clear hfar
                          have HE := Lib.hid (Hno.out a (Q_bad s acc a _ hq'.out hlt hke.out))
                          go_wp2_with (first | (go_at_call 24; refine (rdigit_any _ _).mono ?_; rintro e w' ⟨rfl, rfl⟩) | (go_at_call 23; refine (rletter_any _ _).mono ?_; rintro e w' ⟨rfl, rfl⟩) | (go_at_call 25; refine (rnumber_any _ _ hx0 hxd.out).mono ?_; rintro e w' ⟨rfl, rfl⟩))
                          go_ret3
                          rw [HE.out]
                          exact ⟨_, rfl, World.ownsRow_nil _ _ _ _, hbl.alloc hsz _, fun _ => rfl⟩

                        · cases hgk : bgn s[k]
                          · have hke : Hid (cutKE s a = (2, k)) := Lib.hid (by have h := cut_num_on s a hlt hg hd (by rw [hfar]; exact hn) (by rw [hfar]; exact hlk) (by simp only [hfar]; exact hgk); rw [hfar] at h; exact h)
                            clear hfar
                            have hQ := Lib.hid (Q2_tok s acc a 2 k hq'.out hlt hke.out (by omega))
                            obtain ⟨_, _, q3, q4⟩ := ke_cut s a 2 k hke.out (by omega)
                            go_wp2_with (first | (go_at_call 24; refine (rdigit_any _ _).mono ?_; rintro e w' ⟨rfl, rfl⟩) | (go_at_call 23; refine (rletter_any _ _).mono ?_; rintro e w' ⟨rfl, rfl⟩) | (go_at_call 25; refine (rnumber_any _ _ hx0 hxd.out).mono ?_; rintro e w' ⟨rfl, rfl⟩) | (at_builtin; refine wpList_append_own _ rfl (.tmp 128) (.tmp 130) 30 rfl w.heap.size 36 i0 (.agg #[.int .u8 0, .string ⟨#[]⟩, .int .i64 0]) 3 32 Tryd.underlying30 hi hz0 hz1 hz2 rfl (by decide) _ _ _ rfl ((hown.alloc _).alloc _) ⟨wr.heap.size + 1, 0, none⟩ 1 1 [.int .u8 2, .string (s.extract a k), .int .i64 (a : Int)] rfl rfl (cells_next wr _ #[.int .u8 2, .string (s.extract a k), .int .i64 (a : Int)] 36) (one_cells _ _ _) hl1 hl2 (hbs _ _) ?_))
                            intro v' w3 hown3 hgrow3 hnn
                            have hB : Below w.heap.size w w3 := (((hbl.alloc hsz _).alloc (by simp; omega) _).grown hgrow3 (hbs _ _) (fun j hj => (hown.lt j hj).1))
                            have HO : w3.ownsRow w.heap.size 36 3 v' (acc ++ [Tok.mk 2 (s.extract a k).data.toList a]).length (cellsOf (acc ++ [Tok.mk 2 (s.extract a k).data.toList a])) := own_snoc hown3
                            replace HO := Lib.hid HO
                            clear hown3 hgrow3
                            go_wp2_with fail
                            go_roundw
                            case rel => exact ⟨acc ++ [⟨2, (s.extract a k).data.toList, a⟩], false, k, rfl, rfl, hQ.out, HO.out, hB, fun h => by simp at h⟩
                            case measure => simp [intOf]; omega

                          · have hke : Hid (cutKE s a = (0, 0)) := Lib.hid (cut_num_stuck s a hlt hg hd (by rw [hfar]; exact hn) (by rw [hfar]; exact hlk) (by simp only [hfar]; exact hgk))
                            clear hfar
                            have HE := Lib.hid (Hno.out a (Q_bad s acc a _ hq'.out hlt hke.out))
                            go_wp2_with (first | (go_at_call 24; refine (rdigit_any _ _).mono ?_; rintro e w' ⟨rfl, rfl⟩) | (go_at_call 23; refine (rletter_any _ _).mono ?_; rintro e w' ⟨rfl, rfl⟩) | (go_at_call 25; refine (rnumber_any _ _ hx0 hxd.out).mono ?_; rintro e w' ⟨rfl, rfl⟩))
                            go_ret3
                            rw [HE.out]
                            exact ⟨_, rfl, World.ownsRow_nil _ _ _ _, hbl.alloc hsz _, fun _ => rfl⟩

                      · have HI : Hid (far dgt s (k + 1) = far dgt s a) := Lib.hid (by rw [← hI]; exact far_on dgt s k hlk e2)
                        clear hI
                        go_wp2_with (first | (go_at_call 24; refine (rdigit_any _ _).mono ?_; rintro e w' ⟨rfl, rfl⟩) | (go_at_call 23; refine (rletter_any _ _).mono ?_; rintro e w' ⟨rfl, rfl⟩))
                        go_round
                        case rel => exact ⟨k + 1, by omega, by go_num, HI.out⟩
                        case measure => simp [intOf]; omega
                    · have hfar : far dgt s a = k := by rw [← hI]; exact far_end dgt s k (by omega)
                      have hfw4 : a < k := by omega
                      clear hI hfw1 hfw2 hfw3
                      have hxd : Hid (∀ (i : Nat) (h : i < (s.extract a k).size), dgt (s.extract a k)[i] = true) := Lib.hid (by have h := far_digits s a; rw [hfar] at h; exact h)
                      have hx0 : 0 < (s.extract a k).size := by rw [Lib.size_eq, Lib.extract_data, List.length_take, List.length_drop, ← Lib.size_eq]; omega

                      cases hn : numB (s.extract a k)
                      · have hke : Hid (cutKE s a = (0, 0)) := Lib.hid (cut_num_bad s a hlt hg hd (by rw [hfar]; exact hn))
                        clear hfar
                        have HE := Lib.hid (Hno.out a (Q_bad s acc a _ hq'.out hlt hke.out))
                        go_wp2_with (first | (go_at_call 24; refine (rdigit_any _ _).mono ?_; rintro e w' ⟨rfl, rfl⟩) | (go_at_call 23; refine (rletter_any _ _).mono ?_; rintro e w' ⟨rfl, rfl⟩) | (go_at_call 25; refine (rnumber_any _ _ hx0 hxd.out).mono ?_; rintro e w' ⟨rfl, rfl⟩))
                        go_ret3
                        rw [HE.out]
                        exact ⟨_, rfl, World.ownsRow_nil _ _ _ _, hbl.alloc hsz _, fun _ => rfl⟩

                      · have hke : Hid (cutKE s a = (2, k)) := Lib.hid (by have h := cut_num_end s a hlt hg hd (by rw [hfar]; exact hn) (by rw [hfar]; omega); rw [hfar] at h; exact h)
                        clear hfar
                        have hQ := Lib.hid (Q2_tok s acc a 2 k hq'.out hlt hke.out (by omega))
                        obtain ⟨_, _, q3, q4⟩ := ke_cut s a 2 k hke.out (by omega)
                        go_wp2_with (first | (go_at_call 24; refine (rdigit_any _ _).mono ?_; rintro e w' ⟨rfl, rfl⟩) | (go_at_call 23; refine (rletter_any _ _).mono ?_; rintro e w' ⟨rfl, rfl⟩) | (go_at_call 25; refine (rnumber_any _ _ hx0 hxd.out).mono ?_; rintro e w' ⟨rfl, rfl⟩) | (at_builtin; refine wpList_append_own _ rfl (.tmp 128) (.tmp 130) 30 rfl w.heap.size 36 i0 (.agg #[.int .u8 0, .string ⟨#[]⟩, .int .i64 0]) 3 32 Tryd.underlying30 hi hz0 hz1 hz2 rfl (by decide) _ _ _ rfl ((hown.alloc _).alloc _) ⟨wr.heap.size + 1, 0, none⟩ 1 1 [.int .u8 2, .string (s.extract a k), .int .i64 (a : Int)] rfl rfl (cells_next wr _ #[.int .u8 2, .string (s.extract a k), .int .i64 (a : Int)] 36) (one_cells _ _ _) hl1 hl2 (hbs _ _) ?_))
                        intro v' w3 hown3 hgrow3 hnn
                        have hB : Below w.heap.size w w3 := (((hbl.alloc hsz _).alloc (by simp; omega) _).grown hgrow3 (hbs _ _) (fun j hj => (hown.lt j hj).1))
                        have HO : w3.ownsRow w.heap.size 36 3 v' (acc ++ [Tok.mk 2 (s.extract a k).data.toList a]).length (cellsOf (acc ++ [Tok.mk 2 (s.extract a k).data.toList a])) := own_snoc hown3
                        replace HO := Lib.hid HO
                        clear hown3 hgrow3
                        go_wp2_with fail
                        go_roundw
                        case rel => exact ⟨acc ++ [⟨2, (s.extract a k).data.toList, a⟩], false, k, rfl, rfl, hQ.out, HO.out, hB, fun h => by simp at h⟩
                        case measure => simp [intOf]; omega

              · have hl1 : acc.length + 1 ≤ maxLen := by unfold maxLen; omega
                have hl2 : (acc.length + 1) * 32 ≤ 140737488355328 := by omega
                have hbs : ∀ o1 o2, w.heap.size ≤ ((wr.alloc o1).alloc o2).heap.size := fun o1 o2 => by simp; omega
                replace hq' := Lib.hid hq'
                obtain ⟨hfw1, hfw2⟩ := far_le wth s a (by omega)
                go_wp2_with (go_at_call 23; refine (rletter_any _ _).mono ?_; rintro e w' ⟨rfl, rfl⟩)
                go_loop [10] (fun x => ∃ k : Nat, k ≤ s.size ∧ x = .int .i64 k ∧ far wth s k = far wth s a) (fun x => s.size - (intOf x).toNat)
                case atStart => exact ⟨a, by omega, rfl, rfl⟩
                case round =>
                  obtain ⟨k, hk, rfl, hI⟩ := hrel
                  by_cases hlk : k < s.size
                  · cases e1 : bgn s[k]
                    · cases e2 : dgt s[k]
                      · have hwk : wth s[k] = false := by unfold wth; rw [e1, e2]; rfl
                        have hfar : far wth s a = k := by rw [← hI]; exact far_off wth s k hlk hwk
                        clear hI hwk
                        by_cases hlen : (k : Int) - a ≤ 32
                        · have hke : Hid (cutKE s a = (1, k)) := Lib.hid (by have h := cut_name s a hlt hg (by rw [hfar]; exact hlen); rw [hfar] at h; exact h)
                          rw [hfar] at hfw1
                          clear hfar hfw2
                          have hQ := Lib.hid (Q2_tok s acc a 1 k hq'.out hlt hke.out (by omega))
                          obtain ⟨_, _, q3, q4⟩ := ke_cut s a 1 k hke.out (by omega)
                          go_wp2_with (first | (go_at_call 24; refine (rdigit_any _ _).mono ?_; rintro e w' ⟨rfl, rfl⟩) | (go_at_call 23; refine (rletter_any _ _).mono ?_; rintro e w' ⟨rfl, rfl⟩) | (at_builtin; refine wpList_append_own _ rfl (.tmp 128) (.tmp 130) 30 rfl w.heap.size 36 i0 (.agg #[.int .u8 0, .string ⟨#[]⟩, .int .i64 0]) 3 32 Tryd.underlying30 hi hz0 hz1 hz2 rfl (by decide) _ _ _ rfl ((hown.alloc _).alloc _) ⟨wr.heap.size + 1, 0, none⟩ 1 1 [.int .u8 1, .string (s.extract a k), .int .i64 (a : Int)] rfl rfl (cells_next wr _ #[.int .u8 1, .string (s.extract a k), .int .i64 (a : Int)] 36) (one_cells _ _ _) hl1 hl2 (hbs _ _) ?_))
                          intro v' w3 hown3 hgrow3 hnn
                          have hB : Below w.heap.size w w3 := (((hbl.alloc hsz _).alloc (by simp; omega) _).grown hgrow3 (hbs _ _) (fun j hj => (hown.lt j hj).1))
                          have HO : w3.ownsRow w.heap.size 36 3 v' (acc ++ [Tok.mk 1 (s.extract a k).data.toList a]).length (cellsOf (acc ++ [Tok.mk 1 (s.extract a k).data.toList a])) := own_snoc hown3
                          replace HO := Lib.hid HO
                          clear hown3 hgrow3
                          go_wp2_with fail
                          go_roundw
                          case rel => exact ⟨acc ++ [⟨1, (s.extract a k).data.toList, a⟩], false, k, rfl, rfl, hQ.out, HO.out, hB, fun h => by simp at h⟩
                          case measure => simp [intOf]; omega

                        · have hke : Hid (cutKE s a = (0, 0)) := Lib.hid (cut_long s a hlt hg (by rw [hfar]; omega))
                          have hdec : decide ((k : Int) - a ≤ 32) = false := decide_eq_false hlen
                          rw [hfar] at hfw1
                          clear hfar hfw2 hlen
                          have HE := Lib.hid (Hno.out a (Q_bad s acc a _ hq'.out hlt hke.out))
                          go_wp2_with (first | (go_at_call 24; refine (rdigit_any _ _).mono ?_; rintro e w' ⟨rfl, rfl⟩) | (go_at_call 23; refine (rletter_any _ _).mono ?_; rintro e w' ⟨rfl, rfl⟩))
                          go_ret3
                          rw [HE.out]
                          exact ⟨_, rfl, World.ownsRow_nil _ _ _ _, hbl.alloc hsz _, fun _ => rfl⟩


                      · have HI : Hid (far wth s (k + 1) = far wth s a) := Lib.hid (by rw [← hI]; exact far_on wth s k hlk (by unfold wth; rw [e1, e2]; rfl))
                        clear hI
                        go_wp2_with (first | (go_at_call 24; refine (rdigit_any _ _).mono ?_; rintro e w' ⟨rfl, rfl⟩) | (go_at_call 23; refine (rletter_any _ _).mono ?_; rintro e w' ⟨rfl, rfl⟩))
                        go_round
                        case rel => exact ⟨k + 1, by omega, by go_num, HI.out⟩
                        case measure => simp [intOf]; omega
                    · have HI : Hid (far wth s (k + 1) = far wth s a) := Lib.hid (by rw [← hI]; exact far_on wth s k hlk (by unfold wth; rw [e1]; rfl))
                      clear hI
                      go_wp2_with (first | (go_at_call 24; refine (rdigit_any _ _).mono ?_; rintro e w' ⟨rfl, rfl⟩) | (go_at_call 23; refine (rletter_any _ _).mono ?_; rintro e w' ⟨rfl, rfl⟩))
                      go_round
                      case rel => exact ⟨k + 1, by omega, by go_num, HI.out⟩
                      case measure => simp [intOf]; omega
                  · have hfar : far wth s a = k := by rw [← hI]; exact far_end wth s k (by omega)
                    clear hI
                    by_cases hlen : (k : Int) - a ≤ 32
                    · have hke : Hid (cutKE s a = (1, k)) := Lib.hid (by have h := cut_name s a hlt hg (by rw [hfar]; exact hlen); rw [hfar] at h; exact h)
                      rw [hfar] at hfw1
                      clear hfar hfw2
                      have hQ := Lib.hid (Q2_tok s acc a 1 k hq'.out hlt hke.out (by omega))
                      obtain ⟨_, _, q3, q4⟩ := ke_cut s a 1 k hke.out (by omega)
                      go_wp2_with (first | (go_at_call 24; refine (rdigit_any _ _).mono ?_; rintro e w' ⟨rfl, rfl⟩) | (go_at_call 23; refine (rletter_any _ _).mono ?_; rintro e w' ⟨rfl, rfl⟩) | (at_builtin; refine wpList_append_own _ rfl (.tmp 128) (.tmp 130) 30 rfl w.heap.size 36 i0 (.agg #[.int .u8 0, .string ⟨#[]⟩, .int .i64 0]) 3 32 Tryd.underlying30 hi hz0 hz1 hz2 rfl (by decide) _ _ _ rfl ((hown.alloc _).alloc _) ⟨wr.heap.size + 1, 0, none⟩ 1 1 [.int .u8 1, .string (s.extract a k), .int .i64 (a : Int)] rfl rfl (cells_next wr _ #[.int .u8 1, .string (s.extract a k), .int .i64 (a : Int)] 36) (one_cells _ _ _) hl1 hl2 (hbs _ _) ?_))
                      intro v' w3 hown3 hgrow3 hnn
                      have hB : Below w.heap.size w w3 := (((hbl.alloc hsz _).alloc (by simp; omega) _).grown hgrow3 (hbs _ _) (fun j hj => (hown.lt j hj).1))
                      have HO : w3.ownsRow w.heap.size 36 3 v' (acc ++ [Tok.mk 1 (s.extract a k).data.toList a]).length (cellsOf (acc ++ [Tok.mk 1 (s.extract a k).data.toList a])) := own_snoc hown3
                      replace HO := Lib.hid HO
                      clear hown3 hgrow3
                      go_wp2_with fail
                      go_roundw
                      case rel => exact ⟨acc ++ [⟨1, (s.extract a k).data.toList, a⟩], false, k, rfl, rfl, hQ.out, HO.out, hB, fun h => by simp at h⟩
                      case measure => simp [intOf]; omega

                    · have hke : Hid (cutKE s a = (0, 0)) := Lib.hid (cut_long s a hlt hg (by rw [hfar]; omega))
                      have hdec : decide ((k : Int) - a ≤ 32) = false := decide_eq_false hlen
                      rw [hfar] at hfw1
                      clear hfar hfw2 hlen
                      have HE := Lib.hid (Hno.out a (Q_bad s acc a _ hq'.out hlt hke.out))
                      go_wp2_with (first | (go_at_call 24; refine (rdigit_any _ _).mono ?_; rintro e w' ⟨rfl, rfl⟩) | (go_at_call 23; refine (rletter_any _ _).mono ?_; rintro e w' ⟨rfl, rfl⟩))
                      go_ret3
                      rw [HE.out]
                      exact ⟨_, rfl, World.ownsRow_nil _ _ _ _, hbl.alloc hsz _, fun _ => rfl⟩


          · have HQ := Lib.hid (Q2_blk s acc a hq hlt hb)
            have hb' : (s[a].toNat : Int) = 32 ∨ (s[a].toNat : Int) = 9 ∨ (s[a].toNat : Int) = 10 := by unfold blk at hb; simp at hb; omega
            clear hq hb
            rcases hb' with hc | hc | hc
            all_goals
              go_wp2_with fail
              go_roundw
              case rel => exact ⟨acc, false, a + 1, rfl, by go_num, HQ.out, hown, hbl, hnil⟩
              case measure => simp [intOf]; omega
        · by_cases hc : s[a].toNat = 10
          · have HQ := Lib.hid (Q2_rem10 s acc a hq hlt hc)
            have hc' : (s[a].toNat : Int) = 10 := by omega
            clear hq hc
            go_wp2_with fail
            go_roundw
            case rel => exact ⟨acc, false, a + 1, rfl, by go_num, HQ.out, hown, hbl, hnil⟩
            case measure => simp [intOf]; omega
          · have HQ := Lib.hid (Q2_rem s acc a hq hlt hc)
            have hc' : ((s[a].toNat : Int) == 10) = false := by simp; omega
            have hc2 : ((s[a].toNat : Int) != 10) = true := by simp; omega
            clear hq hc
            go_wp2_with fail
            go_roundw
            case rel => exact ⟨acc, true, a + 1, rfl, by go_num, HQ.out, hown, hbl, hnil⟩
            case measure => simp [intOf]; omega
      · have HE := Lib.hid (Hok.out acc (Q2_end s acc b a hq hlt))
        clear hq hal
        go_wp2
        go_ret3
        rw [HE.out]
        exact ⟨_, rfl, hown, hbl, hnil⟩
end Go.Proofs.YtadljmpnopgihaaDoor.Lx
