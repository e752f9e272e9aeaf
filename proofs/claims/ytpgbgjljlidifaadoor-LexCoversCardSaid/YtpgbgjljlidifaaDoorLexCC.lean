/- The walk of the statement LexCovers' function. Conditions: lex.signs holds its list. -/
import Derived.Test.YtpgbgjljlidifaaDoorLexCB
import Derived.Laws.AppendOwnNone
namespace Go.Proofs.YtpgbgjljlidifaaDoor.Lx
open Go Go.RowKit

theorem chain_step (l : List UInt8) (p : Nat) (ts : List Tok) (k : Nat) (t : Tok) (h : Chain l p (ts.drop k)) (ht : ts[k]? = some t) :
    t.pos = p + skp false (l.drop p) ∧ Good t ∧ t.pos + t.txt.length ≤ l.length ∧ (l.drop t.pos).take t.txt.length = t.txt ∧ Chain l (t.pos + t.txt.length) (ts.drop (k + 1)) := by
  have hl := (List.getElem?_eq_some_iff.1 ht).1
  have he := (List.getElem?_eq_some_iff.1 ht).2
  rw [List.drop_eq_getElem_cons hl, he] at h
  exact h
theorem again_step (ts : List Tok) (k : Nat) (t : Tok) (ht : ts[k]? = some t) : again (ts.take (k + 1)) = again (ts.take k) ++ (t.txt ++ [32]) := by
  rw [List.take_add_one, ht]; simp [again]
theorem idB_gap (s : ByteArray) (p q : Nat) (h : q = p + skp false (s.data.toList.drop p)) : idB (s.extract p q) = true := by
  have hs := skp_le false (s.data.toList.drop p)
  have e : (s.extract p q).data.toList = (s.data.toList.drop p).take (skp false (s.data.toList.drop p)) := by
    rw [Lib.extract_data]; congr 1; omega
  unfold idB
  rw [e, skp_take, List.length_take, Nat.min_eq_left hs]
  simp
theorem ne_list (T : ByteArray) (h : 0 < T.size) : (T.toList == []) = false ∧ T.toList.isEmpty = false := by
  have hn : T.toList ≠ [] := by
    intro e
    rw [Lib.toList_data] at e
    rw [Lib.size_eq, e] at h
    simp at h
  exact ⟨by rw [Bool.eq_false_iff]; intro e; exact hn (by simpa using e), by rw [Bool.eq_false_iff]; intro e; exact hn (by simpa using e)⟩
theorem sz32 (G T : ByteArray) : (G ++ T ++ (⟨#[32]⟩ : ByteArray)).size = G.size + T.size + 1 := by rw [app_sz, app_sz]; exact Eq.refl _
theorem chain_good (l : List UInt8) : ∀ (ts : List Tok) (p : Nat), Chain l p ts → ∀ t ∈ ts, Good t
  | [], _, _, t, ht => by simp at ht
  | x :: ts, p, h, t, ht => by
    rcases List.mem_cons.1 ht with rfl | ht
    · exact h.2.1
    · exact chain_good l ts _ h.2.2.2.2 t ht
theorem map_at (ts us : List Tok) (h : us.map (fun t => (t.kind, t.txt)) = ts.map (fun t => (t.kind, t.txt))) (k : Nat) (x : Tok) (hx : ts[k]? = some x) : ∃ q, us[k]? = some ⟨x.kind, x.txt, q⟩ := by
  have h1 : (us.map (fun t => (t.kind, t.txt)))[k]? = some (x.kind, x.txt) := by rw [h, List.getElem?_map, hx]; rfl
  rw [List.getElem?_map] at h1
  cases hu : us[k]? with
  | none => rw [hu] at h1; cases h1
  | some y =>
    rw [hu] at h1
    obtain ⟨a, b, c⟩ := y
    have h2 := Option.some.inj h1
    obtain ⟨h3, h4⟩ := Prod.mk.inj h2
    simp only at h3 h4
    exact ⟨c, by rw [h3, h4]⟩
theorem two_data (s t : ByteArray) : ((s ++ (⟨#[10]⟩ : ByteArray)) ++ t).data.toList = s.data.toList ++ 10 :: t.data.toList := by
  rw [app_any, app_any, List.append_assoc]; rfl
theorem two_size (s t : ByteArray) : ((s ++ (⟨#[10]⟩ : ByteArray)) ++ t).size = s.size + 1 + t.size := by
  rw [app_sz, app_sz]; exact Eq.refl _
theorem two_err (s t : ByteArray) (ts : List Tok) (q : Nat) (hl : s.size + 1 + t.size ≤ 65536) (h : lexs s.data.toList 0 = .ok ts) (ht : lexs t.data.toList 0 = .error q) : res ((s ++ (⟨#[10]⟩ : ByteArray)) ++ t).data.toList = ([], s.size + 1 + q, 63) := by
  have e := lexs_two s.data.toList.length s.data.toList t.data.toList 0 ts (Nat.le_refl _) h
  rw [show 0 + s.data.toList.length + 1 = 0 + (s.size + 1) by rw [Lib.size_eq]; omega, lexs_mov, ht] at e
  rw [two_data]
  refine res_err _ _ ?_ ?_
  · rw [← two_data, ← Lib.size_eq, two_size]; exact hl
  · rw [e]; show Except.error _ = Except.error _; congr 1; omega
theorem two_ok (s t : ByteArray) (ts ms : List Tok) (hl : s.size + 1 + t.size ≤ 65536) (h : lexs s.data.toList 0 = .ok ts) (ht : lexs t.data.toList 0 = .ok ms) : res ((s ++ (⟨#[10]⟩ : ByteArray)) ++ t).data.toList = (ts ++ ms.map (movT (s.size + 1)), 0, 0) := by
  have e := lexs_two s.data.toList.length s.data.toList t.data.toList 0 ts (Nat.le_refl _) h
  rw [show 0 + s.data.toList.length + 1 = 0 + (s.size + 1) by rw [Lib.size_eq]; omega, lexs_mov, ht] at e
  rw [two_data]
  refine res_ok _ _ ?_ ?_
  · rw [← two_data, ← Lib.size_eq, two_size]; exact hl
  · rw [e]; rfl
theorem wp_append_none {o : Oper} {a : Act} {w : World} {K : Act → World → Prop} {Q : Exit → Act → World → Prop} (s x : Operand) (t : TypeId)
    (ho : o.op = .call { callee := .builtin .append, args := #[s, x], argTypes := #[t, t] })
    (base : Nat) (e : TypeId) (i : TypeInfo) (size : Nat) (ht : Tryd.prog.underlying t = some (.slice e)) (hi : Tryd.prog.info? e = some i)
    (v : Value) (n : Nat) (xs : List Value) (hs : a.eval s = v) (hown : w.ownsRow base e size v n xs) (hx : a.eval x = .slice none 0 0)
    (h : K (a.put o.dst v) w) : o.wp Tryd.prog a w K Q := by
  have hrun := run_append_owned_none (P := Tryd.prog) (w := w) base t o.type e i size ht hi v n xs hown
  unfold Oper.wp
  simp [execOp, ho, resolve, invoke, builtin, hs, hx, hrun, Result.andThen]
  exact h
theorem idB_end (s : ByteArray) (p : Nat) (h : skp false (s.data.toList.drop p) = (s.data.toList.drop p).length) : idB (s.extract p s.size) = true := by
  unfold idB
  have e : (s.extract p s.size).data.toList = s.data.toList.drop p := by
    rw [Lib.extract_data, List.take_of_length_le (by rw [List.length_drop, ← Lib.size_eq]; omega)]
  rw [e, h]; simp
theorem lx_count : ∀ (f : Nat) (l : List UInt8) (p : Nat) (ts : List Tok), lx f l p = .ok ts → ts.length ≤ l.length
  | 0, l, p, ts, h => by
    have : ts = [] := by injection h with h; exact h.symm
    rw [this]; simp
  | f + 1, l, p, ts, h => by
    unfold lx at h
    by_cases hn : l.drop (skp false l) = []
    · rw [if_pos hn] at h
      have : ts = [] := by injection h with h; exact h.symm
      rw [this]; simp
    · rw [if_neg hn] at h
      by_cases hk : (cutL (l.drop (skp false l))).1 = 0
      · rw [if_pos hk] at h; cases h
      · rw [if_neg hk] at h
        have hb := cutL_bd _ hk
        have hs := skp_le false l
        rw [List.length_drop] at hb
        have ih := lx_count f ((l.drop (skp false l)).drop (cutL (l.drop (skp false l))).2) (p + skp false l + (cutL (l.drop (skp false l))).2)
        cases hr : lx f ((l.drop (skp false l)).drop (cutL (l.drop (skp false l))).2) (p + skp false l + (cutL (l.drop (skp false l))).2) with
        | error q => rw [hr] at h; cases h
        | ok us =>
          rw [hr] at h
          injection h with h
          have h2 := ih us hr
          rw [List.length_drop, List.length_drop] at h2
          rw [← h, List.length_cons]
          omega
theorem cells_one (ts : List Tok) : ∀ u ∈ cellsOf ts, u.oneCell' = true := by
  intro u hu
  unfold cellsOf at hu
  obtain ⟨t, _, ht⟩ := List.mem_flatMap.1 hu
  simp only [tokCells, List.mem_cons, List.not_mem_nil, or_false] at ht
  rcases ht with rfl | rfl | rfl <;> rfl
theorem cells_len (ts : List Tok) : (cellsOf ts).length = ts.length * 3 := by
  induction ts with
  | nil => rfl
  | cons t r ih => show (tokCells t ++ cellsOf r).length = _; rw [List.length_append, ih, List.length_cons]; simp [tokCells]; omega
theorem cells_app (ts us : List Tok) : cellsOf ts ++ cellsOf us = cellsOf (ts ++ us) := by simp [cellsOf]
theorem same_c (a3 a1 : Option Addr) (c3 c1 : Nat) (ts : List Tok) (w : World) (B1 B2 : Nat) (hE1 : ts ≠ [] → ∃ g, a3 = some ⟨g, 0, none⟩ ∧ B1 ≤ g) (hE2 : ts = [] → a3 = none ∧ c3 = 0) (hA1 : ts ≠ [] → ∃ g, a1 = some ⟨g, 0, none⟩ ∧ B2 ≤ g) (hA2 : ts = [] → a1 = none ∧ c1 = 0)
    (h3 : ts.length ≤ c3 ∧ c3 ≤ 9223372036854775807) (h1 : ts.length ≤ c1 ∧ c1 ≤ 9223372036854775807) (o3 : w.ownsRow B1 36 3 (.slice a3 ts.length c3) ts.length (cellsOf ts)) (o1 : w.ownsRow B2 36 3 (.slice a1 ts.length c1) ts.length (cellsOf ts)) :
    Calls Tryd.prog 16 #[.slice a3 ts.length c3, .slice a1 ts.length c1] w fun e w' => e = .returned (.bool true) ∧ ∃ m, w' = w.drewN m := by
  by_cases hn : ts = []
  · obtain ⟨rfl, rfl⟩ := hE2 hn
    obtain ⟨rfl, rfl⟩ := hA2 hn
    subst hn
    exact (same_zero w).mono fun e w' ⟨he, hw⟩ => ⟨he, 0, hw.symm⟩
  · obtain ⟨g3, rfl, _⟩ := hE1 hn
    obtain ⟨g1, rfl, _⟩ := hA1 hn
    have h := same_some g3 c3 g1 c1 B1 B2 ts ts w rfl (by unfold maxLen; exact h3) (by unfold maxLen; exact h1) o3 o1
    rw [decide_eq_true rfl] at h
    exact h
set_option maxHeartbeats 4000000 in
set_option maxRecDepth 100000 in
theorem covers_ok (s t : ByteArray) (ts : List Tok) (w : World) (hsg : SignsIn w) (hs : s.size ≤ 20000) (ht : t.size ≤ 20000) (h : lexs s.data.toList 0 = .ok ts) :
    Calls Tryd.prog 5 #[.string s, .string t] w fun e w' => e = .returned (.bool true) ∧ Below w.heap.size w w' := by
  have h0 := Since.start hsg
  have hsm : Hid (s.size ≤ maxLen) := Lib.hid (by unfold maxLen; omega)
  have htm : Hid (t.size ≤ maxLen) := Lib.hid (by unfold maxLen; omega)
  have hr1 : Hid (res s.data.toList = (ts, 0, 0)) := Lib.hid (res_ok _ ts (by rw [← Lib.size_eq]; omega) h)
  have hch : Hid (Chain s.data.toList 0 ts) := Lib.hid (chain_of ts s.data.toList 0 (by omega) (by rw [List.drop_zero]; exact h))
  have hsz := Lib.hid (Lib.size_eq s)
  replace h := Lib.hid h
  go_enter Tryd.func5, Tryd.ntmps5
  go_wp2_with fail
  refine (works_any w _ h0).mono ?_
  rintro e w1 ⟨rfl, h1⟩
  go_wp2_with fail
  refine (tokens_gen s ts _ hsm.out h1.1 hr1.out).mono ?_
  rintro e w2 ⟨ao, c1, rfl, hA1, hA2, hA3, hA4, ho1, hb2⟩
  have h2 := h1.next hb2
  replace hA1 := Lib.hid hA1
  replace hA2 := Lib.hid hA2
  go_wp2_with fail
  refine (tokens_any t _ htm.out h2.1).mono ?_
  rintro e w3 ⟨vm, rfl, hom, hb3, hnm⟩
  have h3 := h2.next hb3
  have ho1' := Lib.hid (own_below ho1 hb3)
  have hlt1 := Lib.hid (fun k hk => (ho1.lt k hk).2)
  replace hom := Lib.hid hom
  replace hnm := Lib.hid hnm
  clear ho1
  go_wp2_with fail
  go_loopw [11, 12, 13] (fun p g i wr => ∃ (k at' : Nat) (G : ByteArray), k ≤ ts.length ∧ p = .int .i64 at' ∧ g = .string G ∧ i = .int .i64 k ∧ G.data.toList = again (ts.take k) ∧ G.size ≤ 2 * at' ∧ at' ≤ s.size ∧ Chain s.data.toList at' (ts.drop k) ∧ wr.ownsRow w1.heap.size 36 3 (.slice ao ts.length c1) ts.length (cellsOf ts) ∧ wr.ownsRow w2.heap.size 36 3 vm (res t.data.toList).1.length (cellsOf (res t.data.toList).1) ∧ Since w wr)
    (fun _ _ i _ => ts.length - (intOf i).toNat)
  case atStart => exact ⟨0, 0, ⟨#[]⟩, by omega, rfl, rfl, rfl, rfl, by simp [ByteArray.size], by omega, hch.out, ho1'.out, hom.out, h3⟩
  case round =>
    obtain ⟨k, p, G, hk, rfl, rfl, rfl, hG, hGs, hp, hC, hoA, hoM, hS⟩ := hrel
    by_cases hlt : k < ts.length
    · obtain ⟨x, hx⟩ : ∃ x, ts[k]? = some x := ⟨ts[k], by simp [hlt]⟩
      obtain ⟨k1, k2, k3, k4, k5⟩ := chain_step _ p ts k x hC hx
      obtain ⟨g, hao, _⟩ := hA1.out (by intro e; rw [e] at hlt; simp at hlt)
      subst hao
      obtain ⟨a0, a1, a2⟩ := own_tok hoA k x hx
      have hid := idB_gap s p x.pos k1
      have HG := Lib.hid (again_step ts k x hx)
      replace k5 := Lib.hid k5
      replace hG := Lib.hid hG
      have hge : p ≤ x.pos := by omega
      have hxl : 0 < x.txt.length := by
        have := k2.2.2.2
        cases hh : x.txt with
        | nil => exact absurd hh this
        | cons a b => simp
      rw [← hsz.out] at k3
      clear hC hx k1 k2
      replace hoA := Lib.hid hoA
      replace hoM := Lib.hid hoM
      obtain ⟨kd, tx, ps⟩ := x
      simp only at *
      obtain ⟨T, hT⟩ : ∃ T : ByteArray, T = ⟨tx.toArray⟩ := ⟨_, rfl⟩
      have hTx : T.data.toList = tx := by rw [hT]
      have hTs : T.size = tx.length := by rw [Lib.size_eq, hTx]
      have hext : s.extract ps (ps + T.size) = T := by
        rw [Lib.extract_eq, hTs, Nat.add_sub_cancel_left, k4, hT]
      rw [← hT] at a1
      rw [← hTs] at k3 hxl k5
      rw [← hTx] at HG
      have d1 : decide ((ps : Int) < (p : Int)) = false := decide_eq_false (by omega)
      obtain ⟨d2, d3⟩ := ne_list T hxl
      have q1 : (p : Int) ≤ (ps : Int) := by omega
      have q2 : (ps : Int) ≤ (s.size : Int) := by omega
      have q3 : ps ≤ s.size := by omega
      have q5 : (ps : Int) ≤ (ps : Int) + (T.size : Int) := by omega
      have q6 : (0 : Int) ≤ (ps : Int) + (T.size : Int) := by omega
      have u1 : IntKind.i64.wrap ((ps : Int) + (T.size : Int)) = (ps : Int) + (T.size : Int) := IntWalk.i64_in _ (by omega)
      have u2 : ((ps : Int) + (T.size : Int)).toNat = ps + T.size := by omega
      have q4 : (ps : Int) + (T.size : Int) ≤ (s.size : Int) := by omega
      have hes : (s.extract p ps).size ≤ 100000 := by rw [Lib.size_eq, Lib.extract_data, List.length_take, List.length_drop, ← Lib.size_eq]; omega
      clear hT hTx hTs k4
      have hc := fun W => ridle_yes (s.extract p ps) hid W hes
      replace hc := Lib.hid hc
      clear hid
      go_wp2_with fail
      go_quiet ((go_at_call 19; exact Calls.quiet_of_same (hc.out _)))
      go_wp2_with fail
      go_quiet (fail)
      go_wp2_with fail
      go_roundw
      case rel =>
        exact ⟨k + 1, ps + T.size, G ++ T ++ ⟨#[32]⟩, by omega, by go_num, rfl, by go_num, by rw [HG.out, app_any, app_any, hG.out, List.append_assoc], by rw [sz32]; omega, by omega, k5.out, hoA.out, hoM.out, hS.drew _⟩
      case measure => simp [intOf]; omega
    · obtain ⟨wo, hwo⟩ : ∃ wo : World, wo = wr := ⟨_, rfl⟩
      subst hwo
      have hkl : ts.length ≤ k := by omega
      rw [List.drop_of_length_le hkl] at hC
      have hid := idB_end s p hC
      have hes : (s.extract p s.size).size ≤ 100000 := by rw [Lib.size_eq, Lib.extract_data, List.length_take, List.length_drop, ← Lib.size_eq]; omega
      rw [List.take_of_length_le hkl] at hG
      replace hG := Lib.hid hG
      replace hoA := Lib.hid hoA
      replace hoM := Lib.hid hoM
      clear hC
      have q1 : (p : Int) ≤ (s.size : Int) := by omega
      have hc := ridle_yes (s.extract p s.size) hid wo hes
      replace hc := Lib.hid hc
      clear hid
      go_wp2_with fail
      refine hc.out.mono ?_
      rintro e wx ⟨rfl, rfl⟩
      obtain ⟨us, hus, hmap⟩ := lexs_again ts 0 (chain_good _ ts 0 hch.out)
      have hul : us.length = ts.length := by have := congrArg List.length hmap; simpa using this
      have hrG : Hid (res G.data.toList = (us, 0, 0)) := Lib.hid (by rw [hG.out]; refine res_ok _ us ?_ hus; rw [← hG.out, ← Lib.size_eq]; omega)
      have hGm : Hid (G.size ≤ maxLen) := Lib.hid (by unfold maxLen; omega)
      have hc2 := tokens_gen G us wx hGm.out hS.1 hrG.out
      rw [hul] at hc2
      replace hc2 := Lib.hid hc2
      replace hmap := Lib.hid hmap
      clear hus hul hc
      go_wp2_with fail
      refine hc2.out.mono ?_
      rintro e w4 ⟨ao2, c2, rfl, hD1, hD2, hD3, hD4, hoU, hb4⟩
      have hS4 := hS.next hb4
      have hoA4 := own_below hoA.out hb4
      have hoM4 := own_below hoM.out hb4
      replace hoA4 := Lib.hid hoA4
      replace hoM4 := Lib.hid hoM4
      replace hoU := Lib.hid hoU
      replace hD1 := Lib.hid hD1
      replace hD2 := Lib.hid hD2
      clear hc2
      go_wp2_with fail
      go_loopw [17] (fun i wr => ∃ k : Nat, k ≤ ts.length ∧ i = .int .i64 k ∧ ∃ m, wr = w4.drewN m) (fun i _ => ts.length - (intOf i).toNat)
      case atStart => exact ⟨0, by omega, rfl, 0, rfl⟩
      case round =>
        obtain ⟨k, hk, rfl, m, rfl⟩ := hrel
        by_cases hlt : k < ts.length
        · obtain ⟨x, hx⟩ : ∃ x, ts[k]? = some x := ⟨ts[k], by simp [hlt]⟩
          obtain ⟨q, hy⟩ := map_at ts us hmap.out k x hx
          obtain ⟨g, hao, _⟩ := hA1.out (by intro e; rw [e] at hlt; simp at hlt)
          obtain ⟨g2, hao2, _⟩ := hD1.out (by intro e; have e2 := congrArg List.length hmap.out; rw [e] at e2; simp at e2; omega)
          subst hao
          subst hao2
          obtain ⟨a0, a1, a2⟩ := own_tok hoA4.out k x hx
          obtain ⟨b0, b1, b2⟩ := own_tok hoU.out k _ hy
          clear hx hy
          obtain ⟨kd, tx, ps⟩ := x
          simp only at a0 a1 a2 b0 b1 b2
          obtain ⟨T, hT⟩ : ∃ T : ByteArray, T = ⟨tx.toArray⟩ := ⟨_, rfl⟩
          rw [← hT] at a1 b1
          clear hT
          go_wp2_with fail
          go_quiet (fail)
          go_wp2_with fail
          go_roundw
          case rel => exact ⟨k + 1, by omega, by go_num, _, rfl⟩
          case measure => simp [intOf]; omega
        · cases hlt2 : lexs t.data.toList 0 with
          | error q =>
            have hrt : res t.data.toList = ([], q, 63) := res_err _ q (by rw [← Lib.size_eq]; omega) hlt2
            have hqb : q ≤ t.size := by have := lx_err _ _ _ _ hlt2; rw [Nat.zero_add, ← Lib.size_eq] at this; exact this
            have hrc := Lib.hid (two_err s t ts q (by omega) h.out hlt2)
            have hcm : Hid (((s ++ (⟨#[10]⟩ : ByteArray)) ++ t).size ≤ maxLen) := Lib.hid (by rw [two_size]; unfold maxLen; omega)
            have hc3 := tokens_none ((s ++ (⟨#[10]⟩ : ByteArray)) ++ t) (s.size + 1 + q) 63 (w4.drewN m) hcm.out (hS4.drew m).1 hrc.out
            replace hc3 := Lib.hid hc3
            clear hlt2
            go_wp2_with fail
            refine hc3.out.mono ?_
            rintro e w5 ⟨rfl, hb5⟩
            have hS5 := (hS4.drew m).next hb5
            go_wp2_with fail
            go_ret
            exact ⟨rfl, hS5.2.2⟩
          | ok ms =>
            have hrt : res t.data.toList = (ms, 0, 0) := res_ok _ ms (by rw [← Lib.size_eq]; omega) hlt2
            have hin := Lib.hid (lexs_in _ _ hlt2)
            have hcn := Lib.hid (lx_count _ _ _ _ hlt2)
            rw [← Lib.size_eq] at hcn
            have hrc := Lib.hid (two_ok s t ts ms (by omega) h.out hlt2)
            have hcm : Hid (((s ++ (⟨#[10]⟩ : ByteArray)) ++ t).size ≤ maxLen) := Lib.hid (by rw [two_size]; unfold maxLen; omega)
            have hoM5 := hoM4.out
            have hnm5 := hnm.out
            rw [hrt] at hoM5 hnm5
            clear hlt2 hoM4
            obtain ⟨i0, hi, hz0, hz1, hz2⟩ := info_parts Tryd.info36
            by_cases hm0 : ms = []
            · subst hm0
              obtain rfl := hnm5 rfl
              have hrc2 : Hid (res ((s ++ (⟨#[10]⟩ : ByteArray)) ++ t).data.toList = (ts, 0, 0)) := Lib.hid (by rw [hrc.out]; simp)
              have hc3 := tokens_gen ((s ++ (⟨#[10]⟩ : ByteArray)) ++ t) ts (w4.drewN m) hcm.out (hS4.drew m).1 hrc2.out
              replace hc3 := Lib.hid hc3
              clear hoM5 hnm5
              go_wp2_with fail
              refine hc3.out.mono ?_
              rintro e w5 ⟨ao3, c3, rfl, hE1, hE2, hE3, hE4, hoC, hb5⟩
              have hS5 := (hS4.drew m).next hb5
              have hoA5 : w5.ownsRow w1.heap.size 36 3 (.slice ao ts.length c1) ts.length (cellsOf ts) := own_below (w := w4.drewN m) hoA4.out hb5
              have hsc := same_c ao3 ao c3 c1 ts w5 _ _ hE1 hE2 hA1.out hA2.out ⟨hE3, hE4⟩ ⟨hA3, hA4⟩ hoC hoA5
              replace hsc := Lib.hid hsc
              clear hc3
              go_wp2_with fail
              go_loop [21] (fun i => i = .int .i64 0) (fun _ => 0)
              case atStart => rfl
              case round =>
                obtain rfl := hrel
                go_wp2_with (at_builtin; refine BigFrame.wpList_want rfl ?_; intro K hK; refine wp_append_none (.tmp 225) (.tmp 226) 30 rfl w1.heap.size 36 i0 3 Tryd.underlying30 hi (.slice ao ts.length c1) ts.length (cellsOf ts) rfl hoA5 rfl (hK _ _ ?_))
                refine hsc.out.mono ?_
                rintro e w6 ⟨rfl, q, rfl⟩
                go_wp2_with fail
                go_ret
                exact ⟨rfl, hS5.2.2.trans ⟨rfl, rfl, rfl, Nat.le_refl _, fun _ _ => rfl⟩⟩
            · obtain ⟨g3, c4, rfl, hg1, hg2⟩ : ∃ g cap, vm = .slice (some ⟨g, 0, none⟩) ms.length cap ∧ ms.length ≤ cap ∧ cap ≤ maxLen := by
                rcases own_cases hoM5 with ⟨_, h0⟩ | h0
                · exact absurd (List.length_eq_zero_iff.1 h0) hm0
                · exact h0
              have hgb := hoM5.lt g3 rfl
              have hz5 := hb4.size
              unfold maxLen at hg2
              obtain ⟨us', hus⟩ : ∃ us' : List Tok, us' = ts ++ ms.map (movT (s.size + 1)) := ⟨_, rfl⟩
              rw [← hus] at hrc
              have hul : us'.length = ts.length + ms.length := by rw [hus, List.length_append, List.length_map]
              have hc3 := tokens_gen ((s ++ (⟨#[10]⟩ : ByteArray)) ++ t) us' (w4.drewN m) hcm.out (hS4.drew m).1 hrc.out
              replace hus := Lib.hid hus
              replace hul := Lib.hid hul
              replace hc3 := Lib.hid hc3
              have hcnt1 := lx_count _ _ _ _ h.out
              have hcnt2 := hcn.out
              rw [← Lib.size_eq] at hcnt1
              clear hnm5
              replace hoM5 := Lib.hid hoM5
              replace hm0 := Lib.hid hm0
              go_wp2_with fail
              refine hc3.out.mono ?_
              rintro e w5 ⟨ao3, c3, rfl, hE1, hE2, hE3, hE4, hoC, hb5⟩
              have hS5 := (hS4.drew m).next hb5
              have hoA5 : w5.ownsRow w1.heap.size 36 3 (.slice ao ts.length c1) ts.length (cellsOf ts) := own_below (w := w4.drewN m) hoA4.out hb5
              have hoM6 : w5.ownsRow w2.heap.size 36 3 (.slice (some ⟨g3, 0, none⟩) ms.length c4) ms.length (cellsOf ms) := own_below (w := w4.drewN m) hoM5.out hb5
              obtain ⟨g5, rfl, hg5⟩ := hE1 (by intro e; have e2 := hul.out; rw [e, List.length_nil] at e2; exact hm0.out (List.length_eq_zero_iff.1 (by omega)))
              have hg5' : w4.heap.size ≤ g5 := hg5
              have hgg : g3 ≠ g5 := by omega
              have hwg : w.heap.size ≤ g3 := by have := h2.2.2.size; omega
              have hag : ∀ k, Value.ownBlock (.slice ao ts.length c1) = some k → k ≠ g3 := fun k hk => by have := hlt1.out k hk; omega
              replace hag := Lib.hid hag
              replace hoC := Lib.hid hoC
              replace hoA5 := Lib.hid hoA5
              replace hoM6 := Lib.hid hoM6
              clear hc3
              go_wp2_with fail
              go_loopw [21] (fun i wr => ∃ k : Nat, k ≤ ms.length ∧ i = .int .i64 k ∧ wr.ownsRow w2.heap.size 36 3 (.slice (some ⟨g3, 0, none⟩) ms.length c4) ms.length (cellsOf (movK (s.size + 1) k ms)) ∧
                  wr.ownsRow w1.heap.size 36 3 (.slice ao ts.length c1) ts.length (cellsOf ts) ∧
                  wr.ownsRow (w4.drewN m).heap.size 36 3 (.slice (some ⟨g5, 0, none⟩) us'.length c3) us'.length (cellsOf us') ∧ Below w.heap.size w wr) (fun i _ => ms.length - (intOf i).toNat)
              case atStart => exact ⟨0, Nat.zero_le _, rfl, by rw [movK_zero]; exact hoM6.out, hoA5.out, hoC.out, hS5.2.2⟩
              case round =>
                obtain ⟨k, hk, rfl, hoX, hoY, hoZ, hbl⟩ := hrel
                by_cases hlt : k < ms.length
                · obtain ⟨x, hx⟩ : ∃ x, ms[k]? = some x := ⟨ms[k], by simp [hlt]⟩
                  have htm := movK_at (s.size + 1) k ms x hx
                  obtain ⟨a0, a1, a2⟩ := own_tok hoX k x htm
                  have hfr := hoX.frozenAt (k * 3 + 2)
                  have hpos := (hin.out x (List.mem_of_getElem? hx)).1
                  rw [← Lib.size_eq] at hpos
                  have hst := hoX.stored (k * 3 + 2) (.int .i64 ((x.pos : Int) + (s.size : Int) + 1))
                  have hZ' := hoZ.kept hst.2 (.inr (by unfold Value.ownBlock; simp; omega))
                  have hY' := hoY.kept hst.2 (by
                    cases hb : Value.ownBlock (.slice ao ts.length c1) with
                    | none => exact .inl rfl
                    | some kk => exact .inr (by have := hag.out kk hb; intro e; exact this (Option.some.inj e)))
                  have hX' := hst.1
                  have hce := cells_set _ k x (x.pos + (s.size + 1)) htm
                  rw [Int.natCast_add, Int.natCast_add, ← Int.add_assoc] at hce
                  rw [show ((1 : Nat) : Int) = 1 from rfl] at hce
                  rw [hce] at hX'
                  have hnx : movK (s.size + 1) (k + 1) ms = (movK (s.size + 1) k ms).set k ⟨x.kind, x.txt, x.pos + (s.size + 1)⟩ := movK_next (s.size + 1) k ms x hx
                  rw [← hnx] at hX'
                  have hbl' : Below w.heap.size w _ := hbl.setCell (p := ⟨g3, k * 3 + 2, none⟩) hwg (.int .i64 ((x.pos : Int) + (s.size : Int) + 1))
                  replace hX' := Lib.hid hX'
                  replace hY' := Lib.hid hY'
                  replace hZ' := Lib.hid hZ'
                  replace hbl' := Lib.hid hbl'
                  clear hst hnx hce htm hx hoX hoY hoZ hbl
                  go_wp2_with fail
                  go_roundw
                  case rel => exact ⟨k + 1, by omega, by go_num, hX'.out, hY'.out, hZ'.out, hbl'.out⟩
                  case measure => simp [intOf]; omega
                · have hkn : ms.length ≤ k := by omega
                  rw [movK_all _ _ _ hkn] at hoX
                  have hlm : (ms.map (movT (s.size + 1))).length = ms.length := List.length_map _
                  have hnc := hoX.cells (g := g3) rfl
                  replace hoZ := Lib.hid hoZ
                  have hszr : w1.heap.size ≤ wr.heap.size := by have := (hoX.lt g3 rfl).2; have := (hoX.lt g3 rfl).1; have := hb2.size; omega
                  have hbg := fun w' => fun (hg : wr.grownBy w' (Value.ownBlock (.slice ao ts.length c1))) => (hbl.grown hg (by have := hbl.size; exact this) (fun k hk => by have := (hoY.lt k hk).1; have := h1.2.2.size; omega) : Below w.heap.size w w')
                  have hZg := fun w' => fun (hg : wr.grownBy w' (Value.ownBlock (.slice ao ts.length c1))) => hoZ.kept hg (by
                    cases hb : Value.ownBlock (.slice ao ts.length c1) with
                    | none => exact .inr (by intro e; cases e)
                    | some kk => exact .inr (by have := hlt1.out kk hb; intro e; have e2 : g5 = kk := Option.some.inj e; omega))
                  replace hbg := Lib.hid hbg
                  replace hZg := Lib.hid hZg
                  go_wp2_with (at_builtin; refine BigFrame.wpList_want rfl ?_; intro K hK; refine wp_append_own wr (.tmp 225) (.tmp 226) 30 rfl w1.heap.size 36 i0 _ 3 32 Tryd.underlying30 hi hz0 hz1 hz2 rfl (by decide) (.slice ao ts.length c1) ts.length (cellsOf ts) rfl hoY ⟨g3, 0, none⟩ ms.length c4 (cellsOf (ms.map (movT (s.size + 1)))) rfl (by rw [cells_len, hlm]) hnc (cells_one _) (by unfold maxLen; omega) (by omega) hszr ?_; intro v' w' hown' hgrow _; refine hK _ _ ?_)
                  rw [cells_app, ← hus.out, ← hul.out] at hown'
                  obtain ⟨g7, c7, rfl, hc7, hd7⟩ : ∃ g cap, v' = .slice (some ⟨g, 0, none⟩) us'.length cap ∧ us'.length ≤ cap ∧ cap ≤ maxLen := by
                    rcases own_cases hown' with ⟨_, h0⟩ | h0
                    · rw [hul.out] at h0; exact absurd (List.length_eq_zero_iff.1 (by omega)) hm0.out
                    · exact h0
                  have hfin := same_some g5 c3 g7 c7 _ _ us' us' w' rfl ⟨hE3, by unfold maxLen; exact hE4⟩ ⟨hc7, hd7⟩ (hZg.out w' hgrow) hown'
                  rw [decide_eq_true rfl] at hfin
                  have hbf := hbg.out w' hgrow
                  replace hfin := Lib.hid hfin
                  clear hown' hgrow hoY hoX
                  refine hfin.out.mono ?_
                  rintro e w6 ⟨rfl, q, rfl⟩
                  go_wp2_with fail
                  go_ret
                  exact ⟨rfl, hbf.trans ⟨rfl, rfl, rfl, Nat.le_refl _, fun _ _ => rfl⟩⟩
set_option maxHeartbeats 800000 in
set_option maxRecDepth 100000 in
theorem covers_bad (s t : ByteArray) (q : Nat) (w : World) (hsg : SignsIn w) (hs : s.size ≤ 20000) (ht : t.size ≤ 20000) (h : lexs s.data.toList 0 = .error q) :
    Calls Tryd.prog 5 #[.string s, .string t] w fun e w' => e = .returned (.bool true) ∧ Below w.heap.size w w' := by
  have h0 := Since.start hsg
  have hsm : Hid (s.size ≤ maxLen) := Lib.hid (by unfold maxLen; omega)
  have htm : Hid (t.size ≤ maxLen) := Lib.hid (by unfold maxLen; omega)
  have hr1 : Hid (res s.data.toList = ([], q, 63)) := Lib.hid (res_err _ q (by rw [← Lib.size_eq]; omega) h)
  clear h
  go_enter Tryd.func5, Tryd.ntmps5
  go_wp2_with fail
  refine (works_any w _ h0).mono ?_
  rintro e w1 ⟨rfl, h1⟩
  go_wp2_with fail
  refine (tokens_none s q 63 _ hsm.out h1.1 hr1.out).mono ?_
  rintro e w2 ⟨rfl, hb2⟩
  have h2 := h1.next hb2
  go_wp2_with fail
  refine (tokens_any t _ htm.out h2.1).mono ?_
  rintro e w3 ⟨vm, rfl, hom, hb3, hnm⟩
  have h3 := h2.next hb3
  clear hom hnm
  go_wp2_with fail
  go_ret
  exact ⟨rfl, h3.2.2⟩
set_option maxHeartbeats 800000 in
set_option maxRecDepth 100000 in
theorem covers_long1 (s t : ByteArray) (w : World) (hsg : SignsIn w) (hs : 20000 < s.size) :
    Calls Tryd.prog 5 #[.string s, .string t] w fun e w' => e = .returned (.bool true) ∧ Below w.heap.size w w' := by
  have h0 := Since.start hsg
  go_enter Tryd.func5, Tryd.ntmps5
  go_wp2_with fail
  refine (works_any w _ h0).mono ?_
  rintro e w1 ⟨rfl, h1⟩
  go_wp2_with fail
  refine (works_any w _ h1).mono ?_
  rintro e w2 ⟨rfl, h2⟩
  go_wp2_with fail
  go_ret
  exact ⟨rfl, h2.2.2⟩
set_option maxHeartbeats 800000 in
set_option maxRecDepth 100000 in
theorem covers_long2 (s t : ByteArray) (w : World) (hsg : SignsIn w) (hs : s.size ≤ 20000) (ht : 20000 < t.size) :
    Calls Tryd.prog 5 #[.string s, .string t] w fun e w' => e = .returned (.bool true) ∧ Below w.heap.size w w' := by
  have h0 := Since.start hsg
  go_enter Tryd.func5, Tryd.ntmps5
  go_wp2_with fail
  refine (works_any w _ h0).mono ?_
  rintro e w1 ⟨rfl, h1⟩
  go_wp2_with fail
  refine (works_any w _ h1).mono ?_
  rintro e w2 ⟨rfl, h2⟩
  go_wp2_with fail
  go_ret
  exact ⟨rfl, h2.2.2⟩
theorem covers_any (s t : ByteArray) (w : World) (hsg : SignsIn w) :
    Calls Tryd.prog 5 #[.string s, .string t] w fun e w' => e = .returned (.bool true) ∧ Below w.heap.size w w' := by
  by_cases hs : 20000 < s.size
  · exact covers_long1 s t w hsg hs
  · by_cases ht : 20000 < t.size
    · exact covers_long2 s t w hsg (by omega) ht
    · cases h : lexs s.data.toList 0 with
      | error q => exact covers_bad s t q w hsg (by omega) (by omega) h
      | ok ts => exact covers_ok s t ts w hsg (by omega) (by omega) h
end Go.Proofs.YtpgbgjljlidifaaDoor.Lx
