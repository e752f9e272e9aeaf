/- Walks of within, exits, last, eachWithin. Conditions: the lists lie in memory. Walk of mayEnds. Conditions: the blocks lie in memory. -/
import Derived.Test.YtkmlhijnkilfpaaDoorJFwA
import Derived.Test.YtkmlhijnkilfpaaDoorJaI
import Derived.BigQuiet
namespace Go.Proofs.YtkmlhijnkilfpaaDoor.Fw
open Go Go.RowKit
open Go.Proofs.YtkmlhijnkilfpaaDoor.Lx Go.Proofs.YtkmlhijnkilfpaaDoor.Tr Go.Proofs.YtkmlhijnkilfpaaDoor.Cd

set_option maxHeartbeats 800000 in
theorem within_c (n m : Int) (w : World) : Calls Tryd.prog 69 #[.int .i64 n, .int .i64 m] w fun e w' => e = .returned (.bool (inP n m)) ∧ Below w.heap.size w w' := by
  by_cases h1 : 0 ≤ n
  · by_cases h2 : n < m
    · go_enter Tryd.func69, Tryd.ntmps69
      go_wp2_with fail
      go_ret
      exact ⟨ret_bool (by simp [inP, h1, h2]), Below.refl _ _⟩
    · go_enter Tryd.func69, Tryd.ntmps69
      go_wp2_with fail
      go_ret
      exact ⟨ret_bool (by simp [inP, h2]), Below.refl _ _⟩
  · go_enter Tryd.func69, Tryd.ntmps69
    go_wp2_with fail
    go_ret
    exact ⟨ret_bool (by rw [inP, decide_eq_false (by omega : ¬ 0 ≤ n)]; rfl), Below.refl _ _⟩
set_option maxHeartbeats 800000 in
theorem exits_c (op : Int) (w : World) : Calls Tryd.prog 64 #[.int .u8 op] w fun e w' => e = .returned (.tuple #[.int .i64 (opCount op), .bool (opEnds op)]) ∧ Below w.heap.size w w' := by
  by_cases h : ¬ op = 11 ∧ ¬ op = 12 ∧ ¬ op = 13
  · obtain ⟨h1, h2, h3⟩ := h
    have hc : opCount op = 1 := by simp [opCount, h2, h3]
    have he : opEnds op = false := by simp [opEnds, h1, h2, h3]
    rw [hc, he]
    have e1 := ne_b h1
    have e2 := ne_b h2
    have e3 := ne_b h3
    clear h1 h2 h3 hc he
    go_enter Tryd.func64, Tryd.ntmps64
    go_wp2_with fail
    go_ret2
    exact ⟨rfl, Below.refl _ _⟩
  · have h' : op = 11 ∨ op = 12 ∨ op = 13 := by omega
    rcases h' with rfl | rfl | rfl
    · go_enter Tryd.func64, Tryd.ntmps64
      go_wp2_with fail
      go_ret2
      exact ⟨rfl, Below.refl _ _⟩
    · go_enter Tryd.func64, Tryd.ntmps64
      go_wp2_with fail
      go_ret2
      exact ⟨rfl, Below.refl _ _⟩
    · go_enter Tryd.func64, Tryd.ntmps64
      go_wp2_with fail
      go_ret2
      exact ⟨rfl, Below.refl _ _⟩
/-! the number of the first that is not within -/
def findN (P : Int → Bool) : List Int → Int
  | [] => -1
  | x :: r => if P x then 0 else if findN P r = -1 then -1 else findN P r + 1
theorem findN_cons (P : Int → Bool) (x : Int) (r : List Int) : findN P (x :: r) = if P x then 0 else if findN P r = -1 then -1 else findN P r + 1 := rfl
theorem findN_ge1 (P : Int → Bool) (l : List Int) : -1 ≤ findN P l := by
  induction l with
  | nil => simp [findN]
  | cons x r ih => unfold findN; split <;> (try split) <;> omega
theorem findN_some {P : Int → Bool} {l : List Int} {k : Nat} {x : Int} (hx : l[k]? = some x) (hb : P x = true) (ht : (l.take k).any P = false) : findN P l = k := by
  induction l generalizing k with
  | nil => simp at hx
  | cons y r ih =>
    cases k with
    | zero => simp at hx; subst hx; simp [findN, hb]
    | succ k =>
      rw [List.take_succ_cons, List.any_cons, Bool.or_eq_false_iff] at ht
      have := ih (by simpa using hx) ht.2
      unfold findN
      rw [if_neg (by simp [ht.1]), this, if_neg (by omega)]
      push_cast; rfl
theorem findN_none {P : Int → Bool} {l : List Int} (h : l.any P = false) : findN P l = -1 := by
  induction l with
  | nil => rfl
  | cons y r ih =>
    rw [List.any_cons, Bool.or_eq_false_iff] at h
    unfold findN
    rw [if_neg (by simp [h.1]), ih h.2, if_pos rfl]
theorem findN_ge (P : Int → Bool) (l : List Int) : decide (0 ≤ findN P l) = l.any P := by
  induction l with
  | nil => rfl
  | cons y r ih =>
    rw [List.any_cons, ← ih, findN_cons]
    have := findN_ge1 P r
    generalize findN P r = q at *
    cases P y
    · simp only [Bool.false_eq_true, if_false, Bool.false_or]
      by_cases h : q = -1
      · rw [if_pos h, h]
      · rw [if_neg h, decide_eq_true (by omega), decide_eq_true (by omega)]
    · simp
theorem anyN_take {P : Int → Bool} {l : List Int} {k : Nat} {x : Int} (h : l[k]? = some x) : (l.take (k + 1)).any P = ((l.take k).any P || P x) := by
  rw [List.take_add_one, h, List.any_append]; simp
set_option maxHeartbeats 800000 in
set_option maxRecDepth 100000 in
theorem each1_c (x n : Int) (b : Nat) (w : World) (hc : w.cell? ⟨b, 0, none⟩ = some (.int .i64 n)) :
    Calls Tryd.prog 102 #[.int .i64 x, .pointer (some ⟨b, 0, none⟩)] w fun e w' => e = .returned (.bool (!inP x n)) ∧ Below w.heap.size w w' := by
  have hM := Lib.hid (fun V => within_c x n V)
  go_enter Tryd.func102, Tryd.ntmps102
  go_wp2_with (go_at_call 69; refine (hM.out _).mono ?_; rintro e w1 ⟨rfl, hb1⟩)
  go_ret
  exact ⟨rfl, hb1⟩
set_option maxHeartbeats 800000 in
set_option maxRecDepth 100000 in
theorem indexN_c (l : List Int) (n : Int) (bx : Nat) (a : Option Addr) (cap : Nat) (w : World) (hrow : RowAt w Tt a cap l.length (numCells l)) (hc : w.cell? ⟨bx, 0, none⟩ = some (.int .i64 n)) :
    Calls Tryd.prog 113 #[.slice a l.length cap, .func (.func 102) #[] #[.pointer (some ⟨bx, 0, none⟩)]] w fun e w' => e = .returned (.int .i64 (findN (fun x => !inP x n) l)) ∧ Below w.heap.size w w' := by
  obtain ⟨hc1, hc2⟩ := len_i hrow
  have hM := Lib.hid (fun x V (hb : Below w.heap.size w V) => each1_c x n bx V (below_in hb hc))
  clear hc
  generalize hP : (fun x => !inP x n) = P at *
  go_enter Tryd.func113, Tryd.ntmps113
  go_wp2_with fail
  go_loopw [8] (fun i wr => ∃ k : Nat, k ≤ l.length ∧ i = .int .i64 k ∧ Hid ((l.take k).any P = false) ∧ Hid (Below w.heap.size w wr)) (fun i _ => l.length - (intOf i).toNat)
  case atStart => exact ⟨0, Nat.zero_le _, rfl, Lib.hid rfl, Lib.hid (Below.refl _ _)⟩
  case round =>
    obtain ⟨k, hk, rfl, hall, hb⟩ := hrel
    by_cases hlt : k < l.length
    · obtain ⟨x, hx⟩ : ∃ x, l[k]? = some x := ⟨_, List.getElem?_eq_getElem hlt⟩
      obtain ⟨b, off, ha, _, c0⟩ := num_row (hrow.below (Kps.of_below hb.out)) k x hx
      subst ha
      have hi0' : (0 : Int) ≤ (k : Int) := by omega
      have hi1 : (k : Int) < (l.length : Int) := by omega
      have hMx := Lib.hid (hM.out x wr hb.out)
      have hyes := Lib.hid (anyN_take (P := P) hx)
      have hno := Lib.hid (fun h : P x = true => findN_some hx h hall.out)
      have hPx : Hid ((!inP x n) = P x) := Lib.hid (by rw [← hP])
      clear hx hrow hP
      rw [hPx.out] at hMx
      cases hbx : P x with
      | true =>
        have hn := Lib.hid (hno.out hbx)
        rw [hbx] at hMx
        clear hyes hno hall hbx hPx
        go_wp2_with (go_at_call 102; refine hMx.out.mono ?_; rintro e w1 ⟨rfl, hb1⟩)
        go_ret
        exact ⟨by rw [hn.out]; rfl, hb.out.trans (hb1.mono hb.out.size)⟩
      | false =>
        have hn : Hid ((l.take (k + 1)).any P = false) := Lib.hid (by rw [hyes.out, hall.out, hbx]; rfl)
        rw [hbx] at hMx
        clear hyes hno hall hbx hPx
        go_wp2_with (go_at_call 102; refine hMx.out.mono ?_; rintro e w1 ⟨rfl, hb1⟩)
        go_roundw
        case rel => exact ⟨k + 1, by omega, by go_num, hn, Lib.hid (hb.out.trans (hb1.mono hb.out.size))⟩
        case measure => simp [intOf]; omega
    · have hk2 : k = l.length := by omega
      subst hk2
      rw [List.take_length] at hall
      go_wp2_with fail
      go_ret
      exact ⟨by rw [findN_none hall.out]; rfl, hb.out⟩
set_option maxHeartbeats 800000 in
set_option maxRecDepth 100000 in
theorem containsN_c (l : List Int) (n : Int) (bx : Nat) (a : Option Addr) (cap : Nat) (w : World) (hrow : RowAt w Tt a cap l.length (numCells l)) (hc : w.cell? ⟨bx, 0, none⟩ = some (.int .i64 n)) :
    Calls Tryd.prog 101 #[.slice a l.length cap, .func (.func 102) #[] #[.pointer (some ⟨bx, 0, none⟩)]] w fun e w' => e = .returned (.bool (l.any fun x => !inP x n)) ∧ Below w.heap.size w w' := by
  have hI := Lib.hid (indexN_c l n bx a cap w hrow hc)
  rw [← findN_ge]
  clear hrow hc
  go_enter Tryd.func101, Tryd.ntmps101
  go_wp2_with (go_at_call 113; refine hI.out.mono ?_; rintro e w1 ⟨rfl, hb1⟩)
  go_ret
  exact ⟨by simp, hb1⟩
theorem not_any (l : List Int) (n : Int) : (!l.any fun x => !inP x n) = l.all fun x => inP x n := by
  rw [List.all_eq_not_any_not]
set_option maxHeartbeats 800000 in
set_option maxRecDepth 100000 in
theorem each_c (l : List Int) (n : Int) (a : Option Addr) (cap : Nat) (w : World) (hrow : RowAt w Tt a cap l.length (numCells l)) :
    Calls Tryd.prog 66 #[.slice a l.length cap, .int .i64 n] w fun e w' => e = .returned (.bool (l.all fun x => inP x n)) ∧ Below w.heap.size w w' := by
  have hC := Lib.hid (fun V (hb : Below w.heap.size w V) (hc : V.cell? ⟨w.heap.size, 0, none⟩ = some (.int .i64 n)) => containsN_c l n w.heap.size a cap V (hrow.below (Kps.of_below hb)) hc)
  have hst := Lib.hid (b_alloc w (.cells #[.int .i64 n] 3))
  have hcl := Lib.hid (box_new w [.int .i64 n] 3 0 _ rfl)
  have hx := Lib.hid (hC.out _ hst.out hcl.out)
  rw [← not_any]
  clear hrow hC hcl
  generalize (l.any fun x => !inP x n) = v at *
  go_enter Tryd.func66, Tryd.ntmps66
  go_wp2_with (go_at_call 101; refine hx.out.mono ?_; rintro e w1 ⟨rfl, hb1⟩)
  go_ret
  exact ⟨rfl, hst.out.trans (hb1.mono hst.out.size)⟩
/-- the last instruction, or one of no operation -/
def lastI (l : List Ins) : Ins := match l.getLast? with | some i => i | none => { op := 0, r := 0, a := 0, b := 0, n := 0, aa := none, acap := 0, args := [] }
theorem lastI_op (l : List Ins) : (lastI l).op = lastOp l := by unfold lastI lastOp; cases l.getLast? <;> rfl
theorem lastI_at {l : List Ins} {x : Ins} (h : l[l.length - 1]? = some x) : lastI l = x := by
  unfold lastI
  rw [List.getLast?_eq_getElem?, h]
set_option maxHeartbeats 2000000 in
set_option maxRecDepth 100000 in
theorem last_c (l : List Ins) (a : Option Addr) (cap : Nat) (w : World) (hrow : RowAt w Tt a cap l.length (inCells l)) :
    Calls Tryd.prog 65 #[.slice a l.length cap] w fun e w' => e = .returned (.agg ⟨(lastI l).vals⟩) ∧ Below w.heap.size w w' := by
  obtain ⟨hc1, hc2⟩ := len_i hrow
  by_cases hl : l.length = 0
  · have : l = [] := List.eq_nil_of_length_eq_zero hl
    subst this
    go_enter Tryd.func65, Tryd.ntmps65
    go_wp2_with fail
    exact bodyPost_ret (v := .agg ⟨(lastI []).vals⟩) (results_cell_row Tryd.results65 _ _ (w.heap.size) _ _ _ _ rfl (blk_new _ _ rfl) Tryd.underlying44 rfl (by kernel_rfl)) rfl ⟨rfl, b_alloc _ _⟩
  · obtain ⟨y, hy⟩ : ∃ y, l[l.length - 1]? = some y := ⟨_, List.getElem?_eq_getElem (by omega)⟩
    obtain ⟨b, off, ha, _, c0, c1, c2, c3, c4, c5⟩ := in_row hrow _ y hy
    have hbl : b < w.heap.size := World.block_lt_of_cell? _ _ c0
    have hl1 : (0 : Int) ≤ (l.length : Int) - 1 := by omega
    have hl2 : (l.length : Int) - 1 < (l.length : Int) := by omega
    have hl3 : ((l.length : Int) - 1).toNat = l.length - 1 := by omega
    have hl4 : ((l.length : Int) == 0) = false := ne_b (by omega)
    rw [lastI_at hy]
    subst ha
    clear hy hrow
    go_enter Tryd.func65, Tryd.ntmps65
    go_wp2_with fail
    exact bodyPost_ret (v := .agg ⟨y.vals⟩) (results_cell_row Tryd.results65 _ _ (w.heap.size) _ _ _ _ rfl (blk_new _ _ rfl) Tryd.underlying44 rfl (by kernel_rfl)) rfl ⟨rfl, b_alloc _ _⟩
end Go.Proofs.YtkmlhijnkilfpaaDoor.Fw
namespace Go.Proofs.YtkmlhijnkilfpaaDoor.Fw
open Go Go.RowKit
open Go.Proofs.YtkmlhijnkilfpaaDoor.Lx Go.Proofs.YtkmlhijnkilfpaaDoor.Tr Go.Proofs.YtkmlhijnkilfpaaDoor.Cd

theorem all_no {α : Type} {f : α → Bool} {l : List α} {k : Nat} {x : α} (h : l[k]? = some x) (hx : f x = false) : l.all f = false := by
  rw [Bool.eq_false_iff]; intro h2
  have := List.all_eq_true.1 h2 x (List.mem_of_getElem? h)
  rw [hx] at this; cases this
theorem all_take {α : Type} {f : α → Bool} {l : List α} {k : Nat} {x : α} (h : l[k]? = some x) : (l.take (k + 1)).all f = ((l.take k).all f && f x) := by
  rw [List.take_add_one, h, List.all_append]; simp
theorem ins_agg (i : Ins) : Value.agg ⟨i.vals⟩ = .agg #[.int .u8 i.op, .int .i64 i.r, .int .i64 i.a, .int .i64 i.b, .int .i64 i.n, .slice i.aa i.args.length i.acap] := rfl
theorem fl_i0 (V : World) (op r a b n : Int) (v : Value) : (Instr.field 44 (.agg #[.int .u8 op, .int .i64 r, .int .i64 a, .int .i64 b, .int .i64 n, v]) 0).run Tryd.prog V = .ok (.int .u8 op) V := by kernel_rfl
theorem endsB_eq (n : Nat) (b : Bk) : endsB n b = (decide ((b.tt.length : Int) = opCount (lastI b.code).op) && (b.tt.all (fun x => inP x n) && (b.code.take (b.code.length - 1)).all (fun i => !opEnds i.op))) := by
  rw [lastI_op]; rfl
theorem box4 (w : World) (x : Bk) : let W := w.alloc (.cells #[.slice x.pa x.phis.length x.pcap, .slice x.ca x.code.length x.ccap, .slice x.fa x.fm.length x.fcap, .slice x.ta x.tt.length x.tcap] 42)
    W.cell? ⟨w.heap.size, 0, none⟩ = some (.slice x.pa x.phis.length x.pcap) ∧ W.cell? ⟨w.heap.size, 1, none⟩ = some (.slice x.ca x.code.length x.ccap) ∧ W.cell? ⟨w.heap.size, 2, none⟩ = some (.slice x.fa x.fm.length x.fcap) ∧ W.cell? ⟨w.heap.size, 3, none⟩ = some (.slice x.ta x.tt.length x.tcap) := by
  intro W
  have h1 : ∀ j u, x.vals[j]? = some u → W.cell? ⟨w.heap.size, j, none⟩ = some u := fun j u hu => box_new w x.vals 42 j u hu
  exact ⟨h1 0 _ rfl, h1 1 _ rfl, h1 2 _ rfl, h1 3 _ rfl⟩
set_option maxHeartbeats 4000000 in
set_option maxRecDepth 100000 in
theorem mayEnds_c (l : List Bk) (a : Option Addr) (cap : Nat) (w : World) (hrow : RowAt w Tt a cap l.length (bkCells l)) (hin : ∀ b ∈ l, Bk.In w b) :
    Calls Tryd.prog 27 #[.slice a l.length cap] w fun e w' => e = .returned (.bool (l.all (endsB l.length))) ∧ Below w.heap.size w w' := by
  obtain ⟨hc1, hc2⟩ := len_i hrow
  have hL := Lib.hid (fun (b : Bk) V (hb : b ∈ l) (hv : Below w.heap.size w V) => last_c b.code b.ca b.ccap V (((hin b hb).keep hv).crow))
  have hX := Lib.hid (fun op V => exits_c op V)
  have hE := Lib.hid (fun (b : Bk) V (hb : b ∈ l) (hv : Below w.heap.size w V) => each_c b.tt l.length b.ta b.tcap V (((hin b hb).keep hv).trow))
  have hR := Lib.hid (fun V (hv : Below w.heap.size w V) => hrow.below (Kps.of_below hv))
  have hC := Lib.hid (fun (b : Bk) V (hb : b ∈ l) (hv : Below w.heap.size w V) => ((hin b hb).keep hv).crow)
  have hQ := Lib.hid (endsB_eq l.length)
  clear hrow hin
  go_enter Tryd.func27, Tryd.ntmps27
  go_wp2_with fail
  go_loopw [12] (fun i wr => ∃ k : Nat, k ≤ l.length ∧ i = .int .i64 k ∧ Hid ((l.take k).all (endsB l.length) = true) ∧ Hid (Below w.heap.size w wr)) (fun i _ => l.length - (intOf i).toNat)
  case atStart => exact ⟨0, Nat.zero_le _, rfl, Lib.hid rfl, Lib.hid (Below.refl _ _)⟩
  case round =>
    obtain ⟨k, hk, rfl, hall, hb⟩ := hrel
    by_cases hlt : k < l.length
    · obtain ⟨x, hx⟩ : ∃ x, l[k]? = some x := ⟨_, List.getElem?_eq_getElem hlt⟩
      obtain ⟨b, off, ha, _, c0, c1, c2, c3⟩ := bk_row (hR.out wr hb.out) k x hx
      have hbl : b < wr.heap.size := World.block_lt_of_cell? _ _ c0
      have hi0' : (0 : Int) ≤ (k : Int) := by omega
      have hi1 : (k : Int) < (l.length : Int) := by omega
      have hm := List.mem_of_getElem? hx
      have hno := Lib.hid (fun h => all_no (f := endsB l.length) hx h)
      have hyes := Lib.hid (all_take (f := endsB l.length) hx)
      have hQx := Lib.hid (hQ.out x)
      have hbe := Lib.hid (b_alloc wr (.cells #[.slice x.pa x.phis.length x.pcap, .slice x.ca x.code.length x.ccap, .slice x.fa x.fm.length x.fcap, .slice x.ta x.tt.length x.tcap] 42))
      have hbx := Lib.hid (hb.out.trans (hbe.out.mono hb.out.size))
      have hq := Lib.hid (box4 wr x)
      have hL1 := Lib.hid (hL.out x _ hm hbx.out)
      have hE1 := Lib.hid (fun V (hv : Below w.heap.size w V) => hE.out x V hm hv)
      have hC1 := Lib.hid (fun V (hv : Below w.heap.size w V) => hC.out x V hm hv)
      obtain ⟨cl1, cl2⟩ := len_i (hC.out x wr hm hb.out)
      clear hQ hL hE hC hm hx
      subst ha
      go_wp2_with fail
      refine hL1.out.mono ?_
      rintro e w1 ⟨rfl, hb1⟩
      obtain ⟨q0, q1, q2, q3⟩ := hq.out
      have r1 := below_in hb1 q1
      have r3 := below_in hb1 q3
      have g1 := Lib.hid (hbx.out.trans (hb1.mono hbx.out.size))
      rw [ins_agg]
      have hf0 := fun V => fl_i0 V (lastI x.code).op (lastI x.code).r (lastI x.code).a (lastI x.code).b (lastI x.code).n (.slice (lastI x.code).aa (lastI x.code).args.length (lastI x.code).acap)
      generalize hcnt : opCount (lastI x.code).op = cnt at hQx
      replace hcnt := Lib.hid hcnt
      clear hq hL1 hb1 q0 q1 q2 q3 c0 c1 c2 c3 hbe
      go_wp2_with fail
      refine (hX.out _ _).mono ?_
      rintro e w2 ⟨rfl, hb2⟩
      rw [hcnt.out]
      have s1 := below_in hb2 r1
      have s3 := below_in hb2 r3
      have g2 := Lib.hid (g1.out.trans (hb2.mono g1.out.size))
      clear hb2 r1 r3 hcnt
      by_cases h1 : (x.tt.length : Int) = cnt
      · have e1 : ((x.tt.length : Int) != cnt) = false := by simp [h1]
        replace h1 := Lib.hid h1
        cases hv : x.tt.all (fun y => inP y l.length)
        · have hE2 := hE1.out w2 g2.out
          rw [hv] at hE2
          replace hE2 := Lib.hid hE2
          have hn := Lib.hid (hno.out (by rw [hQx.out, hv, h1.out]; simp))
          clear hv hE1 hyes hno hall hQx hC1
          go_wp2_with fail
          refine hE2.out.mono ?_
          rintro e w3 ⟨rfl, hb3⟩
          have g3 := Lib.hid (g2.out.trans (hb3.mono g2.out.size))
          clear hb3 s1 s3
          go_wp2_with fail
          go_ret
          exact ⟨ret_bool hn.out.symm, g3.out⟩
        · have hE2 := hE1.out w2 g2.out
          rw [hv] at hE2
          replace hE2 := Lib.hid hE2
          have hQy : Hid (endsB l.length x = (x.code.take (x.code.length - 1)).all (fun i => !opEnds i.op)) := Lib.hid (by rw [hQx.out, hv, h1.out]; simp)
          clear hv hE1 hQx
          go_wp2_with fail
          refine hE2.out.mono ?_
          rintro e w3 ⟨rfl, hb3⟩
          have g3 := Lib.hid (g2.out.trans (hb3.mono g2.out.size))
          have t1 := below_in hb3 s1
          clear hb3 s1 s3
          go_wp2_with fail
          go_loopw [41] (fun i wq => ∃ j : Nat, j ≤ x.code.length ∧ i = .int .i64 j ∧ Hid ((x.code.take j).all (fun i => !opEnds i.op) = true) ∧ Hid (Below w3.heap.size w3 wq) ∧ Hid (j = 0 ∨ (j : Int) ≤ (x.code.length : Int) - 1)) (fun i _ => x.code.length - (intOf i).toNat)
          case atStart => exact ⟨0, Nat.zero_le _, rfl, Lib.hid rfl, Lib.hid (Below.refl _ _), Lib.hid (.inl rfl)⟩
          case round =>
            obtain ⟨j, hj, rfl, hallj, hbq, hjl⟩ := hrel
            have u1 := below_in hbq.out t1
            have g4 := Lib.hid (g3.out.trans (hbq.out.mono g3.out.size))
            by_cases hjt : (j : Int) < (x.code.length : Int) - 1
            · have hjn : j < x.code.length := by omega
              obtain ⟨y, hy⟩ : ∃ y, x.code[j]? = some y := ⟨_, List.getElem?_eq_getElem hjn⟩
              obtain ⟨b', off', ha', _, d0, d1, d2, d3, d4, d5⟩ := in_row (hC1.out _ g4.out) j y hy
              have hj0' : (0 : Int) ≤ (j : Int) := by omega
              have hj1 : (j : Int) < (x.code.length : Int) := by omega
              rw [ha'] at u1
              have hnoj := Lib.hid (fun (h : (!opEnds y.op) = false) => all_no (l := x.code.take (x.code.length - 1)) (k := j) (f := fun i : Ins => !opEnds i.op) (by rw [List.getElem?_take, if_pos (by omega)]; exact hy) h)
              have hyesj := Lib.hid (all_take (f := fun i : Ins => !opEnds i.op) hy)
              clear hy hjl d1 d2 d3 d4 d5 ha'
              go_wp2_with fail
              refine (hX.out _ _).mono ?_
              rintro e w4 ⟨rfl, hb4⟩
              have g5 := Lib.hid (g4.out.trans (hb4.mono g4.out.size))
              have hbq2 := Lib.hid (hbq.out.trans (hb4.mono hbq.out.size))
              clear hb4
              cases hz : opEnds y.op
              · have hn : Hid ((x.code.take (j + 1)).all (fun i => !opEnds i.op) = true) := Lib.hid (by rw [hyesj.out, hallj.out, hz]; rfl)
                clear hz hnoj hyesj hallj
                go_wp2_with fail
                go_roundw
                case rel => exact ⟨j + 1, by omega, by go_num, hn, hbq2, Lib.hid (.inr (by push_cast; omega))⟩
                case measure => simp [intOf]; omega
              · have hn := Lib.hid (hno.out (by rw [hQy.out, hnoj.out (by rw [hz]; rfl)]))
                clear hz hnoj hyesj hallj
                go_wp2_with fail
                go_ret
                exact ⟨ret_bool hn.out.symm, g5.out⟩
            · have hjj : j = x.code.length - 1 := by rcases hjl.out with h | h <;> omega
              have hn : Hid ((l.take (k + 1)).all (endsB l.length) = true) := Lib.hid (by rw [hyes.out, hall.out, hQy.out, ← hjj, hallj.out]; rfl)
              clear hallj hall hyes hno hjj hjl
              go_wp2_with fail
              go_roundw
              case rel => exact ⟨k + 1, by omega, by go_num, hn, g4⟩
              case measure => simp [intOf]; omega
      · have e1 := ne_n h1
        have hn := Lib.hid (hno.out (by rw [hQx.out, decide_eq_false h1]; rfl))
        clear h1 hE1 hQx hyes hno hall hC1
        go_wp2_with fail
        go_ret
        exact ⟨ret_bool hn.out.symm, g2.out⟩
    · have hk2 : k = l.length := by omega
      subst hk2
      rw [List.take_length] at hall
      go_wp2_with fail
      go_ret
      exact ⟨ret_bool hall.out.symm, hb.out⟩
end Go.Proofs.YtkmlhijnkilfpaaDoor.Fw
