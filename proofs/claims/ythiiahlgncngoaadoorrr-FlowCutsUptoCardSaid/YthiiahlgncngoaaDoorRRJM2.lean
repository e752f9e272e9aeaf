/- Walks of within, exits, last, eachWithin. Conditions: the lists lie in memory. -/
import Derived.Test.YthiiahlgncngoaaDoorRRJFwA
import Derived.Test.YthiiahlgncngoaaDoorRRJaI
import Derived.Laws.CopyOwn
import Derived.OneCell
set_option maxHeartbeats 16000000
set_option maxRecDepth 100000
namespace Go.Proofs.YthiiahlgncngoaaDoorRR.Fw
open Go Go.RowKit
open Go.Proofs.YthiiahlgncngoaaDoorRR.Lx Go.Proofs.YthiiahlgncngoaaDoorRR.Tr Go.Proofs.YthiiahlgncngoaaDoorRR.Cd
theorem within_c (n m : Int) (w : World) : Calls Tryd.prog 93 #[.int .i64 n, .int .i64 m] w fun e w' => e = .returned (.bool (inP n m)) ∧ Below w.heap.size w w' := by
 by_cases h1 : 0 ≤ n
 · by_cases h2 : n < m
   · go_enter Tryd.func93, Tryd.ntmps93
     go_wp2_with fail
     go_ret
     exact ⟨Qi (by simp [inP, h1, h2]), Below.refl _ _⟩
   · go_enter Tryd.func93, Tryd.ntmps93
     go_wp2_with fail
     go_ret
     exact ⟨Qi (by simp [inP, h2]), Below.refl _ _⟩
 · go_enter Tryd.func93, Tryd.ntmps93
   go_wp2_with fail
   go_ret
   exact ⟨Qi (by rw [inP, decide_eq_false (by omega : ¬ 0 ≤ n)]; rfl), Below.refl _ _⟩
theorem exits_c (op : Int) (w : World) : Calls Tryd.prog 90 #[.int .u8 op] w fun e w' => e = .returned (.tuple #[.int .i64 (opCount op), .bool (Xr op)]) ∧ Below w.heap.size w w' := by
 by_cases h : ¬ op = 11 ∧ ¬ op = 12 ∧ ¬ op = 13
 · obtain ⟨h1, h2, h3⟩ := h
   have hc : opCount op = 1 := by simp [opCount, h2, h3]
   have he : Xr op = false := by simp [Xr, h1, h2, h3]
   rw [hc, he]
   have e1 := ne_b h1
   have e2 := ne_b h2
   have e3 := ne_b h3
   clear h1 h2 h3 hc he
   go_enter Tryd.func90, Tryd.ntmps90
   go_wp2_with fail
   go_ret2
   exact ⟨rfl, Below.refl _ _⟩
 · have h' : op = 11 ∨ op = 12 ∨ op = 13 := by omega
   rcases h' with rfl | rfl | rfl
   · go_enter Tryd.func90, Tryd.ntmps90
     go_wp2_with fail
     go_ret2
     exact ⟨rfl, Below.refl _ _⟩
   · go_enter Tryd.func90, Tryd.ntmps90
     go_wp2_with fail
     go_ret2
     exact ⟨rfl, Below.refl _ _⟩
   · go_enter Tryd.func90, Tryd.ntmps90
     go_wp2_with fail
     go_ret2
     exact ⟨rfl, Below.refl _ _⟩
/-! the number of the first that is not within -/
def findN (P : Int → Bool) : List Int → Int
 | [] => -1
 | x :: r => if P x then 0 else if findN P r = -1 then -1 else findN P r + 1
theorem findN_cons (P : Int → Bool) (x : Int) (r : List Int) : findN P (x :: r) = if P x then 0 else if findN P r = -1 then -1 else findN P r + 1 := rfl
theorem findN_ge1 (P : Int → Bool) (l : List Int) : -1 ≤ findN P l := by
 induction l with
 | nil => simp [findN]
 | cons x r ih => unfold findN; split <;> (try split) <;> omega
theorem findN_some {P : Int → Bool} {l : List Int} {k : Nat} {x : Int} (hx : l[k]? = some x) (hb : P x = true) (ht : (l.take k).any P = false) : findN P l = k := by
 induction l generalizing k with
 | nil => simp at hx
 | cons y r ih =>
   cases k with
   | zero => simp at hx; subst hx; simp [findN, hb]
   | succ k =>
     rw [List.take_succ_cons, List.any_cons, Bool.or_eq_false_iff] at ht
     have := ih (by simpa using hx) ht.2
     unfold findN
     rw [if_neg (by simp [ht.1]), this, if_neg (by omega)]
     push_cast; rfl
theorem findN_none {P : Int → Bool} {l : List Int} (h : l.any P = false) : findN P l = -1 := by
 induction l with
 | nil => rfl
 | cons y r ih =>
   rw [List.any_cons, Bool.or_eq_false_iff] at h
   unfold findN
   rw [if_neg (by simp [h.1]), ih h.2, if_pos rfl]
theorem findN_ge (P : Int → Bool) (l : List Int) : decide (0 ≤ findN P l) = l.any P := by
 induction l with
 | nil => rfl
 | cons y r ih =>
   rw [List.any_cons, ← ih, findN_cons]
   have := findN_ge1 P r
   generalize findN P r = q at *
   cases P y
   · simp only [Bool.false_eq_true, if_false, Bool.false_or]
     by_cases h : q = -1
     · rw [if_pos h, h]
     · rw [if_neg h, decide_eq_true (by omega), decide_eq_true (by omega)]
   · simp
theorem anyN_take {P : Int → Bool} {l : List Int} {k : Nat} {x : Int} (h : l[k]? = some x) : (l.take (k + 1)).any P = ((l.take k).any P || P x) := by
 rw [List.take_add_one, h, List.any_append]; simp
theorem each1_c (x n : Int) (b : Nat) (w : World) (hc : w.cell? ⟨b, 0, none⟩ = some (.int .i64 n)) :
 Calls Tryd.prog 107 #[.int .i64 x, .pointer (some ⟨b, 0, none⟩)] w fun e w' => e = .returned (.bool (!inP x n)) ∧ Below w.heap.size w w' := by
 have hM := Lh (fun V => within_c x n V)
 go_enter Tryd.func107, Tryd.ntmps107
 go_wp2_with (go_at_call 93; refine (hM.out _).mono ?_; rintro e w1 ⟨rfl, hb1⟩)
 go_ret
 exact ⟨rfl, hb1⟩
theorem indexN_c (l : List Int) (n : Int) (bx : Nat) (a : Option Addr) (cap : Nat) (w : World) (hrow : RowAt w Tt a cap l.length (Qc l)) (hc : w.cell? ⟨bx, 0, none⟩ = some (.int .i64 n)) :
 Calls Tryd.prog 115 #[.slice a l.length cap, .func (.func 107) #[] #[.pointer (some ⟨bx, 0, none⟩)]] w fun e w' => e = .returned (.int .i64 (findN (fun x => !inP x n) l)) ∧ Below w.heap.size w w' := by
 obtain ⟨hc1, hc2⟩ := Q2 hrow
 have hM := Lh (fun x V (hb : Below w.heap.size w V) => each1_c x n bx V (Qe hb hc))
 clear hc
 generalize hP : (fun x => !inP x n) = P at *
 go_enter Tryd.func115, Tryd.ntmps115
 go_wp2_with fail
 go_loopw [8] (fun i wr => ∃ k : Nat, k ≤ l.length ∧ i = .int .i64 k ∧ Hid ((l.take k).any P = false) ∧ Hid (Below w.heap.size w wr)) (fun i _ => l.length - (intOf i).toNat)
 case atStart => exact ⟨0, Nat.zero_le _, rfl, Lh rfl, Lh (Below.refl _ _)⟩
 case round =>
  obtain ⟨k, hk, rfl, hall, hb⟩ := hrel
  by_cases hlt : k < l.length
  · obtain ⟨x, hx⟩ : ∃ x, l[k]? = some x := ⟨_, List.getElem?_eq_getElem hlt⟩
    obtain ⟨b, off, ha, _, c0⟩ := Xa (hrow.below (Kps.of_below hb.out)) k x hx
    subst ha
    have hi0' : (0 : Int) ≤ (k : Int) := by omega
    have hi1 : (k : Int) < (l.length : Int) := by omega
    have hMx := Lh (hM.out x wr hb.out)
    have hyes := Lh (anyN_take (P := P) hx)
    have hno := Lh (fun h : P x = true => findN_some hx h hall.out)
    have hPx : Hid ((!inP x n) = P x) := Lh (by rw [← hP])
    clear hx hrow hP
    rw [hPx.out] at hMx
    cases hbx : P x with
    | true =>
      have hn := Lh (hno.out hbx)
      rw [hbx] at hMx
      clear hyes hno hall hbx hPx
      go_wp2_with (go_at_call 107; refine hMx.out.mono ?_; rintro e w1 ⟨rfl, hb1⟩)
      go_ret
      exact ⟨by rw [hn.out]; rfl, hb.out.trans (hb1.mono hb.out.size)⟩
    | false =>
      have hn : Hid ((l.take (k + 1)).any P = false) := Lh (by rw [hyes.out, hall.out, hbx]; rfl)
      rw [hbx] at hMx
      clear hyes hno hall hbx hPx
      go_wp2_with (go_at_call 107; refine hMx.out.mono ?_; rintro e w1 ⟨rfl, hb1⟩)
      go_roundw
      case rel => exact ⟨k + 1, by omega, by go_num, hn, Lh (hb.out.trans (hb1.mono hb.out.size))⟩
      case measure => simp [intOf]; omega
  · have hk2 : k = l.length := by omega
    subst hk2
    rw [List.take_length] at hall
    go_wp2_with fail
    go_ret
    exact ⟨by rw [findN_none hall.out]; rfl, hb.out⟩
theorem containsN_c (l : List Int) (n : Int) (bx : Nat) (a : Option Addr) (cap : Nat) (w : World) (hrow : RowAt w Tt a cap l.length (Qc l)) (hc : w.cell? ⟨bx, 0, none⟩ = some (.int .i64 n)) :
 Calls Tryd.prog 106 #[.slice a l.length cap, .func (.func 107) #[] #[.pointer (some ⟨bx, 0, none⟩)]] w fun e w' => e = .returned (.bool (l.any fun x => !inP x n)) ∧ Below w.heap.size w w' := by
 have hI := Lh (indexN_c l n bx a cap w hrow hc)
 rw [← findN_ge]
 clear hrow hc
 go_enter Tryd.func106, Tryd.ntmps106
 go_wp2_with (go_at_call 115; refine hI.out.mono ?_; rintro e w1 ⟨rfl, hb1⟩)
 go_ret
 exact ⟨by simp, hb1⟩
theorem not_any (l : List Int) (n : Int) : (!l.any fun x => !inP x n) = l.all fun x => inP x n := by
 rw [List.all_eq_not_any_not]
theorem each_c (l : List Int) (n : Int) (a : Option Addr) (cap : Nat) (w : World) (hrow : RowAt w Tt a cap l.length (Qc l)) :
 Calls Tryd.prog 91 #[.slice a l.length cap, .int .i64 n] w fun e w' => e = .returned (.bool (l.all fun x => inP x n)) ∧ Below w.heap.size w w' := by
 have hC := Lh (fun V (hb : Below w.heap.size w V) (hc : V.cell? ⟨w.heap.size, 0, none⟩ = some (.int .i64 n)) => containsN_c l n w.heap.size a cap V (hrow.below (Kps.of_below hb)) hc)
 have hst := Lh (Qh w (.cells #[.int .i64 n] 3))
 have hcl := Lh (Zk w [.int .i64 n] 3 0 _ rfl)
 have hx := Lh (hC.out _ hst.out hcl.out)
 rw [← not_any]
 clear hrow hC hcl
 generalize (l.any fun x => !inP x n) = v at *
 go_enter Tryd.func91, Tryd.ntmps91
 go_wp2_with (go_at_call 106; refine hx.out.mono ?_; rintro e w1 ⟨rfl, hb1⟩)
 go_ret
 exact ⟨rfl, hst.out.trans (hb1.mono hst.out.size)⟩
/-- the last instruction, or one of no operation -/
def Z9 (l : List Ins) : Ins := match l.getLast? with | some i => i | none => { op := 0, r := 0, a := 0, b := 0, n := 0, aa := none, acap := 0, args := [] }
theorem lastI_op (l : List Ins) : (Z9 l).op = Zv l := by unfold Z9 Zv; cases l.getLast? <;> rfl
theorem lastI_at {l : List Ins} {x : Ins} (h : l[l.length - 1]? = some x) : Z9 l = x := by
 unfold Z9
 rw [List.getLast?_eq_getElem?, h]
theorem last_c (l : List Ins) (a : Option Addr) (cap : Nat) (w : World) (hrow : RowAt w Tt a cap l.length (Q8 l)) :
 Calls Tryd.prog 87 #[.slice a l.length cap] w fun e w' => e = .returned (.agg ⟨(Z9 l).vals⟩) ∧ Below w.heap.size w w' := by
 obtain ⟨hc1, hc2⟩ := Q2 hrow
 by_cases hl : l.length = 0
 · have : l = [] := List.eq_nil_of_length_eq_zero hl
   subst this
   go_enter Tryd.func87, Tryd.ntmps87
   go_wp2_with fail
   exact bodyPost_ret (v := .agg ⟨(Z9 []).vals⟩) (results_cell_row Tryd.results87 _ _ (w.heap.size) _ _ _ _ rfl (Qt _ _ rfl) Tryd.underlying44 rfl (by kernel_rfl)) rfl ⟨rfl, Qh _ _⟩
 · obtain ⟨y, hy⟩ : ∃ y, l[l.length - 1]? = some y := ⟨_, List.getElem?_eq_getElem (by omega)⟩
   obtain ⟨b, off, ha, _, c0, c1, c2, c3, c4, c5⟩ := X1 hrow _ y hy
   have hbl : b < w.heap.size := World.block_lt_of_cell? _ _ c0
   have hl1 : (0 : Int) ≤ (l.length : Int) - 1 := by omega
   have hl2 : (l.length : Int) - 1 < (l.length : Int) := by omega
   have hl3 : ((l.length : Int) - 1).toNat = l.length - 1 := by omega
   have hl4 : ((l.length : Int) == 0) = false := ne_b (by omega)
   rw [lastI_at hy]
   subst ha
   clear hy hrow
   go_enter Tryd.func87, Tryd.ntmps87
   go_wp2_with fail
   exact bodyPost_ret (v := .agg ⟨y.vals⟩) (results_cell_row Tryd.results87 _ _ (w.heap.size) _ _ _ _ rfl (Qt _ _ rfl) Tryd.underlying44 rfl (by kernel_rfl)) rfl ⟨rfl, Qh _ _⟩
theorem all_no {α : Type} {f : α → Bool} {l : List α} {k : Nat} {x : α} (h : l[k]? = some x) (hx : f x = false) : l.all f = false := by
 rw [Bool.eq_false_iff]; intro h2
 have := List.all_eq_true.1 h2 x (List.mem_of_getElem? h)
 rw [hx] at this; cases this
theorem Z4 {α : Type} {f : α → Bool} {l : List α} {k : Nat} {x : α} (h : l[k]? = some x) : (l.take (k + 1)).all f = ((l.take k).all f && f x) := by
 rw [List.take_add_one, h, List.all_append]; simp
theorem ins_agg (i : Ins) : Value.agg ⟨i.vals⟩ = .agg #[.int .u8 i.op, .int .i64 i.r, .int .i64 i.a, .int .i64 i.b, .int .i64 i.n, .slice i.aa i.args.length i.acap] := rfl
theorem fl_i0 (V : World) (op r a b n : Int) (v : Value) : (Instr.field 44 (.agg #[.int .u8 op, .int .i64 r, .int .i64 a, .int .i64 b, .int .i64 n, v]) 0).run Tryd.prog V = .ok (.int .u8 op) V := by kernel_rfl
theorem endsB_eq (n : Nat) (b : Bk) : endsB n b = (decide ((b.tt.length : Int) = opCount (Z9 b.code).op) && (b.tt.all (fun x => inP x n) && (b.code.take (b.code.length - 1)).all (fun i => !Xr i.op))) := by
 rw [lastI_op]; rfl
theorem box4 (w : World) (x : Bk) : let W := w.alloc (.cells #[.slice x.pa x.phis.length x.pcap, .slice x.ca x.code.length x.ccap, .slice x.fa x.fm.length x.fcap, .slice x.ta x.tt.length x.tcap] 42)
 W.cell? ⟨w.heap.size, 0, none⟩ = some (.slice x.pa x.phis.length x.pcap) ∧ W.cell? ⟨w.heap.size, 1, none⟩ = some (.slice x.ca x.code.length x.ccap) ∧ W.cell? ⟨w.heap.size, 2, none⟩ = some (.slice x.fa x.fm.length x.fcap) ∧ W.cell? ⟨w.heap.size, 3, none⟩ = some (.slice x.ta x.tt.length x.tcap) := by
 intro W
 have h1 : ∀ j u, x.vals[j]? = some u → W.cell? ⟨w.heap.size, j, none⟩ = some u := fun j u hu => Zk w x.vals 42 j u hu
 exact ⟨h1 0 _ rfl, h1 1 _ rfl, h1 2 _ rfl, h1 3 _ rfl⟩
theorem mayEnds_c (l : List Bk) (a : Option Addr) (cap : Nat) (w : World) (hrow : RowAt w Tt a cap l.length (Qu l)) (hin : ∀ b ∈ l, Bk.In w b) :
 Calls Tryd.prog 61 #[.slice a l.length cap] w fun e w' => e = .returned (.bool (l.all (endsB l.length))) ∧ Below w.heap.size w w' := by
 obtain ⟨hc1, hc2⟩ := Q2 hrow
 have hL := Lh (fun (b : Bk) V (hb : b ∈ l) (hv : Below w.heap.size w V) => last_c b.code b.ca b.ccap V (((hin b hb).keep hv).crow))
 have hX := Lh (fun op V => exits_c op V)
 have hE := Lh (fun (b : Bk) V (hb : b ∈ l) (hv : Below w.heap.size w V) => each_c b.tt l.length b.ta b.tcap V (((hin b hb).keep hv).trow))
 have hR := Lh (fun V (hv : Below w.heap.size w V) => hrow.below (Kps.of_below hv))
 have hC := Lh (fun (b : Bk) V (hb : b ∈ l) (hv : Below w.heap.size w V) => ((hin b hb).keep hv).crow)
 have hQ := Lh (endsB_eq l.length)
 clear hrow hin
 go_enter Tryd.func61, Tryd.ntmps61
 go_wp2_with fail
 go_loopw [12] (fun i wr => ∃ k : Nat, k ≤ l.length ∧ i = .int .i64 k ∧ Hid ((l.take k).all (endsB l.length) = true) ∧ Hid (Below w.heap.size w wr)) (fun i _ => l.length - (intOf i).toNat)
 case atStart => exact ⟨0, Nat.zero_le _, rfl, Lh rfl, Lh (Below.refl _ _)⟩
 case round =>
  obtain ⟨k, hk, rfl, hall, hb⟩ := hrel
  by_cases hlt : k < l.length
  · obtain ⟨x, hx⟩ : ∃ x, l[k]? = some x := ⟨_, List.getElem?_eq_getElem hlt⟩
    obtain ⟨b, off, ha, _, c0, c1, c2, c3⟩ := X4 (hR.out wr hb.out) k x hx
    have hbl : b < wr.heap.size := World.block_lt_of_cell? _ _ c0
    have hi0' : (0 : Int) ≤ (k : Int) := by omega
    have hi1 : (k : Int) < (l.length : Int) := by omega
    have hm := List.mem_of_getElem? hx
    have hno := Lh (fun h => all_no (f := endsB l.length) hx h)
    have hyes := Lh (Z4 (f := endsB l.length) hx)
    have hQx := Lh (hQ.out x)
    have hbe := Lh (Qh wr (.cells #[.slice x.pa x.phis.length x.pcap, .slice x.ca x.code.length x.ccap, .slice x.fa x.fm.length x.fcap, .slice x.ta x.tt.length x.tcap] 42))
    have hbx := Lh (hb.out.trans (hbe.out.mono hb.out.size))
    have hq := Lh (box4 wr x)
    have hL1 := Lh (hL.out x _ hm hbx.out)
    have hE1 := Lh (fun V (hv : Below w.heap.size w V) => hE.out x V hm hv)
    have hC1 := Lh (fun V (hv : Below w.heap.size w V) => hC.out x V hm hv)
    obtain ⟨cl1, cl2⟩ := Q2 (hC.out x wr hm hb.out)
    clear hQ hL hE hC hm hx
    subst ha
    go_wp2_with fail
    refine hL1.out.mono ?_
    rintro e w1 ⟨rfl, hb1⟩
    obtain ⟨q0, q1, q2, q3⟩ := hq.out
    have r1 := Qe hb1 q1
    have r3 := Qe hb1 q3
    have g1 := Lh (hbx.out.trans (hb1.mono hbx.out.size))
    rw [ins_agg]
    have hf0 := fun V => fl_i0 V (Z9 x.code).op (Z9 x.code).r (Z9 x.code).a (Z9 x.code).b (Z9 x.code).n (.slice (Z9 x.code).aa (Z9 x.code).args.length (Z9 x.code).acap)
    generalize hcnt : opCount (Z9 x.code).op = cnt at hQx
    replace hcnt := Lh hcnt
    clear hq hL1 hb1 q0 q1 q2 q3 c0 c1 c2 c3 hbe
    go_wp2_with fail
    refine (hX.out _ _).mono ?_
    rintro e w2 ⟨rfl, hb2⟩
    rw [hcnt.out]
    have s1 := Qe hb2 r1
    have s3 := Qe hb2 r3
    have g2 := Lh (g1.out.trans (hb2.mono g1.out.size))
    clear hb2 r1 r3 hcnt
    by_cases h1 : (x.tt.length : Int) = cnt
    · have e1 : ((x.tt.length : Int) != cnt) = false := by simp [h1]
      replace h1 := Lh h1
      cases hv : x.tt.all (fun y => inP y l.length)
      · have hE2 := hE1.out w2 g2.out
        rw [hv] at hE2
        replace hE2 := Lh hE2
        have hn := Lh (hno.out (by rw [hQx.out, hv, h1.out]; simp))
        clear hv hE1 hyes hno hall hQx hC1
        go_wp2_with fail
        refine hE2.out.mono ?_
        rintro e w3 ⟨rfl, hb3⟩
        have g3 := Lh (g2.out.trans (hb3.mono g2.out.size))
        clear hb3 s1 s3
        go_wp2_with fail
        go_ret
        exact ⟨Qi hn.out.symm, g3.out⟩
      · have hE2 := hE1.out w2 g2.out
        rw [hv] at hE2
        replace hE2 := Lh hE2
        have hQy : Hid (endsB l.length x = (x.code.take (x.code.length - 1)).all (fun i => !Xr i.op)) := Lh (by rw [hQx.out, hv, h1.out]; simp)
        clear hv hE1 hQx
        go_wp2_with fail
        refine hE2.out.mono ?_
        rintro e w3 ⟨rfl, hb3⟩
        have g3 := Lh (g2.out.trans (hb3.mono g2.out.size))
        have t1 := Qe hb3 s1
        clear hb3 s1 s3
        go_wp2_with fail
        go_loopw [41] (fun i wq => ∃ j : Nat, j ≤ x.code.length ∧ i = .int .i64 j ∧ Hid ((x.code.take j).all (fun i => !Xr i.op) = true) ∧ Hid (Below w3.heap.size w3 wq) ∧ Hid (j = 0 ∨ (j : Int) ≤ (x.code.length : Int) - 1)) (fun i _ => x.code.length - (intOf i).toNat)
        case atStart => exact ⟨0, Nat.zero_le _, rfl, Lh rfl, Lh (Below.refl _ _), Lh (.inl rfl)⟩
        case round =>
         obtain ⟨j, hj, rfl, hallj, hbq, hjl⟩ := hrel
         have u1 := Qe hbq.out t1
         have g4 := Lh (g3.out.trans (hbq.out.mono g3.out.size))
         by_cases hjt : (j : Int) < (x.code.length : Int) - 1
         · have hjn : j < x.code.length := by omega
           obtain ⟨y, hy⟩ : ∃ y, x.code[j]? = some y := ⟨_, List.getElem?_eq_getElem hjn⟩
           obtain ⟨b', off', ha', _, d0, d1, d2, d3, d4, d5⟩ := X1 (hC1.out _ g4.out) j y hy
           have hj0' : (0 : Int) ≤ (j : Int) := by omega
           have hj1 : (j : Int) < (x.code.length : Int) := by omega
           rw [ha'] at u1
           have hnoj := Lh (fun (h : (!Xr y.op) = false) => all_no (l := x.code.take (x.code.length - 1)) (k := j) (f := fun i : Ins => !Xr i.op) (by rw [List.getElem?_take, if_pos (by omega)]; exact hy) h)
           have hyesj := Lh (Z4 (f := fun i : Ins => !Xr i.op) hy)
           clear hy hjl d1 d2 d3 d4 d5 ha'
           go_wp2_with fail
           refine (hX.out _ _).mono ?_
           rintro e w4 ⟨rfl, hb4⟩
           have g5 := Lh (g4.out.trans (hb4.mono g4.out.size))
           have hbq2 := Lh (hbq.out.trans (hb4.mono hbq.out.size))
           clear hb4
           cases hz : Xr y.op
           · have hn : Hid ((x.code.take (j + 1)).all (fun i => !Xr i.op) = true) := Lh (by rw [hyesj.out, hallj.out, hz]; rfl)
             clear hz hnoj hyesj hallj
             go_wp2_with fail
             go_roundw
             case rel => exact ⟨j + 1, by omega, by go_num, hn, hbq2, Lh (.inr (by push_cast; omega))⟩
             case measure => simp [intOf]; omega
           · have hn := Lh (hno.out (by rw [hQy.out, hnoj.out (by rw [hz]; rfl)]))
             clear hz hnoj hyesj hallj
             go_wp2_with fail
             go_ret
             exact ⟨Qi hn.out.symm, g5.out⟩
         · have hjj : j = x.code.length - 1 := by rcases hjl.out with h | h <;> omega
           have hn : Hid ((l.take (k + 1)).all (endsB l.length) = true) := Lh (by rw [hyes.out, hall.out, hQy.out, ← hjj, hallj.out]; rfl)
           clear hallj hall hyes hno hjj hjl
           go_wp2_with fail
           go_roundw
           case rel => exact ⟨k + 1, by omega, by go_num, hn, g4⟩
           case measure => simp [intOf]; omega
    · have e1 := ne_n h1
      have hn := Lh (hno.out (by rw [hQx.out, decide_eq_false h1]; rfl))
      clear h1 hE1 hQx hyes hno hall hC1
      go_wp2_with fail
      go_ret
      exact ⟨Qi hn.out.symm, g2.out⟩
  · have hk2 : k = l.length := by omega
    subst hk2
    rw [List.take_length] at hall
    go_wp2_with fail
    go_ret
    exact ⟨Qi hall.out.symm, hb.out⟩
end Go.Proofs.YthiiahlgncngoaaDoorRR.Fw
namespace Go.Proofs.YthiiahlgncngoaaDoorRR.Fw
open Go Go.RowKit
theorem info_in : (Tryd.prog.info? 3).map (fun i => (i.zero, i.size, i.bytes)) = some (some (.int .i64 0), 1, 8) := by kernel_rfl
theorem info_li : (Tryd.prog.info? 40).map (fun i => (i.zero, i.size, i.bytes)) = some (some (.slice none 0 0), 1, 24) := by kernel_rfl
theorem made_one (v : Value) (hv : v.cells = #[v]) (n : Nat) : madeCells v.cells n = (List.replicate n v).toArray := by
 rw [hv]
 unfold madeCells
 apply Array.ext
 · simp
 · intro i h1 h2
   simp [Nat.mod_one]
theorem make_in (n : Nat) (hn : n ≤ 1000000) (V : World) : (Instr.makeSlice 40 (.int .i64 (n : Int)) (.int .i64 (n : Int))).run Tryd.prog V = .ok (.slice (some ⟨V.heap.size, 0, none⟩) n n) (V.alloc (.cells (Array.replicate n (Value.int .i64 0)) 3)) := by
 obtain ⟨i0, hi0, hz0, hz1, hz2⟩ := info_parts info_in
 have h := run_makeSlice (P := Tryd.prog) V 40 3 i0 _ Tryd.underlying40 hi0 hz0 .i64 .i64 (n : Int) (n : Int) (by omega) (Int.le_refl _) (by rw [hz1]; omega) (by rw [hz2]; omega) (by omega)
 rw [hz1, Int.toNat_natCast, Nat.mul_one, made_one _ rfl, List.toArray_replicate] at h
 exact h
theorem make_ll (n : Nat) (hn : n ≤ 1000000000) (V : World) : (Instr.makeSlice 86 (.int .i64 (n : Int)) (.int .i64 (n : Int))).run Tryd.prog V = .ok (.slice (some ⟨V.heap.size, 0, none⟩) n n) (V.alloc (.cells (Array.replicate n (Value.slice none 0 0)) 40)) := by
 obtain ⟨i0, hi0, hz0, hz1, hz2⟩ := info_parts info_li
 have h := run_make (P := Tryd.prog) V 86 40 i0 _ Tryd.underlying86 hi0 hz0 .i64 .i64 (n : Int) (n : Int) (by omega) (Int.le_refl _) (by rw [hz2]; omega) (by omega)
 rw [hz1, Int.toNat_natCast, Nat.mul_one, made_one _ rfl, List.toArray_replicate] at h
 exact h
end Go.Proofs.YthiiahlgncngoaaDoorRR.Fw
namespace Go.Proofs.YthiiahlgncngoaaDoorRR.Fw
open Go Go.RowKit
open Go.Proofs.YthiiahlgncngoaaDoorRR.Lx Go.Proofs.YthiiahlgncngoaaDoorRR.Tr Go.Proofs.YthiiahlgncngoaaDoorRR.Cd
/-- lists of numbers, each in a row of its own, in a block -/
structure Src (B g n : Nat) (f : Nat → List Int) (W : World) : Prop where
 hg : B ≤ g
 ex : ∃ vs : List Value, vs.length = n ∧ W.heap[g]? = some (.cells ⟨vs⟩ 40 (0, 0)) ∧
  (∀ (k : Nat) (v : Value), vs[k]? = some v → W.ownsRow B 3 1 v (f k).length (Qc (f k))) ∧
  (∀ (i j : Nat) (v u : Value), i ≠ j → vs[i]? = some v → vs[j]? = some u → v.ownBlock ≠ none → v.ownBlock ≠ u.ownBlock)
theorem row_none (W : World) (S : Nat → Prop) : RowAt W S none 0 0 [] := ⟨Nat.le_refl _, by unfold maxLen; omega, fun _ => rfl, fun j u hj => by simp at hj⟩
theorem Src.start (W : World) (B n : Nat) (h : B ≤ W.heap.size) : Src B W.heap.size n (fun _ => []) (W.alloc (.cells (Array.replicate n (.slice none 0 0)) 40)) := by
 refine ⟨h, List.replicate n (.slice none 0 0), by simp, ?_, ?_, ?_⟩
 · rw [Qt W _ rfl]; simp
 · intro k v hv
   rw [List.getElem?_replicate] at hv
   split at hv
   · cases hv; exact World.ownsRow_nil _ _ _ _
   · cases hv
 · intro i j v u _ hv _ hne
   rw [List.getElem?_replicate] at hv
   split at hv
   · cases hv; exact absurd rfl hne
   · cases hv
theorem Src.keep {B g n : Nat} {f : Nat → List Int} {W W' : World} (h : Src B g n f W) (hb : Below W.heap.size W W') : Src B g n f W' := by
 obtain ⟨hg, vs, h1, h2, h3, h4⟩ := h
 exact ⟨hg, vs, h1, (hb.block g (Array.getElem?_eq_some_iff.1 h2).1).trans h2, fun k v hv => Qn (h3 k v hv) hb, h4⟩
theorem Src.cong {B g n : Nat} {f f' : Nat → List Int} {W : World} (h : Src B g n f W) (e : ∀ k, k < n → f k = f' k) : Src B g n f' W := by
 obtain ⟨hg, vs, h1, h2, h3, h4⟩ := h
 refine ⟨hg, vs, h1, h2, fun k v hv => ?_, h4⟩
 rw [← e k (by rw [← h1]; exact (List.getElem?_eq_some_iff.1 hv).1)]
 exact h3 k v hv
theorem row_own1 {W : World} {B : Nat} {v : Value} {l : List Int} (h : W.ownsRow B 3 1 v l.length (Qc l)) : ∃ a cap, v = .slice a l.length cap ∧ RowAt W Tt a cap l.length (Qc l) := by
 rcases h.2 with ⟨rfl, h0⟩ | ⟨g, cap, cur, rfl, _, hg, h1, h2, _, ht⟩
 · have hl : l = [] := List.eq_nil_of_length_eq_zero h0
   subst hl
   exact ⟨none, 0, rfl, row_none _ _⟩
 · refine ⟨some ⟨g, 0, none⟩, cap, rfl, h1, h2, fun e => (by cases e), fun j u hu => ⟨g, 0, rfl, trivial, ?_⟩⟩
   rw [Nat.zero_add]
   have hjl : j < (Qc l).length := (List.getElem?_eq_some_iff.1 hu).1
   rw [show (Qc l).length = l.length from by simp [Qc]] at hjl
   rw [← ht, List.getElem?_take, if_pos (by omega)] at hu
   simp only [World.cell?, hg]
   simpa using hu
theorem Src.get {B g n : Nat} {f : Nat → List Int} {W : World} (h : Src B g n f W) {k : Nat} (hk : k < n) : ∃ a cap, W.cell? ⟨g, k, none⟩ = some (.slice a (f k).length cap) ∧ W.frozen? ⟨g, k, none⟩ = false ∧ W.ownsRow B 3 1 (.slice a (f k).length cap) (f k).length (Qc (f k)) ∧ RowAt W Tt a cap (f k).length (Qc (f k)) := by
 obtain ⟨hg, vs, h1, h2, h3, h4⟩ := h
 obtain ⟨v, hv⟩ : ∃ v, vs[k]? = some v := ⟨_, List.getElem?_eq_getElem (by omega)⟩
 have ho := h3 k v hv
 obtain ⟨a, cap, rfl, hr⟩ := row_own1 ho
 exact ⟨a, cap, Qk h2 (by simpa using hv), Qd h2 _, ho, hr⟩
theorem own_ne {B g : Nat} {vs : Array Value} {v : Value} {m : Nat} {xs : List Value} {W : World} (hg : W.heap[g]? = some (.cells vs 40 (0, 0))) (h : W.ownsRow B 3 1 v m xs) : v.ownBlock ≠ some g := by
 intro e
 rcases h.2 with ⟨rfl, _⟩ | ⟨q, cap, cur, rfl, _, hq, _⟩
 · cases e
 · have : q = g := by simpa [Value.ownBlock] using e
   subst this
   rw [hg] at hq
   have := Option.some.inj hq
   simp at this
theorem Src.at3 {B g n : Nat} {f : Nat → List Int} {W w3 : World} {o : Obj} {v : Value} (h : Src B g n f W) {k : Nat} (hk : k < n) (hc : W.cell? ⟨g, k, none⟩ = some v) (hgr : (W.alloc o).grownBy w3 v.ownBlock) :
 w3.cell? ⟨g, k, none⟩ = some v ∧ w3.frozen? ⟨g, k, none⟩ = false ∧ g < w3.heap.size := by
 obtain ⟨hg, vs, h1, h2, h3, h4⟩ := h
 have hgl := (Array.getElem?_eq_some_iff.1 h2).1
 have hv : vs[k]? = some v := by
  obtain ⟨u, hu⟩ : ∃ v, vs[k]? = some v := ⟨_, List.getElem?_eq_getElem (by omega)⟩
  have := Qk h2 (j := k) (u := u) (by simpa using hu)
  rw [hc] at this; cases this; exact hu
 have hb3 : w3.heap[g]? = some (.cells ⟨vs⟩ 40 (0, 0)) :=
  (hgr.block g (by simp; omega) (fun e => own_ne h2 (h3 k v hv) e.symm)).trans ((Below.heap_alloc _ _ _ hgl).trans h2)
 exact ⟨Qk hb3 (by simpa using hv), Qd hb3 _, (Array.getElem?_eq_some_iff.1 hb3).1⟩
theorem Src.step {B g n : Nat} {f : Nat → List Int} {W w3 : World} {o : Obj} {v v' : Value} {x : Int} (h : Src B g n f W) {k : Nat} (hk : k < n) (hc : W.cell? ⟨g, k, none⟩ = some v) (hgr : (W.alloc o).grownBy w3 v.ownBlock)
 (ho : w3.ownsRow B 3 1 v' ((f k).length + 1) (Qc (f k) ++ [.int .i64 x])) (hloc : v'.ownBlock = v.ownBlock ∨ v'.ownBlock = some (W.alloc o).heap.size) :
 Src B g n (fun i => if i = k then f k ++ [x] else f i) (w3.setCell ⟨g, k, none⟩ v') := by
 obtain ⟨hg, vs, h1, h2, h3, h4⟩ := h
 have hgl := (Array.getElem?_eq_some_iff.1 h2).1
 have hv : vs[k]? = some v := by
  obtain ⟨u, hu⟩ : ∃ v, vs[k]? = some v := ⟨_, List.getElem?_eq_getElem (by omega)⟩
  have := Qk h2 (j := k) (u := u) (by simpa using hu)
  rw [hc] at this; cases this; exact hu
 have hb3 : w3.heap[g]? = some (.cells ⟨vs⟩ 40 (0, 0)) :=
  (hgr.block g (by simp; omega) (fun e => own_ne h2 (h3 k v hv) e.symm)).trans ((Below.heap_alloc _ _ _ hgl).trans h2)
 have hnew : ∀ (i : Nat) (y : Value), (vs.set k v')[i]? = some y → (i = k ∧ y = v') ∨ (i ≠ k ∧ vs[i]? = some y) := by
  intro i y hy
  by_cases hik : i = k
  · subst hik
    rw [List.getElem?_set_self (by omega)] at hy
    cases hy; exact .inl ⟨rfl, rfl⟩
  · rw [List.getElem?_set_ne (by omega)] at hy
    exact .inr ⟨hik, hy⟩
 refine ⟨hg, vs.set k v', by simp [h1], ?_, ?_, ?_⟩
 · have := Qy hb3 k v'
   rw [this]; simp
 · intro i y hy
   rcases hnew i y hy with ⟨rfl, rfl⟩ | ⟨hik, hvi⟩
   · simp only [if_true]
     have hx : Qc (f i ++ [x]) = Qc (f i) ++ [.int .i64 x] := by unfold Qc; rw [List.map_append]; rfl
     rw [hx, List.length_append]
     exact ownsRow_setCell_other ho (own_ne hb3 ho) _
   · simp only [if_neg hik]
     have hr := h3 i y hvi
     have hr3 : w3.ownsRow B 3 1 y (f i).length (Qc (f i)) := by
      refine World.ownsRow.kept (Qn hr (Qh W o)) hgr ?_
      by_cases hn : y.ownBlock = none
      · exact .inl hn
      · exact .inr (h4 i k y v hik hvi hv hn)
     exact ownsRow_setCell_other hr3 (own_ne hb3 hr3) _
 · intro i j y u hij hy hu hne
   have hlt : ∀ (i : Nat) (y : Value), vs[i]? = some y → y.ownBlock ≠ some (W.alloc o).heap.size := by
    intro i y hy e
    have := (h3 i y hy).lt _ e
    simp at this
    omega
   rcases hnew i y hy with ⟨rfl, rfl⟩ | ⟨hik, hvi⟩
   · rcases hnew j u hu with ⟨rfl, _⟩ | ⟨hjk, hvj⟩
     · exact absurd rfl hij
     · rcases hloc with e | e
       · rw [e] at hne ⊢
         exact h4 i j v u hij hv hvj hne
       · rw [e]
         exact fun e' => hlt j u hvj e'.symm
   · rcases hnew j u hu with ⟨rfl, rfl⟩ | ⟨hjk, hvj⟩
     · rcases hloc with e | e
       · rw [e]
         exact h4 i j y v hij hvi hv hne
       · rw [e]
         exact hlt i y hvi
     · exact h4 i j y u hij hvi hvj hne
/-! the plain side -/
theorem fromsF_app (l r : List Bk) (k : Nat) (n : Int) : Zo k (l ++ r) n = Zo k l n ++ Zo (k + l.length) r n := by
 induction l generalizing k with
 | nil => simp [Zo]
 | cons f l ih =>
   rw [List.cons_append, Zo, Zo, ih (k + 1), List.append_assoc, List.length_cons, show k + 1 + l.length = k + (l.length + 1) by omega]
theorem fromsF_take {l : List Bk} {k : Nat} {x : Bk} (h : l[k]? = some x) (n : Int) : Zo 0 (l.take (k + 1)) n = Zo 0 (l.take k) n ++ if x.tt.contains n then [(k : Int)] else [] := by
 have hk : k < l.length := (List.getElem?_eq_some_iff.1 h).1
 rw [List.take_add_one, h, fromsF_app]
 have : (l.take k).length = k := by rw [List.length_take]; omega
 rw [this]
 simp [Zo]
theorem fromsF_lt (l : List Bk) (k : Nat) (n : Int) : ∀ y ∈ Zo k l n, (k : Int) ≤ y ∧ y < (k + l.length : Nat) := by
 induction l generalizing k with
 | nil => intro y hy; simp [Zo] at hy
 | cons f l ih =>
   intro y hy
   rw [Zo, List.mem_append] at hy
   rcases hy with hy | hy
   · split at hy
     · have := List.mem_singleton.1 hy
       subst this
       constructor
       · omega
       · simp; omega
     · simp at hy
   · have := ih (k + 1) y hy
     rw [List.length_cons]
     omega
theorem fromsF_len (l : List Bk) (k : Nat) (n : Int) : (Zo k l n).length ≤ l.length := by
 induction l generalizing k with
 | nil => simp [Zo]
 | cons f l ih =>
   rw [Zo, List.length_append, List.length_cons]
   have := ih (k + 1)
   split <;> simp <;> omega
/-- what is known when so many blocks, and so many of the next one's ways, are gone through -/
def curP (l : List Bk) (x : Bk) (k j : Nat) (n : Nat) : List Int := Zo 0 (l.take k) n ++ if (x.tt.take j).contains (n : Int) then [(k : Int)] else []
theorem cur_zero (l : List Bk) (x : Bk) (k n : Nat) : Zo 0 (l.take k) n = curP l x k 0 n := by unfold curP; simp
theorem cur_end {l : List Bk} {x : Bk} {k : Nat} (h : l[k]? = some x) (n : Nat) : curP l x k x.tt.length n = Zo 0 (l.take (k + 1)) n := by
 unfold curP; rw [List.take_length, fromsF_take h]
theorem take_has {l : List Int} {j : Nat} {y : Int} (h : l[j]? = some y) (n : Int) : (l.take (j + 1)).contains n = ((l.take j).contains n || decide (n = y)) := by
 rw [List.take_add_one, h, Bool.eq_iff_iff]; simp
theorem cur_has {l : List Bk} {x : Bk} {k j m : Nat} (h : x.tt[j]? = some (m : Int)) (hc : (x.tt.take j).contains (m : Int) = true) (n : Nat) : curP l x k j n = curP l x k (j + 1) n := by
 unfold curP
 rw [take_has h]
 by_cases e : (n : Int) = m
 · have : n = m := by omega
   subst this
   rw [hc]; rfl
 · rw [decide_eq_false e, Bool.or_false]
theorem cur_new {l : List Bk} {x : Bk} {k j m : Nat} (h : x.tt[j]? = some (m : Int)) (hc : (x.tt.take j).contains (m : Int) = false) (n : Nat) : (if n = m then curP l x k j m ++ [(k : Int)] else curP l x k j n) = curP l x k (j + 1) n := by
 unfold curP
 rw [take_has h]
 by_cases e : n = m
 · subst e
   rw [hc]; simp
 · rw [if_neg e, decide_eq_false (by omega), Bool.or_false]
theorem cur_len (l : List Bk) (x : Bk) (k j n : Nat) : (curP l x k j n).length ≤ l.length + 1 := by
 unfold curP
 rw [List.length_append]
 have := fromsF_len (l.take k) 0 n
 rw [List.length_take] at this
 split <;> simp <;> omega
/-- the last number of a list that has some -/
theorem last_has {l : List Bk} {x : Bk} {k j n : Nat} (hc : (x.tt.take j).contains (n : Int) = true) : ∃ m, (curP l x k j n).length = m + 1 ∧ (curP l x k j n)[m]? = some (k : Int) := by
 refine ⟨(Zo 0 (l.take k) n).length, ?_, ?_⟩
 · unfold curP; rw [hc]; simp
 · unfold curP; rw [hc]; simp
theorem last_new {l : List Bk} {x : Bk} {k j n : Nat} (hk : k ≤ l.length) (hc : (x.tt.take j).contains (n : Int) = false) : (curP l x k j n).length = 0 ∨ ∃ m y, (curP l x k j n).length = m + 1 ∧ (curP l x k j n)[m]? = some y ∧ y ≠ (k : Int) := by
 have he : curP l x k j n = Zo 0 (l.take k) n := by unfold curP; rw [hc]; simp
 rw [he]
 cases hl : (Zo 0 (l.take k) n).length with
 | zero => exact .inl rfl
 | succ m =>
   obtain ⟨y, hy⟩ : ∃ y, (Zo 0 (l.take k) n)[m]? = some y := ⟨_, List.getElem?_eq_getElem (by omega)⟩
   refine .inr ⟨m, y, rfl, hy, ?_⟩
   have := fromsF_lt (l.take k) 0 n y (List.mem_of_getElem? hy)
   rw [List.length_take] at this
   omega
theorem src_append {w W w3 : World} {n m : Nat} {f f' : Nat → List Int} {a : Option Addr} {cap : Nat} {x : Int} {o : Obj} {v' : Value} (h : Src w.heap.size w.heap.size n f W) (hm : m < n) (hc : W.cell? ⟨w.heap.size, m, none⟩ = some (.slice a (f m).length cap))
 (ho : W.ownsRow w.heap.size 3 1 (.slice a (f m).length cap) (f m).length (Qc (f m))) (hb : Below w.heap.size w W) (hf : ∀ i, (if i = m then f m ++ [x] else f i) = f' i)
 (hgr : (W.alloc o).grownBy w3 (Value.slice a (f m).length cap).ownBlock) (h3 : w3.ownsRow w.heap.size 3 1 v' ((f m).length + 1) (Qc (f m) ++ [.int .i64 x]))
 (hloc : v'.ownBlock = (Value.slice a (f m).length cap).ownBlock ∨ v'.ownBlock = some (W.heap.size + 1)) :
 (∃ va vcap, v' = .slice va ((f m).length + 1) vcap) ∧ Src w.heap.size w.heap.size n f' (w3.setCell ⟨w.heap.size, m, none⟩ v') ∧ (w3.cell? ⟨w.heap.size, m, none⟩ = some (.slice a (f m).length cap) ∧ w3.frozen? ⟨w.heap.size, m, none⟩ = false ∧ w.heap.size < w3.heap.size) ∧ Below w.heap.size w (w3.setCell ⟨w.heap.size, m, none⟩ v') := by
 refine ⟨?_, (h.step hm hc hgr h3 (by simpa using hloc)).cong (fun k _ => hf k), h.at3 hm hc hgr, ?_⟩
 · rcases h3.2 with ⟨_, h0⟩ | ⟨g, cap, cur, rfl, _⟩
   · omega
   · exact ⟨_, _, rfl⟩
 · exact ((hb.alloc hb.size o).grown hgr (by have := hb.size; simp; omega) (fun q e => (ho.lt q e).1)).setCell (p := ⟨w.heap.size, m, none⟩) (Nat.le_refl _) _
theorem sources_c (l : List Bk) (a : Option Addr) (cap : Nat) (w : World) (hrow : RowAt w Tt a cap l.length (Qu l)) (hin : ∀ b ∈ l, Bk.In w b) (hto : ∀ b ∈ l, ∀ t ∈ b.tt, 0 ≤ t ∧ t < l.length) (hn : l.length ≤ 32768) :
 Calls Tryd.prog 54 #[.slice a l.length cap] w fun e w' => ∃ g, e = .returned (.slice (some ⟨g, 0, none⟩) l.length l.length) ∧ Src w.heap.size g l.length (fun k => Zt l k) w' ∧ Below w.heap.size w w' := by
 obtain ⟨hc1, hc2⟩ := Q2 hrow
 obtain ⟨i0, hi0, hz0, hz1, hz2⟩ := Xn
 have hR := Lh (fun V (hv : Below w.heap.size w V) => hrow.below (Kps.of_below hv))
 have hT := Lh (fun (b : Bk) V (hb : b ∈ l) (hv : Below w.heap.size w V) => ((hin b hb).keep hv).trow)
 have hto' := Lh hto
 have hS0 := Lh (Src.start w w.heap.size l.length (Nat.le_refl _))
 have hmk := make_ll l.length (by omega) w
 have hB0 := Lh (Qh w (.cells (Array.replicate l.length (.slice none 0 0)) 40))
 clear hrow hin hto
 go_enter Tryd.func54, Tryd.ntmps54
 go_wp2_with fail
 go_loopw [14] (fun i wr => ∃ k : Nat, k ≤ l.length ∧ i = .int .i64 k ∧ Hid (Src w.heap.size w.heap.size l.length (fun n => Zo 0 (l.take k) n) wr) ∧ Hid (Below w.heap.size w wr)) (fun i _ => l.length - (intOf i).toNat)
 case atStart => exact ⟨0, Nat.zero_le _, rfl, Lh (hS0.out.cong (fun k _ => by simp [Zo])), hB0⟩
 case round =>
  obtain ⟨k, hk, rfl, hS, hb⟩ := hrel
  by_cases hlt : k < l.length
  · obtain ⟨x, hx⟩ : ∃ x, l[k]? = some x := ⟨_, List.getElem?_eq_getElem hlt⟩
    obtain ⟨b, off, ha, _, c0, c1, c2, c3⟩ := X4 (hR.out wr hb.out) k x hx
    have hbl : b < wr.heap.size := World.block_lt_of_cell? _ _ c0
    have hi0' : (0 : Int) ≤ (k : Int) := by omega
    have hi1 : (k : Int) < (l.length : Int) := by omega
    have hm := List.mem_of_getElem? hx
    have hend := Lh (fun n => cur_end hx n)
    have hbe := Lh (Qh wr (.cells #[.slice x.pa x.phis.length x.pcap, .slice x.ca x.code.length x.ccap, .slice x.fa x.fm.length x.fcap, .slice x.ta x.tt.length x.tcap] 42))
    have hbx := Lh (hb.out.trans (hbe.out.mono hb.out.size))
    have hS1 := Lh ((hS.out.keep hbe.out).cong (f' := curP l x k 0) (fun n _ => cur_zero l x k n))
    have hT1 := Lh (fun V (hv : Below w.heap.size w V) => hT.out x V hm hv)
    have hto1 := Lh (hto'.out x hm)
    obtain ⟨cl1, cl2⟩ := Q2 (hT.out x wr hm hb.out)
    clear hT hm hx hS hto' hbe
    subst ha
    go_wp2_with fail
    go_loopw [22] (fun i wq => ∃ j : Nat, j ≤ x.tt.length ∧ i = .int .i64 j ∧ Hid (Src w.heap.size w.heap.size l.length (curP l x k j) wq) ∧ Hid (Below w.heap.size w wq)) (fun i _ => x.tt.length - (intOf i).toNat)
    case atStart => exact ⟨0, Nat.zero_le _, rfl, hS1, hbx⟩
    case round =>
     obtain ⟨j, hj, rfl, hS2, hbq⟩ := hrel
     by_cases hjt : j < x.tt.length
     · obtain ⟨y, hy⟩ : ∃ y, x.tt[j]? = some y := ⟨_, List.getElem?_eq_getElem hjt⟩
       obtain ⟨b', off', ha', _, d0⟩ := Xa (hT1.out _ hbq.out) j y hy
       have hyr := hto1.out y (List.mem_of_getElem? hy)
       obtain ⟨m, rfl⟩ : ∃ m : Nat, y = m := ⟨y.toNat, by omega⟩
       have hm0 : (0 : Int) ≤ (m : Int) := by omega
       have hm1 : (m : Int) < (l.length : Int) := by omega
       have hml : m < l.length := by omega
       have hj0' : (0 : Int) ≤ (j : Int) := by omega
       have hj1 : (j : Int) < (x.tt.length : Int) := by omega
       obtain ⟨fa, fcap, e0, ef, ho, hro⟩ := hS2.out.get hml
       obtain ⟨fl1, fl2⟩ := Q2 hro
       have hfl := cur_len l x k j m
       have hl63 : (curP l x k j m).length ≤ 9223372036854775807 := by omega
       rw [ha']
       by_cases hc : (x.tt.take j).contains (m : Int) = true
       · obtain ⟨q, hq1, hq2⟩ := last_has (l := l) (k := k) hc
         obtain ⟨b2, off2, ha2, _, f0⟩ := Xa hro q _ hq2
         have hS3 := Lh (hS2.out.cong (fun n _ => cur_has hy hc n))
         subst ha2
         rw [hq1] at e0
         clear hy hc hro ho hS2 ha' hyr hq2
         have hq3 : ((((q + 1 : Nat) : Int) - 1)).toNat = q := by omega
         have hq4 : (0 : Int) ≤ ((q + 1 : Nat) : Int) - 1 := by omega
         have hq5 : ((q + 1 : Nat) : Int) - 1 < ((q + 1 : Nat) : Int) := by omega
         have hq6 : (((q + 1 : Nat) : Int) == 0) = false := by simp; omega
         rw [hq1] at fl1 hl63
         clear hq1 hfl
         generalize hQ : ((q + 1 : Nat) : Int) = Q at *
         clear hQ
         go_wp2_with fail
         go_roundw
         case rel => exact ⟨j + 1, by omega, by go_num, hS3, hbq⟩
         case measure => simp [intOf]; omega
       · have hc' : (x.tt.take j).contains (m : Int) = false := by simpa using hc
         have hap := Lh (fun (w3 : World) (o : Obj) (v' : Value) hgr h3 hloc => src_append (w3 := w3) (o := o) (v' := v') (x := (k : Int)) hS2.out hml e0 ho hbq.out (fun i => cur_new hy hc' i) hgr h3 hloc)
         have hln := last_new (l := l) (k := k) (n := m) (by omega) hc'
         have ho2 := ho
         have hro2 := hro
         generalize hF : curP l x k j m = F at *
         generalize hG : F.length = L at *
         have hAP := Lh (fun w3 o v' => hap.out w3 o v')
         have hown := Lh ho
         have hxx : Hid (Qc F = Qc F) := Lh rfl
         clear hS2 hy hc hc' ha' hyr hap ho ho2 hro hxx
         rcases hln with h0 | ⟨q, y, hq1, hq2, hyk⟩
         · subst h0
           clear hro2 hF hG
           go_wp2_with (at_builtin; refine wpList_append_own_at _ rfl _ _ 40 rfl w.heap.size 3 i0 _ 1 8 Tryd.underlying40 hi0 hz0 hz1 hz2 rfl (by decide) _ _ _ rfl (Qn hown.out (Qh _ _)) _ 1 1 [.int .i64 k] rfl rfl (one_at _ _ _ _ (by first | rfl | simp)) (by simp [Value.oneCell']) ?c1 ?c2 ?c3 ?_)
           case c1 => unfold maxLen; omega
           case c2 => omega
           case c3 => have := hbq.out.size; simp; omega
           intro v' w3 hown3 hg3 _ hat3
           obtain ⟨⟨va, vcap, rfl⟩, hS4, ⟨h3c, h3f, h3l⟩, hb4⟩ := hAP.out _ _ _ hg3 hown3 hat3
           replace hS4 := Lh hS4
           replace hb4 := Lh hb4
           clear hown3 hg3 hat3 hAP hown
           go_wp2_with fail
           go_roundw
           case rel => exact ⟨j + 1, by omega, by go_num, hS4, hb4⟩
           case measure => simp [intOf]; omega
         · obtain ⟨b2, off2, ha2, _, f0⟩ := Xa (by rw [← hG] at hro2; exact hro2) q _ hq2
           subst ha2
           subst hq1
           have hq3 : ((((q + 1 : Nat) : Int) - 1)).toNat = q := by omega
           have hq4 : (0 : Int) ≤ ((q + 1 : Nat) : Int) - 1 := by omega
           have hq5 : ((q + 1 : Nat) : Int) - 1 < ((q + 1 : Nat) : Int) := by omega
           have hq6 : (((q + 1 : Nat) : Int) == 0) = false := by simp; omega
           have hq7 := ne_n hyk
           clear hro2 hF hG hq2 hyk
           go_wp2_with (at_builtin; refine wpList_append_own_at _ rfl _ _ 40 rfl w.heap.size 3 i0 _ 1 8 Tryd.underlying40 hi0 hz0 hz1 hz2 rfl (by decide) _ _ _ rfl (Qn hown.out (Qh _ _)) _ 1 1 [.int .i64 k] rfl rfl (one_at _ _ _ _ (by first | rfl | simp)) (by simp [Value.oneCell']) ?c1 ?c2 ?c3 ?_)
           case c1 => unfold maxLen; omega
           case c2 => omega
           case c3 => have := hbq.out.size; simp; omega
           intro v' w3 hown3 hg3 _ hat3
           obtain ⟨⟨va, vcap, rfl⟩, hS4, ⟨h3c, h3f, h3l⟩, hb4⟩ := hAP.out _ _ _ hg3 hown3 hat3
           replace hS4 := Lh hS4
           replace hb4 := Lh hb4
           clear hown3 hg3 hat3 hAP hown
           go_wp2_with fail
           go_roundw
           case rel => exact ⟨j + 1, by omega, by go_num, hS4, hb4⟩
           case measure => simp [intOf]; omega
     · have hjj : j = x.tt.length := by omega
       have hS5 := Lh (hS2.out.cong (f' := fun n => Zo 0 (l.take (k + 1)) n) (fun n _ => by rw [hjj]; exact hend.out n))
       clear hS2 hjj
       go_wp2_with fail
       go_roundw
       case rel => exact ⟨k + 1, by omega, by go_num, hS5, hbq⟩
       case measure => simp [intOf]; omega
  · have hk2 : k = l.length := by omega
    subst hk2
    have hS5 := Lh (hS.out.cong (f' := fun n => Zt l n) (fun n _ => by simp [Zt]))
    clear hS
    go_wp2_with fail
    go_ret
    exact ⟨_, rfl, hS5.out, hb.out⟩
end Go.Proofs.YthiiahlgncngoaaDoorRR.Fw
