/- Walk of code.May. Conditions: the program lies in memory; the packages' tables hold their lists. -/
import Derived.Test.YtiicjbnocpphdaaDoorCdP
import Derived.Test.YtiicjbnocpphdaaDoorCdN
namespace Go.Proofs.YtiicjbnocpphdaaDoor.Cd
open Go Go.RowKit
open Go.Proofs.YtiicjbnocpphdaaDoor.Lx Go.Proofs.YtiicjbnocpphdaaDoor.Tr

/-- may a program be? -/
def mayP (p : Pg) : Bool := mayNamesP p && (sizesP p.mems && (decide ((thrsP p).length ≤ 16) && (p.funs.all headP && p.funs.all (codeP p))))
theorem len_run (v : Value) {w : World} {B : Nat} {e : TypeId} {c n : Nat} {xs : List Value} (h : w.ownsRow B e c v n xs) : ∃ a cap, v = .slice a n cap ∧ n ≤ cap ∧ cap ≤ maxLen := by
  rcases h.2 with ⟨rfl, rfl⟩ | ⟨g, cap, cur, rfl, _, _, h1, h2, _⟩
  · exact ⟨none, 0, rfl, Nat.le_refl _, Nat.zero_le _⟩
  · exact ⟨_, cap, rfl, h1, h2⟩

set_option maxHeartbeats 4000000 in
set_option maxRecDepth 100000 in
theorem may_n (p : Pg) (w : World) (hp : Pg.In w (fun _ => True) p) (hsg : SignsIn w) (hsum : p.mems.length + p.locks.length + p.funs.length ≤ 4398046511104) (h0 : mayNamesP p = false) :
    Calls Tryd.prog 13 #[p.val] w fun e w' => e = .returned (.bool (mayP p)) ∧ Below w.heap.size w w' := by
  unfold mayP
  rw [h0]
  have c0 := Lib.hid (fun (V : World) (hb : Below w.heap.size w V) => mayNames_any p V (hp.below (Kps.of_below hb)) (hsg.below hsg.lt hb) (by omega))
  have c0' := c0.out; rw [h0] at c0'; replace c0' := Lib.hid c0'; clear c0
  clear hp hsg h0
  go_enter Tryd.func13, Tryd.ntmps13
  go_wp2_with fail
  have hb0 := Lib.hid (b_alloc w (.cells #[.slice p.ma p.mems.length p.mcap, .slice p.la p.locks.length p.lcap, .slice p.fa p.funs.length p.fcap] 27))
  refine (c0'.out _ hb0.out).mono ?_
  rintro e w1 ⟨rfl, hb⟩
  obtain ⟨hc, hf⟩ := bcell hb
  have hlt : w.heap.size < w1.heap.size := by have := hb.size; simp at this; omega
  have hq0 := Lib.hid (hb0.out.trans (hb.mono hb0.out.size))
  clear hb
  go_wp2_with fail
  go_ret
  exact ⟨ret_bool (by simp), hq0.out⟩
set_option maxHeartbeats 4000000 in
set_option maxRecDepth 100000 in
theorem may_s (p : Pg) (w : World) (hp : Pg.In w (fun _ => True) p) (hsg : SignsIn w) (hsum : p.mems.length + p.locks.length + p.funs.length ≤ 4398046511104) (h0 : mayNamesP p = true) (h1 : sizesP p.mems = false) :
    Calls Tryd.prog 13 #[p.val] w fun e w' => e = .returned (.bool (mayP p)) ∧ Below w.heap.size w w' := by
  unfold mayP
  rw [h0, h1]
  have c0 := Lib.hid (fun (V : World) (hb : Below w.heap.size w V) => mayNames_any p V (hp.below (Kps.of_below hb)) (hsg.below hsg.lt hb) (by omega))
  have c1 := Lib.hid (fun (V : World) (hb : Below w.heap.size w V) => maySizes_any p.mems p.ma p.mcap V (hp.mrow.below (Kps.of_below hb)))
  have c0' := c0.out; rw [h0] at c0'; replace c0' := Lib.hid c0'; clear c0
  have c1' := c1.out; rw [h1] at c1'; replace c1' := Lib.hid c1'; clear c1
  clear hp hsg h0 h1
  go_enter Tryd.func13, Tryd.ntmps13
  go_wp2_with fail
  have hb0 := Lib.hid (b_alloc w (.cells #[.slice p.ma p.mems.length p.mcap, .slice p.la p.locks.length p.lcap, .slice p.fa p.funs.length p.fcap] 27))
  refine (c0'.out _ hb0.out).mono ?_
  rintro e w1 ⟨rfl, hb⟩
  obtain ⟨hc, hf⟩ := bcell hb
  have hlt : w.heap.size < w1.heap.size := by have := hb.size; simp at this; omega
  have hq0 := Lib.hid (hb0.out.trans (hb.mono hb0.out.size))
  clear hb
  go_wp2_with fail
  refine (c1'.out _ hq0.out).mono ?_
  rintro e w2 ⟨rfl, hb⟩
  obtain ⟨hc1, hf1⟩ := bcell hb
  have hlt1 : w.heap.size < w2.heap.size := by have := hb.size; omega
  have hq1 := Lib.hid (hq0.out.trans (hb.mono hq0.out.size))
  clear hb
  go_wp2_with fail
  go_ret
  exact ⟨ret_bool (by simp), hq1.out⟩
set_option maxHeartbeats 4000000 in
set_option maxRecDepth 100000 in
theorem may_t (p : Pg) (w : World) (hp : Pg.In w (fun _ => True) p) (hsg : SignsIn w) (hsum : p.mems.length + p.locks.length + p.funs.length ≤ 4398046511104) (h0 : mayNamesP p = true) (h1 : sizesP p.mems = true) (h2 : decide ((thrsP p).length ≤ 16) = false) :
    Calls Tryd.prog 13 #[p.val] w fun e w' => e = .returned (.bool (mayP p)) ∧ Below w.heap.size w w' := by
  unfold mayP
  rw [h0, h1, h2]
  have c0 := Lib.hid (fun (V : World) (hb : Below w.heap.size w V) => mayNames_any p V (hp.below (Kps.of_below hb)) (hsg.below hsg.lt hb) (by omega))
  have c1 := Lib.hid (fun (V : World) (hb : Below w.heap.size w V) => maySizes_any p.mems p.ma p.mcap V (hp.mrow.below (Kps.of_below hb)))
  have c2 := Lib.hid (fun (V : World) (hb : Below w.heap.size w V) => threads_any p V (hp.frow.below (Kps.of_below hb)) (by omega))
  have c0' := c0.out; rw [h0] at c0'; replace c0' := Lib.hid c0'; clear c0
  have c1' := c1.out; rw [h1] at c1'; replace c1' := Lib.hid c1'; clear c1
  clear hp hsg h0 h1
  go_enter Tryd.func13, Tryd.ntmps13
  go_wp2_with fail
  have hb0 := Lib.hid (b_alloc w (.cells #[.slice p.ma p.mems.length p.mcap, .slice p.la p.locks.length p.lcap, .slice p.fa p.funs.length p.fcap] 27))
  refine (c0'.out _ hb0.out).mono ?_
  rintro e w1 ⟨rfl, hb⟩
  obtain ⟨hc, hf⟩ := bcell hb
  have hlt : w.heap.size < w1.heap.size := by have := hb.size; simp at this; omega
  have hq0 := Lib.hid (hb0.out.trans (hb.mono hb0.out.size))
  clear hb
  go_wp2_with fail
  refine (c1'.out _ hq0.out).mono ?_
  rintro e w2 ⟨rfl, hb⟩
  obtain ⟨hc1, hf1⟩ := bcell hb
  have hlt1 : w.heap.size < w2.heap.size := by have := hb.size; omega
  have hq1 := Lib.hid (hq0.out.trans (hb.mono hq0.out.size))
  clear hb
  go_wp2_with fail
  refine (c2.out _ hq1.out).mono ?_
  rintro e w3 ⟨v, rfl, hv, hb⟩
  obtain ⟨va, vc, rfl, hv1, hv2⟩ := len_run v hv
  have hv3 : (thrsP p).length ≤ 9223372036854775807 := by unfold maxLen at hv2; omega
  have hle : ¬ ((thrsP p).length : Int) ≤ 16 := by have := of_decide_eq_false h2; omega
  clear hv
  obtain ⟨hc2, hf2⟩ := bcell hb
  have hlt2 : w.heap.size < w3.heap.size := by have := hb.size; omega
  have hq2 := Lib.hid (hq1.out.trans (hb.mono hq1.out.size))
  clear hb
  go_wp2_with fail
  go_ret
  exact ⟨ret_bool (by simp), hq2.out⟩
set_option maxHeartbeats 4000000 in
set_option maxRecDepth 100000 in
theorem may_h (p : Pg) (w : World) (hp : Pg.In w (fun _ => True) p) (hsg : SignsIn w) (hsum : p.mems.length + p.locks.length + p.funs.length ≤ 4398046511104) (h0 : mayNamesP p = true) (h1 : sizesP p.mems = true) (h2 : decide ((thrsP p).length ≤ 16) = true) (h3 : p.funs.all headP = false) :
    Calls Tryd.prog 13 #[p.val] w fun e w' => e = .returned (.bool (mayP p)) ∧ Below w.heap.size w w' := by
  unfold mayP
  rw [h0, h1, h2, h3]
  have c0 := Lib.hid (fun (V : World) (hb : Below w.heap.size w V) => mayNames_any p V (hp.below (Kps.of_below hb)) (hsg.below hsg.lt hb) (by omega))
  have c1 := Lib.hid (fun (V : World) (hb : Below w.heap.size w V) => maySizes_any p.mems p.ma p.mcap V (hp.mrow.below (Kps.of_below hb)))
  have c2 := Lib.hid (fun (V : World) (hb : Below w.heap.size w V) => threads_any p V (hp.frow.below (Kps.of_below hb)) (by omega))
  have c3 := Lib.hid (fun (V : World) (hb : Below w.heap.size w V) => mayHeads_any p.funs p.fa p.fcap V (hp.frow.below (Kps.of_below hb)))
  have c0' := c0.out; rw [h0] at c0'; replace c0' := Lib.hid c0'; clear c0
  have c1' := c1.out; rw [h1] at c1'; replace c1' := Lib.hid c1'; clear c1
  have c3' := c3.out; rw [h3] at c3'; replace c3' := Lib.hid c3'; clear c3
  clear hp hsg h0 h1 h3
  go_enter Tryd.func13, Tryd.ntmps13
  go_wp2_with fail
  have hb0 := Lib.hid (b_alloc w (.cells #[.slice p.ma p.mems.length p.mcap, .slice p.la p.locks.length p.lcap, .slice p.fa p.funs.length p.fcap] 27))
  refine (c0'.out _ hb0.out).mono ?_
  rintro e w1 ⟨rfl, hb⟩
  obtain ⟨hc, hf⟩ := bcell hb
  have hlt : w.heap.size < w1.heap.size := by have := hb.size; simp at this; omega
  have hq0 := Lib.hid (hb0.out.trans (hb.mono hb0.out.size))
  clear hb
  go_wp2_with fail
  refine (c1'.out _ hq0.out).mono ?_
  rintro e w2 ⟨rfl, hb⟩
  obtain ⟨hc1, hf1⟩ := bcell hb
  have hlt1 : w.heap.size < w2.heap.size := by have := hb.size; omega
  have hq1 := Lib.hid (hq0.out.trans (hb.mono hq0.out.size))
  clear hb
  go_wp2_with fail
  refine (c2.out _ hq1.out).mono ?_
  rintro e w3 ⟨v, rfl, hv, hb⟩
  obtain ⟨va, vc, rfl, hv1, hv2⟩ := len_run v hv
  have hv3 : (thrsP p).length ≤ 9223372036854775807 := by unfold maxLen at hv2; omega
  have hle : ((thrsP p).length : Int) ≤ 16 := by have := of_decide_eq_true h2; omega
  clear hv
  obtain ⟨hc2, hf2⟩ := bcell hb
  have hlt2 : w.heap.size < w3.heap.size := by have := hb.size; omega
  have hq2 := Lib.hid (hq1.out.trans (hb.mono hq1.out.size))
  clear hb
  go_wp2_with fail
  refine (c3'.out _ hq2.out).mono ?_
  rintro e w4 ⟨rfl, hb⟩
  obtain ⟨hc3, hf3⟩ := bcell hb
  have hlt3 : w.heap.size < w4.heap.size := by have := hb.size; omega
  have hq3 := Lib.hid (hq2.out.trans (hb.mono hq2.out.size))
  clear hb
  go_wp2_with fail
  go_ret
  exact ⟨ret_bool (by simp), hq3.out⟩
set_option maxHeartbeats 4000000 in
set_option maxRecDepth 100000 in
theorem may_c (p : Pg) (w : World) (hp : Pg.In w (fun _ => True) p) (hT : OpTab w) (hsg : SignsIn w) (hsum : p.mems.length + p.locks.length + p.funs.length ≤ 4398046511104) (h0 : mayNamesP p = true) (h1 : sizesP p.mems = true) (h2 : decide ((thrsP p).length ≤ 16) = true) (h3 : p.funs.all headP = true) (h4 : p.funs.all (codeP p) = false) :
    Calls Tryd.prog 13 #[p.val] w fun e w' => e = .returned (.bool (mayP p)) ∧ Below w.heap.size w w' := by
  unfold mayP
  rw [h0, h1, h2, h3, h4]
  have c0 := Lib.hid (fun (V : World) (hb : Below w.heap.size w V) => mayNames_any p V (hp.below (Kps.of_below hb)) (hsg.below hsg.lt hb) (by omega))
  have c1 := Lib.hid (fun (V : World) (hb : Below w.heap.size w V) => maySizes_any p.mems p.ma p.mcap V (hp.mrow.below (Kps.of_below hb)))
  have c2 := Lib.hid (fun (V : World) (hb : Below w.heap.size w V) => threads_any p V (hp.frow.below (Kps.of_below hb)) (by omega))
  have c3 := Lib.hid (fun (V : World) (hb : Below w.heap.size w V) => mayHeads_any p.funs p.fa p.fcap V (hp.frow.below (Kps.of_below hb)))
  have c4 := Lib.hid (fun (V : World) (hb : Below w.heap.size w V) => mayCodes_any p V (hp.below (Kps.of_below hb)) (hT.keep hb))
  have c0' := c0.out; rw [h0] at c0'; replace c0' := Lib.hid c0'; clear c0
  have c1' := c1.out; rw [h1] at c1'; replace c1' := Lib.hid c1'; clear c1
  have c3' := c3.out; rw [h3] at c3'; replace c3' := Lib.hid c3'; clear c3
  have c4' := c4.out; rw [h4] at c4'; replace c4' := Lib.hid c4'; clear c4
  clear hp hsg hT h0 h1 h3 h4
  go_enter Tryd.func13, Tryd.ntmps13
  go_wp2_with fail
  have hb0 := Lib.hid (b_alloc w (.cells #[.slice p.ma p.mems.length p.mcap, .slice p.la p.locks.length p.lcap, .slice p.fa p.funs.length p.fcap] 27))
  refine (c0'.out _ hb0.out).mono ?_
  rintro e w1 ⟨rfl, hb⟩
  obtain ⟨hc, hf⟩ := bcell hb
  have hlt : w.heap.size < w1.heap.size := by have := hb.size; simp at this; omega
  have hq0 := Lib.hid (hb0.out.trans (hb.mono hb0.out.size))
  clear hb
  go_wp2_with fail
  refine (c1'.out _ hq0.out).mono ?_
  rintro e w2 ⟨rfl, hb⟩
  obtain ⟨hc1, hf1⟩ := bcell hb
  have hlt1 : w.heap.size < w2.heap.size := by have := hb.size; omega
  have hq1 := Lib.hid (hq0.out.trans (hb.mono hq0.out.size))
  clear hb
  go_wp2_with fail
  refine (c2.out _ hq1.out).mono ?_
  rintro e w3 ⟨v, rfl, hv, hb⟩
  obtain ⟨va, vc, rfl, hv1, hv2⟩ := len_run v hv
  have hv3 : (thrsP p).length ≤ 9223372036854775807 := by unfold maxLen at hv2; omega
  have hle : ((thrsP p).length : Int) ≤ 16 := by have := of_decide_eq_true h2; omega
  clear hv
  obtain ⟨hc2, hf2⟩ := bcell hb
  have hlt2 : w.heap.size < w3.heap.size := by have := hb.size; omega
  have hq2 := Lib.hid (hq1.out.trans (hb.mono hq1.out.size))
  clear hb
  go_wp2_with fail
  refine (c3'.out _ hq2.out).mono ?_
  rintro e w4 ⟨rfl, hb⟩
  obtain ⟨hc3, hf3⟩ := bcell hb
  have hlt3 : w.heap.size < w4.heap.size := by have := hb.size; omega
  have hq3 := Lib.hid (hq2.out.trans (hb.mono hq2.out.size))
  clear hb
  go_wp2_with fail
  refine (c4'.out _ hq3.out).mono ?_
  rintro e w5 ⟨rfl, hb⟩
  obtain ⟨hc4, hf4⟩ := bcell hb
  have hlt4 : w.heap.size < w5.heap.size := by have := hb.size; omega
  have hq4 := Lib.hid (hq3.out.trans (hb.mono hq3.out.size))
  clear hb
  go_wp2_with fail
  go_ret
  exact ⟨ret_bool (by simp), hq4.out⟩
set_option maxHeartbeats 4000000 in
set_option maxRecDepth 100000 in
theorem may_y (p : Pg) (w : World) (hp : Pg.In w (fun _ => True) p) (hT : OpTab w) (hsg : SignsIn w) (hsum : p.mems.length + p.locks.length + p.funs.length ≤ 4398046511104) (h0 : mayNamesP p = true) (h1 : sizesP p.mems = true) (h2 : decide ((thrsP p).length ≤ 16) = true) (h3 : p.funs.all headP = true) (h4 : p.funs.all (codeP p) = true) :
    Calls Tryd.prog 13 #[p.val] w fun e w' => e = .returned (.bool (mayP p)) ∧ Below w.heap.size w w' := by
  unfold mayP
  rw [h0, h1, h2, h3, h4]
  have c0 := Lib.hid (fun (V : World) (hb : Below w.heap.size w V) => mayNames_any p V (hp.below (Kps.of_below hb)) (hsg.below hsg.lt hb) (by omega))
  have c1 := Lib.hid (fun (V : World) (hb : Below w.heap.size w V) => maySizes_any p.mems p.ma p.mcap V (hp.mrow.below (Kps.of_below hb)))
  have c2 := Lib.hid (fun (V : World) (hb : Below w.heap.size w V) => threads_any p V (hp.frow.below (Kps.of_below hb)) (by omega))
  have c3 := Lib.hid (fun (V : World) (hb : Below w.heap.size w V) => mayHeads_any p.funs p.fa p.fcap V (hp.frow.below (Kps.of_below hb)))
  have c4 := Lib.hid (fun (V : World) (hb : Below w.heap.size w V) => mayCodes_any p V (hp.below (Kps.of_below hb)) (hT.keep hb))
  have c0' := c0.out; rw [h0] at c0'; replace c0' := Lib.hid c0'; clear c0
  have c1' := c1.out; rw [h1] at c1'; replace c1' := Lib.hid c1'; clear c1
  have c3' := c3.out; rw [h3] at c3'; replace c3' := Lib.hid c3'; clear c3
  have c4' := c4.out; rw [h4] at c4'; replace c4' := Lib.hid c4'; clear c4
  clear hp hsg hT h0 h1 h3 h4
  go_enter Tryd.func13, Tryd.ntmps13
  go_wp2_with fail
  have hb0 := Lib.hid (b_alloc w (.cells #[.slice p.ma p.mems.length p.mcap, .slice p.la p.locks.length p.lcap, .slice p.fa p.funs.length p.fcap] 27))
  refine (c0'.out _ hb0.out).mono ?_
  rintro e w1 ⟨rfl, hb⟩
  obtain ⟨hc, hf⟩ := bcell hb
  have hlt : w.heap.size < w1.heap.size := by have := hb.size; simp at this; omega
  have hq0 := Lib.hid (hb0.out.trans (hb.mono hb0.out.size))
  clear hb
  go_wp2_with fail
  refine (c1'.out _ hq0.out).mono ?_
  rintro e w2 ⟨rfl, hb⟩
  obtain ⟨hc1, hf1⟩ := bcell hb
  have hlt1 : w.heap.size < w2.heap.size := by have := hb.size; omega
  have hq1 := Lib.hid (hq0.out.trans (hb.mono hq0.out.size))
  clear hb
  go_wp2_with fail
  refine (c2.out _ hq1.out).mono ?_
  rintro e w3 ⟨v, rfl, hv, hb⟩
  obtain ⟨va, vc, rfl, hv1, hv2⟩ := len_run v hv
  have hv3 : (thrsP p).length ≤ 9223372036854775807 := by unfold maxLen at hv2; omega
  have hle : ((thrsP p).length : Int) ≤ 16 := by have := of_decide_eq_true h2; omega
  clear hv
  obtain ⟨hc2, hf2⟩ := bcell hb
  have hlt2 : w.heap.size < w3.heap.size := by have := hb.size; omega
  have hq2 := Lib.hid (hq1.out.trans (hb.mono hq1.out.size))
  clear hb
  go_wp2_with fail
  refine (c3'.out _ hq2.out).mono ?_
  rintro e w4 ⟨rfl, hb⟩
  obtain ⟨hc3, hf3⟩ := bcell hb
  have hlt3 : w.heap.size < w4.heap.size := by have := hb.size; omega
  have hq3 := Lib.hid (hq2.out.trans (hb.mono hq2.out.size))
  clear hb
  go_wp2_with fail
  refine (c4'.out _ hq3.out).mono ?_
  rintro e w5 ⟨rfl, hb⟩
  obtain ⟨hc4, hf4⟩ := bcell hb
  have hlt4 : w.heap.size < w5.heap.size := by have := hb.size; omega
  have hq4 := Lib.hid (hq3.out.trans (hb.mono hq3.out.size))
  clear hb
  go_wp2_with fail
  go_ret
  exact ⟨ret_bool (by simp), hq4.out⟩
theorem may_any (p : Pg) (w : World) (hp : Pg.In w (fun _ => True) p) (hT : OpTab w) (hsg : SignsIn w) (hsum : p.mems.length + p.locks.length + p.funs.length ≤ 4398046511104) :
    Calls Tryd.prog 13 #[p.val] w fun e w' => e = .returned (.bool (mayP p)) ∧ Below w.heap.size w w' := by
  cases h0 : mayNamesP p
  · exact may_n p w hp hsg hsum h0
  · cases h1 : sizesP p.mems
    · exact may_s p w hp hsg hsum h0 h1
    · cases h2 : decide ((thrsP p).length ≤ 16)
      · exact may_t p w hp hsg hsum h0 h1 h2
      · cases h3 : p.funs.all headP
        · exact may_h p w hp hsg hsum h0 h1 h2 h3
        · cases h4 : p.funs.all (codeP p)
          · exact may_c p w hp hT hsg hsum h0 h1 h2 h3 h4
          · exact may_y p w hp hT hsg hsum h0 h1 h2 h3 h4
end Go.Proofs.YtiicjbnocpphdaaDoor.Cd
