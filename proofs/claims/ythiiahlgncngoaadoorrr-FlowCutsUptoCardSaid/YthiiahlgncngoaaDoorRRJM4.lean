/- Plain theory: an instruction in the program around may be just if it may be in a graph. Conditions: none. -/
import Derived.Test.YthiiahlgncngoaaDoorRRJM3
set_option maxHeartbeats 16000000
set_option maxRecDepth 100000
namespace Go.Proofs.YthiiahlgncngoaaDoorRR.Fw
open Go Go.RowKit
open Go.Proofs.YthiiahlgncngoaaDoorRR.Lx Go.Proofs.YthiiahlgncngoaaDoorRR.Tr Go.Proofs.YthiiahlgncngoaaDoorRR.Cd
def arP (regs : Int) (a1 a2 a v : Option Addr) (cap : Nat) : Pg := ⟨a1, 1, [⟨⟨#[]⟩, 0, 0⟩], a2, 1, [⟨#[]⟩], v, cap, arF regs a 9⟩
theorem someN_op (i : Ins) : (Z8 i).op = i.op := by unfold Z8; split <;> (try split) <;> (try split) <;> rfl
theorem someN_args (i : Ins) : (Z8 i).aa = i.aa ∧ (Z8 i).acap = i.acap ∧ (Z8 i).args = i.args := by unfold Z8; split <;> (try split) <;> (try split) <;> exact ⟨rfl, rfl, rfl⟩
theorem someN_regs (i : Ins) : regsP (Z8 i) = regsP i := by unfold Z8; split <;> (try split) <;> (try split) <;> rfl
theorem someN_bare (i : Ins) : bareP (Z8 i) = bareP i := by unfold Z8; split <;> (try split) <;> (try split) <;> rfl
theorem arF_at (regs : Int) (a : Option Addr) (n k : Nat) (h : k < n) : (arF regs a n)[k + 1]? = some (parF k) := by simp [arF, h]
theorem num_ar (regs : Int) (a1 a2 a v : Option Addr) (cap : Nat) (i : Ins) : numP (arP regs a1 a2 a v cap) (firstF regs a) (Z8 i) = numA i := by
 obtain ⟨op, r, x, b, n, aa, acap, args⟩ := i
 by_cases h10 : op = 10
 · subst h10
   by_cases hn : n < 0
   · have : inP n (arP regs a1 a2 a v cap).funs.length = false := by simp [inP]; omega
     have h0 : ¬ 0 ≤ n := by omega
     simp [numP, numA, fitP, Z8, numK, hn, this, h0]
   · have e : Z8 ⟨10, r, x, b, n, aa, acap, args⟩ = ⟨10, r, x, b, 1 + (args.length : Int), aa, acap, args⟩ := by simp [Z8, hn]
     rw [e]
     have hf : (arP regs a1 a2 a v cap).funs.length = 10 := arF_len _ _ _
     by_cases hl : args.length ≤ 8
     · have hi : inP (1 + (args.length : Int)) 10 = true := by simp [inP]; omega
       have hg : (arP regs a1 a2 a v cap).funs[(1 + (args.length : Int)).toNat]? = some (parF args.length) := by
        rw [show (1 + (args.length : Int)).toNat = args.length + 1 by omega]
        exact arF_at _ _ _ _ (by omega)
       have hnn : 0 ≤ n := by omega
       simp [numP, numA, fitP, numK, hf, hi, hg, hl, hnn, parF]
     · have hi : inP (1 + (args.length : Int)) 10 = false := by simp [inP]; omega
       simp [numP, numA, fitP, numK, hf, hi, hl]
 · by_cases hm : op = 5 ∨ op = 6 ∨ op = 7 ∨ op = 8
   · have hM : ((arP regs a1 a2 a v cap).mems.length : Int) = 1 := rfl
     have hL : ((arP regs a1 a2 a v cap).locks.length : Int) = 1 := rfl
     by_cases hn : n < 0
     · have e : Z8 ⟨op, r, x, b, n, aa, acap, args⟩ = ⟨op, r, x, b, n, aa, acap, args⟩ := by simp [Z8, hn]
       rw [e]
       have h0 : inP n 1 = false := by simp [inP]; omega
       have h1 : ¬ 0 ≤ n := by omega
       rcases hm with rfl | rfl | rfl | rfl <;> simp [numP, numA, fitP, numK, h0, h1, hM, hL]
     · have e : Z8 ⟨op, r, x, b, n, aa, acap, args⟩ = ⟨op, r, x, b, 0, aa, acap, args⟩ := by simp [Z8, hn, hm]
       rw [e]
       have h0 : inP 0 1 = true := by simp [inP]
       have h1 : 0 ≤ n := by omega
       rcases hm with rfl | rfl | rfl | rfl <;> simp [numP, numA, fitP, numK, h0, h1, hM, hL]
   · have e : Z8 ⟨op, r, x, b, n, aa, acap, args⟩ = ⟨op, r, x, b, n, aa, acap, args⟩ := by simp [Z8, hm, h10]
     rw [e]
     have hC : ((firstF regs a).code.length : Int) = 1 := rfl
     have h0 : inP n 1 = decide (n = 0) := by unfold inP; rw [Bool.eq_iff_iff]; simp; omega
     have hk4 : ¬ numK op = 4 := by unfold numK; repeat' split <;> omega
     have hk5 : ¬ numK op = 5 := by unfold numK; repeat' split <;> omega
     have hk6 : ¬ numK op = 6 := by unfold numK; repeat' split <;> omega
     simp only [numP, numA, fitP, hk4, hk5, hk6, if_false, hC, h0]
     split
     · simp
     · split
       · simp
       · split
         · simp
         · split <;> simp
theorem mayA_ar (regs : Int) (a1 a2 a v : Option Addr) (cap : Nat) (i : Ins) : mayI (arP regs a1 a2 a v cap) 0 (Z8 i) = mayA regs i := by
 have h := mayI_at (p := arP regs a1 a2 a v cap) (m := 0) (f := firstF regs a) rfl (Z8 i)
 show mayI (arP regs a1 a2 a v cap) ((0 : Nat) : Int) (Z8 i) = _
 rw [h, mayF_eq, someN_op, someN_bare, num_ar, someN_regs]
 rfl
end Go.Proofs.YthiiahlgncngoaaDoorRR.Fw
namespace Go.Proofs.YthiiahlgncngoaaDoorRR.Fw
open Go Go.RowKit
open Go.Proofs.YthiiahlgncngoaaDoorRR.Lx Go.Proofs.YthiiahlgncngoaaDoorRR.Tr Go.Proofs.YthiiahlgncngoaaDoorRR.Cd Go.Proofs.YthiiahlgncngoaaDoorRR.Pa
theorem codes1_c (x : Ins) (regs : Int) (a1 a2 a v : Option Addr) (cap bx : Nat) (w : World) (c0 : w.cell? ⟨bx, 0, none⟩ = some (.slice a1 1 1)) (c1 : w.cell? ⟨bx, 1, none⟩ = some (.slice a2 1 1)) (c2 : w.cell? ⟨bx, 2, none⟩ = some (.slice v 10 cap))
 (hrow : RowAt w Tt v cap 10 (Zw (arF regs a 9))) (hT : OpTab w) (hx : U8 x.op) (hri : RowAt w Tt x.aa x.acap x.args.length (Qc x.args)) (hl : x.args.length ≤ 4611686018427387904) :
 Calls Tryd.prog 95 #[.agg #[.int .u8 x.op, .int .i64 x.r, .int .i64 x.a, .int .i64 x.b, .int .i64 x.n, .slice x.aa x.args.length x.acap], .pointer (some ⟨bx, 0, none⟩)] w fun e w' => e = .returned (.bool (mayA regs x)) ∧ Below w.heap.size w w' := by
 have hbl : bx < w.heap.size := World.block_lt_of_cell? _ _ c0
 have hst := Lh (Qh w (.cells #[.int .u8 x.op, .int .i64 x.r, .int .i64 x.a, .int .i64 x.b, .int .i64 x.n, .slice x.aa x.args.length x.acap] 44))
 obtain ⟨q0, q1, q2, q3, q4, q5⟩ := box6 w x
 have hsn := fun V => someNumber_c x V hl
 have hmi := fun V (hb : Below w.heap.size w V) => mayIns_any (arP regs a1 a2 a v cap) 0 (Z8 x) V (by rw [someN_op]; exact hx) (by rw [(someN_args x).1, (someN_args x).2.1, (someN_args x).2.2]; exact hri.below (Kps.of_below hb)) (hT.keep hb) (by have := hrow.below (Kps.of_below hb); exact this)
 rw [mayA_ar] at hmi
 have d0 := Qe hst.out c0
 have d1 := Qe hst.out c1
 have d2 := Qe hst.out c2
 clear c0 c1 c2 hrow hri hT
 generalize hMA : mayA regs x = mv at *
 clear hMA
 go_enter Tryd.func95, Tryd.ntmps95
 go_upto_region 1 with fail
 generalize hW0 : w.alloc (.cells #[.int .u8 x.op, .int .i64 x.r, .int .i64 x.a, .int .i64 x.b, .int .i64 x.n, .slice x.aa x.args.length x.acap] 44) = W0 at *
 have u0 := Qj q0
 have u1 := Qj q1
 have u2 := Qj q2
 have u3 := Qj q3
 have u4 := Qj q4
 have u5 := Qj q5
 have t0 := Qj d0
 have t1 := Qj d1
 have t2 := Qj d2
 have s3 := Lh (Qq (w := W0) (f := 96) (args := #[.agg #[.int .u8 x.op, .int .i64 x.r, .int .i64 x.a, .int .i64 x.b, .int .i64 x.n, .slice x.aa x.args.length x.acap]]) (fun V _ => hsn V))
 have s4 := Lh (Qq (w := W0) (f := 39) (args := #[(arP regs a1 a2 a v cap).val, .int .i64 0, (Z8 x).val]) (fun V hb => hmi V (hst.out.trans (hb.mono hst.out.size))))
 have hpv : (arP regs a1 a2 a v cap).val = .agg #[.slice a1 1 1, .slice a2 1 1, .slice v 10 cap] := rfl
 have hiv : (Z8 x).val = .agg ⟨(Z8 x).vals⟩ := rfl
 rw [hpv, hiv] at s4
 clear q0 q1 q2 q3 q4 q5 d0 d1 d2 hsn hmi hpv hiv
 refine Qp (C := fun V => ∃ U : UpW W0, V = U.val) (by kernel_rfl) (by kernel_rfl) ⟨⟨W0.drew, (Below.refl _ _).drew⟩, by show _ = W0.drew; rfl⟩ ?_
 iterate 2 (quiet_step (fail))
 quiet_step (exact s3.out _)
 quiet_step (exact s4.out _)
 iterate 1 (quiet_step (fail))
 refine wpQuiet_nil ?_
 rintro U ⟨⟨_, hU⟩, rfl⟩
 have hbU := Lh (hst.out.trans (hU.mono hst.out.size))
 clear hU s3 s4 u0 u1 u2 u3 u4 u5 t0 t1 t2
 go_wp2_with fail
 go_ret
 exact ⟨rfl, hbU.out⟩
end Go.Proofs.YthiiahlgncngoaaDoorRR.Fw
namespace Go.Proofs.YthiiahlgncngoaaDoorRR.Fw
open Go Go.RowKit
open Go.Proofs.YthiiahlgncngoaaDoorRR.Lx Go.Proofs.YthiiahlgncngoaaDoorRR.Tr Go.Proofs.YthiiahlgncngoaaDoorRR.Cd
theorem mayHead_c (g : Gr) (w : World) :
 Calls Tryd.prog 60 #[.agg ⟨g.vals⟩] w fun e w' => e = .returned (.bool (headG g)) ∧ Below w.heap.size w w' := by
 obtain ⟨name, thread, params, regs, ba, bcap, blocks⟩ := g
 unfold headG Gr.vals
 simp only
 cases thread
 · by_cases h0 : (0 : Int) ≤ params
   · by_cases h1 : params ≤ 8
     · by_cases h2 : params ≤ regs
       · by_cases h3 : regs ≤ 65536
         · by_cases h4 : (1 : Int) ≤ (blocks.length : Int)
           · by_cases h5 : (blocks.length : Int) ≤ 32768
             · go_enter Tryd.func60, Tryd.ntmps60
               go_wp2_with fail
               go_ret
               exact ⟨Qi (by first | rfl | (simp; omega)), Qh _ _⟩
             · go_enter Tryd.func60, Tryd.ntmps60
               go_wp2_with fail
               go_ret
               exact ⟨Qi (by first | rfl | (simp; omega)), Qh _ _⟩
           · go_enter Tryd.func60, Tryd.ntmps60
             go_wp2_with fail
             go_ret
             exact ⟨Qi (by first | rfl | (simp; omega)), Qh _ _⟩
         · go_enter Tryd.func60, Tryd.ntmps60
           go_wp2_with fail
           go_ret
           exact ⟨Qi (by first | rfl | (simp; omega)), Qh _ _⟩
       · go_enter Tryd.func60, Tryd.ntmps60
         go_wp2_with fail
         go_ret
         exact ⟨Qi (by first | rfl | (simp; omega)), Qh _ _⟩
     · go_enter Tryd.func60, Tryd.ntmps60
       go_wp2_with fail
       go_ret
       exact ⟨Qi (by first | rfl | (simp; omega)), Qh _ _⟩
   · go_enter Tryd.func60, Tryd.ntmps60
     go_wp2_with fail
     go_ret
     exact ⟨Qi (by first | rfl | (simp; omega)), Qh _ _⟩
 · by_cases h0 : (0 : Int) ≤ params
   · by_cases h1 : params ≤ 0
     · by_cases h2 : params ≤ regs
       · by_cases h3 : regs ≤ 65536
         · by_cases h4 : (1 : Int) ≤ (blocks.length : Int)
           · by_cases h5 : (blocks.length : Int) ≤ 32768
             · go_enter Tryd.func60, Tryd.ntmps60
               go_wp2_with fail
               go_ret
               exact ⟨Qi (by first | rfl | (simp; omega)), Qh _ _⟩
             · go_enter Tryd.func60, Tryd.ntmps60
               go_wp2_with fail
               go_ret
               exact ⟨Qi (by first | rfl | (simp; omega)), Qh _ _⟩
           · go_enter Tryd.func60, Tryd.ntmps60
             go_wp2_with fail
             go_ret
             exact ⟨Qi (by first | rfl | (simp; omega)), Qh _ _⟩
         · go_enter Tryd.func60, Tryd.ntmps60
           go_wp2_with fail
           go_ret
           exact ⟨Qi (by first | rfl | (simp; omega)), Qh _ _⟩
       · go_enter Tryd.func60, Tryd.ntmps60
         go_wp2_with fail
         go_ret
         exact ⟨Qi (by first | rfl | (simp; omega)), Qh _ _⟩
     · go_enter Tryd.func60, Tryd.ntmps60
       go_wp2_with fail
       go_ret
       exact ⟨Qi (by first | rfl | (simp; omega)), Qh _ _⟩
   · go_enter Tryd.func60, Tryd.ntmps60
     go_wp2_with fail
     go_ret
     exact ⟨Qi (by first | rfl | (simp; omega)), Qh _ _⟩
/-- over blocks without instructions one comes from one to another one, by a way at least -/
inductive Lead (l : List Bk) : Nat → Nat → Prop where
 | one (i : Nat) (h : bareB l i = true) : Lead l i (nxt l i)
 | on (i j : Nat) (h : bareB l i = true) (r : Lead l (nxt l i) j) : Lead l i j
theorem Lead.out {l : List Bk} {i j : Nat} (h : Lead l i j) (o : Out l j) : Out l i := by
 induction h with
 | one i h => exact .on _ h o
 | on i j h _ ih => exact .on _ h (ih o)
theorem Lead.snoc {l : List Bk} {i j : Nat} (h : Lead l i j) (hj : bareB l j = true) : Lead l i (nxt l j) := by
 induction h with
 | one i h => exact .on _ _ h (.one _ hj)
 | on i j h _ ih => exact .on _ _ h (ih hj)
theorem Lead.bare {l : List Bk} {i j : Nat} (h : Lead l i j) : bareB l i = true := by cases h <;> assumption
theorem Lead.parts {l : List Bk} {i j : Nat} (h : Lead l i j) : nxt l i = j ∨ Lead l (nxt l i) j := by
 cases h with
 | one _ _ => exact .inl rfl
 | on _ _ _ r => exact .inr r
theorem Out.no {l : List Bk} {k : Nat} (h : Out l k) : ¬ Lead l k k := by
 induction h with
 | here k h => intro r; rw [r.bare] at h; cases h
 | on k h _ ih =>
   intro r
   rcases r.parts with e | r2
   · rw [e] at ih; exact ih r
   · exact ih (r2.snoc h)
theorem bare_at {l : List Bk} {k : Nat} {x : Bk} (h : l[k]? = some x) : bareB l k = decide (x.code.length = 0) := by unfold bareB; rw [h]
theorem nxt_at {l : List Bk} {k m : Nat} {x : Bk} (h : l[k]? = some x) (h0 : x.tt[0]? = some (m : Int)) : nxt l k = m := by
 unfold nxt
 rw [h]
 obtain ⟨pa, pcap, phis, ca, ccap, code, fa, fcap, fm, ta, tcap, tt⟩ := x
 cases tt with
 | nil => simp at h0
 | cons y r => simp at h0; subst h0; simp
open Classical in
theorem out_no {l : List Bk} {k : Nat} (hk : k < l.length) (h : Lead l k k) : outP l = false := by
 unfold outP
 exact decide_eq_false fun o => (o k hk).no h
open Classical in
theorem out_yes {l : List Bk} (h : ∀ k, k < l.length → Out l k) : outP l = true := by
 unfold outP
 exact decide_eq_true h
/-- how many of a block's numbers are 0 -/
def zc (W : World) (g : Nat) : Nat := match W.heap[g]? with | some (.cells vs _ _) => (vs.toList.filter fun v => decide (intOf v = 0)).length | _ => 0
def zl (ws : List Int) : Nat := (ws.filter fun v => decide (v = 0)).length
theorem zl_map (ws : List Int) : ((Qc ws).filter fun v => decide (intOf v = 0)).length = zl ws := by
 unfold zl Qc
 induction ws with
 | nil => rfl
 | cons x r ih =>
   rw [List.map_cons, List.filter_cons, List.filter_cons]
   have hx : intOf (Value.int .i64 x) = x := rfl
   rw [hx]
   split
   · simp only [List.length_cons]; rw [ih]
   · rw [ih]
theorem zc_eq {W : World} {g : Nat} {ws : List Int} (h : W.heap[g]? = some (.cells ⟨Qc ws⟩ 3 (0, 0))) : zc W g = zl ws := by
 unfold zc
 rw [h]
 exact zl_map ws
theorem zl_set {ws : List Int} {k : Nat} {x : Int} (h : ws[k]? = some 0) (hx : x ≠ 0) : zl (ws.set k x) < zl ws := by
 induction ws generalizing k with
 | nil => simp at h
 | cons y r ih =>
   cases k with
   | zero => simp at h; subst h; simp [zl, hx]
   | succ k =>
     have := ih (k := k) (by simpa using h)
     unfold zl at *
     rw [List.set_cons_succ, List.filter_cons, List.filter_cons]
     split <;> simp <;> omega
/-- what is marked when so many blocks are gone through -/
structure Mks (l : List Bk) (k : Nat) (ws : List Int) : Prop where
 out : ∀ i, i < k → Out l i
 mrk : ∀ (i : Nat) (v : Int), ws[i]? = some v → v ≠ 0 → Out l i
 le : ∀ (i : Nat) (v : Int), ws[i]? = some v → v ≤ k
/-- and on a way from the next one -/
structure Mkt (l : List Bk) (k at_ : Nat) (ws : List Int) : Prop where
 out : ∀ i, i < k → Out l i
 way : at_ = k ∨ Lead l k at_
 old : ∀ (i : Nat) (v : Int), ws[i]? = some v → v ≠ 0 → v ≠ (k : Int) + 1 → Out l i
 new : ∀ (i : Nat), ws[i]? = some ((k : Int) + 1) → Lead l i at_
 le : ∀ (i : Nat) (v : Int), ws[i]? = some v → v ≤ (k : Int) + 1
theorem Mks.start (l : List Bk) (n : Nat) : Mks l 0 (List.replicate n 0) := by
 refine ⟨fun i h => by omega, fun i v h hv => ?_, fun i v h => ?_⟩ <;>
 · rw [List.getElem?_replicate] at h
   split at h
   · cases h
     first | exact absurd rfl hv | simp
   · cases h
theorem Mks.way {l : List Bk} {k : Nat} {ws : List Int} (h : Mks l k ws) : Mkt l k k ws :=
 ⟨h.out, .inl rfl, fun i v hv h0 _ => h.mrk i v hv h0, fun i hv => by have := h.le i _ hv; omega, fun i v hv => by have := h.le i v hv; omega⟩
theorem Mkt.done {l : List Bk} {k at_ : Nat} {ws : List Int} (h : Mkt l k at_ ws) (o : Out l at_) : Mks l (k + 1) ws := by
 have hk : Out l k := by
  rcases h.way with e | r
  · rw [← e]; exact o
  · exact r.out o
 refine ⟨fun i hi => ?_, fun i v hv h0 => ?_, fun i v hv => by have := h.le i v hv; push_cast; omega⟩
 · rcases Nat.lt_or_ge i k with h1 | h1
   · exact h.out i h1
   · rw [show i = k by omega]; exact hk
 · by_cases e : v = (k : Int) + 1
   · subst e; exact (h.new i hv).out o
   · exact h.old i v hv h0 e
theorem Mkt.step {l : List Bk} {k at_ : Nat} {ws : List Int} (h : Mkt l k at_ ws) (hb : bareB l at_ = true) (hl : at_ < ws.length) : Mkt l k (nxt l at_) (ws.set at_ ((k : Int) + 1)) := by
 have hnew : ∀ (i : Nat) (v : Int), (ws.set at_ ((k : Int) + 1))[i]? = some v → (i = at_ ∧ v = (k : Int) + 1) ∨ ws[i]? = some v := by
  intro i y hy
  by_cases hik : i = at_
  · subst hik
    rw [List.getElem?_set_self hl] at hy
    cases hy; exact .inl ⟨rfl, rfl⟩
  · rw [List.getElem?_set_ne (by omega)] at hy
    exact .inr hy
 refine ⟨h.out, .inr ?_, fun i v hv h0 h1 => ?_, fun i hv => ?_, fun i v hv => ?_⟩
 · rcases h.way with e | r
   · rw [← e]; exact .one _ hb
   · exact r.snoc hb
 · rcases hnew i v hv with ⟨_, e⟩ | e
   · exact absurd e h1
   · exact h.old i v e h0 h1
 · rcases hnew i _ hv with ⟨e, _⟩ | e
   · subst e; exact .one _ hb
   · exact (h.new i e).snoc hb
 · rcases hnew i v hv with ⟨_, e⟩ | e
   · omega
   · exact h.le i v e
/-- the marks in memory -/
structure Wks (g n : Nat) (ws : List Int) (W : World) : Prop where
 len : ws.length = n
 blk : W.heap[g]? = some (.cells ⟨Qc ws⟩ 3 (0, 0))
theorem Wks.start (w : World) (n : Nat) : Wks w.heap.size n (List.replicate n 0) (w.alloc (.cells (Array.replicate n (Value.int .i64 0)) 3)) := by
 refine ⟨by simp, ?_⟩
 rw [Qt w _ rfl]
 unfold Qc
 simp
theorem Wks.at_ {g n : Nat} {ws : List Int} {W : World} (h : Wks g n ws W) {k : Nat} {v : Int} (hv : ws[k]? = some v) : W.cell? ⟨g, k, none⟩ = some (.int .i64 v) ∧ W.frozen? ⟨g, k, none⟩ = false ∧ g < W.heap.size := by
 refine ⟨Qk h.blk ?_, Qd h.blk _, (Array.getElem?_eq_some_iff.1 h.blk).1⟩
 unfold Qc
 simp [hv]
theorem Wks.set {g n : Nat} {ws : List Int} {W : World} (h : Wks g n ws W) (k : Nat) (v : Int) : Wks g n (ws.set k v) (W.setCell ⟨g, k, none⟩ (.int .i64 v)) := by
 refine ⟨by simp [h.len], ?_⟩
 have := Qy h.blk k (.int .i64 v)
 rw [this]
 unfold Qc
 simp [List.map_set]
theorem Wks.keep {g n : Nat} {ws : List Int} {W W' : World} (h : Wks g n ws W) (hb : Below W.heap.size W W') : Wks g n ws W' :=
 ⟨h.len, (hb.block g (Array.getElem?_eq_some_iff.1 h.blk).1).trans h.blk⟩
theorem idle_c (l : List Bk) (a : Option Addr) (cap : Nat) (w : World) (hrow : RowAt w Tt a cap l.length (Qu l)) (hin : ∀ b ∈ l, Bk.In w b) (hto : ∀ b ∈ l, ∀ t ∈ b.tt, 0 ≤ t ∧ t < l.length) (hne : ∀ b ∈ l, b.code.length = 0 → 0 < b.tt.length) (hn : l.length ≤ 32768) :
 Calls Tryd.prog 92 #[.slice a l.length cap] w fun e w' => e = .returned (.bool (!outP l)) ∧ Below w.heap.size w w' := by
 obtain ⟨hc1, hc2⟩ := Q2 hrow
 have hR := Lh (fun V (hv : Below w.heap.size w V) => hrow.below (Kps.of_below hv))
 have hT := Lh (fun (b : Bk) V (hb : b ∈ l) (hv : Below w.heap.size w V) => ((hin b hb).keep hv).trow)
 have hC := Lh (fun (b : Bk) V (hb : b ∈ l) (hv : Below w.heap.size w V) => Q2 ((hin b hb).keep hv).crow)
 replace hto := Lh hto
 replace hne := Lh hne
 have hW0 := Lh (Wks.start w l.length)
 have hmk := make_in l.length (by omega) w
 have hB0 := Lh (Qh w (.cells (Array.replicate l.length (.int .i64 0)) 3))
 clear hrow hin
 go_enter Tryd.func92, Tryd.ntmps92
 go_wp2_with fail
 go_loopw [11] (fun i wr => ∃ k : Nat, k ≤ l.length ∧ i = .int .i64 k ∧ Hid (Below w.heap.size w wr) ∧ ∃ ws, Hid (Mks l k ws) ∧ Hid (Wks w.heap.size l.length ws wr)) (fun i _ => l.length - (intOf i).toNat)
 case atStart => exact ⟨0, Nat.zero_le _, rfl, hB0, _, Lh (Mks.start l l.length), hW0⟩
 case round =>
  clear hW0 hmk
  obtain ⟨k, hk, rfl, hb, ws, hM, hW⟩ := hrel
  by_cases hlt : k < l.length
  · have hi0' : (0 : Int) ≤ (k : Int) := by omega
    have hi1 : (k : Int) < (l.length : Int) := by omega
    have hkw : (k : Int) + 1 ≤ 32768 := by omega
    have hM1 := Lh hM.out.way
    obtain ⟨b, off, ha, hjunk⟩ := X4 (hR.out wr hb.out) k _ (List.getElem?_eq_getElem hlt)
    clear hjunk
    subst ha
    clear hM
    go_wp2_with fail
    go_loopw [5] (fun v wq => ∃ m : Nat, v = .int .i64 m ∧ m < l.length ∧ Hid (Below w.heap.size w wq) ∧ ∃ ws, Hid (Mkt l k m ws) ∧ Hid (Wks w.heap.size l.length ws wq)) (fun _ wq => zc wq w.heap.size)
    case atStart => exact ⟨k, rfl, hlt, hb, ws, hM1, hW⟩
    case round =>
     clear hM1 hW ws
     obtain ⟨m, rfl, hml, hbq, ws, hM, hW⟩ := hrel
     obtain ⟨x, hx⟩ : ∃ x, l[m]? = some x := ⟨_, List.getElem?_eq_getElem hml⟩
     obtain ⟨b2, off2, ha, _, c0, c1, c2, c3⟩ := X4 (hR.out _ hbq.out) m x hx
     cases ha
     obtain ⟨b3, off3, ha, _, z0, z1, z2, z3⟩ := X4 (hR.out _ (Below.refl _ _)) m x hx
     cases ha
     have hbw : b < w.heap.size := World.block_lt_of_cell? _ _ z0
     clear z0 z1 z2 z3
     have hm0 : (0 : Int) ≤ (m : Int) := by omega
     have hm1 : (m : Int) < (l.length : Int) := by omega
     have hxm := List.mem_of_getElem? hx
     obtain ⟨cc1, cc2⟩ := hC.out x _ hxm hbq.out
     have hbare := Lh (bare_at hx)
     by_cases h0 : x.code.length = 0
     · have hbt : Hid (bareB l m = true) := Lh (by rw [hbare.out, h0]; rfl)
       have htl := hne.out x hxm h0
       obtain ⟨y, hy⟩ : ∃ y, x.tt[0]? = some y := ⟨_, List.getElem?_eq_getElem htl⟩
       have hyr := hto.out x hxm y (List.mem_of_getElem? hy)
       obtain ⟨n, rfl⟩ : ∃ n : Nat, y = n := ⟨y.toNat, by omega⟩
       have hnl : n < l.length := by omega
       have hnx := Lh (nxt_at hx hy)
       have hrt := hT.out x _ hxm hbq.out
       obtain ⟨tt1, tt2⟩ := Q2 hrt
       obtain ⟨b', off', ha', _, d0⟩ := Xa hrt 0 _ hy
       obtain ⟨b4, off4, ha4, _, z0⟩ := Xa (hT.out x _ hxm (Below.refl _ _)) 0 _ hy
       rw [ha'] at ha4
       cases ha4
       have hbw' : b' < w.heap.size := World.block_lt_of_cell? _ _ z0
       clear z0
       rw [ha'] at c3
       rw [Nat.add_zero] at d0
       obtain ⟨v, hv⟩ : ∃ v, ws[m]? = some v := ⟨_, List.getElem?_eq_getElem (by rw [hW.out.len]; exact hml)⟩
       obtain ⟨w0, w1, w2⟩ := hW.out.at_ hv
       rw [h0] at c1
       replace h0 := Lh h0
       have htl0 : (0 : Int) < (x.tt.length : Int) := by omega
       clear hx hxm hrt ha' hy hyr hbare cc1 cc2
       by_cases e1 : v = (k : Int) + 1
       · subst e1
         have hfin := Lh (out_no hml (hM.out.new m hv))
         clear hv
         go_wp2_with fail
         go_ret
         exact ⟨Qi (by rw [hfin.out]; rfl), hbq.out⟩
       · have ne1 := ne_b e1
         by_cases e2 : v = 0
         · subst e2
           have hM2 := Lh (hM.out.step hbt.out (by rw [hW.out.len]; exact hml))
           rw [hnx.out] at hM2
           have hW2 := Lh (hW.out.set m ((k : Int) + 1))
           have hz1 := Lh (zc_eq hW.out.blk)
           have hz2 := Lh (zc_eq hW2.out.blk)
           have hz3 := Lh (zl_set (x := (k : Int) + 1) hv (by omega))
           have hb2 := Lh (hbq.out.setCell (p := ⟨w.heap.size, m, none⟩) (Nat.le_refl _) (.int .i64 ((k : Int) + 1)))
           clear hv hM hW hbt hnx
           go_wp2_with fail
           go_roundw
           case rel => exact ⟨n, rfl, hnl, hb2, _, hM2, hW2⟩
           case measure => rw [hz1.out, hz2.out]; exact hz3.out
         · have ne2 := ne_n e2
           have hM2 := Lh (hM.out.done (hM.out.old m v hv e2 e1))
           clear hv e1 e2
           go_wp2_with fail
           go_roundw
           case rel => exact ⟨k + 1, by omega, by go_num, hbq, ws, hM2, hW⟩
           case measure => simp [intOf]; omega
     · have hbt : Hid (bareB l m = false) := Lh (by rw [hbare.out]; simp [h0])
       have hne0 : ((x.code.length : Int) == 0) = false := ne_b (by omega)
       have hM2 := Lh (hM.out.done (.here _ hbt.out))
       clear hx hxm hbare
       go_wp2_with fail
       go_roundw
       case rel => exact ⟨k + 1, by omega, by go_num, hbq, ws, hM2, hW⟩
       case measure => simp [intOf]; omega
  · have hk2 : k = l.length := by omega
    subst hk2
    have hfin := Lh (out_yes hM.out.out)
    clear hM
    go_wp2_with fail
    go_ret
    exact ⟨Qi (by rw [hfin.out]; rfl), hb.out⟩
theorem fromOk_at {l : List Bk} {k : Nat} {x : Bk} (h : l[k]? = some x) : fromOk l k = decide (x.fm = Zt l k) := by unfold fromOk; rw [h]
theorem first_at {l : List Bk} {x : Bk} (h : l[0]? = some x) : firstOk l = decide (x.fm.length = 0) := by
 cases l with
 | nil => simp at h
 | cons y r => simp at h; subst h; rfl
theorem mayWays_c (l : List Bk) (a : Option Addr) (cap : Nat) (w : World) (hrow : RowAt w Tt a cap l.length (Qu l)) (hin : ∀ b ∈ l, Bk.In w b) (hto : ∀ b ∈ l, ∀ t ∈ b.tt, 0 ≤ t ∧ t < l.length) (hne : ∀ b ∈ l, b.code.length = 0 → 0 < b.tt.length) (hn : l.length ≤ 32768) (hpos : 1 ≤ l.length) :
 Calls Tryd.prog 62 #[.slice a l.length cap] w fun e w' => e = .returned (.bool (waysP l)) ∧ Below w.heap.size w w' := by
 obtain ⟨hc1, hc2⟩ := Q2 hrow
 have hS0 := Lh (sources_c l a cap w hrow hin hto hn)
 have hI := Lh (fun V (hv : Below w.heap.size w V) => idle_c l a cap V (hrow.below (Kps.of_below hv)) (fun b hb => (hin b hb).keep hv) hto hne hn)
 have hR := Lh (fun V (hv : Below w.heap.size w V) => hrow.below (Kps.of_below hv))
 have hF := Lh (fun (b : Bk) V (hb : b ∈ l) (hv : Below w.heap.size w V) => ((hin b hb).keep hv).frow)
 have hE := Lh (fun (xs ys : List Int) (a a' : Option Addr) (cap cap' : Nat) (V : World) h1 h2 => equalI_any xs ys a a' cap cap' V h1 h2)
 have hw : Hid (waysP l = (fromsOk l && (firstOk l && outP l))) := Lh rfl
 have hfo : Hid (fromsOk l = (List.range l.length).all (fromOk l)) := Lh rfl
 obtain ⟨b, off, ha, hjunk⟩ := X4 hrow 0 _ (List.getElem?_eq_getElem (by omega))
 subst ha
 clear hrow hin hto hne hjunk
 go_enter Tryd.func62, Tryd.ntmps62
 go_wp2_with fail
 refine hS0.out.mono ?_
 rintro e w1 ⟨g, rfl, hS, hb1⟩
 replace hS := Lh hS
 replace hb1 := Lh hb1
 clear hS0
 have hgl : (l.length : Int) ≤ 32768 := by omega
 go_wp2_with fail
 go_loopw [8] (fun i wr => ∃ k : Nat, k ≤ l.length ∧ i = .int .i64 k ∧ Hid (((List.range l.length).take k).all (fromOk l) = true) ∧ Hid (Below w1.heap.size w1 wr)) (fun i _ => l.length - (intOf i).toNat)
 case atStart => exact ⟨0, Nat.zero_le _, rfl, Lh rfl, Lh (Below.refl _ _)⟩
 case round =>
  obtain ⟨k, hk, rfl, hall, hb⟩ := hrel
  have hbw := Lh (hb1.out.trans (hb.out.mono hb1.out.size))
  by_cases hlt : k < l.length
  · obtain ⟨x, hx⟩ : ∃ x, l[k]? = some x := ⟨_, List.getElem?_eq_getElem hlt⟩
    obtain ⟨b2, off2, ha, _, c0, c1, c2, c3⟩ := X4 (hR.out _ hbw.out) k x hx
    cases ha
    have hi0' : (0 : Int) ≤ (k : Int) := by omega
    have hi1 : (k : Int) < (l.length : Int) := by omega
    have hxm := List.mem_of_getElem? hx
    have hrk : (List.range l.length)[k]? = some k := by simp [hlt]
    have hno := Lh (fun h => all_no (f := fromOk l) hrk h)
    have hyes := Lh (Z4 (f := fromOk l) hrk)
    have hfk := Lh (fromOk_at hx)
    obtain ⟨fa, fcap, e0, ef, ho, hro⟩ := (hS.out.keep hb.out).get hlt
    have hEx := Lh (hE.out x.fm (Zt l k) x.fa fa x.fcap fcap _ (hF.out x _ hxm hbw.out) hro)
    clear hx hxm hrk ho hro hE
    cases hv : decide (x.fm = Zt l k)
    · rw [hv] at hEx
      have hfin := Lh (hno.out (by rw [hfk.out, hv]))
      clear hv hfk hno hyes hall
      go_wp2_with fail
      refine hEx.out.mono ?_
      rintro e w2 ⟨rfl, hb2⟩
      have g2 := Lh (hbw.out.trans (hb2.mono hbw.out.size))
      clear hb2
      go_wp2_with fail
      go_ret
      exact ⟨Qi (by rw [hw.out, hfo.out, hfin.out]; rfl), g2.out⟩
    · rw [hv] at hEx
      have hn2 : Hid (((List.range l.length).take (k + 1)).all (fromOk l) = true) := Lh (by rw [hyes.out, hall.out, hfk.out, hv]; rfl)
      clear hv hfk hno hyes hall
      go_wp2_with fail
      refine hEx.out.mono ?_
      rintro e w2 ⟨rfl, hb2⟩
      have g2 := Lh (hb.out.trans (hb2.mono hb.out.size))
      clear hb2
      go_wp2_with fail
      go_roundw
      case rel => exact ⟨k + 1, by omega, by go_num, hn2, g2⟩
      case measure => simp [intOf]; omega
  · have hk2 : k = l.length := by omega
    have hfos : Hid (fromsOk l = true) := Lh (by
     rw [hfo.out]
     have := hall.out
     rw [List.take_of_length_le (by simp; omega)] at this
     exact this)
    obtain ⟨x, hx⟩ : ∃ x, l[0]? = some x := ⟨_, List.getElem?_eq_getElem (by omega)⟩
    obtain ⟨b2, off2, ha, _, c0, c1, c2, c3⟩ := X4 (hR.out _ hbw.out) 0 x hx
    cases ha
    obtain ⟨cf1, cf2⟩ := Q2 (hF.out x _ (List.mem_of_getElem? hx) hbw.out)
    rw [Nat.zero_mul, Nat.add_zero] at c2
    have hfi := Lh (first_at hx)
    have hIx := Lh (hI.out _ hbw.out)
    have hpos0 : 0 < l.length := by omega
    clear hx hall hI c0 c1 c3
    by_cases h0 : x.fm.length = 0
    · have hfi2 : Hid (firstOk l = true) := Lh (by rw [hfi.out, h0]; rfl)
      rw [h0] at c2
      clear hfi h0
      generalize outP l = v at *
      go_wp2_with fail
      refine hIx.out.mono ?_
      rintro e w2 ⟨rfl, hb2⟩
      have g2 := Lh (hbw.out.trans (hb2.mono hbw.out.size))
      clear hb2
      go_wp2_with fail
      go_ret
      exact ⟨Qi (by rw [hw.out, hfos.out, hfi2.out]; simp), g2.out⟩
    · have hfi2 : Hid (firstOk l = false) := Lh (by rw [hfi.out]; simp [h0])
      have hne0 := ne_b (a := (x.fm.length : Int)) (b := 0) (by omega)
      clear hfi h0
      go_wp2_with fail
      go_ret
      exact ⟨Qi (by rw [hw.out, hfi2.out]; simp), hbw.out⟩
end Go.Proofs.YthiiahlgncngoaaDoorRR.Fw
namespace Go.Proofs.YthiiahlgncngoaaDoorRR.Fw
open Go Go.RowKit
open Go.Proofs.YthiiahlgncngoaaDoorRR.Lx Go.Proofs.YthiiahlgncngoaaDoorRR.Tr Go.Proofs.YthiiahlgncngoaaDoorRR.Cd Go.Proofs.YthiiahlgncngoaaDoorRR.Pa
/-- the Args of all instructions are of bounded length -/
def Shrt (l : List Bk) : Prop := ∀ b ∈ l, ∀ x ∈ b.code, x.args.length ≤ 1048576
theorem mayCodes_c (g : Gr) (w : World) (hg : Gr.In w g) (hT : OpTab w) (hs : Shrt g.blocks) :
 Calls Tryd.prog 64 #[.agg ⟨g.vals⟩] w fun e w' => e = .returned (.bool (codesP g.regs g.blocks)) ∧ Below w.heap.size w w' := by
 have hst := Lh (Qh w (.cells #[.string g.name, .bool g.thread, .int .i64 g.params, .int .i64 g.regs, .slice g.ba g.blocks.length g.bcap] 37))
 have hq := Lh (box5 w g)
 have hA := Lh (fun V => around_c g V)
 have hall := Lh (fun (bx : Nat) (V : World) (hb : Below w.heap.size w V) hcall => all1_c g (mayA g.regs) bx V (hg.keep hb) hcall)
 have hone := Lh (fun (b : Bk) (x : Ins) (a1 a2 a v : Option Addr) (cap bx : Nat) (V : World) (hb : b ∈ g.blocks) (hx : x ∈ b.code) (hv : Below w.heap.size w V) c0 c1 c2 hrow => codes1_c x g.regs a1 a2 a v cap bx V c0 c1 c2 hrow (hT.keep hv) (((hg.blocks b hb).code x hx).op) ((((hg.blocks b hb).keep hv).code x hx).row) (by have := hs b hb x hx; omega))
 have hcp : Hid (codesP g.regs g.blocks = g.blocks.all fun b => b.code.all (mayA g.regs)) := Lh rfl
 clear hg hT hs
 rw [hcp.out]
 clear hcp
 generalize hres : (g.blocks.all fun b => b.code.all (mayA g.regs)) = res at *
 clear hres
 have hgv : Value.agg ⟨g.vals⟩ = .agg #[.string g.name, .bool g.thread, .int .i64 g.params, .int .i64 g.regs, .slice g.ba g.blocks.length g.bcap] := rfl
 rw [hgv] at hall hA ⊢
 clear hgv
 go_enter Tryd.func64, Tryd.ntmps64
 go_upto_region 1 with fail
 generalize hW0 : w.alloc (.cells #[.string g.name, .bool g.thread, .int .i64 g.params, .int .i64 g.regs, .slice g.ba g.blocks.length g.bcap] 37) = W0 at *
 obtain ⟨q0, q1, q2, q3, q4⟩ := hq.out
 clear hW0 hq
 go_wp2_with fail
 refine (hA.out _).mono ?_
 rintro e w1 ⟨⟨a1, a2, a, v, cap, rfl, hrow⟩, hb1⟩
 have r0 := Qe hb1 q0
 have r1 := Qe hb1 q1
 have r2 := Qe hb1 q2
 have r3 := Qe hb1 q3
 have r4 := Qe hb1 q4
 have hwl : w.heap.size < w1.heap.size := World.block_lt_of_cell? _ _ r0
 have hbe := Lh (Qh w1 (.cells #[.slice a1 1 1, .slice a2 1 1, .slice v 10 cap] 26))
 have p0 := Zk w1 [.slice a1 1 1, .slice a2 1 1, .slice v 10 cap] 26 0 _ rfl
 have p1 := Zk w1 [.slice a1 1 1, .slice a2 1 1, .slice v 10 cap] 26 1 _ rfl
 have p2 := Zk w1 [.slice a1 1 1, .slice a2 1 1, .slice v 10 cap] 26 2 _ rfl
 have g1 := Lh (hst.out.trans (hb1.mono hst.out.size))
 have g2 := Lh (g1.out.trans (hbe.out.mono g1.out.size))
 have hc := hall.out w1.heap.size _ g2.out (fun b x V hb hx hv => hone.out b x a1 a2 a v cap w1.heap.size V hb hx (g2.out.trans (hv.mono g2.out.size)) (Qe hv p0) (Qe hv p1) (Qe hv p2) (hrow.below (Kps.of_below (hbe.out.trans (hv.mono hbe.out.size)))))
 replace hc := Lh hc
 clear hall hone hA hrow q0 q1 q2 q3 q4 hb1
 replace p0 := Lh p0
 replace p1 := Lh p1
 replace p2 := Lh p2
 go_wp2_with fail
 refine hc.out.mono ?_
 rintro e w2 ⟨rfl, hb2⟩
 have g3 := Lh (g2.out.trans (hb2.mono g2.out.size))
 clear hb2 hc
 go_wp2_with fail
 go_ret
 exact ⟨rfl, g3.out⟩
theorem head_parts {g : Gr} (h : headG g = true) : 1 ≤ g.blocks.length ∧ g.blocks.length ≤ 32768 := by
 unfold headG at h
 simp only [Bool.and_eq_true, decide_eq_true_eq] at h
 exact ⟨h.2.2.2.2.1, h.2.2.2.2.2⟩
theorem ends_to {l : List Bk} {n : Nat} (h : l.all (endsB n) = true) : ∀ b ∈ l, ∀ t ∈ b.tt, 0 ≤ t ∧ t < n := by
 intro b hb t ht
 have := List.all_eq_true.1 h b hb
 unfold endsB at this
 simp only [Bool.and_eq_true] at this
 have h2 := List.all_eq_true.1 this.2.1 t ht
 simpa [inP] using h2
theorem ends_ne {l : List Bk} {n : Nat} (h : l.all (endsB n) = true) : ∀ b ∈ l, b.code.length = 0 → 0 < b.tt.length := by
 intro b hb h0
 have := List.all_eq_true.1 h b hb
 unfold endsB at this
 simp only [Bool.and_eq_true, decide_eq_true_eq] at this
 have h1 := this.1
 rw [List.eq_nil_of_length_eq_zero h0] at h1
 have : opCount (Zv []) = 1 := rfl
 omega
theorem may_c (g : Gr) (w : World) (hg : Gr.In w g) (hT : OpTab w) (hs : Shrt g.blocks) :
 Calls Tryd.prog 36 #[.agg ⟨g.vals⟩] w fun e w' => e = .returned (.bool (mayG g)) ∧ Below w.heap.size w w' := by
 have hst := Lh (Qh w (.cells #[.string g.name, .bool g.thread, .int .i64 g.params, .int .i64 g.regs, .slice g.ba g.blocks.length g.bcap] 37))
 have hq := Lh (box5 w g)
 have h1 := Lh (fun V => mayHead_c g V)
 have h2 := Lh (fun V (hb : Below w.heap.size w V) => mayEnds_c g.blocks g.ba g.bcap V ((hg.keep hb).row) ((hg.keep hb).blocks))
 have h3 := Lh (fun (a : headG g = true) (b : g.blocks.all (endsB g.blocks.length) = true) V (hb : Below w.heap.size w V) => mayWays_c g.blocks g.ba g.bcap V ((hg.keep hb).row) ((hg.keep hb).blocks) (ends_to b) (ends_ne b) (head_parts a).2 (head_parts a).1)
 have h4 := Lh (fun V (hb : Below w.heap.size w V) => mayPhis_c g V (hg.keep hb))
 have h5 := Lh (fun V (hb : Below w.heap.size w V) => mayCodes_c g V (hg.keep hb) (hT.keep hb) hs)
 have hm : Hid (mayG g = (headG g && (g.blocks.all (endsB g.blocks.length) && (waysP g.blocks && (phisF g.regs 0 g.blocks && codesP g.regs g.blocks))))) := Lh rfl
 rw [hm.out]
 clear hg hT hs hm
 generalize headG g = v1 at *
 generalize g.blocks.all (endsB g.blocks.length) = v2 at *
 generalize waysP g.blocks = v3 at *
 generalize phisF g.regs 0 g.blocks = v4 at *
 generalize codesP g.regs g.blocks = v5 at *
 have hgv : Value.agg ⟨g.vals⟩ = .agg #[.string g.name, .bool g.thread, .int .i64 g.params, .int .i64 g.regs, .slice g.ba g.blocks.length g.bcap] := rfl
 rw [hgv] at h1 h4 h5 ⊢
 clear hgv
 go_enter Tryd.func36, Tryd.ntmps36
 go_upto_region 1 with fail
 generalize hW0 : w.alloc (.cells #[.string g.name, .bool g.thread, .int .i64 g.params, .int .i64 g.regs, .slice g.ba g.blocks.length g.bcap] 37) = W0 at *
 have hcell : Hid (∀ V, Below W0.heap.size W0 V → Below w.heap.size w V ∧ V.cell? ⟨w.heap.size, 0, none⟩ = some (.string g.name) ∧ V.cell? ⟨w.heap.size, 1, none⟩ = some (.bool g.thread) ∧ V.cell? ⟨w.heap.size, 2, none⟩ = some (.int .i64 g.params) ∧ V.cell? ⟨w.heap.size, 3, none⟩ = some (.int .i64 g.regs) ∧ V.cell? ⟨w.heap.size, 4, none⟩ = some (.slice g.ba g.blocks.length g.bcap)) := Lh (fun V hv => by
  obtain ⟨q0, q1, q2, q3, q4⟩ := hq.out
  exact ⟨hst.out.trans (hv.mono hst.out.size), Qe hv q0, Qe hv q1, Qe hv q2, Qe hv q3, Qe hv q4⟩)
 clear hW0 hq hst
 obtain ⟨k0, q0, q1, q2, q3, q4⟩ := hcell.out W0 (Below.refl _ _)
 replace k0 := Lh k0
 cases v1
 · go_wp2_with fail
   refine (h1.out _).mono ?_
   rintro e w1 ⟨rfl, hb1⟩
   have k1 := Lh (hcell.out w1 hb1).1
   clear hb1 hcell h2 h3 h4 h5
   go_wp2_with fail
   go_ret
   exact ⟨rfl, k1.out⟩
 · go_wp2_with fail
   refine (h1.out _).mono ?_
   rintro e w1 ⟨rfl, hb1⟩
   clear q0 q1 q2 q3 q4
   obtain ⟨k1, q0, q1, q2, q3, q4⟩ := hcell.out w1 hb1
   replace k1 := Lh k1
   replace hb1 := Lh hb1
   cases v2
   · go_wp2_with fail
     refine (h2.out _ k1.out).mono ?_
     rintro e w2 ⟨rfl, hb2⟩
     have k2 := Lh (hcell.out w2 (hb1.out.trans (hb2.mono hb1.out.size))).1
     clear hb2 hcell h3 h4 h5
     go_wp2_with fail
     go_ret
     exact ⟨rfl, k2.out⟩
   · go_wp2_with fail
     refine (h2.out _ k1.out).mono ?_
     rintro e w2 ⟨rfl, hb2⟩
     replace hb2 := hb1.out.trans (hb2.mono hb1.out.size)
     clear q0 q1 q2 q3 q4
     obtain ⟨k2, q0, q1, q2, q3, q4⟩ := hcell.out w2 hb2
     replace k2 := Lh k2
     replace hb2 := Lh hb2
     cases v3
     · go_wp2_with fail
       refine (h3.out (by simp) (by simp) _ k2.out).mono ?_
       rintro e w3 ⟨rfl, hb3⟩
       have k3 := Lh (hcell.out w3 (hb2.out.trans (hb3.mono hb2.out.size))).1
       clear hb3 hcell h4 h5
       go_wp2_with fail
       go_ret
       exact ⟨rfl, k3.out⟩
     · go_wp2_with fail
       refine (h3.out (by simp) (by simp) _ k2.out).mono ?_
       rintro e w3 ⟨rfl, hb3⟩
       replace hb3 := hb2.out.trans (hb3.mono hb2.out.size)
       clear q0 q1 q2 q3 q4
       obtain ⟨k3, q0, q1, q2, q3, q4⟩ := hcell.out w3 hb3
       replace k3 := Lh k3
       replace hb3 := Lh hb3
       cases v4
       · go_wp2_with fail
         refine (h4.out _ k3.out).mono ?_
         rintro e w4 ⟨rfl, hb4⟩
         have k4 := Lh (hcell.out w4 (hb3.out.trans (hb4.mono hb3.out.size))).1
         clear hb4 hcell h5
         go_wp2_with fail
         go_ret
         exact ⟨rfl, k4.out⟩
       · go_wp2_with fail
         refine (h4.out _ k3.out).mono ?_
         rintro e w4 ⟨rfl, hb4⟩
         replace hb4 := hb3.out.trans (hb4.mono hb3.out.size)
         clear q0 q1 q2 q3 q4
         obtain ⟨k4, q0, q1, q2, q3, q4⟩ := hcell.out w4 hb4
         replace k4 := Lh k4
         replace hb4 := Lh hb4
         go_wp2_with fail
         refine (h5.out _ k4.out).mono ?_
         rintro e w5 ⟨rfl, hb5⟩
         have k5 := Lh (hcell.out w5 (hb4.out.trans (hb5.mono hb4.out.size))).1
         clear hb5 hcell
         go_wp2_with fail
         go_ret
         exact ⟨rfl, k5.out⟩
end Go.Proofs.YthiiahlgncngoaaDoorRR.Fw
namespace Go.Proofs.YthiiahlgncngoaaDoorRR.Fw
open Go Go.RowKit
open Go.Proofs.YthiiahlgncngoaaDoorRR.Lx Go.Proofs.YthiiahlgncngoaaDoorRR.Tr Go.Proofs.YthiiahlgncngoaaDoorRR.Cd
structure Fsm (f : Fm) : Prop where
 sum : f.mems.length + f.locks.length + f.funs.length ≤ 1048576
 args : ∀ g ∈ f.funs, Shrt g.blocks
end Go.Proofs.YthiiahlgncngoaaDoorRR.Fw
