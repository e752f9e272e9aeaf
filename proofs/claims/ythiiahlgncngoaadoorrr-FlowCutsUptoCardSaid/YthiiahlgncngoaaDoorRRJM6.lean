/- Copies of lists that share nothing with them. Conditions: the lists are of bounded length. -/
import Derived.Test.YthiiahlgncngoaaDoorRRJM4
import Derived.Test.YthiiahlgncngoaaDoorRRJCgC
set_option maxHeartbeats 16000000
set_option maxRecDepth 100000
namespace Go.Proofs.YthiiahlgncngoaaDoorRR.Fw
open Go Go.RowKit
open Go.Proofs.YthiiahlgncngoaaDoorRR.Lx Go.Proofs.YthiiahlgncngoaaDoorRR.Tr Go.Proofs.YthiiahlgncngoaaDoorRR.Cd
theorem X8 {P : Program} (w : World) {ops : Array Oper} {rest : List Oper} {o : Oper} {a : Act} {Q : Exit → Act → World → Prop} (hgd : o.guard = none) (s x : Operand) (t : TypeId)
 (ho : o.op = .call { callee := .builtin .append, args := #[s, x], argTypes := #[t, t] })
 (B : Nat) (e : TypeId) (i : TypeInfo) (z : Value) (size bytes : Nat) (ht : P.underlying t = some (.slice e)) (hi : P.info? e = some i) (hz : i.zero = some z) (hsize : i.size = size) (hby : i.bytes = bytes) (hzs : z.cells.size = size) (hsz : 0 < size)
 (v : Value) (n : Nat) (xs : List Value) (hs : a.eval s = v) (hown : w.ownsRow B e size v n xs) (ad : Option Addr) (cap m : Nat) (news : List Value) (hl : news.length = m * size) (hx : a.eval x = .slice ad m cap) (hrow : RowAt w Tt ad cap m news) (h1 : ∀ u ∈ news, u.oneCell' = true)
 (h63 : n + m ≤ maxLen) (hbytes : (n + m) * bytes ≤ 140737488355328) (hB : B ≤ w.heap.size)
 (h : ∀ v' w', w'.ownsRow B e size v' (n + m) (xs ++ news) → w.grownBy w' v.ownBlock → (v'.ownBlock = v.ownBlock ∨ v'.ownBlock = some w.heap.size) → wpList P ops Q rest (a.put o.dst v') w') :
 wpList P ops Q (o :: rest) a w := by
 cases ad with
 | none =>
   have hz : cap = 0 := hrow.nil rfl
   have hle := hrow.le
   have hm : m = 0 := by omega
   subst hm
   have hn : news = [] := List.eq_nil_of_length_eq_zero (by simpa using hl)
   subst hn hz
   refine wpList_plain hgd fun K' hK' => ?_
   have hr := run_append_owned_none (P := P) (w := w) B t o.type e i size ht hi v n xs hown
   unfold Oper.wp
   simp [execOp, ho, resolve, invoke, builtin, hs, hx, hr, Result.andThen]
   exact hK' _ _ (h v w (by simpa using hown) ⟨rfl, rfl, rfl, Nat.le_refl _, fun _ _ _ => rfl⟩ (.inl rfl))
 | some ad =>
   refine wpList_append_own_at w hgd s x t ho B e i z size bytes ht hi hz hsize hby hzs hsz v n xs hs hown ad m cap news hx hl (fun j u hj => ?_) h1 h63 hbytes hB (fun v' w' r1 r2 _ r3 => h v' w' r1 r2 r3)
   obtain ⟨b', off, ha, _, hc⟩ := hrow.at_ j u hj
   cases ha
   rw [Go.WideShapes.add_plain]; exact hc
theorem flat_lenM {α : Type} (f : α → List Value) (c : Nat) (hc : ∀ x, (f x).length = c) : ∀ l : List α, (l.flatMap f).length = l.length * c
 | [] => by simp
 | e :: r => by
   rw [List.flatMap_cons, List.length_append, hc, flat_lenM f c hc r, List.length_cons, Nat.succ_mul, Nat.add_comm]
theorem below_grown {w w' : World} (h : w.grownBy w' none) : Below w.heap.size w w' := ⟨h.os, h.tape, h.output, h.size, fun i hi => h.block i hi (fun e => by cases e)⟩
theorem in_one (l : List Ins) : ∀ u ∈ Q8 l, u.oneCell' = true := fun u hu => by
 unfold Q8 at hu
 obtain ⟨x, _, hx⟩ := List.mem_flatMap.1 hu
 unfold Ins.vals at hx
 simp only [List.mem_cons, List.not_mem_nil, or_false] at hx
 rcases hx with rfl | rfl | rfl | rfl | rfl | rfl <;> rfl
theorem mm_one (l : List Mm) : ∀ u ∈ mmCells l, u.oneCell' = true := fun u hu => by
 unfold mmCells at hu
 obtain ⟨x, _, hx⟩ := List.mem_flatMap.1 hu
 unfold Mm.vals at hx
 simp only [List.mem_cons, List.not_mem_nil, or_false] at hx
 rcases hx with rfl | rfl | rfl <;> rfl
theorem info_ins6 : ∃ i z, Tryd.prog.info? 44 = some i ∧ i.zero = some z ∧ i.size = 6 ∧ i.bytes = 64 ∧ z.cells.size = 6 := ⟨_, _, rfl, rfl, rfl, rfl, rfl⟩
theorem info_mm3 : ∃ i z, Tryd.prog.info? 57 = some i ∧ i.zero = some z ∧ i.size = 3 ∧ i.bytes = 32 ∧ z.cells.size = 3 := ⟨_, _, rfl, rfl, rfl, rfl, rfl⟩
theorem info_int1 : ∃ i z, Tryd.prog.info? 3 = some i ∧ i.zero = some z ∧ i.size = 1 ∧ i.bytes = 8 ∧ z.cells.size = 1 := ⟨_, _, rfl, rfl, rfl, rfl, rfl⟩
theorem info_str1 : ∃ i z, Tryd.prog.info? 9 = some i ∧ i.zero = some z ∧ i.size = 1 ∧ i.bytes = 16 ∧ z.cells.size = 1 := ⟨_, _, rfl, rfl, rfl, rfl, rfl⟩
theorem ownIns_c (a : Option Addr) (cap : Nat) (l : List Ins) (w : World) (hrow : RowAt w Tt a cap l.length (Q8 l)) (hl : l.length ≤ 1099511627776) :
 Calls Tryd.prog 102 #[.slice a l.length cap] w fun e w' => ∃ v, e = .returned v ∧ w'.ownsRow w.heap.size 44 6 v l.length (Q8 l) ∧ Below w.heap.size w w' := by
 obtain ⟨i0, z0, hi0, hz0, hz1, hz2, hz3⟩ := info_ins6
 go_enter Tryd.func102, Tryd.ntmps102
 go_wp2_with (at_builtin; refine X8 _ rfl _ _ 39 rfl w.heap.size 44 i0 z0 6 64 Tryd.underlying39 hi0 hz0 hz1 hz2 hz3 (by decide) _ _ _ rfl (World.ownsRow_nil _ _ _ _) a cap l.length (Q8 l) (flat_lenM Ins.vals 6 Ins.vals_len l) rfl hrow (in_one l) (by unfold maxLen; omega) (by omega) (Nat.le_refl _) ?_; intro v1 w1 hown1 hgr1 _)
 rw [Nat.zero_add, List.nil_append] at hown1
 have hb := below_grown hgr1
 clear hgr1
 go_wp2_with fail
 go_ret
 exact ⟨_, rfl, hown1, hb⟩
theorem ownMem_c (a : Option Addr) (cap : Nat) (l : List Mm) (w : World) (hrow : RowAt w Tt a cap l.length (mmCells l)) (hl : l.length ≤ 1099511627776) :
 Calls Tryd.prog 19 #[.slice a l.length cap] w fun e w' => ∃ v, e = .returned v ∧ w'.ownsRow w.heap.size 57 3 v l.length (mmCells l) ∧ Below w.heap.size w w' := by
 obtain ⟨i0, z0, hi0, hz0, hz1, hz2, hz3⟩ := info_mm3
 go_enter Tryd.func19, Tryd.ntmps19
 go_wp2_with (at_builtin; refine X8 _ rfl _ _ 22 rfl w.heap.size 57 i0 z0 3 32 Tryd.underlying22 hi0 hz0 hz1 hz2 hz3 (by decide) _ _ _ rfl (World.ownsRow_nil _ _ _ _) a cap l.length (mmCells l) (flat_lenM Mm.vals 3 Mm.vals_len l) rfl hrow (mm_one l) (by unfold maxLen; omega) (by omega) (Nat.le_refl _) ?_; intro v1 w1 hown1 hgr1 _)
 rw [Nat.zero_add, List.nil_append] at hown1
 have hb := below_grown hgr1
 clear hgr1
 go_wp2_with fail
 go_ret
 exact ⟨_, rfl, hown1, hb⟩
theorem ownInt_c (a : Option Addr) (cap : Nat) (l : List Int) (w : World) (hrow : RowAt w Tt a cap l.length (Qc l)) (hl : l.length ≤ 1099511627776) :
 Calls Tryd.prog 103 #[.slice a l.length cap] w fun e w' => ∃ v, e = .returned v ∧ w'.ownsRow w.heap.size 3 1 v l.length (Qc l) ∧ Below w.heap.size w w' := by
 obtain ⟨i0, z0, hi0, hz0, hz1, hz2, hz3⟩ := info_int1
 go_enter Tryd.func103, Tryd.ntmps103
 go_wp2_with (at_builtin; refine X8 _ rfl _ _ 40 rfl w.heap.size 3 i0 z0 1 8 Tryd.underlying40 hi0 hz0 hz1 hz2 hz3 (by decide) _ _ _ rfl (World.ownsRow_nil _ _ _ _) a cap l.length (Qc l) (by simp [Qc]) rfl hrow (num_one l) (by unfold maxLen; omega) (by omega) (Nat.le_refl _) ?_; intro v1 w1 hown1 hgr1 _)
 rw [Nat.zero_add, List.nil_append] at hown1
 have hb := below_grown hgr1
 clear hgr1
 go_wp2_with fail
 go_ret
 exact ⟨_, rfl, hown1, hb⟩
theorem ownStr_c (a : Option Addr) (cap : Nat) (l : List ByteArray) (w : World) (hrow : RowAt w Tt a cap l.length (Ze l)) (hl : l.length ≤ 1099511627776) :
 Calls Tryd.prog 20 #[.slice a l.length cap] w fun e w' => ∃ v, e = .returned v ∧ w'.ownsRow w.heap.size 9 1 v l.length (Ze l) ∧ Below w.heap.size w w' := by
 obtain ⟨i0, z0, hi0, hz0, hz1, hz2, hz3⟩ := info_str1
 go_enter Tryd.func20, Tryd.ntmps20
 go_wp2_with (at_builtin; refine X8 _ rfl _ _ 23 rfl w.heap.size 9 i0 z0 1 16 Tryd.underlying23 hi0 hz0 hz1 hz2 hz3 (by decide) _ _ _ rfl (World.ownsRow_nil _ _ _ _) a cap l.length (Ze l) (by simp [Ze]) rfl hrow (str_one l) (by unfold maxLen; omega) (by omega) (Nat.le_refl _) ?_; intro v1 w1 hown1 hgr1 _)
 rw [Nat.zero_add, List.nil_append] at hown1
 have hb := below_grown hgr1
 clear hgr1
 go_wp2_with fail
 go_ret
 exact ⟨_, rfl, hown1, hb⟩
/-- the blocks to which one goes behind an instruction -/
def goL (i : Ins) (next : Int) (bl : List Int) : List Int := (if i.op = 11 ∨ i.op = 13 then [] else [next]) ++ (if (glP i).2 = true then [bl.getD (glP i).1.toNat 0] else [])
theorem num_snoc (l : List Int) (x : Int) : Qc (l ++ [x]) = Qc l ++ [.int .i64 x] := by unfold Qc; rw [List.map_append]; rfl
theorem b_grown2 {B : Nat} {w W w3 : World} {o : Obj} (h : Below B w W) (hg : (W.alloc o).grownBy w3 (Value.slice none 0 0).ownBlock) (hB : B ≤ W.heap.size := by (first | exact Nat.le_refl _ | (have := Below.size (by assumption); omega))) : Below B w w3 :=
 (h.alloc hB o).grown hg (by simp; omega) (fun q e => by cases e)
theorem goals_c (i : Ins) (next : Int) (bl : List Int) (ba : Option Addr) (bcap : Nat) (w : World) (hi : U8 i.op) (hT : OpTab w) (hrow : RowAt w Tt ba bcap bl.length (Qc bl)) (hg : (glP i).2 = true → 0 ≤ (glP i).1 ∧ (glP i).1 < (bl.length : Int)) :
 Calls Tryd.prog 86 #[.agg ⟨i.vals⟩, .int .i64 next, .slice ba bl.length bcap] w fun e w' => ∃ v, e = .returned v ∧ w'.ownsRow w.heap.size 3 1 v (goL i next bl).length (Qc (goL i next bl)) ∧ Below w.heap.size w w' := by
 obtain ⟨hc1, hc2⟩ := Q2 hrow
 obtain ⟨i0, z0, hi0, hz0, hz1, hz2, hz3⟩ := info_int1
 generalize hL0 : goL i next bl = L
 unfold goL at hL0
 have hst := Lh (Qh w (.cells #[.int .u8 i.op, .int .i64 i.r, .int .i64 i.a, .int .i64 i.b, .int .i64 i.n, .slice i.aa i.args.length i.acap] 44))
 have hq := Lh (box6 w i)
 have hG := Lh (fun V (hv : Below w.heap.size w V) => goal_any i V hi (hT.keep hv))
 have hR := Lh (fun V (hv : Below w.heap.size w V) => hrow.below (Kps.of_below hv))
 obtain ⟨op, r, xa, xb, n, aa, acap, args⟩ := i
 unfold Ins.val at hG
 unfold Ins.vals
 simp only at *
 have hgp : Hid ((op = 11 → (glP ⟨op, r, xa, xb, n, aa, acap, args⟩).2 = true) ∧ (op = 13 → (glP ⟨op, r, xa, xb, n, aa, acap, args⟩).2 = false)) := Lh ⟨fun h => by subst h; rfl, fun h => by subst h; rfl⟩
 generalize glP ⟨op, r, xa, xb, n, aa, acap, args⟩ = gp at *
 obtain ⟨g1, g2⟩ := gp
 simp only at *
 clear hT hi
 replace hg := Lh hg
 have hL : Hid ((op = 11 → L = [bl.getD g1.toNat 0]) ∧ (op = 13 → L = []) ∧ (¬ op = 11 → ¬ op = 13 → L = [next] ++ if g2 = true then [bl.getD g1.toNat 0] else [])) := Lh ⟨fun h => by subst h; rw [← hL0, if_pos (Or.inl rfl), if_pos (hgp.out.1 rfl)]; rfl, fun h => by subst h; rw [← hL0, if_pos (Or.inr rfl), if_neg (by rw [hgp.out.2 rfl]; simp)]; rfl, fun h1 h2 => by rw [← hL0, if_neg (by omega)]⟩
 clear hL0
 go_enter Tryd.func86, Tryd.ntmps86
 go_upto_region 1 with fail
 generalize hW0 : w.alloc (.cells #[.int .u8 op, .int .i64 r, .int .i64 xa, .int .i64 xb, .int .i64 n, .slice aa args.length acap] 44) = W0 at *
 obtain ⟨q0, q1, q2, q3, q4, q5⟩ := hq.out
 have hlw : w.heap.size < W0.heap.size := World.block_lt_of_cell? _ _ q0
 clear hW0 hq
 by_cases h11 : op = 11
 · subst h11
   have hb2 : g2 = true := hgp.out.1 rfl
   subst hb2
   obtain ⟨r1, r2⟩ := hg.out rfl
   obtain ⟨y, hy⟩ : ∃ y, bl[g1.toNat]? = some y := ⟨_, List.getElem?_eq_getElem (by omega)⟩
   have hLf : Hid (L = [y]) := Lh (by rw [hL.out.1 rfl, List.getD_eq_getElem?_getD, hy]; rfl)
   obtain ⟨b, off, ha, _, hc⟩ := Xa hrow g1.toNat y hy
   have hbl : b < w.heap.size := World.block_lt_of_cell? _ _ hc
   subst ha
   clear hgp hg hL hy hR hrow
   go_wp2_with fail
   refine (hG.out _ hst.out).mono ?_
   rintro e w1 ⟨rfl, hb1⟩
   have hbw := Lh (hst.out.trans (hb1.mono hst.out.size))
   obtain ⟨hcl, hfr⟩ := Q1 hbw.out
   have hc' := (hcl b (off + g1.toNat) hbl).trans hc
   clear hcl hfr hc
   go_wp2_with (at_builtin; refine wpList_append_own_at _ rfl _ _ 40 rfl w.heap.size 3 i0 _ 1 8 Tryd.underlying40 hi0 hz0 hz1 hz2 hz3 (by decide) _ _ _ rfl (World.ownsRow_nil _ _ _ _) _ 1 1 [.int .i64 y] rfl rfl (Xy _ _ _ _ (by first | rfl | simp)) (by simp [Value.oneCell']) ?c1 ?c2 ?c3 ?_)
   case c1 => unfold maxLen; omega
   case c2 => omega
   case c3 => have := hbw.out.size; simp; omega
   intro v' w3 hown3 hg3 _ _
   have hbz := Lh (b_grown2 hbw.out hg3)
   clear hg3 hb1 hbw
   go_wp2_with fail
   go_ret
   exact ⟨_, rfl, by rw [hLf.out]; exact hown3, hbz.out⟩
 · by_cases h13 : op = 13
   · subst h13
     have hb2 : g2 = false := hgp.out.2 rfl
     subst hb2
     have hLf : Hid (L = []) := Lh (hL.out.2.1 rfl)
     clear h11 hgp hL hR hrow hg
     go_wp2_with fail
     refine (hG.out _ hst.out).mono ?_
     rintro e w1 ⟨rfl, hb1⟩
     go_wp2_with fail
     go_ret
     exact ⟨_, rfl, by rw [hLf.out]; exact World.ownsRow_nil _ _ _ _, hst.out.trans (hb1.mono hst.out.size)⟩
   · have hLf0 := Lh (hL.out.2.2 h11 h13)
     have e1 : (op != 11) = true := by simp [h11]
     have e3 : (op != 13) = true := by simp [h13]
     clear h11 h13 hL hgp
     cases g2
     · have hLf : Hid (L = [next]) := Lh (by rw [hLf0.out]; rfl)
       clear hLf0 hg hR hrow
       go_wp2_with (at_builtin; refine wpList_append_own_at _ rfl _ _ 40 rfl w.heap.size 3 i0 _ 1 8 Tryd.underlying40 hi0 hz0 hz1 hz2 hz3 (by decide) _ _ _ rfl (World.ownsRow_nil _ _ _ _) _ 1 1 [.int .i64 next] rfl rfl (Xy _ _ _ _ (by first | rfl | simp)) (by simp [Value.oneCell']) ?c1 ?c2 ?c3 ?_)
       case c1 => unfold maxLen; omega
       case c2 => omega
       case c3 => simp; omega
       intro v' w3 hown3 hg3 _ _
       have hb3 := Lh (b_grown2 (Below.refl W0.heap.size W0) hg3)
       have hb0 := Lh (hst.out.trans (hb3.out.mono hst.out.size))
       obtain ⟨hcl, hfr⟩ := Q1 hb3.out
       have s0 := (hcl w.heap.size 0 hlw).trans q0
       have s1 := (hcl w.heap.size 1 hlw).trans q1
       have s2 := (hcl w.heap.size 2 hlw).trans q2
       have s3 := (hcl w.heap.size 3 hlw).trans q3
       have s4 := (hcl w.heap.size 4 hlw).trans q4
       have s5 := (hcl w.heap.size 5 hlw).trans q5
       clear hcl hfr q0 q1 q2 q3 q4 q5 hg3 hb3
       go_wp2_with fail
       refine (hG.out _ hb0.out).mono ?_
       rintro e w1 ⟨rfl, hb1⟩
       go_wp2_with fail
       go_ret
       exact ⟨_, rfl, by rw [hLf.out]; exact Qn hown3 hb1, hb0.out.trans (hb1.mono hb0.out.size)⟩
     · obtain ⟨r1, r2⟩ := hg.out rfl
       obtain ⟨y, hy⟩ : ∃ y, bl[g1.toNat]? = some y := ⟨_, List.getElem?_eq_getElem (by omega)⟩
       have hLf : Hid (L = [next, y]) := Lh (by rw [hLf0.out, if_pos rfl, List.getD_eq_getElem?_getD, hy]; rfl)
       obtain ⟨b, off, ha, _, hc⟩ := Xa hrow g1.toNat y hy
       have hbl : b < w.heap.size := World.block_lt_of_cell? _ _ hc
       subst ha
       clear hLf0 hg hR hrow hy
       go_wp2_with (at_builtin; refine wpList_append_own_at _ rfl _ _ 40 rfl w.heap.size 3 i0 _ 1 8 Tryd.underlying40 hi0 hz0 hz1 hz2 hz3 (by decide) _ _ _ rfl (World.ownsRow_nil _ _ _ _) _ 1 1 [.int .i64 next] rfl rfl (Xy _ _ _ _ (by first | rfl | simp)) (by simp [Value.oneCell']) ?c1 ?c2 ?c3 ?_)
       case c1 => unfold maxLen; omega
       case c2 => omega
       case c3 => simp; omega
       intro v' w3 hown3 hg3 _ _
       have hb3 := Lh (b_grown2 (Below.refl W0.heap.size W0) hg3)
       have hb0 := Lh (hst.out.trans (hb3.out.mono hst.out.size))
       obtain ⟨hcl, hfr⟩ := Q1 hb3.out
       have s0 := (hcl w.heap.size 0 hlw).trans q0
       have s1 := (hcl w.heap.size 1 hlw).trans q1
       have s2 := (hcl w.heap.size 2 hlw).trans q2
       have s3 := (hcl w.heap.size 3 hlw).trans q3
       have s4 := (hcl w.heap.size 4 hlw).trans q4
       have s5 := (hcl w.heap.size 5 hlw).trans q5
       clear hcl hfr q0 q1 q2 q3 q4 q5 hg3 hb3
       go_wp2_with fail
       refine (hG.out _ hb0.out).mono ?_
       rintro e w1 ⟨rfl, hb1⟩
       have hbw := Lh (hb0.out.trans (hb1.mono hb0.out.size))
       obtain ⟨hcl, hfr⟩ := Q1 hbw.out
       have hc' := (hcl b (off + g1.toNat) hbl).trans hc
       have hown4 := Lh (Qn hown3 hb1)
       clear hcl hfr hc hown3 s0 s1 s2 s3 s4 s5 hb1
       go_wp2_with (at_builtin; refine wpList_append_own_at _ rfl _ _ 40 rfl w.heap.size 3 i0 _ 1 8 Tryd.underlying40 hi0 hz0 hz1 hz2 hz3 (by decide) _ _ _ rfl (Qn hown4.out (Qh _ _)) _ 1 1 [.int .i64 y] rfl rfl (Xy _ _ _ _ (by first | rfl | simp)) (by simp [Value.oneCell']) ?c1 ?c2 ?c3 ?_)
       case c1 => unfold maxLen; omega
       case c2 => omega
       case c3 => have := hbw.out.size; simp; omega
       intro v'' w5 hown5 hg5 _ _
       have hbz := Lh ((hbw.out.alloc (by have := hbw.out.size; omega) _).grown hg5 (by have := hbw.out.size; simp; omega) (fun q e => (hown4.out.lt q e).1))
       clear hg5 hbw
       go_wp2_with fail
       go_ret
       exact ⟨_, rfl, by rw [hLf.out]; exact hown5, hbz.out⟩
/-- a row of instructions in a block of the call's own -/
structure OwnI (B g cap : Nat) (l : List Ins) (W : World) : Prop where
 hB : B ≤ g
 ex : ∃ cur : Array Value, W.heap[g]? = some (.cells cur 44 (0, 0)) ∧ l.length ≤ cap ∧ cap ≤ maxLen ∧ cur.size = cap * 6 ∧ cur.toList.take (l.length * 6) = Q8 l
theorem in_len (l : List Ins) : (Q8 l).length = l.length * 6 := flat_lenM Ins.vals 6 Ins.vals_len l
theorem OwnI.of {B : Nat} {l : List Ins} {W : World} {v : Value} (h : W.ownsRow B 44 6 v l.length (Q8 l)) : (v = .slice none 0 0 ∧ l = []) ∨ ∃ g cap, v = .slice (some ⟨g, 0, none⟩) l.length cap ∧ OwnI B g cap l W := by
 rcases h.2 with ⟨rfl, h0⟩ | ⟨g, cap, cur, rfl, hB, hg, h1, h2, h3, h4⟩
 · exact .inl ⟨rfl, List.eq_nil_of_length_eq_zero h0⟩
 · exact .inr ⟨g, cap, rfl, hB, cur, hg, h1, h2, h3, h4⟩
theorem OwnI.to {B g cap : Nat} {l : List Ins} {W : World} (h : OwnI B g cap l W) : W.ownsRow B 44 6 (.slice (some ⟨g, 0, none⟩) l.length cap) l.length (Q8 l) := by
 obtain ⟨hB, cur, hg, h1, h2, h3, h4⟩ := h
 exact ⟨in_len l, .inr ⟨g, cap, cur, rfl, hB, hg, h1, h2, h3, h4⟩⟩
theorem OwnI.keep {B g cap : Nat} {l : List Ins} {W W' : World} (h : OwnI B g cap l W) (hb : Below W.heap.size W W') : OwnI B g cap l W' := by
 obtain ⟨hB, cur, hg, h1⟩ := h
 exact ⟨hB, cur, (hb.block g (Array.getElem?_eq_some_iff.1 hg).1).trans hg, h1⟩
theorem OwnI.lt {B g cap : Nat} {l : List Ins} {W : World} (h : OwnI B g cap l W) : g < W.heap.size := by
 obtain ⟨hB, cur, hg, h1⟩ := h
 exact (Array.getElem?_eq_some_iff.1 hg).1
theorem OwnI.row {B g cap : Nat} {l : List Ins} {W : World} (h : OwnI B g cap l W) : RowAt W (fun b => B ≤ b) (some ⟨g, 0, none⟩) cap l.length (Q8 l) := by
 obtain ⟨hB, cur, hg, h1, h2, h3, h4⟩ := h
 refine ⟨h1, h2, fun e => (by cases e), fun j u hu => ⟨g, 0, rfl, hB, ?_⟩⟩
 have hj : j < l.length * 6 := by rw [← in_len]; exact (List.getElem?_eq_some_iff.1 hu).1
 rw [← h4, List.getElem?_take, if_pos hj] at hu
 rw [Nat.zero_add]
 exact Qk hg (by simpa using hu)
theorem OwnI.get {B g cap : Nat} {l : List Ins} {W : World} (h : OwnI B g cap l W) {k : Nat} {x : Ins} (hx : l[k]? = some x) :
 W.cell? ⟨g, k * 6, none⟩ = some (.int .u8 x.op) ∧ W.cell? ⟨g, k * 6 + 1, none⟩ = some (.int .i64 x.r) ∧ W.cell? ⟨g, k * 6 + 2, none⟩ = some (.int .i64 x.a) ∧ W.cell? ⟨g, k * 6 + 3, none⟩ = some (.int .i64 x.b) ∧ W.cell? ⟨g, k * 6 + 4, none⟩ = some (.int .i64 x.n) ∧ W.cell? ⟨g, k * 6 + 5, none⟩ = some (.slice x.aa x.args.length x.acap) := by
 obtain ⟨b, off, ha, _, c0, c1, c2, c3, c4, c5⟩ := X1 h.row k x hx
 cases ha
 simp only [Nat.zero_add] at c0 c1 c2 c3 c4 c5
 exact ⟨c0, c1, c2, c3, c4, c5⟩
theorem OwnI.free {B g cap : Nat} {l : List Ins} {W : World} (h : OwnI B g cap l W) (j : Nat) : W.frozen? ⟨g, j, none⟩ = false := by
 obtain ⟨hB, cur, hg, h1⟩ := h
 exact Qd hg j
theorem set_in : ∀ (l : List Ins) (k j : Nat) (x x' : Ins) (v : Value), l[k]? = some x → j < 6 → x'.vals = x.vals.set j v → Q8 (l.set k x') = (Q8 l).set (k * 6 + j) v
 | [], k, _, _, _, _, h, _, _ => by simp at h
 | y :: r, 0, j, x, x', v, h, hj, he => by
   obtain rfl : y = x := by simpa using h
   show x'.vals ++ Q8 r = (y.vals ++ Q8 r).set (0 * 6 + j) v
   rw [List.set_append_left _ _ (by rw [Ins.vals_len]; omega), he, Nat.zero_mul, Nat.zero_add]
 | y :: r, k + 1, j, x, x', v, h, hj, he => by
   show y.vals ++ Q8 (r.set k x') = (y.vals ++ Q8 r).set ((k + 1) * 6 + j) v
   rw [List.set_append_right _ _ (by rw [Ins.vals_len]; omega), set_in r k j x x' v (by simpa using h) hj he, Ins.vals_len, show (k + 1) * 6 + j - 6 = k * 6 + j by omega]
theorem OwnI.set {B g cap : Nat} {l : List Ins} {W : World} (h : OwnI B g cap l W) {k j : Nat} {x x' : Ins} {v : Value} (hx : l[k]? = some x) (hj : j < 6) (he : x'.vals = x.vals.set j v) : OwnI B g cap (l.set k x') (W.setCell ⟨g, k * 6 + j, none⟩ v) := by
 obtain ⟨hB, cur, hg, h1, h2, h3, h4⟩ := h
 refine ⟨hB, cur.setIfInBounds (k * 6 + j) v, Qy hg _ _, by simpa using h1, h2, by simpa using h3, ?_⟩
 · rw [List.length_set, set_in l k j x x' v hx hj he, ← h4, Array.toList_setIfInBounds, List.take_set]
/-- an instruction that doesn't say where it goes to -/
def bareR (x y : Ins) : Prop := y.op = x.op ∧ y.r = x.r ∧ y.a = x.a ∧ y.b = x.b ∧ y.args = x.args ∧ y.n = if (glP x).2 = true then 0 else x.n
theorem own_low {W : World} {B B' : Nat} {e : TypeId} {c : Nat} {v : Value} {n : Nat} {xs : List Value} (h : W.ownsRow B e c v n xs) (hB : B' ≤ B) : W.ownsRow B' e c v n xs :=
 ⟨h.1, h.2.imp id fun ⟨g, cap, cur, hv, hg, hr⟩ => ⟨g, cap, cur, hv, Nat.le_trans hB hg, hr⟩⟩
/-- an instruction's numbers lie in a row of their own, beside the instructions -/
structure AgO (B g : Nat) (y : Ins) (W : World) : Prop where
 row : W.ownsRow B 3 1 (.slice y.aa y.args.length y.acap) y.args.length (Qc y.args)
 ne : (Value.slice y.aa y.args.length y.acap).ownBlock ≠ some g
theorem AgO.keep {B g : Nat} {y : Ins} {W W' : World} (h : AgO B g y W) (hb : Below W.heap.size W W') : AgO B g y W' := ⟨Qn h.row hb, h.ne⟩
theorem AgO.put {B g o : Nat} {y : Ins} {W : World} (h : AgO B g y W) (v : Value) : AgO B g y (W.setCell ⟨g, o, none⟩ v) := ⟨ownsRow_setCell_other h.row (show _ ≠ some g from h.ne) v, h.ne⟩
structure BareI (B g cap : Nat) (l m : List Ins) (k : Nat) (W : World) : Prop where
 len : m.length = l.length
 own : OwnI B g cap m W
 done : ∀ (j : Nat) (x y : Ins), j < k → l[j]? = some x → m[j]? = some y → bareR x y ∧ Ins.In W (fun b => B ≤ b ∧ b ≠ g) y ∧ AgO B g y W
 rest : ∀ j, k ≤ j → m[j]? = l[j]?
theorem kps_set {W : World} {B g o : Nat} (v : Value) : Kps (fun b => B ≤ b ∧ b ≠ g) W (W.setCell ⟨g, o, none⟩ v) := fun b o' u hb hc => by
 rw [World.cell?_setCell_other _ _ _ _ (by intro e; simp only [Addr.mk.injEq] at e; omega)]
 exact hc
/-- the row of an instruction's own numbers, in a block of its own -/
theorem row_fresh {W : World} {B g : Nat} {v : Value} {l : List Int} (h : W.ownsRow B 3 1 v l.length (Qc l)) (hg : g < B) (S : Nat) (hS : S ≤ B) : ∃ a cap, v = .slice a l.length cap ∧ RowAt W (fun b => S ≤ b ∧ b ≠ g) a cap l.length (Qc l) ∧ v.ownBlock ≠ some g := by
 rcases h.2 with ⟨rfl, h0⟩ | ⟨q, cap, cur, rfl, hB, hq, h1, h2, _, ht⟩
 · have hl : l = [] := List.eq_nil_of_length_eq_zero h0
   subst hl
   exact ⟨none, 0, rfl, row_none _ _, fun e => by cases e⟩
 · refine ⟨some ⟨q, 0, none⟩, cap, rfl, ⟨h1, h2, fun e => (by cases e), fun j u hu => ⟨q, 0, rfl, ⟨by omega, by omega⟩, ?_⟩⟩, fun e => ?_⟩
   · rw [Nat.zero_add]
     have hjl : j < (Qc l).length := (List.getElem?_eq_some_iff.1 hu).1
     rw [show (Qc l).length = l.length from by simp [Qc]] at hjl
     rw [← ht, List.getElem?_take, if_pos (by omega)] at hu
     exact Qk hq (by simpa using hu)
   · have : q = g := by simpa [Value.ownBlock] using e
     omega
theorem BareI.keep {B g cap k : Nat} {l m : List Ins} {W W' : World} (h : BareI B g cap l m k W) (hb : Below W.heap.size W W') : BareI B g cap l m k W' :=
 ⟨h.len, h.own.keep hb, fun j x y hj h1 h2 => ⟨(h.done j x y hj h1 h2).1, (h.done j x y hj h1 h2).2.1.below (Kps.of_below hb), (h.done j x y hj h1 h2).2.2.keep hb⟩, h.rest⟩
theorem BareI.step {B g cap k : Nat} {l m : List Ins} {W w1 : World} {x : Ins} {v : Value} (h : BareI B g cap l m k W) (hx : l[k]? = some x) (hin : Ins.In W Tt x) (hB : B ≤ W.heap.size) (hb : Below W.heap.size W w1) (hv : w1.ownsRow W.heap.size 3 1 v x.args.length (Qc x.args)) :
 ∃ aa acap, v = .slice aa x.args.length acap ∧
  (∀ W2, W2 = w1.setCell ⟨g, k * 6 + 5, none⟩ v → ((glP x).2 = false → ∃ m', BareI B g cap l m' (k + 1) W2) ∧ ((glP x).2 = true → ∀ V, Below W2.heap.size W2 V → ∃ m', BareI B g cap l m' (k + 1) (V.setCell ⟨g, k * 6 + 4, none⟩ (.int .i64 0))) ∧ OwnI B g cap (m.set k { x with aa := aa, acap := acap }) W2) := by
 have hgl := h.own.lt
 obtain ⟨aa, acap, rfl, hrow, hne⟩ := row_fresh hv hgl B hB
 have hk : k < l.length := (List.getElem?_eq_some_iff.1 hx).1
 have hmk : m[k]? = some x := (h.rest k (Nat.le_refl _)).trans hx
 refine ⟨aa, acap, rfl, fun W2 e2 => ?_⟩
 have o1 : OwnI B g cap m w1 := h.own.keep hb
 have o2 : OwnI B g cap (m.set k { x with aa := aa, acap := acap }) W2 := by
  rw [e2]; exact o1.set hmk (by omega) rfl
 have hin' : Ins.In W2 (fun b => B ≤ b ∧ b ≠ g) { x with aa := aa, acap := acap } := ⟨hin.op, hin.r, hin.a, hin.b, hin.n, by rw [e2]; exact hrow.below (kps_set _), hin.nums⟩
 have hag' : AgO B g { x with aa := aa, acap := acap } W2 := by
  rw [e2]
  exact AgO.put (y := { x with aa := aa, acap := acap }) ⟨own_low hv hB, hne⟩ _
 have hold : ∀ (j : Nat) (x' y : Ins), j < k → l[j]? = some x' → m[j]? = some y → bareR x' y ∧ Ins.In W2 (fun b => B ≤ b ∧ b ≠ g) y ∧ AgO B g y W2 := fun j x' y hj h1 h2 => by
  obtain ⟨d1, d2, d3⟩ := h.done j x' y hj h1 h2
  refine ⟨d1, ?_⟩
  rw [e2]
  exact ⟨(d2.below (Kps.of_below hb)).below (kps_set _), (d3.keep hb).put _⟩
 refine ⟨fun hg => ⟨_, ⟨by simp [h.len], o2, fun j x' y hj h1 h2 => ?_, fun j hj => ?_⟩⟩, fun hg V hV => ?_, o2⟩
 · by_cases e : j = k
   · subst e
     rw [hx] at h1
     rw [List.getElem?_set_self (by rw [h.len]; exact hk)] at h2
     cases h1; cases h2
     exact ⟨⟨rfl, rfl, rfl, rfl, rfl, by rw [hg]; simp⟩, hin', hag'⟩
   · rw [List.getElem?_set_ne (by omega)] at h2
     exact hold j x' y (by omega) h1 h2
 · rw [List.getElem?_set_ne (by omega)]
   exact h.rest j (by omega)
 · have hmk2 : (m.set k { x with aa := aa, acap := acap })[k]? = some { x with aa := aa, acap := acap } := List.getElem?_set_self (by rw [h.len]; exact hk)
   have o3 : OwnI B g cap ((m.set k { x with aa := aa, acap := acap }).set k { x with aa := aa, acap := acap, n := 0 }) (V.setCell ⟨g, k * 6 + 4, none⟩ (.int .i64 0)) := (o2.keep hV).set hmk2 (by omega) rfl
   rw [List.set_set] at o3
   refine ⟨_, ⟨by simp [h.len], o3, fun j x' y hj h1 h2 => ?_, fun j hj => ?_⟩⟩
   · by_cases e : j = k
     · subst e
       rw [hx] at h1
       rw [List.getElem?_set_self (by rw [h.len]; exact hk)] at h2
       cases h1; cases h2
       exact ⟨⟨rfl, rfl, rfl, rfl, rfl, by rw [hg]; simp⟩, ⟨hin.op, hin.r, hin.a, hin.b, by show I64 0; unfold I64; omega, (hin'.row.below (Kps.of_below hV)).below (kps_set _), hin.nums⟩, AgO.put (y := { x with aa := aa, acap := acap, n := 0 }) ⟨Qn hag'.row hV, hag'.ne⟩ _⟩
     · rw [List.getElem?_set_ne (by omega)] at h2
       obtain ⟨d1, d2, d3⟩ := hold j x' y (by omega) h1 h2
       exact ⟨d1, (d2.below (Kps.of_below hV)).below (kps_set _), (d3.keep hV).put _⟩
   · rw [List.getElem?_set_ne (by omega)]
     exact h.rest j (by omega)
theorem glP_args (x : Ins) (aa : Option Addr) (acap : Nat) : glP { x with aa := aa, acap := acap } = glP x := rfl
theorem bare_c (a : Option Addr) (cap : Nat) (l : List Ins) (w : World) (hrow : RowAt w Tt a cap l.length (Q8 l)) (hin : ∀ y ∈ l, Ins.In w Tt y) (hT : OpTab w) (hl : l.length ≤ 1048576) (ha : ∀ y ∈ l, y.args.length ≤ 1048576) :
 Calls Tryd.prog 85 #[.slice a l.length cap] w fun e w' => ∃ v m, e = .returned v ∧ m.length = l.length ∧ (∀ (j : Nat) (x y : Ins), l[j]? = some x → m[j]? = some y → bareR x y) ∧ w'.ownsRow w.heap.size 44 6 v m.length (Q8 m) ∧ (∀ (j : Nat) (y : Ins), m[j]? = some y → Ins.In w' (fun b => w.heap.size ≤ b ∧ v.ownBlock ≠ some b) y ∧ w'.ownsRow w.heap.size 3 1 (.slice y.aa y.args.length y.acap) y.args.length (Qc y.args)) ∧ Below w.heap.size w w' := by
 have hO := Lh (ownIns_c a cap l w hrow (by omega))
 have hI := Lh (fun (x : Ins) V (hx : x ∈ l) (hv : Below w.heap.size w V) => (hin x hx).below (Kps.of_below hv))
 have hT' := Lh (fun V (hv : Below w.heap.size w V) => hT.keep hv)
 replace ha := Lh ha
 clear hrow hin hT
 go_enter Tryd.func85, Tryd.ntmps85
 go_upto_region 1 with fail
 go_wp2_with fail
 refine hO.out.mono ?_
 rintro e w1 ⟨v, rfl, hv, hb1⟩
 clear hO
 rcases OwnI.of hv with ⟨rfl, rfl⟩ | ⟨g, c1, rfl, hown⟩
 · go_wp2_with fail
   go_loopw [12] (fun i wr => i = .int .i64 0 ∧ Hid (wr = w1)) (fun i _ => 0)
   case atStart => exact ⟨rfl, Lh rfl⟩
   case round =>
    obtain ⟨rfl, he⟩ := hrel
    go_wp2_with fail
    go_ret
    exact ⟨_, [], rfl, rfl, fun j x y h1 => by simp at h1, by rw [he.out]; exact hv, fun j y h1 => by simp at h1, by rw [he.out]; exact hb1⟩
 · have hB : w.heap.size ≤ g := hown.hB
   have hS0 : Hid (BareI w.heap.size g c1 l l 0 w1) := Lh ⟨rfl, hown, fun j x y hj => by omega, fun j _ => rfl⟩
   replace hb1 := Lh hb1
   obtain ⟨hc1, hc2⟩ : l.length ≤ c1 ∧ c1 ≤ 9223372036854775807 := by
    obtain ⟨_, cur, _, h1, h2, _⟩ := hown
    exact ⟨h1, h2⟩
   clear hown hv
   go_wp2_with fail
   go_loopw [12] (fun i wr => ∃ k : Nat, k ≤ l.length ∧ i = .int .i64 k ∧ Hid (∃ m, BareI w.heap.size g c1 l m k wr) ∧ Hid (Below w.heap.size w wr)) (fun i _ => l.length - (intOf i).toNat)
   case atStart => exact ⟨0, Nat.zero_le _, rfl, Lh ⟨_, hS0.out⟩, hb1⟩
   case round =>
    obtain ⟨k, hk, rfl, hS, hb⟩ := hrel
    by_cases hlt : k < l.length
    · obtain ⟨x, hx⟩ : ∃ x, l[k]? = some x := ⟨_, List.getElem?_eq_getElem hlt⟩
      have hxm := List.mem_of_getElem? hx
      obtain ⟨m, hm⟩ := hS.out
      have hmk : m[k]? = some x := (hm.rest k (Nat.le_refl _)).trans hx
      have hgl := hm.own.lt
      have hi0' : (0 : Int) ≤ (k : Int) := by omega
      have hi1 : (k : Int) < (l.length : Int) := by omega
      obtain ⟨c0, c1', c2, c3, c4, c5⟩ := hm.own.get hmk
      have hwI := hI.out x wr hxm hb.out
      have hal := ha.out x hxm
      have hown := Lh (ownInt_c x.aa x.acap x.args wr (hwI.row) (by omega))
      have hsz := hb.out.size
      have hst := Lh (fun w2 v h1 h2 => hm.step hx hwI hsz h1 (w1 := w2) (v := v) h2)
      have hG := Lh (fun aa acap V (hv : Below w.heap.size w V) => goal_any { x with aa := aa, acap := acap } V hwI.op (hT'.out V hv))
      have hO1 := Lh (fun V (hv : Below wr.heap.size wr V) => hm.own.keep hv)
      have hmk' := Lh hmk
      have hml := Lh hm.len
      obtain ⟨al1, al2⟩ := Q2 hwI.row
      clear hx hxm hm hmk hwI hS ha hI hT'
      go_wp2_with fail
      refine hown.out.mono ?_
      rintro e w2 ⟨v, rfl, hv, hb2⟩
      obtain ⟨aa, acap, rfl, hst2⟩ := hst.out w2 _ hb2 hv
      have hst3 := Lh (hst2 _ rfl)
      have o2 := hO1.out w2 hb2
      obtain ⟨d0, d1, d2, d3, d4, d5⟩ := o2.get hmk'.out
      have hf5 := o2.free (k * 6 + 5)
      have hgl2 := o2.lt
      have hbx := Lh ((hb.out.trans (hb2.mono hsz)).setCell (p := ⟨g, k * 6 + 5, none⟩) hB (.slice aa x.args.length acap))
      clear hst hst2 o2 hO1 hv hb2 hown
      go_upto_region 7 with fail
      generalize hW2 : w2.setCell ⟨g, k * 6 + 5, none⟩ (.slice aa x.args.length acap) = W2 at *
      obtain ⟨hno, hyes, o3⟩ := hst3.out
      clear hst3 d0 d1 d2 d3 d4 d5 hf5
      have hx3 : (m.set k { x with aa := aa, acap := acap })[k]? = some { x with aa := aa, acap := acap } := List.getElem?_set_self (by rw [hml.out]; exact hlt)
      obtain ⟨d0, d1, d2, d3, d4, d5⟩ := o3.get hx3
      have hgl3 := o3.lt
      have hG1 := Lh (hG.out aa acap W2 hbx.out)
      replace o3 := Lh (fun V hV => (o3.keep (W' := V) hV))
      replace hx3 := Lh hx3
      replace hno := Lh hno
      replace hyes := Lh hyes
      clear hG hW2
      rw [glP_args] at hG1
      cases hgl' : (glP x).2
      · have hfin := Lh (hno.out hgl')
        rw [hgl'] at hG1
        clear hno hyes hgl' o3 hx3 hmk' hml
        go_wp2_with fail
        refine hG1.out.mono ?_
        rintro e w3 ⟨rfl, hb3⟩
        have hn : Hid (∃ m, BareI w.heap.size g c1 l m (k + 1) w3) := Lh (by
         obtain ⟨m', hm'⟩ := hfin.out
         exact ⟨m', hm'.keep hb3⟩)
        have hbz := Lh (hbx.out.trans (hb3.mono hbx.out.size))
        clear hb3 hfin hbx
        go_wp2_with fail
        go_roundw
        case rel => exact ⟨k + 1, by omega, by go_num, hn, hbz⟩
        case measure => simp [intOf]; omega
      · have hfin := Lh (hyes.out hgl')
        rw [hgl'] at hG1
        clear hno hyes hgl' hmk' hml
        go_wp2_with fail
        refine hG1.out.mono ?_
        rintro e w3 ⟨rfl, hb3⟩
        have o4 := o3.out w3 hb3
        obtain ⟨f0, f1, f2, f3, f4, f5⟩ := o4.get hx3.out
        have hf4 := o4.free (k * 6 + 4)
        have hgl4 := o4.lt
        have hn : Hid (∃ m, BareI w.heap.size g c1 l m (k + 1) (w3.setCell ⟨g, k * 6 + 4, none⟩ (.int .i64 0))) := Lh (hfin.out w3 hb3)
        have hbz := Lh ((hbx.out.trans (hb3.mono hbx.out.size)).setCell (p := ⟨g, k * 6 + 4, none⟩) hB (.int .i64 0))
        clear hb3 hfin hbx o4 o3 hx3 f0 f1 f2 f3 f5
        go_wp2_with fail
        go_roundw
        case rel => exact ⟨k + 1, by omega, by go_num, hn, hbz⟩
        case measure => simp [intOf]; omega
    · have hk2 : k = l.length := by omega
      subst hk2
      go_wp2_with fail
      go_ret
      obtain ⟨m, hm⟩ := hS.out
      refine ⟨_, m, rfl, hm.len, fun j x y h1 h2 => (hm.done j x y (List.getElem?_eq_some_iff.1 h1).1 h1 h2).1, by rw [← hm.len]; exact hm.own.to, fun j y h2 => ?_, hb.out⟩
      have hj : j < l.length := by rw [← hm.len]; exact (List.getElem?_eq_some_iff.1 h2).1
      obtain ⟨_, e1, e2⟩ := hm.done j _ y hj (List.getElem?_eq_getElem hj) h2
      exact ⟨e1.mono fun b hb => ⟨hb.1, fun e => hb.2 (Option.some.inj (show some g = some b from e)).symm⟩, e2.row⟩
theorem info_bb : (Tryd.prog.info? 4).map (fun i => (i.zero, i.size, i.bytes)) = some (some (.bool false), 1, 1) := by kernel_rfl
theorem make_bb (n : Nat) (hn : n ≤ 1000000000) (V : World) : (Instr.makeSlice 72 (.int .i64 (n : Int)) (.int .i64 (n : Int))).run Tryd.prog V = .ok (.slice (some ⟨V.heap.size, 0, none⟩) n n) (V.alloc (.cells (Array.replicate n (Value.bool false)) 4)) := by
 obtain ⟨i0, hi0, hz0, hz1, hz2⟩ := info_parts info_bb
 have h := run_make (P := Tryd.prog) V 72 4 i0 _ Tryd.underlying72 hi0 hz0 .i64 .i64 (n : Int) (n : Int) (by omega) (Int.le_refl _) (by rw [hz2]; omega) (by omega)
 rw [hz1, Int.toNat_natCast, Nat.mul_one, made_one _ rfl, List.toArray_replicate] at h
 exact h
/-- marks in a block -/
structure MkB (g n : Nat) (f : Nat → Bool) (W : World) : Prop where
 ex : W.heap[g]? = some (.cells ⟨(List.range n).map fun j => .bool (f j)⟩ 4 (0, 0))
theorem MkB.start (W : World) (n : Nat) : MkB W.heap.size n (fun _ => false) (W.alloc (.cells (Array.replicate n (.bool false)) 4)) := ⟨by
 rw [Qt W _ rfl]
 congr 2
 apply Array.toList_inj.1
 apply List.ext_getElem?
 intro i
 simp [List.getElem?_replicate]
 by_cases h : i < n <;> simp [h]⟩
theorem MkB.keep {g n : Nat} {f : Nat → Bool} {W W' : World} (h : MkB g n f W) (hb : Below W.heap.size W W') : MkB g n f W' :=
 ⟨(hb.block g (Array.getElem?_eq_some_iff.1 h.ex).1).trans h.ex⟩
theorem MkB.lt {g n : Nat} {f : Nat → Bool} {W : World} (h : MkB g n f W) : g < W.heap.size := (Array.getElem?_eq_some_iff.1 h.ex).1
theorem MkB.cong {g n : Nat} {f f' : Nat → Bool} {W : World} (h : MkB g n f W) (e : ∀ k, k < n → f k = f' k) : MkB g n f' W := ⟨by
 rw [h.ex]
 congr 3
 apply List.map_congr_left
 intro k hk
 rw [e k (List.mem_range.1 hk)]⟩
theorem MkB.get {g n : Nat} {f : Nat → Bool} {W : World} (h : MkB g n f W) {k : Nat} (hk : k < n) : W.cell? ⟨g, k, none⟩ = some (.bool (f k)) ∧ W.frozen? ⟨g, k, none⟩ = false :=
 ⟨Qk h.ex (by simp [hk]), Qd h.ex _⟩
theorem MkB.set {g n : Nat} {f : Nat → Bool} {W : World} (h : MkB g n f W) {k : Nat} (hk : k < n) (f' : Nat → Bool) (hf : ∀ i, i < n → f' i = if i = k then true else f i) : MkB g n f' (W.setCell ⟨g, k, none⟩ (.bool true)) := ⟨by
 rw [Qy h.ex]
 congr 2
 apply Array.toList_inj.1
 rw [Array.toList_setIfInBounds]
 apply List.ext_getElem?
 intro i
 by_cases hi : i < n
 · rw [List.getElem?_set]
   simp only [List.getElem?_map, List.getElem?_range hi, Option.map_some, List.length_map, List.length_range]
   rw [hf i hi]
   by_cases e : k = i
   · rw [if_pos e, if_pos (by omega), if_pos e.symm]
   · rw [if_neg e, if_neg (by omega)]
 · rw [List.getElem?_eq_none (by simp; omega), List.getElem?_eq_none (by simp; omega)]⟩
/-- is a block's beginning marked, by one of instructions that stand from a number on? -/
def mkF : Nat → List Ins → Nat → Bool
 | _, [], _ => false
 | i, x :: r, n => ((glP x).2 && decide ((glP x).1 = (n : Int))) || (Xr x.op && decide (n = i + 1)) || mkF (i + 1) r n
theorem mkF_app (l r : List Ins) (i n : Nat) : mkF i (l ++ r) n = (mkF i l n || mkF (i + l.length) r n) := by
 induction l generalizing i with
 | nil => simp [mkF]
 | cons x l ih => rw [List.cons_append, mkF, mkF, ih (i + 1), List.length_cons, show i + 1 + l.length = i + (l.length + 1) by omega]; simp only [Bool.or_assoc]
theorem mkF_take {l : List Ins} {k : Nat} {x : Ins} (h : l[k]? = some x) (n : Nat) : mkF 0 (l.take (k + 1)) n = (mkF 0 (l.take k) n || ((glP x).2 && decide ((glP x).1 = (n : Int))) || (Xr x.op && decide (n = k + 1))) := by
 have hk : k < l.length := (List.getElem?_eq_some_iff.1 h).1
 rw [List.take_add_one, h, mkF_app]
 have : (l.take k).length = k := by rw [List.length_take]; omega
 rw [this]
 simp [mkF, Bool.or_assoc]
/-- the beginnings, as far as one has looked -/
def bgN (l : List Ins) (k : Nat) : List Int := (if mkF 0 l 0 = true then [0] else []) ++ ((List.range k).filter fun n => n == 0 || mkF 0 l n).map Int.ofNat
def begL (l : List Ins) : List Int := bgN l l.length
theorem bgN_zero (l : List Ins) : bgN l 0 = if mkF 0 l 0 = true then [0] else [] := by unfold bgN; simp
theorem bgN_yes {l : List Ins} {k : Nat} (h : (k == 0 || mkF 0 l k) = true) : bgN l (k + 1) = bgN l k ++ [(k : Int)] := by
 unfold bgN
 rw [List.range_succ, List.filter_append, List.map_append, ← List.append_assoc]
 simp only [List.filter_cons, h, if_true, List.filter_nil, List.map_cons, List.map_nil]
 rfl
theorem bgN_no {l : List Ins} {k : Nat} (h : (k == 0 || mkF 0 l k) = false) : bgN l (k + 1) = bgN l k := by
 unfold bgN
 rw [List.range_succ, List.filter_append, List.map_append, ← List.append_assoc]
 simp [h]
theorem bgN_len (l : List Ins) (k : Nat) : (bgN l k).length ≤ k + 1 := by
 unfold bgN
 rw [List.length_append, List.length_map]
 have := List.length_filter_le (fun n => n == 0 || mkF 0 l n) (List.range k)
 rw [List.length_range] at this
 split <;> simp <;> omega
end Go.Proofs.YthiiahlgncngoaaDoorRR.Fw
