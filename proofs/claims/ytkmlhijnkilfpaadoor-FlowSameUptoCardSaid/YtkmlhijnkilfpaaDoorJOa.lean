/- Copies of lists that share nothing with them. Conditions: the lists are of bounded length. Walk of goals. Conditions: the instruction lies in memory, and leads to one of the numbers. -/
import Derived.Test.YtkmlhijnkilfpaaDoorJaQ
import Derived.Test.YtkmlhijnkilfpaaDoorJCgC
import Derived.BigQuiet
namespace Go.Proofs.YtkmlhijnkilfpaaDoor.Fw
open Go Go.RowKit
open Go.Proofs.YtkmlhijnkilfpaaDoor.Lx Go.Proofs.YtkmlhijnkilfpaaDoor.Tr Go.Proofs.YtkmlhijnkilfpaaDoor.Cd

theorem wpList_append_rowN {P : Program} (w : World) {ops : Array Oper} {rest : List Oper} {o : Oper} {a : Act} {Q : Exit → Act → World → Prop} (hgd : o.guard = none) (s x : Operand) (t : TypeId)
    (ho : o.op = .call { callee := .builtin .append, args := #[s, x], argTypes := #[t, t] })
    (B : Nat) (e : TypeId) (i : TypeInfo) (z : Value) (size bytes : Nat) (ht : P.underlying t = some (.slice e)) (hi : P.info? e = some i) (hz : i.zero = some z) (hsize : i.size = size) (hby : i.bytes = bytes) (hzs : z.cells.size = size) (hsz : 0 < size)
    (v : Value) (n : Nat) (xs : List Value) (hs : a.eval s = v) (hown : w.ownsRow B e size v n xs) (ad : Option Addr) (cap m : Nat) (news : List Value) (hl : news.length = m * size) (hx : a.eval x = .slice ad m cap) (hrow : RowAt w Tt ad cap m news) (h1 : ∀ u ∈ news, u.oneCell' = true)
    (h63 : n + m ≤ maxLen) (hbytes : (n + m) * bytes ≤ 140737488355328) (hB : B ≤ w.heap.size)
    (h : ∀ v' w', w'.ownsRow B e size v' (n + m) (xs ++ news) → w.grownBy w' v.ownBlock → (v'.ownBlock = v.ownBlock ∨ v'.ownBlock = some w.heap.size) → wpList P ops Q rest (a.put o.dst v') w') :
    wpList P ops Q (o :: rest) a w := by
  cases ad with
  | none =>
    have hz : cap = 0 := hrow.nil rfl
    have hle := hrow.le
    have hm : m = 0 := by omega
    subst hm
    have hn : news = [] := List.eq_nil_of_length_eq_zero (by simpa using hl)
    subst hn hz
    refine wpList_plain hgd fun K' hK' => ?_
    have hr := run_append_owned_none (P := P) (w := w) B t o.type e i size ht hi v n xs hown
    unfold Oper.wp
    simp [execOp, ho, resolve, invoke, builtin, hs, hx, hr, Result.andThen]
    exact hK' _ _ (h v w (by simpa using hown) ⟨rfl, rfl, rfl, Nat.le_refl _, fun _ _ _ => rfl⟩ (.inl rfl))
  | some ad =>
    refine wpList_append_own_at w hgd s x t ho B e i z size bytes ht hi hz hsize hby hzs hsz v n xs hs hown ad m cap news hx hl (fun j u hj => ?_) h1 h63 hbytes hB (fun v' w' r1 r2 _ r3 => h v' w' r1 r2 r3)
    obtain ⟨b', off, ha, _, hc⟩ := hrow.at_ j u hj
    cases ha
    rw [Go.WideShapes.add_plain]; exact hc
theorem flat_lenM {α : Type} (f : α → List Value) (c : Nat) (hc : ∀ x, (f x).length = c) : ∀ l : List α, (l.flatMap f).length = l.length * c
  | [] => by simp
  | e :: r => by
    rw [List.flatMap_cons, List.length_append, hc, flat_lenM f c hc r, List.length_cons, Nat.succ_mul, Nat.add_comm]
theorem below_grown {w w' : World} (h : w.grownBy w' none) : Below w.heap.size w w' := ⟨h.os, h.tape, h.output, h.size, fun i hi => h.block i hi (fun e => by cases e)⟩
theorem in_one (l : List Ins) : ∀ u ∈ inCells l, u.oneCell' = true := fun u hu => by
  unfold inCells at hu
  obtain ⟨x, _, hx⟩ := List.mem_flatMap.1 hu
  unfold Ins.vals at hx
  simp only [List.mem_cons, List.not_mem_nil, or_false] at hx
  rcases hx with rfl | rfl | rfl | rfl | rfl | rfl <;> rfl
theorem mm_one (l : List Mm) : ∀ u ∈ mmCells l, u.oneCell' = true := fun u hu => by
  unfold mmCells at hu
  obtain ⟨x, _, hx⟩ := List.mem_flatMap.1 hu
  unfold Mm.vals at hx
  simp only [List.mem_cons, List.not_mem_nil, or_false] at hx
  rcases hx with rfl | rfl | rfl <;> rfl
set_option maxRecDepth 100000 in
theorem info_ins6 : ∃ i z, Tryd.prog.info? 44 = some i ∧ i.zero = some z ∧ i.size = 6 ∧ i.bytes = 64 ∧ z.cells.size = 6 := ⟨_, _, rfl, rfl, rfl, rfl, rfl⟩
set_option maxRecDepth 100000 in
theorem info_mm3 : ∃ i z, Tryd.prog.info? 56 = some i ∧ i.zero = some z ∧ i.size = 3 ∧ i.bytes = 32 ∧ z.cells.size = 3 := ⟨_, _, rfl, rfl, rfl, rfl, rfl⟩
set_option maxRecDepth 100000 in
theorem info_int1 : ∃ i z, Tryd.prog.info? 3 = some i ∧ i.zero = some z ∧ i.size = 1 ∧ i.bytes = 8 ∧ z.cells.size = 1 := ⟨_, _, rfl, rfl, rfl, rfl, rfl⟩
set_option maxRecDepth 100000 in
theorem info_str1 : ∃ i z, Tryd.prog.info? 9 = some i ∧ i.zero = some z ∧ i.size = 1 ∧ i.bytes = 16 ∧ z.cells.size = 1 := ⟨_, _, rfl, rfl, rfl, rfl, rfl⟩

set_option maxHeartbeats 1000000 in
set_option maxRecDepth 100000 in
theorem ownIns_c (a : Option Addr) (cap : Nat) (l : List Ins) (w : World) (hrow : RowAt w Tt a cap l.length (inCells l)) (hl : l.length ≤ 1099511627776) :
    Calls Tryd.prog 111 #[.slice a l.length cap] w fun e w' => ∃ v, e = .returned v ∧ w'.ownsRow w.heap.size 44 6 v l.length (inCells l) ∧ Below w.heap.size w w' := by
  obtain ⟨i0, z0, hi0, hz0, hz1, hz2, hz3⟩ := info_ins6
  go_enter Tryd.func111, Tryd.ntmps111
  go_wp2_with (at_builtin; refine wpList_append_rowN _ rfl _ _ 39 rfl w.heap.size 44 i0 z0 6 64 Tryd.underlying39 hi0 hz0 hz1 hz2 hz3 (by decide) _ _ _ rfl (World.ownsRow_nil _ _ _ _) a cap l.length (inCells l) (flat_lenM Ins.vals 6 Ins.vals_len l) rfl hrow (in_one l) (by unfold maxLen; omega) (by omega) (Nat.le_refl _) ?_; intro v1 w1 hown1 hgr1 _)
  rw [Nat.zero_add, List.nil_append] at hown1
  have hb := below_grown hgr1
  clear hgr1
  go_wp2_with fail
  go_ret
  exact ⟨_, rfl, hown1, hb⟩
set_option maxHeartbeats 1000000 in
set_option maxRecDepth 100000 in
theorem ownMem_c (a : Option Addr) (cap : Nat) (l : List Mm) (w : World) (hrow : RowAt w Tt a cap l.length (mmCells l)) (hl : l.length ≤ 1099511627776) :
    Calls Tryd.prog 22 #[.slice a l.length cap] w fun e w' => ∃ v, e = .returned v ∧ w'.ownsRow w.heap.size 56 3 v l.length (mmCells l) ∧ Below w.heap.size w w' := by
  obtain ⟨i0, z0, hi0, hz0, hz1, hz2, hz3⟩ := info_mm3
  go_enter Tryd.func22, Tryd.ntmps22
  go_wp2_with (at_builtin; refine wpList_append_rowN _ rfl _ _ 22 rfl w.heap.size 56 i0 z0 3 32 Tryd.underlying22 hi0 hz0 hz1 hz2 hz3 (by decide) _ _ _ rfl (World.ownsRow_nil _ _ _ _) a cap l.length (mmCells l) (flat_lenM Mm.vals 3 Mm.vals_len l) rfl hrow (mm_one l) (by unfold maxLen; omega) (by omega) (Nat.le_refl _) ?_; intro v1 w1 hown1 hgr1 _)
  rw [Nat.zero_add, List.nil_append] at hown1
  have hb := below_grown hgr1
  clear hgr1
  go_wp2_with fail
  go_ret
  exact ⟨_, rfl, hown1, hb⟩
set_option maxHeartbeats 1000000 in
set_option maxRecDepth 100000 in
theorem ownInt_c (a : Option Addr) (cap : Nat) (l : List Int) (w : World) (hrow : RowAt w Tt a cap l.length (numCells l)) (hl : l.length ≤ 1099511627776) :
    Calls Tryd.prog 112 #[.slice a l.length cap] w fun e w' => ∃ v, e = .returned v ∧ w'.ownsRow w.heap.size 3 1 v l.length (numCells l) ∧ Below w.heap.size w w' := by
  obtain ⟨i0, z0, hi0, hz0, hz1, hz2, hz3⟩ := info_int1
  go_enter Tryd.func112, Tryd.ntmps112
  go_wp2_with (at_builtin; refine wpList_append_rowN _ rfl _ _ 40 rfl w.heap.size 3 i0 z0 1 8 Tryd.underlying40 hi0 hz0 hz1 hz2 hz3 (by decide) _ _ _ rfl (World.ownsRow_nil _ _ _ _) a cap l.length (numCells l) (by simp [numCells]) rfl hrow (num_one l) (by unfold maxLen; omega) (by omega) (Nat.le_refl _) ?_; intro v1 w1 hown1 hgr1 _)
  rw [Nat.zero_add, List.nil_append] at hown1
  have hb := below_grown hgr1
  clear hgr1
  go_wp2_with fail
  go_ret
  exact ⟨_, rfl, hown1, hb⟩
set_option maxHeartbeats 1000000 in
set_option maxRecDepth 100000 in
theorem ownStr_c (a : Option Addr) (cap : Nat) (l : List ByteArray) (w : World) (hrow : RowAt w Tt a cap l.length (strCells l)) (hl : l.length ≤ 1099511627776) :
    Calls Tryd.prog 23 #[.slice a l.length cap] w fun e w' => ∃ v, e = .returned v ∧ w'.ownsRow w.heap.size 9 1 v l.length (strCells l) ∧ Below w.heap.size w w' := by
  obtain ⟨i0, z0, hi0, hz0, hz1, hz2, hz3⟩ := info_str1
  go_enter Tryd.func23, Tryd.ntmps23
  go_wp2_with (at_builtin; refine wpList_append_rowN _ rfl _ _ 23 rfl w.heap.size 9 i0 z0 1 16 Tryd.underlying23 hi0 hz0 hz1 hz2 hz3 (by decide) _ _ _ rfl (World.ownsRow_nil _ _ _ _) a cap l.length (strCells l) (by simp [strCells]) rfl hrow (str_one l) (by unfold maxLen; omega) (by omega) (Nat.le_refl _) ?_; intro v1 w1 hown1 hgr1 _)
  rw [Nat.zero_add, List.nil_append] at hown1
  have hb := below_grown hgr1
  clear hgr1
  go_wp2_with fail
  go_ret
  exact ⟨_, rfl, hown1, hb⟩
end Go.Proofs.YtkmlhijnkilfpaaDoor.Fw
namespace Go.Proofs.YtkmlhijnkilfpaaDoor.Fw
open Go Go.RowKit
open Go.Proofs.YtkmlhijnkilfpaaDoor.Lx Go.Proofs.YtkmlhijnkilfpaaDoor.Tr Go.Proofs.YtkmlhijnkilfpaaDoor.Cd

/-- the blocks to which one goes behind an instruction -/
def goL (i : Ins) (next : Int) (bl : List Int) : List Int := (if i.op = 11 ∨ i.op = 13 then [] else [next]) ++ (if (glP i).2 = true then [bl.getD (glP i).1.toNat 0] else [])
theorem num_snoc (l : List Int) (x : Int) : numCells (l ++ [x]) = numCells l ++ [.int .i64 x] := by unfold numCells; rw [List.map_append]; rfl

theorem b_grown2 {B : Nat} {w W w3 : World} {o : Obj} (h : Below B w W) (hg : (W.alloc o).grownBy w3 (Value.slice none 0 0).ownBlock) (hB : B ≤ W.heap.size := by (first | exact Nat.le_refl _ | (have := Below.size (by assumption); omega))) : Below B w w3 :=
  (h.alloc hB o).grown hg (by simp; omega) (fun q e => by cases e)
set_option maxHeartbeats 4000000 in
set_option maxRecDepth 100000 in
theorem goals_c (i : Ins) (next : Int) (bl : List Int) (ba : Option Addr) (bcap : Nat) (w : World) (hi : U8 i.op) (hT : OpTab w) (hrow : RowAt w Tt ba bcap bl.length (numCells bl)) (hg : (glP i).2 = true → 0 ≤ (glP i).1 ∧ (glP i).1 < (bl.length : Int)) :
    Calls Tryd.prog 100 #[.agg ⟨i.vals⟩, .int .i64 next, .slice ba bl.length bcap] w fun e w' => ∃ v, e = .returned v ∧ w'.ownsRow w.heap.size 3 1 v (goL i next bl).length (numCells (goL i next bl)) ∧ Below w.heap.size w w' := by
  obtain ⟨hc1, hc2⟩ := len_i hrow
  obtain ⟨i0, z0, hi0, hz0, hz1, hz2, hz3⟩ := info_int1
  generalize hL0 : goL i next bl = L
  unfold goL at hL0
  have hst := Lib.hid (b_alloc w (.cells #[.int .u8 i.op, .int .i64 i.r, .int .i64 i.a, .int .i64 i.b, .int .i64 i.n, .slice i.aa i.args.length i.acap] 44))
  have hq := Lib.hid (box6 w i)
  have hG := Lib.hid (fun V (hv : Below w.heap.size w V) => goal_any i V hi (hT.keep hv))
  have hR := Lib.hid (fun V (hv : Below w.heap.size w V) => hrow.below (Kps.of_below hv))
  obtain ⟨op, r, xa, xb, n, aa, acap, args⟩ := i
  unfold Ins.val at hG
  unfold Ins.vals
  simp only at *
  have hgp : Hid ((op = 11 → (glP ⟨op, r, xa, xb, n, aa, acap, args⟩).2 = true) ∧ (op = 13 → (glP ⟨op, r, xa, xb, n, aa, acap, args⟩).2 = false)) := Lib.hid ⟨fun h => by subst h; rfl, fun h => by subst h; rfl⟩
  generalize glP ⟨op, r, xa, xb, n, aa, acap, args⟩ = gp at *
  obtain ⟨g1, g2⟩ := gp
  simp only at *
  clear hT hi
  replace hg := Lib.hid hg
  have hL : Hid ((op = 11 → L = [bl.getD g1.toNat 0]) ∧ (op = 13 → L = []) ∧ (¬ op = 11 → ¬ op = 13 → L = [next] ++ if g2 = true then [bl.getD g1.toNat 0] else [])) := Lib.hid ⟨fun h => by subst h; rw [← hL0, if_pos (Or.inl rfl), if_pos (hgp.out.1 rfl)]; rfl, fun h => by subst h; rw [← hL0, if_pos (Or.inr rfl), if_neg (by rw [hgp.out.2 rfl]; simp)]; rfl, fun h1 h2 => by rw [← hL0, if_neg (by omega)]⟩
  clear hL0
  go_enter Tryd.func100, Tryd.ntmps100
  go_upto_region 1 with fail
  generalize hW0 : w.alloc (.cells #[.int .u8 op, .int .i64 r, .int .i64 xa, .int .i64 xb, .int .i64 n, .slice aa args.length acap] 44) = W0 at *
  obtain ⟨q0, q1, q2, q3, q4, q5⟩ := hq.out
  have hlw : w.heap.size < W0.heap.size := World.block_lt_of_cell? _ _ q0
  clear hW0 hq
  by_cases h11 : op = 11
  · subst h11
    have hb2 : g2 = true := hgp.out.1 rfl
    subst hb2
    obtain ⟨r1, r2⟩ := hg.out rfl
    obtain ⟨y, hy⟩ : ∃ y, bl[g1.toNat]? = some y := ⟨_, List.getElem?_eq_getElem (by omega)⟩
    have hLf : Hid (L = [y]) := Lib.hid (by rw [hL.out.1 rfl, List.getD_eq_getElem?_getD, hy]; rfl)
    obtain ⟨b, off, ha, _, hc⟩ := num_row hrow g1.toNat y hy
    have hbl : b < w.heap.size := World.block_lt_of_cell? _ _ hc
    subst ha
    clear hgp hg hL hy hR hrow
    go_wp2_with fail
    refine (hG.out _ hst.out).mono ?_
    rintro e w1 ⟨rfl, hb1⟩
    have hbw := Lib.hid (hst.out.trans (hb1.mono hst.out.size))
    obtain ⟨hcl, hfr⟩ := bcell hbw.out
    have hc' := (hcl b (off + g1.toNat) hbl).trans hc
    clear hcl hfr hc
    go_wp2_with (at_builtin; refine wpList_append_own_at _ rfl _ _ 40 rfl w.heap.size 3 i0 _ 1 8 Tryd.underlying40 hi0 hz0 hz1 hz2 hz3 (by decide) _ _ _ rfl (World.ownsRow_nil _ _ _ _) _ 1 1 [.int .i64 y] rfl rfl (news_at _ _ _ _ (by first | rfl | simp)) (by simp [Value.oneCell']) ?c1 ?c2 ?c3 ?_)
    case c1 => unfold maxLen; omega
    case c2 => omega
    case c3 => have := hbw.out.size; simp; omega
    intro v' w3 hown3 hg3 _ _
    have hbz := Lib.hid (b_grown2 hbw.out hg3)
    clear hg3 hb1 hbw
    go_wp2_with fail
    go_ret
    exact ⟨_, rfl, by rw [hLf.out]; exact hown3, hbz.out⟩
  · by_cases h13 : op = 13
    · subst h13
      have hb2 : g2 = false := hgp.out.2 rfl
      subst hb2
      have hLf : Hid (L = []) := Lib.hid (hL.out.2.1 rfl)
      clear h11 hgp hL hR hrow hg
      go_wp2_with fail
      refine (hG.out _ hst.out).mono ?_
      rintro e w1 ⟨rfl, hb1⟩
      go_wp2_with fail
      go_ret
      exact ⟨_, rfl, by rw [hLf.out]; exact World.ownsRow_nil _ _ _ _, hst.out.trans (hb1.mono hst.out.size)⟩
    · have hLf0 := Lib.hid (hL.out.2.2 h11 h13)
      have e1 : (op != 11) = true := by simp [h11]
      have e3 : (op != 13) = true := by simp [h13]
      clear h11 h13 hL hgp
      cases g2
      · have hLf : Hid (L = [next]) := Lib.hid (by rw [hLf0.out]; rfl)
        clear hLf0 hg hR hrow
        go_wp2_with (at_builtin; refine wpList_append_own_at _ rfl _ _ 40 rfl w.heap.size 3 i0 _ 1 8 Tryd.underlying40 hi0 hz0 hz1 hz2 hz3 (by decide) _ _ _ rfl (World.ownsRow_nil _ _ _ _) _ 1 1 [.int .i64 next] rfl rfl (news_at _ _ _ _ (by first | rfl | simp)) (by simp [Value.oneCell']) ?c1 ?c2 ?c3 ?_)
        case c1 => unfold maxLen; omega
        case c2 => omega
        case c3 => simp; omega
        intro v' w3 hown3 hg3 _ _
        have hb3 := Lib.hid (b_grown2 (Below.refl W0.heap.size W0) hg3)
        have hb0 := Lib.hid (hst.out.trans (hb3.out.mono hst.out.size))
        obtain ⟨hcl, hfr⟩ := bcell hb3.out
        have s0 := (hcl w.heap.size 0 hlw).trans q0
        have s1 := (hcl w.heap.size 1 hlw).trans q1
        have s2 := (hcl w.heap.size 2 hlw).trans q2
        have s3 := (hcl w.heap.size 3 hlw).trans q3
        have s4 := (hcl w.heap.size 4 hlw).trans q4
        have s5 := (hcl w.heap.size 5 hlw).trans q5
        clear hcl hfr q0 q1 q2 q3 q4 q5 hg3 hb3
        go_wp2_with fail
        refine (hG.out _ hb0.out).mono ?_
        rintro e w1 ⟨rfl, hb1⟩
        go_wp2_with fail
        go_ret
        exact ⟨_, rfl, by rw [hLf.out]; exact own_below hown3 hb1, hb0.out.trans (hb1.mono hb0.out.size)⟩
      · obtain ⟨r1, r2⟩ := hg.out rfl
        obtain ⟨y, hy⟩ : ∃ y, bl[g1.toNat]? = some y := ⟨_, List.getElem?_eq_getElem (by omega)⟩
        have hLf : Hid (L = [next, y]) := Lib.hid (by rw [hLf0.out, if_pos rfl, List.getD_eq_getElem?_getD, hy]; rfl)
        obtain ⟨b, off, ha, _, hc⟩ := num_row hrow g1.toNat y hy
        have hbl : b < w.heap.size := World.block_lt_of_cell? _ _ hc
        subst ha
        clear hLf0 hg hR hrow hy
        go_wp2_with (at_builtin; refine wpList_append_own_at _ rfl _ _ 40 rfl w.heap.size 3 i0 _ 1 8 Tryd.underlying40 hi0 hz0 hz1 hz2 hz3 (by decide) _ _ _ rfl (World.ownsRow_nil _ _ _ _) _ 1 1 [.int .i64 next] rfl rfl (news_at _ _ _ _ (by first | rfl | simp)) (by simp [Value.oneCell']) ?c1 ?c2 ?c3 ?_)
        case c1 => unfold maxLen; omega
        case c2 => omega
        case c3 => simp; omega
        intro v' w3 hown3 hg3 _ _
        have hb3 := Lib.hid (b_grown2 (Below.refl W0.heap.size W0) hg3)
        have hb0 := Lib.hid (hst.out.trans (hb3.out.mono hst.out.size))
        obtain ⟨hcl, hfr⟩ := bcell hb3.out
        have s0 := (hcl w.heap.size 0 hlw).trans q0
        have s1 := (hcl w.heap.size 1 hlw).trans q1
        have s2 := (hcl w.heap.size 2 hlw).trans q2
        have s3 := (hcl w.heap.size 3 hlw).trans q3
        have s4 := (hcl w.heap.size 4 hlw).trans q4
        have s5 := (hcl w.heap.size 5 hlw).trans q5
        clear hcl hfr q0 q1 q2 q3 q4 q5 hg3 hb3
        go_wp2_with fail
        refine (hG.out _ hb0.out).mono ?_
        rintro e w1 ⟨rfl, hb1⟩
        have hbw := Lib.hid (hb0.out.trans (hb1.mono hb0.out.size))
        obtain ⟨hcl, hfr⟩ := bcell hbw.out
        have hc' := (hcl b (off + g1.toNat) hbl).trans hc
        have hown4 := Lib.hid (own_below hown3 hb1)
        clear hcl hfr hc hown3 s0 s1 s2 s3 s4 s5 hb1
        go_wp2_with (at_builtin; refine wpList_append_own_at _ rfl _ _ 40 rfl w.heap.size 3 i0 _ 1 8 Tryd.underlying40 hi0 hz0 hz1 hz2 hz3 (by decide) _ _ _ rfl (own_below hown4.out (b_alloc _ _)) _ 1 1 [.int .i64 y] rfl rfl (news_at _ _ _ _ (by first | rfl | simp)) (by simp [Value.oneCell']) ?c1 ?c2 ?c3 ?_)
        case c1 => unfold maxLen; omega
        case c2 => omega
        case c3 => have := hbw.out.size; simp; omega
        intro v'' w5 hown5 hg5 _ _
        have hbz := Lib.hid ((hbw.out.alloc (by have := hbw.out.size; omega) _).grown hg5 (by have := hbw.out.size; simp; omega) (fun q e => (hown4.out.lt q e).1))
        clear hg5 hbw
        go_wp2_with fail
        go_ret
        exact ⟨_, rfl, by rw [hLf.out]; exact hown5, hbz.out⟩
end Go.Proofs.YtkmlhijnkilfpaaDoor.Fw
