/- Walks of a tree's methods Order and Kids. Conditions: the tree lies in memory, and is one. -/
import Derived.Test.YtiaecobjbckhoaaDbK
set_option linter.unusedVariables false
set_option linter.unusedSimpArgs false
namespace Go.Proofs.Ytiaecobjbckhoaa.Db
open Go Go.RowKit
open Go.WideShapes Go.MapKept

theorem wpList_append_rowN {P : Program} (w : World) {ops : Array Oper} {rest : List Oper} {o : Oper} {a : Act} {Q : Exit → Act → World → Prop} (hgd : o.guard = none) (s x : Operand) (t : TypeId)
    (ho : o.op = .call { callee := .builtin .append, args := #[s, x], argTypes := #[t, t] })
    (B : Nat) (e : TypeId) (i : TypeInfo) (z : Value) (size bytes : Nat) (ht : P.underlying t = some (.slice e)) (hi : P.info? e = some i) (hz : i.zero = some z) (hsize : i.size = size) (hby : i.bytes = bytes) (hzs : z.cells.size = size) (hsz : 0 < size)
    (v : Value) (n : Nat) (xs : List Value) (hs : a.eval s = v) (hown : w.ownsRow B e size v n xs) (ad : Option Addr) (cap m : Nat) (news : List Value) (hl : news.length = m * size) (hx : a.eval x = .slice ad m cap) (hrow : RowAt w Tt ad cap m news) (h1 : ∀ u ∈ news, u.oneCell' = true)
    (h63 : n + m ≤ maxLen) (hbytes : (n + m) * bytes ≤ 140737488355328) (hB : B ≤ w.heap.size)
    (h : ∀ v' w', w'.ownsRow B e size v' (n + m) (xs ++ news) → w.grownBy w' v.ownBlock → (v'.ownBlock = v.ownBlock ∨ v'.ownBlock = some w.heap.size) → wpList P ops Q rest (a.put o.dst v') w') :
    wpList P ops Q (o :: rest) a w := by
  cases ad with
  | none =>
    have hz : cap = 0 := hrow.nil rfl
    have hle := hrow.le
    have hm : m = 0 := by omega
    subst hm
    have hn : news = [] := List.eq_nil_of_length_eq_zero (by simpa using hl)
    subst hn hz
    refine wpList_plain hgd fun K' hK' => ?_
    have hr := run_append_owned_none (P := P) (w := w) B t o.type e i size ht hi v n xs hown
    unfold Oper.wp
    simp [execOp, ho, resolve, invoke, builtin, hs, hx, hr, Result.andThen]
    exact hK' _ _ (h v w (by simpa using hown) ⟨rfl, rfl, rfl, Nat.le_refl _, fun _ _ _ => rfl⟩ (.inl rfl))
  | some ad =>
    refine wpList_append_own_at w hgd s x t ho B e i z size bytes ht hi hz hsize hby hzs hsz v n xs hs hown ad m cap news hx hl (fun j u hj => ?_) h1 h63 hbytes hB (fun v' w' r1 r2 _ r3 => h v' w' r1 r2 r3)
    obtain ⟨b', off, ha, _, hc⟩ := hrow.at_ j u hj
    cases ha
    rw [Go.WideShapes.add_plain]; exact hc
theorem below_grown {w w' : World} (h : w.grownBy w' none) : Below w.heap.size w w' := ⟨h.os, h.tape, h.output, h.size, fun i hi => h.block i hi (fun e => by cases e)⟩

theorem num_one (l : List Int) : ∀ u ∈ numCells l, u.oneCell' = true := fun u hu => by
  unfold numCells at hu
  obtain ⟨x, _, rfl⟩ := List.mem_map.1 hu
  rfl
set_option maxHeartbeats 2000000 in
set_option maxRecDepth 100000 in
theorem order_c (tb gp ge gn cp ce cn : Nat) (oa : Option Addr) (oc : Nat) (t : Tp) (W : World) (h : TreM tb gp ge gn cp ce cn oa oc t W) (hl : t.order.length ≤ 32768) :
    Calls Try.prog 14 #[.pointer (some ⟨tb, 0, none⟩)] W fun e w' => ∃ v, e = .returned v ∧ w'.ownsRow W.heap.size 3 1 v t.order.length (numCells t.order) ∧ Below W.heap.size W w' := by
  obtain ⟨i0, hi0, hz0, hz1, hz2⟩ := info_i
  have c0 := h.c0
  have ho := h.order
  have hnl : (numCells t.order).length = t.order.length * 1 := by simp [numCells]
  clear h
  go_enter Try.func14, Try.ntmps14
  go_wp2_with (at_builtin; refine wpList_append_rowN _ rfl _ _ 33 rfl W.heap.size 3 i0 _ 1 8 Try.underlying33 hi0 hz0 hz1 hz2 rfl (by decide) _ _ _ rfl (World.ownsRow_nil _ _ _ _) oa oc t.order.length (numCells t.order) hnl rfl ho (num_one _) ?c1 ?c2 ?c3 ?_)
  case c1 => unfold maxLen; omega
  case c2 => omega
  case c3 => omega
  intro v1 w1 hown1 hgr1 _
  have hb := below_grown hgr1
  clear hgr1
  go_wp2_with fail
  go_ret
  exact ⟨_, rfl, hown1, hb⟩

/-- a tree's lists belong together -/
structure Tp.ok (t : Tp) : Prop where
  ord : ∀ (k : Nat) (x : Int), t.order[k]? = some x → ∃ y : Nat, x = y ∧ y < t.n ∧ t.place y = k
  pl : ∀ y, y < t.n → 0 ≤ t.place y → ∃ k : Nat, t.place y = k ∧ t.order[k]? = some (y : Int)
  en : ∀ y, y < t.n → 0 ≤ t.place y → ∃ e : Nat, t.end_ y = e ∧ t.place y < e ∧ e ≤ t.order.length
def Tp.kidsF (t : Tp) (stop : Nat) : Nat → Nat → List Int
  | 0, _ => []
  | q + 1, k => if k < stop then t.order.getD k 0 :: t.kidsF stop q (t.end_ (t.order.getD k 0).toNat).toNat else []
def Tp.kids (t : Tp) (b : Int) : List Int := if t.reach b = true then t.kidsF (t.end_ b.toNat).toNat t.order.length ((t.place b.toNat).toNat + 1) else []
theorem Tp.kidsF_zero (t : Tp) (stop q k : Nat) (h : ¬k < stop) : t.kidsF stop q k = [] := by
  cases q with
  | zero => rfl
  | succ q => unfold Tp.kidsF; rw [if_neg h]
theorem Tp.kidsF_len (t : Tp) (stop : Nat) : ∀ q k, (t.kidsF stop q k).length ≤ q
  | 0, _ => by simp [Tp.kidsF]
  | q + 1, k => by
    unfold Tp.kidsF
    split
    · have := Tp.kidsF_len t stop q (t.end_ (t.order.getD k 0).toNat).toNat
      simp
      exact this
    · simp
set_option maxHeartbeats 4000000 in
set_option maxRecDepth 100000 in
theorem kids_c (tb gp ge gn cp ce cn : Nat) (oa : Option Addr) (oc : Nat) (t : Tp) (b : Int) (W : World) (h : TreM tb gp ge gn cp ce cn oa oc t W) (ht : t.ok) (hl : t.order.length ≤ 32768) :
    Calls Try.prog 19 #[.pointer (some ⟨tb, 0, none⟩), .int .i64 b] W fun e w' => ∃ v, e = .returned v ∧ w'.ownsRow W.heap.size 3 1 v (t.kids b).length (numCells (t.kids b)) ∧ Below W.heap.size W w' := by
  have hc := Lib.hid (reached_c tb gp ge gn cp ce cn oa oc t b W h)
  obtain ⟨i0, hi0, hz0, hz1, hz2⟩ := info_i
  have c1 := h.c1
  have c2 := h.c2
  obtain ⟨k1, k2, k3, k4, k5, k6, k7⟩ := h.cap
  unfold Tp.kids
  cases hr : t.reach b
  · rw [hr] at hc
    clear h
    go_enter Try.func19, Try.ntmps19
    go_wp2_with fail
    refine hc.out.mono ?_
    rintro e w3 ⟨rfl, rfl⟩
    go_wp2_with fail
    go_ret
    exact ⟨_, rfl, World.ownsRow_nil _ _ _ _, Below.refl _ _⟩
  · rw [hr] at hc
    obtain ⟨x, rfl, hx⟩ := Tp.reach_in hr
    have hpl0 : 0 ≤ t.place x := by
      unfold Tp.reach at hr
      simp only [Bool.and_eq_true, decide_eq_true_eq, Int.toNat_natCast] at hr
      exact hr.2.2
    obtain ⟨p, hp, hpo⟩ := ht.pl x hx hpl0
    obtain ⟨e, he, hpe, hel⟩ := ht.en x hx hpl0
    have hpl : p < t.order.length := (List.getElem?_eq_some_iff.1 hpo).1
    obtain ⟨t1, _⟩ := h.place.get hx
    have hx0 : (0 : Int) ≤ (x : Int) := by omega
    have hx1 : (x : Int) < (t.n : Int) := by omega
    rw [Int.toNat_natCast, if_pos rfl, hp, he, Int.toNat_natCast, Int.toNat_natCast]
    rw [hp] at t1
    have hlen := t.kidsF_len e t.order.length (p + 1)
    replace h := Lib.hid h
    replace ht := Lib.hid ht
    obtain ⟨Z, hZ⟩ : ∃ Z, t.kidsF e t.order.length (p + 1) = Z := ⟨_, rfl⟩
    rw [hZ] at hlen ⊢
    replace hZ := Lib.hid hZ
    replace hp := Lib.hid hp
    replace he := Lib.hid he
    clear hpl0 hpe hr
    go_enter Try.func19, Try.ntmps19
    go_wp2_with fail
    refine hc.out.mono ?_
    rintro e w3 ⟨rfl, rfl⟩
    clear hc
    go_wp2_with fail
    go_loopw [5, 6] (fun v i wr => ∃ (q j : Nat) (l : List Int), i = .int .i64 j ∧ Hid (l ++ t.kidsF e q j = Z) ∧ e ≤ q + j ∧ l.length + q = t.order.length ∧ Hid (wr.ownsRow w3.heap.size 3 1 v l.length (numCells l)) ∧ Hid (Below w3.heap.size w3 wr)) (fun _ i _ => e - (intOf i).toNat)
    case atStart => exact ⟨t.order.length, p + 1, [], by go_num, by rw [List.nil_append]; exact hZ, by omega, by simp, Lib.hid (World.ownsRow_nil _ _ _ _), Lib.hid (Below.refl _ _)⟩
    case round =>
      obtain ⟨q, j, l, rfl, hl2, hq, hlq, hown, hb⟩ := hrel
      have hk := h.out.keep hb.out
      have d0 := hk.c0
      have d1 := hk.c1
      have d2 := hk.c2
      obtain ⟨t2, _⟩ := hk.end_.get hx
      rw [he.out] at t2
      by_cases hje : j < e
      · obtain ⟨y, hy⟩ : ∃ y, t.order[j]? = some y := ⟨_, List.getElem?_eq_getElem (by omega)⟩
        obtain ⟨y', rfl, hyn, hyp⟩ := ht.out.ord j y hy
        obtain ⟨e', he', hpe', _⟩ := ht.out.en y' hyn (by omega)
        obtain ⟨ob, oo, hoa, _, hoc⟩ := num_row hk.order j _ hy
        obtain ⟨hl3, hl4⟩ := len_i hk.order
        obtain ⟨t3, _⟩ := hk.end_.get hyn
        rw [he'] at t3
        obtain ⟨q', rfl⟩ : ∃ q', q = q' + 1 := ⟨q - 1, by omega⟩
        have hgd : t.order.getD j 0 = (y' : Int) := by rw [List.getD_eq_getElem?_getD, hy]; rfl
        have hst : t.kidsF e (q' + 1) j = (y' : Int) :: t.kidsF e q' e' := by
          rw [Tp.kidsF, if_pos hje, hgd, Int.toNat_natCast, he', Int.toNat_natCast]
        have hl5 : Hid ((l ++ [(y' : Int)]) ++ t.kidsF e q' e' = Z) := Lib.hid (by rw [← hl2.out, hst, List.append_assoc]; rfl)
        have hj0 : (0 : Int) ≤ (j : Int) := by omega
        have hj1 : (j : Int) < (t.order.length : Int) := by omega
        have hj2 : (j : Int) < (e : Int) := by omega
        have hy0 : (0 : Int) ≤ (y' : Int) := by omega
        have hy1 : (y' : Int) < (t.n : Int) := by omega
        have hlj : j < e' := by omega
        rw [hoa] at d0
        have hyh := Lib.hid hy
        have heh := Lib.hid he'
        clear hst hgd he' hy hl2 hk hpe' hyp
        go_wp2_with (at_builtin; refine wpList_append_own_at _ rfl _ _ 33 rfl w3.heap.size 3 i0 _ 1 8 Try.underlying33 hi0 hz0 hz1 hz2 rfl (by decide) _ _ _ rfl (own_below hown.out (b_alloc _ _)) _ 1 1 [.int .i64 (y' : Int)] rfl rfl (one_at _ _ _ _ (by first | rfl | simp)) (by simp [Value.oneCell']) ?c1 ?c2 ?c3 ?_)
        case c1 => unfold maxLen; omega
        case c2 => omega
        case c3 => have := hb.out.size; simp; omega
        intro v' w5 hown5 hg5 _ _
        have hown6 : Hid (w5.ownsRow w3.heap.size 3 1 v' (l ++ [(y' : Int)]).length (numCells (l ++ [(y' : Int)]))) := Lib.hid (by
          rw [List.length_append, num_snoc]; exact hown5)
        have hb6 : Hid (Below w3.heap.size w3 w5) := Lib.hid ((hb.out.alloc (by have := hb.out.size; omega) _).grown hg5 (by have := hb.out.size; simp; omega) (fun q e => by have := (hown.out.lt q e).1; omega))
        have hk := h.out.keep hb6.out
        have d0 := hk.c0
        have d2 := hk.c2
        obtain ⟨ob', oo', hoa', _, hoc'⟩ := num_row hk.order j _ hyh.out
        obtain ⟨t4, _⟩ := hk.end_.get hyn
        rw [heh.out] at t4
        rw [hoa'] at d0
        clear hk hown5 hg5 hown hb hyh heh
        go_wp2_with fail
        go_quiet (fail)
        go_wp2_with fail
        go_roundw
        case rel => exact ⟨q', e', _, rfl, hl5, by omega, by simp; omega, Lib.hid (own_below hown6.out ⟨rfl, rfl, rfl, Nat.le_refl _, fun _ _ => rfl⟩), Lib.hid (hb6.out.trans ⟨rfl, rfl, rfl, Nat.le_refl _, fun _ _ => rfl⟩)⟩
        case measure => simp [intOf]; omega
      · have hl6 : l = Z := by rw [← hl2.out, Tp.kidsF_zero _ _ _ _ hje, List.append_nil]
        have hj2 : ¬ (j : Int) < (e : Int) := by omega
        subst hl6
        clear hk hl2
        go_wp2_with fail
        go_ret
        exact ⟨_, rfl, hown.out, hb.out⟩
end Go.Proofs.Ytiaecobjbckhoaa.Db
