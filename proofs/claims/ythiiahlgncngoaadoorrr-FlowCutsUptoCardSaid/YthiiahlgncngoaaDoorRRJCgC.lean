/- Walk of bobbinref07.May. Conditions: the program lies in memory; its lists are of bounded length; the packages' tables hold their lists. -/
import Derived.Test.YthiiahlgncngoaaDoorRRJM5
import Derived.Test.YthiiahlgncngoaaDoorRRJaR
set_option maxHeartbeats 16000000
set_option maxRecDepth 100000
set_option linter.unusedSimpArgs false
set_option linter.unusedVariables false
namespace Go.Proofs.YthiiahlgncngoaaDoorRR.Cd
open Go Go.RowKit
open Go.Proofs.YthiiahlgncngoaaDoorRR.Lx Go.Proofs.YthiiahlgncngoaaDoorRR.Tr Go.Proofs.YthiiahlgncngoaaDoorRR.Pa
/-! ### a list of names of the call's own -/
def OwnS (W : World) (B : Nat) (v : Value) (l : List ByteArray) : Prop := W.ownsRow B 9 1 v l.length (Ze l)
theorem info_s : ∃ i, Tryd.prog.info? 9 = some i ∧ i.zero = some (.string ⟨#[]⟩) ∧ i.size = 1 ∧ i.bytes = 16 := ⟨_, rfl, rfl, rfl, rfl⟩
theorem str_app (l r : List ByteArray) : Ze (l ++ r) = Ze l ++ Ze r := by unfold Ze; rw [List.map_append]
theorem str_one (l : List ByteArray) : ∀ u ∈ Ze l, u.oneCell' = true := fun u hu => by
 unfold Ze at hu
 obtain ⟨x, _, rfl⟩ := List.mem_map.1 hu
 rfl
theorem wpList_ap_s (w : World) {ops : Array Oper} {rest : List Oper} {o : Oper} {a : Act} {Q : Exit → Act → World → Prop} (hgd : o.guard = none) (s x : Operand)
 (ho : o.op = .call { callee := .builtin .append, args := #[s, x], argTypes := #[23, 23] })
 (B : Nat) (v : Value) (l : List ByteArray) (hs : a.eval s = v) (hown : OwnS w B v l) (ad : Option Addr) (cap : Nat) (news : List ByteArray) (n : Nat) (hn : news.length = n) (hx : a.eval x = .slice ad n cap) (hrow : RowAt w (fun _ => True) ad cap n (Ze news))
 (hlim : l.length + n ≤ 1099511627776) (hB : B ≤ w.heap.size)
 (h : ∀ v' w', OwnS w' B v' (l ++ news) → w.grownBy w' v.ownBlock → wpList Tryd.prog ops Q rest (a.put o.dst v') w') : wpList Tryd.prog ops Q (o :: rest) a w := by
 obtain ⟨i0, hi0, hz0, hz1, hz2⟩ := info_s
 subst hn
 cases ad with
 | none =>
   have hz : cap = 0 := hrow.nil rfl
   have hle := hrow.le
   have hn : news = [] := List.eq_nil_of_length_eq_zero (by omega)
   subst hn hz
   refine wpList_plain hgd fun K' hK' => ?_
   have hr := run_append_owned_none (P := Tryd.prog) (w := w) B 23 o.type 9 i0 1 Tryd.underlying23 hi0 v l.length (Ze l) hown
   unfold Oper.wp
   simp [execOp, ho, resolve, invoke, builtin, hs, hx, hr, Result.andThen]
   exact hK' _ _ (h v w (by simpa using hown) ⟨rfl, rfl, rfl, Nat.le_refl _, fun _ _ _ => rfl⟩)
 | some ad =>
   refine wpList_append_own_at w hgd s x 23 ho B 9 i0 (.string ⟨#[]⟩) 1 16 Tryd.underlying23 hi0 hz0 hz1 hz2 rfl (by decide) v l.length (Ze l) hs hown ad news.length cap (Ze news) hx (by simp [Ze]) (fun j u hj => ?_) (str_one news) (by unfold maxLen; omega) (by omega) hB (fun v' w' r1 r2 _ _ => h v' w' ?_ r2)
   · obtain ⟨b', off, ha, _, hc⟩ := hrow.at_ j u hj
     cases ha
     rw [Go.WideShapes.add_plain]; exact hc
   · unfold OwnS
     rw [List.length_append, str_app]
     exact r1
theorem row_s1 (W : World) (x : ByteArray) (B : Nat) (hB : W.heap.size = B) : RowAt (W.alloc (.cells #[.string x] 9)) (fun _ => True) (some ⟨B, 0, none⟩) 1 1 (Ze [x]) := by
 subst hB
 refine ⟨Nat.le_refl _, by unfold maxLen; omega, fun h => (by cases h), fun j u hu => ⟨_, 0, rfl, trivial, ?_⟩⟩
 rw [Nat.zero_add]
 exact Zk W [.string x] 9 j u hu
theorem own_keepS {W W' w3 : World} {B : Nat} {v : Value} {l : List ByteArray} (h : OwnS W B v l) (hg : W'.grownBy w3 v.ownBlock) (b : Nat) (hb : b < W'.heap.size) (hne : W.heap.size ≤ b ∨ b < B) : w3.heap[b]? = W'.heap[b]? :=
 hg.block b hb (fun e => by have := h.lt _ e.symm; omega)
theorem own_atS {W : World} {B : Nat} {v : Value} {l : List ByteArray} (h : OwnS W B v l) (hl : 0 < l.length) : ∃ g cap, v = .slice (some ⟨g, 0, none⟩) l.length cap ∧ l.length ≤ cap ∧ cap ≤ maxLen ∧ ∀ (j : Nat) (x : ByteArray), l[j]? = some x → W.cell? ⟨g, j, none⟩ = some (.string x) := by
 rcases h.2 with ⟨_, h0⟩ | ⟨g, cap, cur, rfl, _, hg, h1, h2, _, ht⟩
 · omega
 · refine ⟨g, cap, rfl, h1, h2, fun j x hj => ?_⟩
   have hk : (Ze l)[j]? = some (.string x) := by unfold Ze; rw [List.getElem?_map, hj]; rfl
   have hjl := (List.getElem?_eq_some_iff.1 hj).1
   rw [← ht, List.getElem?_take, if_pos (by omega)] at hk
   simp only [World.cell?, hg]
   simpa using hk
theorem mayNames_of {p : Pg} (h : Fine (Zn p)) (hl : (Zn p).length ≤ 256) : Zg p = true := by
 unfold Zg
 have := h []
 rw [List.append_nil] at this
 rw [this, decide_eq_true hl]
 rfl
theorem mayNames_bad {p : Pg} {k : Nat} {x : ByteArray} (hx : (Zn p)[k]? = some x) (h : Fine ((Zn p).take k)) (hb : ((Zn p).take k).any (fun t => decide (t = x)) = true ∨ nmB x = false) : Zg p = false := by
 have e : Zn p = (Zn p).take k ++ [x] ++ (Zn p).drop (k + 1) := by
  have h2 : (Zn p).take (k + 1) = (Zn p).take k ++ [x] := by rw [List.take_add_one, hx]; rfl
  rw [← h2, List.take_append_drop]
 unfold Zg
 rw [e, h.bad hb]
 simp
theorem any_take {l : List ByteArray} {k j : Nat} {x y : ByteArray} (hj : l[j]? = some y) (hjk : j < k) (e : y = x) : (l.take k).any (fun t => decide (t = x)) = true := by
 refine List.any_eq_true.2 ⟨y, List.mem_of_getElem? (i := j) (by rw [List.getElem?_take, if_pos hjk]; exact hj), by simp [e]⟩
theorem any_none {l : List ByteArray} {k : Nat} {x : ByteArray} (h : ∀ (j : Nat) (y : ByteArray), j < k → l[j]? = some y → y ≠ x) : (l.take k).any (fun t => decide (t = x)) = false := by
 rw [List.any_eq_false]
 intro y hy
 obtain ⟨j, hj⟩ := List.getElem?_of_mem hy
 rw [List.getElem?_take] at hj
 split at hj
 · simpa using h j y (by assumption) hj
 · cases hj
/-- a program's box -/
def Bp1 (B : Nat) (p : Pg) (V : World) : Prop := V.cell? ⟨B, 0, none⟩ = some (.slice p.ma p.mems.length p.mcap) ∧ V.cell? ⟨B, 1, none⟩ = some (.slice p.la p.locks.length p.lcap) ∧ V.cell? ⟨B, 2, none⟩ = some (.slice p.fa p.funs.length p.fcap)
structure Sml (p : Pg) : Prop where
 sum : p.mems.length + p.locks.length + p.funs.length ≤ 1048576
 args : ∀ f ∈ p.funs, ∀ i ∈ f.code, i.args.length ≤ 1048576
def szOk (m : Mm) : Bool := decide (1 ≤ m.size) && decide (m.size ≤ 1024)
theorem rMay_any (p : Pg) (w : World) (hp : Pg.In w (fun _ => True) p) (hS : Sml p) :
 Calls Tryd.prog 17 #[p.val] w fun e w' => e = .returned (.bool (mayP p)) ∧ Below w.heap.size w w' := by
 obtain ⟨pm1, pm2⟩ := Q2 hp.mrow
 obtain ⟨pl1, pl2⟩ := Q2 hp.lrow
 obtain ⟨pf1, pf2⟩ := Q2 hp.frow
 have hsum := hS.sum
 have hst : Hid (Below w.heap.size w (w.alloc (.cells #[.slice p.ma p.mems.length p.mcap, .slice p.la p.locks.length p.lcap, .slice p.fa p.funs.length p.fcap] 26))) := Lh (Qh _ _)
 have hbx : Hid (Bp1 w.heap.size p (w.alloc (.cells #[.slice p.ma p.mems.length p.mcap, .slice p.la p.locks.length p.lcap, .slice p.fa p.funs.length p.fcap] 26))) := Lh (Xm (p := p) (Zk w p.vals 26))
 have hno : Hid (∀ b, b = false → (Zg p = b ∨ p.mems.all szOk = b ∨ decide ((Xw p).length ≤ 16) = b ∨ p.funs.all Xd = b ∨ p.funs.all (Xq p) = b) → Ending.returned (.bool false) = .returned (.bool (mayP p))) := Lh (by
  rintro b rfl h
  have e : mayP p = (Zg p && (p.mems.all szOk && (decide ((Xw p).length ≤ 16) && (p.funs.all Xd && p.funs.all (Xq p))))) := rfl
  rw [e]
  rcases h with h | h | h | h | h <;> rw [h] <;> simp)
 have hyes : Hid (Zg p = true → p.mems.all szOk = true → decide ((Xw p).length ≤ 16) = true → p.funs.all Xd = true → p.funs.all (Xq p) = true → Ending.returned (.bool true) = .returned (.bool (mayP p))) := Lh (by
  intro a b c d e
  have k : mayP p = (Zg p && (p.mems.all szOk && (decide ((Xw p).length ≤ 16) && (p.funs.all Xd && p.funs.all (Xq p))))) := rfl
  rw [k, a, b, c, d, e]; rfl)
 have hpV : Hid (∀ V, Below w.heap.size w V → Pg.In V (fun _ => True) p) := Lh fun V hV => hp.below (Kps.of_below hV)
 have hnsz : Hid (∀ x ∈ Zn p, x.size ≤ maxLen) := Lh (by
  intro x hx
  unfold Zn at hx
  rcases List.mem_append.1 hx with hx | hx
  · obtain ⟨m, hm, rfl⟩ := List.mem_map.1 hx
    exact (hp.mems m hm).name
  · rcases List.mem_append.1 hx with hx | hx
    · exact hp.locks x hx
    · obtain ⟨f, hf, rfl⟩ := List.mem_map.1 hx
      exact (hp.funs f hf).name)
 replace hS := Lh hS
 have hnl := Lh (namesP_len p)
 have hthr := Lh (thrs_len p.funs 0)
 clear hp
 go_enter Tryd.func17, Tryd.ntmps17
 go_upto_region 1 with fail
 generalize hW0 : w.alloc (.cells #[.slice p.ma p.mems.length p.mcap, .slice p.la p.locks.length p.lcap, .slice p.fa p.funs.length p.fcap] 26) = W0 at *
 have hW0s : w.heap.size < W0.heap.size := by rw [← hW0]; simp
 clear hW0
 have hcell : Hid (∀ V, Below W0.heap.size W0 V → Bp1 w.heap.size p V ∧ Below w.heap.size w V) := Lh fun V hV => ⟨⟨Qe hV hbx.out.1, Qe hV hbx.out.2.1, Qe hV hbx.out.2.2⟩, hst.out.trans (hV.mono hst.out.size)⟩
 clear hbx hst
 go_wp2_with fail
 go_loopw [3, 4] (fun v t4 wr => ∃ k : Nat, k ≤ p.mems.length ∧ t4 = .int .i64 k ∧ Hid (OwnS wr W0.heap.size v ((p.mems.map Mm.name).take k)) ∧ Hid ((p.mems.take k).all szOk = true) ∧ Hid (Below W0.heap.size W0 wr)) (fun _ t4 _ => p.mems.length - (intOf t4).toNat)
 case atStart => exact ⟨0, Nat.zero_le _, rfl, Lh (World.ownsRow_nil _ _ _ _), Lh rfl, Lh (Below.refl _ _)⟩
 case round =>
  obtain ⟨k, hk, rfl, hown, hall, hb⟩ := hrel
  obtain ⟨⟨x0, x1, x2⟩, hbw⟩ := hcell.out _ hb.out
  have hsz := hb.out.size
  by_cases hlt : k < p.mems.length
  · obtain ⟨x, hx⟩ : ∃ e, p.mems[k]? = some e := ⟨_, List.getElem?_eq_getElem hlt⟩
    obtain ⟨b, off, ha, _, c0, c1, c2⟩ := mm_row (hpV.out _ hbw).mrow k x hx
    rw [ha] at x0
    have hi0 : (0 : Int) ≤ (k : Int) := by omega
    have hi1 : (k : Int) < (p.mems.length : Int) := by omega
    have hbad := Lh (fun h => hno.out false rfl (.inr (.inl (all_no (f := szOk) hx h))))
    have hgood := Lh (Z4 (f := szOk) hx)
    have htk := Lh (map_take Mm.name hx)
    have hln : ((p.mems.map Mm.name).take k).length = k := by rw [List.length_take, List.length_map]; omega
    have hbw' := Lh hbw
    clear hx hbw hno hyes hcell hpV ha
    by_cases p1 : x.size < 1
    · have HN := Lh (hbad.out (by unfold szOk; simp; omega))
      clear hbad hgood hall htk hln
      go_wp2_with fail
      go_ret
      exact ⟨HN.out, hbw'.out⟩
    by_cases p2 : 1024 < x.size
    · have HN := Lh (hbad.out (by unfold szOk; simp; omega))
      clear hbad hgood hall htk hln
      go_wp2_with fail
      go_ret
      exact ⟨HN.out, hbw'.out⟩
    have HG : Hid ((p.mems.take (k + 1)).all szOk = true) := Lh (by rw [hgood.out, hall.out]; unfold szOk; simp; omega)
    generalize (p.mems.map Mm.name).take k = L at *
    clear hbad hgood hall
    go_wp2_with (at_builtin; refine wpList_ap_s _ rfl _ _ rfl W0.heap.size _ L rfl (Qn hown.out (Qh _ _)) (some ⟨wr.heap.size, 0, none⟩) 1 [x.name] 1 rfl rfl (row_s1 _ _ _ rfl) ?c1 ?c2 ?_)
    case c1 => omega
    case c2 => first | omega | (simp; omega)
    intro v' w3 hown3 hg3
    have hfin : Hid (OwnS w3 W0.heap.size v' ((p.mems.map Mm.name).take (k + 1))) := Lh (by rw [htk.out]; exact hown3)
    have hbz : Hid (Below W0.heap.size W0 w3) := Lh ((hb.out.alloc hb.out.size _).grown hg3 (by simp; omega) (fun q e => (hown.out.lt q e).1))
    clear hown3 hg3 htk hown hb
    go_wp2_with fail
    go_roundw
    case rel => exact ⟨k + 1, by omega, by go_num, hfin, HG, hbz⟩
    case measure => simp [intOf]; omega
  · have hkl : k = p.mems.length := by omega
    subst hkl
    have hM : Hid (p.mems.all szOk = true) := Lh (by have := hall.out; rwa [List.take_length] at this)
    have hown' : OwnS wr W0.heap.size _ (p.mems.map Mm.name) := (by have := hown.out; rwa [List.take_of_length_le (by simp)] at this)
    have hrl := (hpV.out _ hbw).lrow
    clear hall hown hbw
    go_upto_region 9 with (at_builtin; refine wpList_ap_s _ rfl _ _ rfl W0.heap.size _ (p.mems.map Mm.name) rfl hown' p.la p.lcap p.locks p.locks.length rfl rfl hrl (by simp; omega) hsz ?_; intro v' w3 hown3 hg3)
    have hbz : Hid (Below W0.heap.size W0 w3) := Lh (hb.out.grown hg3 hsz (fun q e => (hown'.lt q e).1))
    have hownB := Lh hown3
    clear hown3 hg3 hown' hrl hb x0 x1 x2 hsz
    obtain ⟨N2, hN2⟩ : ∃ N2, p.mems.map Mm.name ++ p.locks = N2 := ⟨_, rfl⟩
    rw [hN2] at hownB
    have hN2l : N2.length = p.mems.length + p.locks.length := by rw [← hN2]; simp
    have hNN : Hid (N2 ++ p.funs.map Fn.name = Zn p) := Lh (by rw [← hN2]; unfold Zn; rw [List.append_assoc])
    clear hN2
    go_wp2_with fail
    go_loopw [3, 5] (fun v t5 wr => ∃ k : Nat, k ≤ p.funs.length ∧ t5 = .int .i64 k ∧ Hid (OwnS wr W0.heap.size v (N2 ++ (p.funs.map Fn.name).take k)) ∧ Hid ((p.funs.take k).all Xd = true) ∧ Hid ((p.funs.take k).all (Xq p) = true) ∧ Hid (Below W0.heap.size W0 wr)) (fun _ t5 _ => p.funs.length - (intOf t5).toNat)
    case atStart => exact ⟨0, Nat.zero_le _, rfl, Lh (by rw [List.take_zero, List.append_nil]; exact hownB.out), Lh rfl, Lh rfl, hbz⟩
    case round =>
     clear hownB hbz
     obtain ⟨k, hk, rfl, hown, hall, hallc, hb⟩ := hrel
     obtain ⟨⟨x0, x1, x2⟩, hbw⟩ := hcell.out _ hb.out
     have hsz := hb.out.size
     by_cases hlt : k < p.funs.length
     · obtain ⟨x, hx⟩ : ∃ e, p.funs[k]? = some e := ⟨_, List.getElem?_eq_getElem hlt⟩
       obtain ⟨b, off, ha, _, c0, c1, c2, c3, c4⟩ := Yd (hpV.out _ hbw).frow k x hx
       have hxf := hx
       rw [ha] at x2
       have hi0 : (0 : Int) ≤ (k : Int) := by omega
       have hi1 : (k : Int) < (p.funs.length : Int) := by omega
       have hbadH := Lh (fun h => hno.out false rfl (.inr (.inr (.inr (.inl (all_no (f := Xd) hx h))))))
       have hbadC := Lh (fun h => hno.out false rfl (.inr (.inr (.inr (.inr (all_no (f := Xq p) hx h))))))
       have hgH := Lh (Z4 (f := Xd) hx)
       have hgC := Lh (Z4 (f := Xq p) hx)
       have htk := Lh (map_take Fn.name hx)
       have hln : (N2 ++ (p.funs.map Fn.name).take k).length = p.mems.length + p.locks.length + k := by rw [List.length_append, List.length_take, List.length_map]; omega
       have hFV : Hid (∀ V, Below w.heap.size w V → Fn.In V (fun _ => True) x ∧ ∀ i ∈ x.code, Ins.In V (fun _ => True) i) := Lh fun V hV => ⟨(hpV.out V hV).funs x (List.mem_of_getElem? hx), ((hpV.out V hV).funs x (List.mem_of_getElem? hx)).code⟩
       have hfrow : Hid (∀ V, Below w.heap.size w V → RowAt V (fun _ => True) p.fa p.fcap p.funs.length (Zw p.funs)) := Lh fun V hV => (hpV.out V hV).frow
       have hargs : Hid (∀ i ∈ x.code, i.args.length ≤ 17592186044400) := Lh fun i hi => by have := hS.out.args x (List.mem_of_getElem? hx) i hi; omega
       obtain ⟨cl1, cl2⟩ := Q2 (hFV.out _ hbw).1.row
       generalize hL : N2 ++ (p.funs.map Fn.name).take k = L at *
       have hnext : Hid (N2 ++ (p.funs.map Fn.name).take (k + 1) = L ++ [x.name]) := Lh (by rw [htk.out, ← hL, List.append_assoc])
       clear hL htk hx hxf hbw ha
       go_upto_region 14 with (at_builtin; refine wpList_ap_s _ rfl _ _ rfl W0.heap.size _ L rfl (Qn (Qn hown.out (Qh _ _)) (Qh _ _)) (some ⟨wr.heap.size + 1, 0, none⟩) 1 [x.name] 1 rfl rfl (row_s1 _ _ _ (by simp)) (by rw [hln]; omega) (by simp; omega) ?_; intro v' w3 hown3 hg3)
       have hfb : w3.heap[wr.heap.size]? = some (.cells ⟨x.vals⟩ 50 (0, 0)) := (own_keepS hown.out hg3 wr.heap.size (by simp; omega) (.inl (Nat.le_refl _))).trans ((Below.heap_alloc _ _ _ (by simp)).trans (MapKept.heap_alloc wr _).1)
       have hbz : Below W0.heap.size W0 w3 := ((hb.out.alloc hsz _).alloc (by simp; omega) _).grown hg3 (by simp; omega) (fun q e => (hown.out.lt q e).1)
       have hown4 : Hid (OwnS w3 W0.heap.size v' (N2 ++ (p.funs.map Fn.name).take (k + 1))) := Lh (by rw [hnext.out]; exact hown3)
       clear hown3 hg3 hown hb hnext hln x0 x1 x2 c0 c1 c2 c3 c4 hsz
       have hfc : Hid (∀ V, Below w3.heap.size w3 V → (V.cell? ⟨wr.heap.size, 0, none⟩ = some (.string x.name) ∧ V.cell? ⟨wr.heap.size, 1, none⟩ = some (.bool x.thread) ∧ V.cell? ⟨wr.heap.size, 2, none⟩ = some (.int .i64 x.params) ∧ V.cell? ⟨wr.heap.size, 3, none⟩ = some (.int .i64 x.regs) ∧ V.cell? ⟨wr.heap.size, 4, none⟩ = some (.slice x.ca x.code.length x.ccap)) ∧ Bp1 w.heap.size p V ∧ Below w.heap.size w V ∧ Below W0.heap.size W0 V) := Lh fun V hV => by
        have h1 := (hV.block _ (Array.getElem?_eq_some_iff.1 hfb).1).trans hfb
        have h2 := hbz.trans (hV.mono hbz.size)
        obtain ⟨q1, q2⟩ := hcell.out V h2
        exact ⟨⟨Qk h1 rfl, Qk h1 rfl, Qk h1 rfl, Qk h1 rfl, Qk h1 rfl⟩, q1, q2, h2⟩
       have hown5 : Hid (∀ V, Below w3.heap.size w3 V → OwnS V W0.heap.size v' (N2 ++ (p.funs.map Fn.name).take (k + 1))) := Lh fun V hV => Qn hown4.out hV
       obtain ⟨⟨y0, y1, y2, y3, y4⟩, _, hbw3, _⟩ := hfc.out w3 (Below.refl _ _)
       replace hbw3 := Lh hbw3
       clear hfb hbz hown4
       cases hth : x.thread
       case false =>
        rw [hth] at y1
        replace hth := Lh hth
        by_cases q0 : x.params < 0
        · have HN := Lh (hbadH.out (by unfold Xd; simp; omega))
          clear hbadH hbadC hgH hgC hFV hfrow hargs hfc hown5 hno hyes hcell hpV
          go_wp2_with fail
          go_ret
          exact ⟨HN.out, hbw3.out⟩
        by_cases q1 : 8 < x.params
        · have HN := Lh (hbadH.out (by unfold Xd; rw [hth.out]; simp; omega))
          clear hbadH hbadC hgH hgC hFV hfrow hargs hfc hown5 hno hyes hcell hpV
          go_wp2_with fail
          go_ret
          exact ⟨HN.out, hbw3.out⟩
        by_cases q3 : x.regs < x.params
        · have HN := Lh (hbadH.out (by unfold Xd; simp; omega))
          clear hbadH hbadC hgH hgC hFV hfrow hargs hfc hown5 hno hyes hcell hpV
          go_wp2_with fail
          go_ret
          exact ⟨HN.out, hbw3.out⟩
        by_cases q4 : 4096 < x.regs
        · have HN := Lh (hbadH.out (by unfold Xd; simp; omega))
          clear hbadH hbadC hgH hgC hFV hfrow hargs hfc hown5 hno hyes hcell hpV
          go_wp2_with fail
          go_ret
          exact ⟨HN.out, hbw3.out⟩
        by_cases q5 : (x.code.length : Int) < 1
        · have HN := Lh (hbadC.out (by rw [Xo, decide_eq_false (by omega : ¬ 1 ≤ x.code.length)]; rfl))
          clear hbadH hbadC hgH hgC hFV hfrow hargs hfc hown5 hno hyes hcell hpV
          go_wp2_with fail
          go_ret
          exact ⟨HN.out, hbw3.out⟩
        by_cases q6 : 16384 < (x.code.length : Int)
        · have HN := Lh (hbadC.out (by rw [Xo, decide_eq_false (by omega : ¬ x.code.length ≤ 16384)]; simp))
          clear hbadH hbadC hgH hgC hFV hfrow hargs hfc hown5 hno hyes hcell hpV
          go_wp2_with fail
          go_ret
          exact ⟨HN.out, hbw3.out⟩
        have HH : Hid ((p.funs.take (k + 1)).all Xd = true) := Lh (by rw [hgH.out, hall.out]; unfold Xd; rw [hth.out]; simp; omega)
        go_upto_region 16 with fail
        obtain ⟨y, hy⟩ : ∃ y, x.code[x.code.length - 1]? = some y := ⟨_, List.getElem?_eq_getElem (by omega)⟩
        have hlast := lastOp_at hy
        obtain ⟨bl, ofl, hca, _, d0, _, _, _, _, _⟩ := X1 (hFV.out _ hbw3.out).1.row _ y hy
        have hl1 : (0 : Int) ≤ (x.code.length : Int) - 1 := by omega
        have hl2 : (x.code.length : Int) - 1 < (x.code.length : Int) := by omega
        have hl3 : ((x.code.length : Int) - 1).toNat = x.code.length - 1 := by omega
        have hl4 : IntKind.i64.wrap ((x.code.length : Int) - 1) = (x.code.length : Int) - 1 := IntWalk.i64_in _ (by omega)
        rw [hca] at y4
        clear hbadH hgH hy
        by_cases h11 : y.op = 11
        · have HL : Hid (x.code.all (mayF p x) = true → Xq p x = true) := Lh fun h => by rw [Xo, h, hlast, h11, decide_eq_true (by omega : 1 ≤ x.code.length), decide_eq_true (by omega : x.code.length ≤ 16384)]; rfl
          rw [h11] at d0
          clear hlast
          go_wp2_with fail
          go_loopw [8] (fun t8 V => ∃ j : Nat, j ≤ x.code.length ∧ t8 = .int .i64 j ∧ Hid ((x.code.take j).all (mayF p x) = true) ∧ Hid (Below w3.heap.size w3 V)) (fun t8 _ => x.code.length - (intOf t8).toNat)
          case atStart => exact ⟨0, Nat.zero_le _, rfl, Lh rfl, Lh (Below.refl _ _)⟩
          case round =>
           clear y0 y1 y2 y3 y4 d0
           obtain ⟨j, hj, rfl, hcj, hb5⟩ := hrel
           obtain ⟨⟨z0, z1, z2, z3, z4⟩, ⟨g0, g1, g2⟩, hbw5, hbW5⟩ := hfc.out _ hb5.out
           by_cases hjl : j < x.code.length
           · obtain ⟨i, hi⟩ : ∃ e, x.code[j]? = some e := ⟨_, List.getElem?_eq_getElem hjl⟩
             obtain ⟨hF1, hF2⟩ := hFV.out _ hbw5
             obtain ⟨b2, off2, hca2, _, c0, c1, c2, c3, c4, c5⟩ := X1 hF1.row j i hi
             rw [hca2] at z4
             have hIn := hF2 i (List.mem_of_getElem? hi)
             have hcl := Lh (Qq (w := wr) (f := 47) (args := #[p.val, x.val, i.val]) (fun V hb => rmay_any p x i V hIn.op hIn.n (hIn.row.below (Kps.of_below hb)) (hargs.out i (List.mem_of_getElem? hi)) (hfrow.out V (hbw5.trans (hb.mono hbw5.size)))))
             rw [rmay_eq] at hcl
             unfold Pg.val Fn.val Ins.val at hcl
             rw [hca2] at hcl
             have hnoC := Lh (fun h => hbadC.out (by rw [Xo, all_no (f := mayF p x) hi h]; simp))
             have hyesC := Lh (Z4 (f := mayF p x) hi)
             have hj0 : (0 : Int) ≤ (j : Int) := by omega
             have hj1 : (j : Int) < (x.code.length : Int) := by omega
             have u0 := Qj z0
             have u1 := Qj z1
             have u2 := Qj z2
             have u3 := Qj z3
             have u4 := Qj z4
             have v0 := Qj g0
             have v1 := Qj g1
             have v2 := Qj g2
             have p0 := Qj c0
             have p1 := Qj c1
             have p2 := Qj c2
             have p3 := Qj c3
             have p4 := Qj c4
             have p5 := Qj c5
             have hdr := Lh (fun (U : UpW wr) => (⟨hb5.out.trans (U.ok.mono hb5.out.size), hbw5.trans (U.ok.mono hbw5.size)⟩ : Below w3.heap.size w3 U.val ∧ Below w.heap.size w U.val))
             clear hF1 hF2 hIn hi c0 c1 c2 c3 c4 c5 z0 z1 z2 z3 g0 g1 g2 hbw5 hbW5 hb5 hca2
             go_wp2_with fail
             refine Qp (C := fun V => ∃ U : UpW wr, V = U.val) (by kernel_rfl) (by kernel_rfl) ⟨⟨wr.drew, (Below.refl _ _).drew⟩, rfl⟩ ?_
             iterate 7 (quiet_step (fail))
             quiet_step (exact hcl.out _)
             iterate 1 (quiet_step (fail))
             refine wpQuiet_nil ?_
             rintro _ ⟨U, rfl⟩
             obtain ⟨r1, r2⟩ := hdr.out U
             replace r1 := Lh r1
             replace r2 := Lh r2
             clear hcl hdr u0 u1 u2 u3 u4 v0 v1 v2 p0 p1 p2 p3 p4 p5
             cases hsi : mayF p x i
             · have HN := Lh (hnoC.out hsi)
               clear hnoC hyesC
               go_wp2_with fail
               go_ret
               exact ⟨HN.out, r2.out⟩
             · have HT : Hid ((x.code.take (j + 1)).all (mayF p x) = true) := Lh (by rw [hyesC.out, hcj.out, hsi]; rfl)
               clear hnoC hyesC
               go_wp2_with fail
               go_roundw
               case rel => exact ⟨j + 1, by omega, by go_num, HT, r1⟩
               case measure => simp [intOf]; omega
           · have hjl' : j = x.code.length := by omega
             have HC : Hid ((p.funs.take (k + 1)).all (Xq p) = true) := Lh (by
              have h1 := hcj.out
              rw [hjl', List.take_length] at h1
              rw [hgC.out, hallc.out, HL.out h1]; rfl)
             have ho6 := Lh (hown5.out _ hb5.out)
             have hbW6 := Lh hbW5
             clear hcj hown5 hfc hFV hfrow hargs HL hgC hbadC hbW5 hbw5
             go_wp2_with fail
             go_roundw
             case rel => exact ⟨k + 1, by omega, by go_num, ho6, HH, HC, hbW6⟩
             case measure => simp [intOf]; omega
        by_cases h13 : y.op = 13
        · have HL : Hid (x.code.all (mayF p x) = true → Xq p x = true) := Lh fun h => by rw [Xo, h, hlast, h13, decide_eq_true (by omega : 1 ≤ x.code.length), decide_eq_true (by omega : x.code.length ≤ 16384)]; rfl
          rw [h13] at d0
          have e11 : ((13 : Int) != 11) = true := by decide
          clear hlast
          go_wp2_with fail
          go_loopw [8] (fun t8 V => ∃ j : Nat, j ≤ x.code.length ∧ t8 = .int .i64 j ∧ Hid ((x.code.take j).all (mayF p x) = true) ∧ Hid (Below w3.heap.size w3 V)) (fun t8 _ => x.code.length - (intOf t8).toNat)
          case atStart => exact ⟨0, Nat.zero_le _, rfl, Lh rfl, Lh (Below.refl _ _)⟩
          case round =>
           clear y0 y1 y2 y3 y4 d0
           obtain ⟨j, hj, rfl, hcj, hb5⟩ := hrel
           obtain ⟨⟨z0, z1, z2, z3, z4⟩, ⟨g0, g1, g2⟩, hbw5, hbW5⟩ := hfc.out _ hb5.out
           by_cases hjl : j < x.code.length
           · obtain ⟨i, hi⟩ : ∃ e, x.code[j]? = some e := ⟨_, List.getElem?_eq_getElem hjl⟩
             obtain ⟨hF1, hF2⟩ := hFV.out _ hbw5
             obtain ⟨b2, off2, hca2, _, c0, c1, c2, c3, c4, c5⟩ := X1 hF1.row j i hi
             rw [hca2] at z4
             have hIn := hF2 i (List.mem_of_getElem? hi)
             have hcl := Lh (Qq (w := wr) (f := 47) (args := #[p.val, x.val, i.val]) (fun V hb => rmay_any p x i V hIn.op hIn.n (hIn.row.below (Kps.of_below hb)) (hargs.out i (List.mem_of_getElem? hi)) (hfrow.out V (hbw5.trans (hb.mono hbw5.size)))))
             rw [rmay_eq] at hcl
             unfold Pg.val Fn.val Ins.val at hcl
             rw [hca2] at hcl
             have hnoC := Lh (fun h => hbadC.out (by rw [Xo, all_no (f := mayF p x) hi h]; simp))
             have hyesC := Lh (Z4 (f := mayF p x) hi)
             have hj0 : (0 : Int) ≤ (j : Int) := by omega
             have hj1 : (j : Int) < (x.code.length : Int) := by omega
             have u0 := Qj z0
             have u1 := Qj z1
             have u2 := Qj z2
             have u3 := Qj z3
             have u4 := Qj z4
             have v0 := Qj g0
             have v1 := Qj g1
             have v2 := Qj g2
             have p0 := Qj c0
             have p1 := Qj c1
             have p2 := Qj c2
             have p3 := Qj c3
             have p4 := Qj c4
             have p5 := Qj c5
             have hdr := Lh (fun (U : UpW wr) => (⟨hb5.out.trans (U.ok.mono hb5.out.size), hbw5.trans (U.ok.mono hbw5.size)⟩ : Below w3.heap.size w3 U.val ∧ Below w.heap.size w U.val))
             clear hF1 hF2 hIn hi c0 c1 c2 c3 c4 c5 z0 z1 z2 z3 g0 g1 g2 hbw5 hbW5 hb5 hca2
             go_wp2_with fail
             refine Qp (C := fun V => ∃ U : UpW wr, V = U.val) (by kernel_rfl) (by kernel_rfl) ⟨⟨wr.drew, (Below.refl _ _).drew⟩, rfl⟩ ?_
             iterate 7 (quiet_step (fail))
             quiet_step (exact hcl.out _)
             iterate 1 (quiet_step (fail))
             refine wpQuiet_nil ?_
             rintro _ ⟨U, rfl⟩
             obtain ⟨r1, r2⟩ := hdr.out U
             replace r1 := Lh r1
             replace r2 := Lh r2
             clear hcl hdr u0 u1 u2 u3 u4 v0 v1 v2 p0 p1 p2 p3 p4 p5
             cases hsi : mayF p x i
             · have HN := Lh (hnoC.out hsi)
               clear hnoC hyesC
               go_wp2_with fail
               go_ret
               exact ⟨HN.out, r2.out⟩
             · have HT : Hid ((x.code.take (j + 1)).all (mayF p x) = true) := Lh (by rw [hyesC.out, hcj.out, hsi]; rfl)
               clear hnoC hyesC
               go_wp2_with fail
               go_roundw
               case rel => exact ⟨j + 1, by omega, by go_num, HT, r1⟩
               case measure => simp [intOf]; omega
           · have hjl' : j = x.code.length := by omega
             have HC : Hid ((p.funs.take (k + 1)).all (Xq p) = true) := Lh (by
              have h1 := hcj.out
              rw [hjl', List.take_length] at h1
              rw [hgC.out, hallc.out, HL.out h1]; rfl)
             have ho6 := Lh (hown5.out _ hb5.out)
             have hbW6 := Lh hbW5
             clear hcj hown5 hfc hFV hfrow hargs HL hgC hbadC hbW5 hbw5
             go_wp2_with fail
             go_roundw
             case rel => exact ⟨k + 1, by omega, by go_num, ho6, HH, HC, hbW6⟩
             case measure => simp [intOf]; omega
        · have HN := Lh (hbadC.out (by rw [Xo, hlast, decide_eq_false h11, decide_eq_false h13]; simp))
          have e11 : (y.op != 11) = true := by simpa using h11
          have e13 : (y.op != 13) = true := by simpa using h13
          clear hbadC hgC hFV hfrow hargs hfc hown5 hno hyes hcell hpV hlast
          go_wp2_with fail
          go_ret
          exact ⟨HN.out, hbw3.out⟩
       case true =>
        rw [hth] at y1
        replace hth := Lh hth
        by_cases q0 : x.params < 0
        · have HN := Lh (hbadH.out (by unfold Xd; simp; omega))
          clear hbadH hbadC hgH hgC hFV hfrow hargs hfc hown5 hno hyes hcell hpV
          go_wp2_with fail
          go_ret
          exact ⟨HN.out, hbw3.out⟩
        by_cases q1 : 8 < x.params
        · have HN := Lh (hbadH.out (by unfold Xd; rw [hth.out]; simp; omega))
          clear hbadH hbadC hgH hgC hFV hfrow hargs hfc hown5 hno hyes hcell hpV
          go_wp2_with fail
          go_ret
          exact ⟨HN.out, hbw3.out⟩
        by_cases q2 : x.params = 0
        case neg =>
         have HN := Lh (hbadH.out (by unfold Xd; rw [hth.out]; simp; omega))
         have s2 : (x.params != 0) = true := by simpa using q2
         clear hbadH hbadC hgH hgC hFV hfrow hargs hfc hown5 hno hyes hcell hpV
         go_wp2_with fail
         go_ret
         exact ⟨HN.out, hbw3.out⟩
        have s2 : (x.params != 0) = false := by simpa using q2
        replace q2 := Lh q2
        by_cases q3 : x.regs < x.params
        · have HN := Lh (hbadH.out (by unfold Xd; simp; omega))
          clear hbadH hbadC hgH hgC hFV hfrow hargs hfc hown5 hno hyes hcell hpV
          go_wp2_with fail
          go_ret
          exact ⟨HN.out, hbw3.out⟩
        by_cases q4 : 4096 < x.regs
        · have HN := Lh (hbadH.out (by unfold Xd; simp; omega))
          clear hbadH hbadC hgH hgC hFV hfrow hargs hfc hown5 hno hyes hcell hpV
          go_wp2_with fail
          go_ret
          exact ⟨HN.out, hbw3.out⟩
        by_cases q5 : (x.code.length : Int) < 1
        · have HN := Lh (hbadC.out (by rw [Xo, decide_eq_false (by omega : ¬ 1 ≤ x.code.length)]; rfl))
          clear hbadH hbadC hgH hgC hFV hfrow hargs hfc hown5 hno hyes hcell hpV
          go_wp2_with fail
          go_ret
          exact ⟨HN.out, hbw3.out⟩
        by_cases q6 : 16384 < (x.code.length : Int)
        · have HN := Lh (hbadC.out (by rw [Xo, decide_eq_false (by omega : ¬ x.code.length ≤ 16384)]; simp))
          clear hbadH hbadC hgH hgC hFV hfrow hargs hfc hown5 hno hyes hcell hpV
          go_wp2_with fail
          go_ret
          exact ⟨HN.out, hbw3.out⟩
        have HH : Hid ((p.funs.take (k + 1)).all Xd = true) := Lh (by have q7 := q2.out; rw [hgH.out, hall.out]; unfold Xd; rw [hth.out]; simp; omega)
        go_upto_region 16 with fail
        clear s2
        obtain ⟨y, hy⟩ : ∃ y, x.code[x.code.length - 1]? = some y := ⟨_, List.getElem?_eq_getElem (by omega)⟩
        have hlast := lastOp_at hy
        obtain ⟨bl, ofl, hca, _, d0, _, _, _, _, _⟩ := X1 (hFV.out _ hbw3.out).1.row _ y hy
        have hl1 : (0 : Int) ≤ (x.code.length : Int) - 1 := by omega
        have hl2 : (x.code.length : Int) - 1 < (x.code.length : Int) := by omega
        have hl3 : ((x.code.length : Int) - 1).toNat = x.code.length - 1 := by omega
        have hl4 : IntKind.i64.wrap ((x.code.length : Int) - 1) = (x.code.length : Int) - 1 := IntWalk.i64_in _ (by omega)
        rw [hca] at y4
        clear hbadH hgH hy
        by_cases h11 : y.op = 11
        · have HL : Hid (x.code.all (mayF p x) = true → Xq p x = true) := Lh fun h => by rw [Xo, h, hlast, h11, decide_eq_true (by omega : 1 ≤ x.code.length), decide_eq_true (by omega : x.code.length ≤ 16384)]; rfl
          rw [h11] at d0
          clear hlast
          go_wp2_with fail
          go_loopw [8] (fun t8 V => ∃ j : Nat, j ≤ x.code.length ∧ t8 = .int .i64 j ∧ Hid ((x.code.take j).all (mayF p x) = true) ∧ Hid (Below w3.heap.size w3 V)) (fun t8 _ => x.code.length - (intOf t8).toNat)
          case atStart => exact ⟨0, Nat.zero_le _, rfl, Lh rfl, Lh (Below.refl _ _)⟩
          case round =>
           clear y0 y1 y2 y3 y4 d0
           obtain ⟨j, hj, rfl, hcj, hb5⟩ := hrel
           obtain ⟨⟨z0, z1, z2, z3, z4⟩, ⟨g0, g1, g2⟩, hbw5, hbW5⟩ := hfc.out _ hb5.out
           by_cases hjl : j < x.code.length
           · obtain ⟨i, hi⟩ : ∃ e, x.code[j]? = some e := ⟨_, List.getElem?_eq_getElem hjl⟩
             obtain ⟨hF1, hF2⟩ := hFV.out _ hbw5
             obtain ⟨b2, off2, hca2, _, c0, c1, c2, c3, c4, c5⟩ := X1 hF1.row j i hi
             rw [hca2] at z4
             have hIn := hF2 i (List.mem_of_getElem? hi)
             have hcl := Lh (Qq (w := wr) (f := 47) (args := #[p.val, x.val, i.val]) (fun V hb => rmay_any p x i V hIn.op hIn.n (hIn.row.below (Kps.of_below hb)) (hargs.out i (List.mem_of_getElem? hi)) (hfrow.out V (hbw5.trans (hb.mono hbw5.size)))))
             rw [rmay_eq] at hcl
             unfold Pg.val Fn.val Ins.val at hcl
             rw [hca2] at hcl
             have hnoC := Lh (fun h => hbadC.out (by rw [Xo, all_no (f := mayF p x) hi h]; simp))
             have hyesC := Lh (Z4 (f := mayF p x) hi)
             have hj0 : (0 : Int) ≤ (j : Int) := by omega
             have hj1 : (j : Int) < (x.code.length : Int) := by omega
             have u0 := Qj z0
             have u1 := Qj z1
             have u2 := Qj z2
             have u3 := Qj z3
             have u4 := Qj z4
             have v0 := Qj g0
             have v1 := Qj g1
             have v2 := Qj g2
             have p0 := Qj c0
             have p1 := Qj c1
             have p2 := Qj c2
             have p3 := Qj c3
             have p4 := Qj c4
             have p5 := Qj c5
             have hdr := Lh (fun (U : UpW wr) => (⟨hb5.out.trans (U.ok.mono hb5.out.size), hbw5.trans (U.ok.mono hbw5.size)⟩ : Below w3.heap.size w3 U.val ∧ Below w.heap.size w U.val))
             clear hF1 hF2 hIn hi c0 c1 c2 c3 c4 c5 z0 z1 z2 z3 g0 g1 g2 hbw5 hbW5 hb5 hca2
             go_wp2_with fail
             refine Qp (C := fun V => ∃ U : UpW wr, V = U.val) (by kernel_rfl) (by kernel_rfl) ⟨⟨wr.drew, (Below.refl _ _).drew⟩, rfl⟩ ?_
             iterate 7 (quiet_step (fail))
             quiet_step (exact hcl.out _)
             iterate 1 (quiet_step (fail))
             refine wpQuiet_nil ?_
             rintro _ ⟨U, rfl⟩
             obtain ⟨r1, r2⟩ := hdr.out U
             replace r1 := Lh r1
             replace r2 := Lh r2
             clear hcl hdr u0 u1 u2 u3 u4 v0 v1 v2 p0 p1 p2 p3 p4 p5
             cases hsi : mayF p x i
             · have HN := Lh (hnoC.out hsi)
               clear hnoC hyesC
               go_wp2_with fail
               go_ret
               exact ⟨HN.out, r2.out⟩
             · have HT : Hid ((x.code.take (j + 1)).all (mayF p x) = true) := Lh (by rw [hyesC.out, hcj.out, hsi]; rfl)
               clear hnoC hyesC
               go_wp2_with fail
               go_roundw
               case rel => exact ⟨j + 1, by omega, by go_num, HT, r1⟩
               case measure => simp [intOf]; omega
           · have hjl' : j = x.code.length := by omega
             have HC : Hid ((p.funs.take (k + 1)).all (Xq p) = true) := Lh (by
              have h1 := hcj.out
              rw [hjl', List.take_length] at h1
              rw [hgC.out, hallc.out, HL.out h1]; rfl)
             have ho6 := Lh (hown5.out _ hb5.out)
             have hbW6 := Lh hbW5
             clear hcj hown5 hfc hFV hfrow hargs HL hgC hbadC hbW5 hbw5
             go_wp2_with fail
             go_roundw
             case rel => exact ⟨k + 1, by omega, by go_num, ho6, HH, HC, hbW6⟩
             case measure => simp [intOf]; omega
        by_cases h13 : y.op = 13
        · have HL : Hid (x.code.all (mayF p x) = true → Xq p x = true) := Lh fun h => by rw [Xo, h, hlast, h13, decide_eq_true (by omega : 1 ≤ x.code.length), decide_eq_true (by omega : x.code.length ≤ 16384)]; rfl
          rw [h13] at d0
          have e11 : ((13 : Int) != 11) = true := by decide
          clear hlast
          go_wp2_with fail
          go_loopw [8] (fun t8 V => ∃ j : Nat, j ≤ x.code.length ∧ t8 = .int .i64 j ∧ Hid ((x.code.take j).all (mayF p x) = true) ∧ Hid (Below w3.heap.size w3 V)) (fun t8 _ => x.code.length - (intOf t8).toNat)
          case atStart => exact ⟨0, Nat.zero_le _, rfl, Lh rfl, Lh (Below.refl _ _)⟩
          case round =>
           clear y0 y1 y2 y3 y4 d0
           obtain ⟨j, hj, rfl, hcj, hb5⟩ := hrel
           obtain ⟨⟨z0, z1, z2, z3, z4⟩, ⟨g0, g1, g2⟩, hbw5, hbW5⟩ := hfc.out _ hb5.out
           by_cases hjl : j < x.code.length
           · obtain ⟨i, hi⟩ : ∃ e, x.code[j]? = some e := ⟨_, List.getElem?_eq_getElem hjl⟩
             obtain ⟨hF1, hF2⟩ := hFV.out _ hbw5
             obtain ⟨b2, off2, hca2, _, c0, c1, c2, c3, c4, c5⟩ := X1 hF1.row j i hi
             rw [hca2] at z4
             have hIn := hF2 i (List.mem_of_getElem? hi)
             have hcl := Lh (Qq (w := wr) (f := 47) (args := #[p.val, x.val, i.val]) (fun V hb => rmay_any p x i V hIn.op hIn.n (hIn.row.below (Kps.of_below hb)) (hargs.out i (List.mem_of_getElem? hi)) (hfrow.out V (hbw5.trans (hb.mono hbw5.size)))))
             rw [rmay_eq] at hcl
             unfold Pg.val Fn.val Ins.val at hcl
             rw [hca2] at hcl
             have hnoC := Lh (fun h => hbadC.out (by rw [Xo, all_no (f := mayF p x) hi h]; simp))
             have hyesC := Lh (Z4 (f := mayF p x) hi)
             have hj0 : (0 : Int) ≤ (j : Int) := by omega
             have hj1 : (j : Int) < (x.code.length : Int) := by omega
             have u0 := Qj z0
             have u1 := Qj z1
             have u2 := Qj z2
             have u3 := Qj z3
             have u4 := Qj z4
             have v0 := Qj g0
             have v1 := Qj g1
             have v2 := Qj g2
             have p0 := Qj c0
             have p1 := Qj c1
             have p2 := Qj c2
             have p3 := Qj c3
             have p4 := Qj c4
             have p5 := Qj c5
             have hdr := Lh (fun (U : UpW wr) => (⟨hb5.out.trans (U.ok.mono hb5.out.size), hbw5.trans (U.ok.mono hbw5.size)⟩ : Below w3.heap.size w3 U.val ∧ Below w.heap.size w U.val))
             clear hF1 hF2 hIn hi c0 c1 c2 c3 c4 c5 z0 z1 z2 z3 g0 g1 g2 hbw5 hbW5 hb5 hca2
             go_wp2_with fail
             refine Qp (C := fun V => ∃ U : UpW wr, V = U.val) (by kernel_rfl) (by kernel_rfl) ⟨⟨wr.drew, (Below.refl _ _).drew⟩, rfl⟩ ?_
             iterate 7 (quiet_step (fail))
             quiet_step (exact hcl.out _)
             iterate 1 (quiet_step (fail))
             refine wpQuiet_nil ?_
             rintro _ ⟨U, rfl⟩
             obtain ⟨r1, r2⟩ := hdr.out U
             replace r1 := Lh r1
             replace r2 := Lh r2
             clear hcl hdr u0 u1 u2 u3 u4 v0 v1 v2 p0 p1 p2 p3 p4 p5
             cases hsi : mayF p x i
             · have HN := Lh (hnoC.out hsi)
               clear hnoC hyesC
               go_wp2_with fail
               go_ret
               exact ⟨HN.out, r2.out⟩
             · have HT : Hid ((x.code.take (j + 1)).all (mayF p x) = true) := Lh (by rw [hyesC.out, hcj.out, hsi]; rfl)
               clear hnoC hyesC
               go_wp2_with fail
               go_roundw
               case rel => exact ⟨j + 1, by omega, by go_num, HT, r1⟩
               case measure => simp [intOf]; omega
           · have hjl' : j = x.code.length := by omega
             have HC : Hid ((p.funs.take (k + 1)).all (Xq p) = true) := Lh (by
              have h1 := hcj.out
              rw [hjl', List.take_length] at h1
              rw [hgC.out, hallc.out, HL.out h1]; rfl)
             have ho6 := Lh (hown5.out _ hb5.out)
             have hbW6 := Lh hbW5
             clear hcj hown5 hfc hFV hfrow hargs HL hgC hbadC hbW5 hbw5
             go_wp2_with fail
             go_roundw
             case rel => exact ⟨k + 1, by omega, by go_num, ho6, HH, HC, hbW6⟩
             case measure => simp [intOf]; omega
        · have HN := Lh (hbadC.out (by rw [Xo, hlast, decide_eq_false h11, decide_eq_false h13]; simp))
          have e11 : (y.op != 11) = true := by simpa using h11
          have e13 : (y.op != 13) = true := by simpa using h13
          clear hbadC hgC hFV hfrow hargs hfc hown5 hno hyes hcell hpV hlast
          go_wp2_with fail
          go_ret
          exact ⟨HN.out, hbw3.out⟩
     · have hkl : k = p.funs.length := by omega
       have hH : Hid (p.funs.all Xd = true) := Lh (by have := hall.out; rwa [hkl, List.take_length] at this)
       have hC : Hid (p.funs.all (Xq p) = true) := Lh (by have := hallc.out; rwa [hkl, List.take_length] at this)
       have hownN := hown.out
       rw [hkl, List.take_of_length_le (by simp), hNN.out] at hownN
       clear hall hallc hown hNN
       have hnl2 := hnl.out
       obtain ⟨na, ncap, rfl, hcap1, hcap2⟩ := len_run _ hownN
       have htc := Lh (fun V (hV : Below w.heap.size w V) => rthreads_any p V (hpV.out V hV).frow (by omega))
       have hbwW := Lh hbw
       have hbW0 := Lh hb.out
       clear hb hbw hcell hpV hS hkl
       by_cases t1 : 256 < (Zn p).length
       · have HN := Lh (hno.out false rfl (.inl (by unfold Zg; rw [decide_eq_false (by omega)]; rfl)))
         have t1' : (256 : Int) < ((Zn p).length : Int) := by omega
         clear htc hno hyes hnl hthr hnsz hM hH hC
         go_wp2_with fail
         go_ret
         exact ⟨HN.out, hbwW.out⟩
       have t1' : ¬ (256 : Int) < ((Zn p).length : Int) := by omega
       have htc2 := Lh (htc.out _ hbwW.out)
       clear htc
       unfold Pg.val at htc2
       by_cases t2 : 16 < (Xw p).length
       · have HN := Lh (hno.out false rfl (.inr (.inr (.inl (by rw [decide_eq_false (by omega)])))))
         have t2' : (16 : Int) < ((Xw p).length : Int) := by omega
         clear hno hyes hnl hthr hnsz hM hH hC
         go_wp2_with (go_at_call 48; refine htc2.out.mono ?_; rintro e w4 ⟨v2, rfl, hown2, hb4⟩; obtain ⟨a2, cap2, rfl, _, _⟩ := len_run v2 hown2)
         go_ret
         exact ⟨HN.out, hbwW.out.trans (hb4.mono hbwW.out.size)⟩
       have t2' : ¬ (16 : Int) < ((Xw p).length : Int) := by omega
       have HY := Lh (fun h => hyes.out h hM.out (decide_eq_true (by omega)) hH.out hC.out)
       have hownH := Lh hownN
       clear hyes hM hH hC hthr hownN
       go_upto_region 26 with (go_at_call 48; refine htc2.out.mono ?_; rintro e w4 ⟨v2, rfl, hown2, hb4⟩; obtain ⟨a2, cap2, rfl, _, _⟩ := len_run v2 hown2)
       have hb44 : Hid (Below w.heap.size w w4) := Lh (hbwW.out.trans (hb4.mono hbwW.out.size))
       have hown4 : Hid (OwnS w4 W0.heap.size (.slice na (Zn p).length ncap) (Zn p)) := Lh (Qn hownH.out hb4)
       clear hown2 hb4 htc2 hownH hbwW hbW0 x0 x1 x2
       have hnoN := Lh (fun h => hno.out false rfl (.inl h))
       have hYN : Hid (Fine (Zn p) → Ending.returned (.bool true) = .returned (.bool (mayP p))) := Lh fun h => HY.out (mayNames_of h (by omega))
       have hbadN := Lh (fun k x hx h hb => hnoN.out (mayNames_bad (p := p) (k := k) (x := x) hx h hb))
       clear hno hnoN HY hnl
       generalize hN : Zn p = N at *
       clear hN
       go_wp2_with fail
       go_loopw [9] (fun t9 V => ∃ k : Nat, k ≤ N.length ∧ t9 = .int .i64 k ∧ Hid (Fine (N.take k)) ∧ Hid (Below w4.heap.size w4 V)) (fun t9 _ => N.length - (intOf t9).toNat)
       case atStart => exact ⟨0, Nat.zero_le _, rfl, Lh Fine.nil, Lh (Below.refl _ _)⟩
       case round =>
        obtain ⟨k, hk, rfl, hfi, hb5⟩ := hrel
        by_cases hkl : k < N.length
        · obtain ⟨x, hx⟩ : ∃ e, N[k]? = some e := ⟨_, List.getElem?_eq_getElem hkl⟩
          obtain ⟨g, cap', e0, hle, hlim, hat⟩ := own_atS (Qn hown4.out hb5.out) (by omega)
          cases e0
          have d0 := hat k x hx
          have hnm : Hid (Calls Tryd.prog 49 #[.string x] wr fun e w' => e = .returned (.bool (nmB x)) ∧ Below wr.heap.size wr w') := Lh (refname_any x wr (hnsz.out x (List.mem_of_getElem? hx)))
          have hi0 : (0 : Int) ≤ (k : Int) := by omega
          have hi1 : (k : Int) < (N.length : Int) := by omega
          have hbad := Lh (fun hb => hbadN.out k x hx hfi.out hb)
          have hsnoc : Hid ((N.take k).any (fun t => decide (t = x)) = false → nmB x = true → Fine (N.take (k + 1))) := Lh fun h1 h2 => by
           rw [List.take_add_one, hx]
           exact hfi.out.snoc h1 h2
          have hfar := Lh (fun V (hV : Below wr.heap.size wr V) => (⟨hb5.out.trans (hV.mono hb5.out.size), hb44.out.trans ((hb5.out.trans (hV.mono hb5.out.size)).mono hb44.out.size)⟩ : Below w4.heap.size w4 V ∧ Below w.heap.size w V))
          have hcells := Lh (fun V (hV : Below wr.heap.size wr V) (j : Nat) (y : ByteArray) (hj : N[j]? = some y) => Qe hV (hat j y hj))
          have hany := Lh (fun (j : Nat) (y : ByteArray) (hj : N[j]? = some y) (hjk : j < k) (e : y = x) => any_take hj hjk e)
          have hnone := Lh (fun h => any_none (l := N) (k := k) (x := x) h)
          replace hx := Lh hx
          clear hfi hb5 hat hb44 hown4 hbadN hYN hnsz hle
          cases hv : nmB x
          · have HN := Lh (hbad.out (.inr hv))
            rw [hv] at hnm
            clear hbad hsnoc hcells hany hnone hx
            go_wp2_with (go_at_call 49; refine hnm.out.mono ?_; rintro e w5 ⟨rfl, hb6⟩)
            go_ret
            exact ⟨HN.out, (hfar.out _ hb6).2⟩
          · rw [hv] at hnm
            replace hv := Lh hv
            go_upto_region 31 with (go_at_call 49; refine hnm.out.mono ?_; rintro e w5 ⟨rfl, hb6⟩)
            replace hb6 := Lh hb6
            clear d0 hnm
            go_wp2_with fail
            go_loopw [10] (fun t10 V => ∃ j : Nat, j ≤ k ∧ t10 = .int .i64 j ∧ Hid (∀ (i : Nat) (y : ByteArray), i < j → N[i]? = some y → y ≠ x) ∧ Hid (Below wr.heap.size wr V)) (fun t10 _ => k - (intOf t10).toNat)
            case atStart => exact ⟨0, Nat.zero_le _, rfl, Lh (fun i y hi => by omega), hb6⟩
            case round =>
             clear hb6
             obtain ⟨j, hj, rfl, hun, hb7⟩ := hrel
             by_cases hjk : j < k
             · obtain ⟨y, hy⟩ : ∃ e, N[j]? = some e := ⟨_, List.getElem?_eq_getElem (by omega)⟩
               have d1 := hcells.out _ hb7.out j y hy
               have d2 := hcells.out _ hb7.out k x hx.out
               have hj0 : (0 : Int) ≤ (j : Int) := by omega
               have hj1 : (j : Int) < (k : Int) := by omega
               have hj2 : (j : Int) < (N.length : Int) := by omega
               have hdr := Lh (fun m => hb7.out.trans (show Below _ _ (World.drewN _ m) from ⟨rfl, rfl, rfl, Nat.le_refl _, fun _ _ => rfl⟩))
               by_cases hyx : y = x
               · have HN := Lh (hbad.out (.inl (hany.out j y hy hjk hyx)))
                 subst hyx
                 clear hbad hsnoc hcells hany hnone hx hun hy hb7
                 go_wp2_with fail
                 go_quiet (fail)
                 go_wp2_with fail
                 go_ret
                 exact ⟨HN.out, (hfar.out _ (hdr.out _)).2⟩
               · have hs1 := str_ne hyx
                 have hun2 : Hid (∀ (i : Nat) (z : ByteArray), i < j + 1 → N[i]? = some z → z ≠ x) := Lh fun i z hi hz => by
                  by_cases hij : i < j
                  · exact hun.out i z hij hz
                  · obtain rfl : i = j := by omega
                    rw [hy] at hz
                    cases hz
                    exact hyx
                 clear hbad hsnoc hcells hany hnone hun hy hb7
                 go_wp2_with fail
                 go_quiet (fail)
                 go_wp2_with fail
                 go_roundw
                 case rel => exact ⟨j + 1, by omega, by go_num, hun2, Lh (hdr.out _)⟩
                 case measure => simp [intOf]; omega
             · have hjk' : j = k := by omega
               subst hjk'
               have hF : Hid (Fine (N.take (j + 1))) := Lh (hsnoc.out (hnone.out hun.out) hv.out)
               have hbf := Lh (hfar.out _ hb7.out).1
               clear hbad hsnoc hcells hany hnone hx hun hb7 hfar
               go_wp2_with fail
               go_roundw
               case rel => exact ⟨j + 1, by omega, by go_num, hF, hbf⟩
               case measure => simp [intOf]; omega
        · have hkl' : k = N.length := by omega
          have HF := Lh (hYN.out (by have := hfi.out; rwa [hkl', List.take_length] at this))
          have hbf := Lh (hb44.out.trans (hb5.out.mono hb44.out.size))
          clear hfi hb5 hbadN hYN hown4 hnsz
          go_wp2_with fail
          go_ret
          exact ⟨HF.out, hbf.out⟩
end Go.Proofs.YthiiahlgncngoaaDoorRR.Cd
