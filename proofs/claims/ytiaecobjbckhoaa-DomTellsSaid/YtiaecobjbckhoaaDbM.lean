/- Walk of the closure of grow: a block, and all that stands below it, gets its place. Conditions: who stands below whom is a tree, and lies in memory. -/
import Derived.Test.YtiaecobjbckhoaaDbG
import Derived.Test.YtiaecobjbckhoaaDbK
set_option linter.unusedVariables false
set_option linter.unusedSimpArgs false
namespace Go.Proofs.Ytiaecobjbckhoaa.Db
open Go Go.RowKit
open Go.WideShapes Go.MapKept Dm
open Go.Proofs.Ytiaecobjbckhoaa.Qr Go.Proofs.Ytiaecobjbckhoaa.Vq Go.Proofs.Ytiaecobjbckhoaa.QrS

structure Gs where
  order : List Int
  place : Nat → Int
  end_ : Nat → Int
def upI (f : Nat → Int) (i : Nat) (v : Int) : Nat → Int := fun j => if j = i then v else f j
def Gs.on (s : Gs) (b : Nat) : Gs := ⟨s.order ++ [(b : Int)], upI s.place b s.order.length, s.end_⟩
def Gs.off (s : Gs) (b : Nat) : Gs := ⟨s.order, s.place, upI s.end_ b s.order.length⟩
def stand (kids : Nat → List Int) : Nat → Gs → Nat → Gs
  | 0, s, _ => s
  | q + 1, s, b => ((kids b).foldl (fun u k => stand kids q u k.toNat) (s.on b)).off b
theorem stand_pre (kids : Nat → List Int) : ∀ (q : Nat) (s : Gs) (b : Nat), ∃ l, (stand kids q s b).order = s.order ++ l := by
  intro q
  induction q with
  | zero => intro s b; exact ⟨[], by simp [stand]⟩
  | succ q ih =>
    intro s b
    have : ∀ (l : List Int) (u : Gs), ∃ z, (l.foldl (fun u k => stand kids q u k.toNat) u).order = u.order ++ z := by
      intro l
      induction l with
      | nil => intro u; exact ⟨[], by simp⟩
      | cons x r ihr =>
        intro u
        obtain ⟨z, hz⟩ := ih u x.toNat
        obtain ⟨y, hy⟩ := ihr (stand kids q u x.toNat)
        exact ⟨z ++ y, by rw [List.foldl_cons, hy, hz, List.append_assoc]⟩
    obtain ⟨z, hz⟩ := this (kids b) (s.on b)
    exact ⟨[(b : Int)] ++ z, by show ((kids b).foldl (fun u k => stand kids q u k.toNat) (s.on b)).order = _; rw [hz]; simp [Gs.on]⟩
theorem stands_pre (kids : Nat → List Int) (q : Nat) : ∀ (l : List Int) (u : Gs), ∃ z, (l.foldl (fun u k => stand kids q u k.toNat) u).order = u.order ++ z := by
  intro l
  induction l with
  | nil => intro u; exact ⟨[], by simp⟩
  | cons x r ihr =>
    intro u
    obtain ⟨z, hz⟩ := stand_pre kids q u x.toNat
    obtain ⟨y, hy⟩ := ihr (stand kids q u x.toNat)
    exact ⟨z ++ y, by rw [List.foldl_cons, hy, hz, List.append_assoc]⟩
/-- 'x.f = append(x.f, v)' on its way -/
structure AF (B tb : Nat) (W0 : World) (v0 : Value) (l : List Int) (x : Int) (vp ve vn : Value) (nw : Bool) (s : Value) (ap : Bool) (v : Value) (st : Bool) (w : World) : Prop where
  fr : Fr (fun i => B ≤ i ∨ i = tb) W0 w
  lt : tb < B ∧ B ≤ W0.heap.size
  tbc : w.heap[tb]? = some (.cells #[cond st v v0, vp, ve, vn] 52 (0, 0))
  row : w.ownsRow B 3 1 (cond ap v v0) (cond ap (l.length + 1) l.length) (cond ap (numCells l ++ [.int .i64 x]) (numCells l))
  nw : nw = true → ap = false → Nw W0.heap.size s x w
  b0 : ∀ q, v0.ownBlock = some q → q < W0.heap.size
section
variable {B tb : Nat} {W0 : World} {v0 : Value} {l : List Int} {x : Int} {vp ve vn : Value} {nw : Bool} {s : Value} {ap : Bool} {v : Value} {st : Bool} {w : World}
theorem AF.al (h : AF B tb W0 v0 l x vp ve vn nw s ap v st w) : AF B tb W0 v0 l x vp ve vn true (.slice (some ⟨w.heap.size, 0, none⟩) 1 1) ap v st (w.alloc (.cells #[.int .i64 x] 3)) := by
  have hb := b_alloc w (.cells #[.int .i64 x] 3)
  have hz := h.fr.size
  have hl := h.lt
  exact ⟨h.fr.trans (Fr.of_below hb), h.lt, (hb.block tb (by omega)).trans h.tbc, own_below h.row hb, fun _ _ => ⟨w.heap.size, rfl, blk_new w _ rfl, hz⟩, h.b0⟩
theorem AF.app {w' : World} {v' : Value} (h : AF B tb W0 v0 l x vp ve vn nw s false v false w) (ho : w'.ownsRow B 3 1 v' (l.length + 1) (numCells l ++ [.int .i64 x])) (hg : w.grownBy w' v0.ownBlock) : AF B tb W0 v0 l x vp ve vn nw s true v' false w' := by
  have hz := h.fr.size
  have hl := h.lt
  have hB : ∀ q, v0.ownBlock = some q → B ≤ q := fun q e => (h.row.lt q e).1
  exact ⟨fr_grown h.fr hg (fun q e => .inl (hB q e)), h.lt, (hg.block tb (by omega) (fun e => by have := hB tb e.symm; omega)).trans h.tbc, ho, fun _ e => (by cases e), h.b0⟩
theorem AF.pt (h : AF B tb W0 v0 l x vp ve vn nw s true v false w) : AF B tb W0 v0 l x vp ve vn nw s true v true (w.setCell ⟨tb, 0, none⟩ v) := by
  have hl := h.lt
  exact ⟨h.fr.trans (Fr.set _ _ (.inr rfl)), h.lt, by rw [heap_set1 h.tbc]; rfl, ownsRow_setCell_other h.row (fun e => by have := (h.row.lt _ e).1; simp at this; omega) _, fun _ e => (by cases e), h.b0⟩
end
theorem ld_tr {V : World} {b o q : Nat} (h : V.cell? ⟨b, o, none⟩ = some (.pointer (some ⟨q, 0, none⟩))) : (Instr.loadAt 25 (.pointer (some ⟨b, o, none⟩))).run Try.prog V = .ok (.pointer (some ⟨q, 0, none⟩)) V := by go_simp
theorem fl_t0 {V : World} {b : Nat} : (Instr.fieldAt 52 (.pointer (some ⟨b, 0, none⟩)) 0).run Try.prog V = .ok (.pointer (some ⟨b, 0, none⟩)) V := by go_simp

/-- the tree as it grows, in memory -/
structure GrM (B pt pk ps tb gp ge gk n : Nat) (vn : Value) (s : Gs) (W : World) : Prop where
  cT : W.cell? ⟨pt, 0, none⟩ = some (.pointer (some ⟨tb, 0, none⟩))
  cK : W.cell? ⟨pk, 0, none⟩ = some (.slice (some ⟨gk, 0, none⟩) n n)
  cS : W.cell? ⟨ps, 0, none⟩ = some (.func (.func 35) #[] #[.pointer (some ⟨pt, 0, none⟩), .pointer (some ⟨pk, 0, none⟩), .pointer (some ⟨ps, 0, none⟩)])
  ex : ∃ v0, W.heap[tb]? = some (.cells #[v0, .slice (some ⟨gp, 0, none⟩) n n, .slice (some ⟨ge, 0, none⟩) n n, vn] 52 (0, 0)) ∧ W.ownsRow B 3 1 v0 s.order.length (numCells s.order)
  place : InR gp n s.place W
  end_ : InR ge n s.end_ W
  lt : pt < B ∧ pk < B ∧ ps < B ∧ tb < B ∧ gp < B ∧ ge < B ∧ B ≤ W.heap.size
  ne : pt ≠ tb ∧ pt ≠ gp ∧ pt ≠ ge ∧ pk ≠ tb ∧ pk ≠ gp ∧ pk ≠ ge ∧ ps ≠ tb ∧ ps ≠ gp ∧ ps ≠ ge ∧ tb ≠ gp ∧ tb ≠ ge ∧ gp ≠ ge
  n : n ≤ 32768
/-- who stands below whom, in memory -/
structure KdM (B gk n tb gp ge : Nat) (kids : Nat → List Int) (W : World) : Prop where
  ex : ∀ k, k < n → ∃ a c, W.cell? ⟨gk, k, none⟩ = some (.slice a (kids k).length c) ∧ RowAt W (fun b => b < B ∧ b ≠ tb ∧ b ≠ gp ∧ b ≠ ge) a c (kids k).length (numCells (kids k))
  ne : gk < B ∧ gk ≠ tb ∧ gk ≠ gp ∧ gk ≠ ge
theorem KdM.keep {B gk n tb gp ge : Nat} {kids : Nat → List Int} {W W' : World} (h : KdM B gk n tb gp ge kids W) (hf : Fr (fun i => B ≤ i ∨ i = tb ∨ i = gp ∨ i = ge) W W') : KdM B gk n tb gp ge kids W' := by
  obtain ⟨n1, n2, n3, n4⟩ := h.ne
  refine ⟨fun k hk => ?_, h.ne⟩
  obtain ⟨a, c, h1, h2⟩ := h.ex k hk
  exact ⟨a, c, hf.cell (by omega) h1, h2.below fun b o v hb hc => hf.cell (by omega) hc⟩
set_option maxHeartbeats 16000000 in
set_option maxRecDepth 100000 in
theorem stand_c (kids : Nat → List Int) (B pt pk ps tb gp ge gk n : Nat) (vn : Value) (ht : Nat → Nat) (hk : ∀ b, b < n → ∀ k ∈ kids b, 0 ≤ k ∧ k < (n : Int) ∧ ht k.toNat < ht b) : ∀ (q : Nat) (s : Gs) (b : Nat) (W : World), GrM B pt pk ps tb gp ge gk n vn s W → KdM B gk n tb gp ge kids W → b < n → ht b < q → (stand kids q s b).order.length ≤ 32768 →
    Calls Try.prog 35 #[.int .i64 (b : Int), .pointer (some ⟨pt, 0, none⟩), .pointer (some ⟨pk, 0, none⟩), .pointer (some ⟨ps, 0, none⟩)] W fun e W' => e = .returned (.tuple #[]) ∧ Fr (fun i => B ≤ i ∨ i = tb ∨ i = gp ∨ i = ge) W W' ∧ GrM B pt pk ps tb gp ge gk n vn (stand kids q s b) W' := by
  intro q
  induction q with
  | zero => intro s b W _ _ _ h; omega
  | succ q ih =>
    intro s b W hM hK hb hq hlen0
    obtain ⟨v0, htb, ho⟩ := hM.ex
    obtain ⟨hptB, hpkB, hpsB, htbB, hgpB, hgeB, hBs⟩ := hM.lt
    obtain ⟨hptb, n2, n3, n4, n5, n6, n7, n8, n9, n10, n11, n12⟩ := hM.ne
    obtain ⟨z, hz⟩ := stands_pre kids q (kids b) (s.on b)
    have hlen1 : s.order.length + 1 ≤ 32768 := by
      have e : (stand kids (q + 1) s b).order = (s.on b).order ++ z := hz
      rw [e, List.length_append] at hlen0
      have : (s.on b).order.length = s.order.length + 1 := by simp [Gs.on]
      omega
    have hlen : s.order.length + 1 ≤ 1048577 := by omega
    have hn := hM.n
    obtain ⟨oa, oc, hve⟩ := own_slice ho
    have hs0 : ∃ a n c, v0 = .slice a n c := ⟨_, _, _, hve⟩
    have c0 : W.cell? ⟨tb, 0, none⟩ = some (.slice oa s.order.length oc) := by rw [← hve]; exact blk_cell (j := 0) htb rfl
    have c1 := blk_cell (j := 1) htb rfl
    have cT0 := hM.cT
    obtain ⟨t1, f1⟩ := hM.place.get hb
    have hb0 : (0 : Int) ≤ (b : Int) := by omega
    have hb1 : (b : Int) < (n : Int) := by omega
    have hf1 : Fr (fun i => i = gp) W (W.setCell ⟨gp, b, none⟩ (.int .i64 (s.order.length : Int))) := Fr.set _ _ rfl
    have hpl1 := Lib.hid (hM.place.set hb (s.order.length : Int) (s.on b).place (fun i _ => rfl))
    replace hM := Lib.hid hM
    replace hK := Lib.hid hK
    replace hf1 := Lib.hid hf1
    replace ho := Lib.hid ho
    replace htb := Lib.hid htb
    generalize s.place b = pb at *
    go_enter Try.func35, Try.ntmps35
    go_wp2_with fail
    go_region
    go_wp2_with fail
    generalize hW1 : W.setCell ⟨gp, b, none⟩ (.int .i64 (s.order.length : Int)) = W1 at *
    have hd : Fr (fun _ => False) W1 W1.drew.drew := ⟨rfl, rfl, rfl, Nat.le_refl _, fun _ _ _ => rfl⟩
    have hf2 : Fr (fun i => B ≤ i ∨ i = tb ∨ i = gp ∨ i = ge) W W1.drew.drew := (hf1.out.mono fun i _ e => .inr (.inr (.inl e))).trans (hd.mono fun i _ e => e.elim)
    have hfq : Fr (fun i => i = gp) W W1.drew.drew := hf1.out.trans (hd.mono fun i _ e => e.elim)
    generalize hW2 : W1.drew.drew = W2 at *
    have cT := hfq.cell n2 hM.out.cT
    have cK := hfq.cell n5 hM.out.cK
    have cS := hfq.cell n8 hM.out.cS
    have pl2 := hd.inr hpl1.out id
    have en2 := hfq.inr hM.out.end_ (fun e => n12 e.symm)
    have tb2 := (hfq.block tb (Array.getElem?_eq_some_iff.1 htb.out).1 n10).trans htb.out
    have ow2 : W2.ownsRow B 3 1 v0 s.order.length (numCells s.order) := ⟨ho.out.1, ho.out.2.imp id fun ⟨g, cap, cur, e1, e2, e3, e4⟩ => ⟨g, cap, cur, e1, e2, (hfq.block g (Array.getElem?_eq_some_iff.1 e3).1 (by omega)).trans e3, e4⟩⟩
    have hB2 : B ≤ W2.heap.size := Nat.le_trans hBs hfq.size
    have hst : AF B tb W2 v0 s.order (b : Int) (.slice (some ⟨gp, 0, none⟩) n n) (.slice (some ⟨ge, 0, none⟩) n n) vn false undef false undef false W2 := ⟨Fr.refl _ _, ⟨htbB, hB2⟩, tb2, ow2, fun e => (by cases e), fun q e => (ow2.lt q e).2⟩
    have hK2 := Lib.hid (hK.out.keep hf2)
    replace hf2 := Lib.hid hf2
    clear hpl1 hf1 hfq ho c0 c1 cT0 t1 f1 hve
    refine wp_region_set (I := RI [(fun v => v = .pointer (some ⟨tb, 0, none⟩)), (fun v => v = .pointer (some ⟨tb, 0, none⟩)), (fun v => v = .pointer (some ⟨tb, 0, none⟩)), (fun v => v = .pointer (some ⟨tb, 0, none⟩)), (fun v => v = v0), (fun v => v = .int .i64 (b : Int)), fun _ => True, fun _ => True, (fun v => v = .pointer (some ⟨tb, 0, none⟩)), (fun v => v = .pointer (some ⟨tb, 0, none⟩)), fun _ => True] (fun L σ w => AF B tb W2 v0 s.order (b : Int) (.slice (some ⟨gp, 0, none⟩) n n) (.slice (some ⟨ge, 0, none⟩) n n) vn (L 6) (σ 6) (L 7) (σ 7) (L 10) w)) (by kernel_rfl) ?hI (by kernel_rfl) (stepsI_all ?hs) ?he
    case hI =>
      refine ⟨fun i e => (by cases e), ?_⟩
      rw [hW2]
      exact hst
    case hs =>
      clear hst hW1 hW2 hd ih
      refine stepsI_cons (fun L σ a w hL hW hS hI hs => ?_) ?_
      · exact ⟨wanted_none rfl, wp_val (run_ld rfl (hs.ev0 1 (by kernel_rfl) (by rfl)) (ld_tr (hI.c.fr.cell (nS hptB hptb) cT))) ⟨_, rfl, hI.pure (j := 0) rfl hI.c⟩⟩
      refine stepsI_cons (fun L σ a w hL hW hS hI hs => ?_) ?_
      · exact ⟨wanted_none rfl, wp_val (run_ld rfl (hs.ev0 1 (by kernel_rfl) (by rfl)) (ld_tr (hI.c.fr.cell (nS hptB hptb) cT))) ⟨_, rfl, hI.pure (j := 1) rfl hI.c⟩⟩
      refine stepsI_cons (fun L σ a w hL hW hS hI hs => ?_) ?_
      · exact ⟨wanted_none rfl, wp_val (run_nil rfl (hs.ev 1 19 (by kernel_rfl) (by rfl) (hI.pv 1 (hW 1 (by kernel_rfl))))) ⟨_, rfl, hI.pure (j := 2) rfl hI.c⟩⟩
      refine stepsI_cons (fun L σ a w hL hW hS hI hs => ?_) ?_
      · exact ⟨wanted_none rfl, wp_val (run_fa rfl (hs.ev 2 20 (by kernel_rfl) (by rfl) (hI.pv 2 (hW 2 (by kernel_rfl)))) fl_t0) ⟨_, rfl, hI.pure (j := 3) rfl hI.c⟩⟩
      refine stepsI_cons (fun L σ a w hL hW hS hI hs => ?_) ?_
      · have hc := hI.c
        rw [hS.not 10 4 (o := _) (by rfl) (by kernel_rfl) hL] at hc
        have hcell := blk_cell (j := 0) (u := v0) hc.tbc rfl
        obtain ⟨va, vn, vc, hve⟩ := hs0
        rw [hve] at hcell
        exact ⟨wanted_none rfl, wp_val (run_ld rfl (hs.ev 3 21 (by kernel_rfl) (by rfl) (hI.pv 3 (hW 3 (by kernel_rfl)))) (ld_li hcell)) ⟨_, rfl, hI.pure (j := 4) hve.symm hI.c⟩⟩
      refine stepsI_cons (fun L σ a w hL hW hS hI hs => ?_) ?_
      · exact ⟨wanted_none rfl, wp_val (run_mv (.inl rfl) (hs.ev0 0 (by kernel_rfl) (by rfl))) ⟨_, rfl, hI.pure (j := 5) rfl hI.c⟩⟩
      refine stepsI_cons (fun L σ a w hL hW hS hI hs => ?_) ?_
      · have e := (hs.ev 5 23 (by kernel_rfl) (by rfl) (hI.pv 5 (hW 5 (by kernel_rfl))))
        exact ⟨wanted_none rfl, wp_val (run_bs (qs := #[(0, .int .i64 (b : Int))]) rfl (by simp [e]) (mk_int1 _ _)) ⟨_, rfl, hI.pure (j := 6) trivial hI.c.al⟩⟩
      refine stepsI_cons (fun L σ a w hL hW hS hI hs => ?_) ?_
      · have h10 := hS.not 10 7 (o := _) (by rfl) (by kernel_rfl) hL
        have h6 := hW 6 (by kernel_rfl)
        have hc := hI.c
        rw [hL, h10, h6] at hc
        obtain ⟨g, g1, g2, _⟩ := hc.nw rfl rfl
        have hr := hc.row
        obtain ⟨i0, hi0, hz0, hz1, hz2⟩ := info_i
        refine ⟨wanted_none rfl, p_app1 (t := 33) (e := 3) rfl Try.underlying33 hi0 hz0 hz1 hz2 rfl (by decide) (hs.ev 4 22 (by kernel_rfl) (by rfl) (hI.pv 4 (hW 4 (by kernel_rfl)))) (hs.ev 6 24 (by kernel_rfl) (by rfl) g1) hr rfl g2 (one_int _) hlen (by omega) (Nat.le_trans hc.lt.2 hc.fr.size) fun v' w' k1 k2 k3 => ⟨_, rfl, hI.pure (j := 7) trivial ?_⟩⟩
        have := hc.app (v' := v') k1 k2
        show AF B tb W2 v0 s.order (b : Int) (.slice (some ⟨gp, 0, none⟩) n n) (.slice (some ⟨ge, 0, none⟩) n n) vn (L 6) (σ 6) true v' (L 10) _
        rw [h10, h6]
        exact this
      refine stepsI_cons (fun L σ a w hL hW hS hI hs => ?_) ?_
      · exact ⟨wanted_none rfl, wp_val (run_nil rfl (hs.ev 0 18 (by kernel_rfl) (by rfl) (hI.pv 0 (hW 0 (by kernel_rfl))))) ⟨_, rfl, hI.pure (j := 8) rfl hI.c⟩⟩
      refine stepsI_cons (fun L σ a w hL hW hS hI hs => ?_) ?_
      · exact ⟨wanted_none rfl, wp_val (run_fa rfl (hs.ev 8 26 (by kernel_rfl) (by rfl) (hI.pv 8 (hW 8 (by kernel_rfl)))) fl_t0) ⟨_, rfl, hI.pure (j := 9) rfl hI.c⟩⟩
      refine stepsI_cons (fun L σ a w hL hW hS hI hs => ?_) ?_
      · have h7 := hW 7 (by kernel_rfl)
        have hc := hI.c
        rw [hL, h7] at hc
        obtain ⟨qa, qc, hqv⟩ := own_slice hc.row
        refine ⟨wanted_none rfl, wp_storeL rfl rfl (hs.ev 9 27 (by kernel_rfl) (by rfl) (hI.pv 9 (hW 9 (by kernel_rfl)))) (hs.ev 7 25 (by kernel_rfl) (by rfl) rfl) ⟨_, _, _, hqv⟩ (blk_cell (j := 0) hc.tbc rfl) (blk_free hc.tbc _) ⟨_, rfl, hI.pure (j := 10) trivial ?_⟩⟩
        have := hc.pt
        show AF B tb W2 v0 s.order (b : Int) (.slice (some ⟨gp, 0, none⟩) n n) (.slice (some ⟨ge, 0, none⟩) n n) vn (L 6) (σ 6) (L 7) (σ 7) true _
        rw [h7]
        exact this
      exact trivial
    case he =>
      intro σ W3 hI
      have hc : AF B tb W2 v0 s.order (b : Int) (.slice (some ⟨gp, 0, none⟩) n n) (.slice (some ⟨ge, 0, none⟩) n n) vn true (σ 6) true (σ 7) true W3 := hI.c
      generalize hF : fillL _ _ _ _ _ = F
      simp [fillL, dstOf, List.range, List.range.loop, Act.put] at hF
      subst hF
      have hM3 : Hid (GrM B pt pk ps tb gp ge gk n vn (s.on b) W3) := Lib.hid ⟨hc.fr.cell (nS hptB hptb) cT, hc.fr.cell (nS hpkB n4) cK, hc.fr.cell (nS hpsB n7) cS, ⟨σ 7, hc.tbc, by
        have := hc.row
        rw [show (s.on b).order.length = s.order.length + 1 by simp [Gs.on], show numCells (s.on b).order = numCells s.order ++ [.int .i64 (b : Int)] from num_snoc _ _]
        exact this⟩, hc.fr.inr pl2 (by omega), hc.fr.inr en2 (by omega), ⟨hptB, hpkB, hpsB, htbB, hgpB, hgeB, Nat.le_trans hB2 hc.fr.size⟩, hM.out.ne, hn⟩
      have hf3 := Lib.hid (hf2.out.trans (hc.fr.mono fun i _ e => by omega))
      have hK3 := Lib.hid (hK2.out.keep (hc.fr.mono fun i _ e => by omega))
      clear hI hc hst cT cK cS pl2 en2 tb2 ow2 hK2 hf2 hd hK hM htb hs0 hlen hlen1
      generalize σ 0 = z0
      generalize σ 1 = z1
      generalize σ 2 = z2
      generalize σ 3 = z3
      generalize σ 4 = z4
      generalize σ 5 = z5
      generalize σ 6 = z6
      generalize σ 7 = z7
      generalize σ 8 = z8
      generalize σ 9 = z9
      clear σ
      obtain ⟨ka, kc, k1, k2⟩ := hK3.out.ex b hb
      obtain ⟨k3, k4⟩ := len_i k2
      have cK := hM3.out.cK
      have hx := Lib.hid (fun k h => hk b hb k h)
      go_wp2_with fail
      go_loopw [33] (fun i wr => ∃ k : Nat, k ≤ (kids b).length ∧ i = .int .i64 k ∧ Hid (Fr (fun i => B ≤ i ∨ i = tb ∨ i = gp ∨ i = ge) W wr) ∧ Hid (∃ s2, s2 = ((kids b).take k).foldl (fun u x => stand kids q u x.toNat) (s.on b) ∧ GrM B pt pk ps tb gp ge gk n vn s2 wr) ∧ Hid (KdM B gk n tb gp ge kids wr) ∧ Hid (RowAt wr (fun b => b < B ∧ b ≠ tb ∧ b ≠ gp ∧ b ≠ ge) ka kc (kids b).length (numCells (kids b)))) (fun i _ => (kids b).length - (intOf i).toNat)
      case atStart => exact ⟨0, Nat.zero_le _, rfl, hf3, Lib.hid ⟨_, rfl, hM3.out⟩, hK3, Lib.hid k2⟩
      case round =>
        clear hf3 hM3 hK3 k1 cK
        clear k2
        obtain ⟨k, hkk, rfl, hf, hF, hK, hR⟩ := hrel
        by_cases hlt : k < (kids b).length
        · obtain ⟨y, hy⟩ : ∃ y, (kids b)[k]? = some y := ⟨_, List.getElem?_eq_getElem hlt⟩
          obtain ⟨y1, y2, y3⟩ := hx.out y (List.mem_of_getElem? hy)
          obtain ⟨t, rfl⟩ : ∃ t : Nat, y = t := ⟨y.toNat, by omega⟩
          rw [Int.toNat_natCast] at y3
          obtain ⟨s2, hs2, hM2⟩ := hF.out
          replace hs2 := Lib.hid hs2
          have cS := hM2.cS
          have htl : Hid (∃ z, (stand kids q s2 t).order ++ z = (stand kids (q + 1) s b).order) := Lib.hid (by
            obtain ⟨z1, hz1⟩ := stands_pre kids q ((kids b).drop (k + 1)) (stand kids q s2 t)
            refine ⟨z1, ?_⟩
            rw [← hz1]
            show _ = ((kids b).foldl (fun u x => stand kids q u x.toNat) (s.on b)).order
            conv => rhs; rw [← List.take_append_drop (k + 1) (kids b), List.foldl_append, List.take_add_one, hy, List.foldl_append, ← hs2.out]
            rfl)
          have hlen2 : (stand kids q s2 t).order.length ≤ 32768 := by
            obtain ⟨z1, hz1⟩ := htl.out
            rw [← hz1, List.length_append] at hlen0
            omega
          obtain ⟨yb, yoff, hya, _, hyc⟩ := numS_row hR.out k _ hy
          have hcall := Lib.hid (ih s2 t wr hM2 hK.out (by omega) (by omega) hlen2)
          have hnx : Hid (stand kids q s2 t = ((kids b).take (k + 1)).foldl (fun u x => stand kids q u x.toNat) (s.on b)) := Lib.hid (by
            rw [List.take_add_one, hy, List.foldl_append, ← hs2.out]; rfl)
          have hi0 : (0 : Int) ≤ (k : Int) := by omega
          have hi1 : (k : Int) < ((kids b).length : Int) := by omega
          rw [hya]
          clear hM2 hs2 hF htl hlen2 hy
          go_wp2_with fail
          refine hcall.out.mono ?_
          rintro e w4 ⟨rfl, hf4, hM4⟩
          have hf5 := Lib.hid (hf.out.trans hf4)
          have hF5 : Hid (∃ s2, s2 = ((kids b).take (k + 1)).foldl (fun u x => stand kids q u x.toNat) (s.on b) ∧ GrM B pt pk ps tb gp ge gk n vn s2 w4) := Lib.hid ⟨_, hnx.out, hM4⟩
          have hK5 := Lib.hid (hK.out.keep hf4)
          have hR5 := Lib.hid (hR.out.below fun b o v hb hc => hf4.cell (by omega) hc)
          rw [hya] at hR5
          clear hf4 hM4 hcall hf hK hR hnx hyc
          go_wp2_with fail
          go_roundw
          case rel => exact ⟨k + 1, by omega, by go_num, hf5, hF5, hK5, hR5⟩
          case measure => simp [intOf]; omega
        · have hk2 : k = (kids b).length := by omega
          subst hk2
          obtain ⟨s2, hs2, hM2⟩ := hF.out
          rw [List.take_length] at hs2
          have hfin : stand kids (q + 1) s b = s2.off b := by
            rw [hs2]; rfl
          have hl2 : s2.order.length ≤ 32768 := by rw [hfin] at hlen0; exact hlen0
          replace hs2 := Lib.hid hs2
          obtain ⟨v2, htb2, ho2⟩ := hM2.ex
          obtain ⟨oa, oc, hve⟩ := own_slice ho2
          have c0 : wr.cell? ⟨tb, 0, none⟩ = some (.slice oa s2.order.length oc) := by rw [← hve]; exact blk_cell (j := 0) htb2 rfl
          have c2 := blk_cell (j := 2) htb2 rfl
          have cT := hM2.cT
          obtain ⟨t2, f2⟩ := hM2.end_.get hb
          have hf5 : Fr (fun i => i = ge) wr (wr.setCell ⟨ge, b, none⟩ (.int .i64 (s2.order.length : Int))) := Fr.set _ _ rfl
          have hM5 : Hid (GrM B pt pk ps tb gp ge gk n vn (s2.off b) (wr.setCell ⟨ge, b, none⟩ (.int .i64 (s2.order.length : Int)))) := Lib.hid ⟨hf5.cell n3 hM2.cT, hf5.cell n6 hM2.cK, hf5.cell n9 hM2.cS, ⟨v2, (hf5.block tb (Array.getElem?_eq_some_iff.1 htb2).1 n11).trans htb2, ownsRow_setCell_other ho2 (a := ⟨ge, b, none⟩) (fun e => by have := (ho2.lt _ e).1; simp at this; omega) _⟩, hf5.inr hM2.place n12, hM2.end_.set hb _ _ (fun i _ => rfl), ⟨hptB, hpkB, hpsB, htbB, hgpB, hgeB, Nat.le_trans hM2.lt.2.2.2.2.2.2 hf5.size⟩, hM2.ne, hn⟩
          have hf6 := Lib.hid (hf.out.trans (hf5.mono (S' := fun i => B ≤ i ∨ i = tb ∨ i = gp ∨ i = ge) fun i _ e => .inr (.inr (.inr e))))
          replace hfin := Lib.hid hfin
          clear hM2 hF hf hK hR htb2 ho2 hve hf5 hs2
          generalize s2.end_ b = eb at *
          go_wp2_with fail
          go_region
          go_wp2_with fail
          exact ⟨rfl, .tuple #[], by simp [results, Try.results35, go_sem], rfl, hf6.out.trans (Fr.drew _ _ 1), by rw [hfin.out]; exact ⟨hM5.out.cT, hM5.out.cK, hM5.out.cS, hM5.out.ex, hM5.out.place.at_ rfl, hM5.out.end_.at_ rfl, hM5.out.lt, hM5.out.ne, hn⟩⟩
end Go.Proofs.Ytiaecobjbckhoaa.Db
