/- Walks of tree.all over parts, and of MayExpr. Conditions: the package's tables hold their lists. · Walks of tree.fitsTo, fitsStmt, part.fits at a statement. Conditions: the package's tables hold their lists. · What a part is that fits; the walk of fits of either. Conditions: the package's tables hold their lists. · Walks of tree.eachStmt: all parts of statements, each ahead of what is in it. Conditions: none. -/
import Derived.Test.YtpcdlneompnhlaaGreatDoorGrAC
namespace Go.Proofs.YtpcdlneompnhlaaGreatDoor.Tr
open Go Go.RowKit Go.Shelf
open Go.Proofs.YtpcdlneompnhlaaGreatDoor.Lx Go.Proofs.YtpcdlneompnhlaaGreatDoor.Rg
attribute [local go_sem] Oper.semAt_some

theorem ceq_kps {S : Nat → Prop} {A B : World} (h : Ceq A B) : Kps S A B := fun _ _ _ _ hc => (h.cell _).trans hc
theorem keeps_below {B : Nat} {W W' : World} (h : Below W.heap.size W W') : KeepsFrom B W W' :=
  ⟨h.size, fun k _ _ hk _ => (h.block k (Array.getElem?_eq_some_iff.1 hk).1).trans hk⟩
/-- what a statement's call makes is new, and the cell r holds a value -/
structure Cel (w : World) (r : Nat) (v : Value) (W : World) : Prop where
  cell : W.cell? ⟨r, 0, none⟩ = some v
  frozen : W.frozen? ⟨r, 0, none⟩ = false
theorem Cel.ceq {w : World} {r : Nat} {v : Value} {W W' : World} (h : Cel w r v W) (hc : Ceq W W') : Cel w r v W' := ⟨(hc.cell _).trans h.cell, (hc.frozen _).trans h.frozen⟩
theorem Cel.below {w : World} {r : Nat} {v : Value} {W W' : World} (h : Cel w r v W) (hb : Below W.heap.size W W') : Cel w r v W' :=
  have hl := World.block_lt_of_cell? _ _ h.cell
  ⟨(hb.cell (p := ⟨r, 0, none⟩) hl).trans h.cell, (hb.frozen (p := ⟨r, 0, none⟩) hl).trans h.frozen⟩
theorem Cel.alloc {w : World} {r : Nat} {v : Value} {W : World} (h : Cel w r v W) (o : Obj) : Cel w r v (W.alloc o) := h.below ((Below.refl _ _).alloc (Nat.le_refl _) _)
theorem Cel.setS {w : World} {r : Nat} {v : Value} {W : World} (h : Cel w r v W) (u : Value) : Cel w r u (W.setCell ⟨r, 0, none⟩ u) :=
  ⟨World.cell?_setCell_same _ _ _ h.cell, by rw [World.frozen?_setCell]; exact h.frozen⟩
theorem Cel.setO {w : World} {r r' : Nat} {v : Value} {W : World} (h : Cel w r v W) (hr : r' ≠ r) (u : Value) : Cel w r v (W.setCell ⟨r', 0, none⟩ u) :=
  ⟨(World.cell?_setCell_other _ _ _ _ (fun e => hr (by rw [Addr.mk.injEq] at e; exact e.1))).trans h.cell, by rw [World.frozen?_setCell]; exact h.frozen⟩
theorem Cel.new (w W : World) (v : Value) (t : TypeId) : Cel w W.heap.size v (W.alloc (.cells #[v] t)) := by
  have h : (W.alloc (.cells #[v] t)).heap[W.heap.size]? = some (.cells #[v] t (0, 0)) := World.alloc_heap_new W _
  have key : ∀ (V : World) (B : Nat), V.heap[B]? = some (.cells #[v] t (0, 0)) → V.cell? ⟨B, 0, none⟩ = some v ∧ V.frozen? ⟨B, 0, none⟩ = false := fun V B hB => ⟨by simp [World.cell?, hB], by simp [World.frozen?, hB]⟩
  exact ⟨(key _ _ h).1, (key _ _ h).2⟩
theorem Pt.val_eq (x : Pt) : ∃ p1 p2 : Option Addr, x.val = .agg #[.pointer p1, .pointer p2, .int .i64 x.d] := by
  obtain ⟨b, o, x, d⟩ := x
  cases x
  · exact ⟨_, _, rfl⟩
  · exact ⟨_, _, rfl⟩

set_option maxRecDepth 100000 in
set_option maxHeartbeats 2000000 in
theorem all_part (n gf hf : Nat) (lb : Array Value) (eg : ∀ args w, (callFunc gf args).run Tryz.prog w = .ok (.enter gf args) w) (eh : ∀ args w, (callFunc hf args).run Tryz.prog w = .ok (.enter hf args) w)
    (w : World) (T : List Pt) (p : Pt → Bool)
    (hseq : ∀ (l : Nat) (J Jx : List Pt → World → Prop) (W : World), Below w.heap.size w W → W.heap.size = w.heap.size + 4 →
      (∀ m pre x W1, J pre W1 → x.In W1 (fun _ => True) → pre.length < T.length → YieldAt Fence.wide m Tryz.prog l #[x.val] W1 fun e W' =>
        (e = .returned (.bool true) ∧ J (pre ++ [x]) W' ∧ Kps (fun _ => True) W1 W') ∨ (e = .returned (.bool false) ∧ Jx (pre ++ [x]) W')) →
      (∀ pre W1 o, J pre W1 → J pre (W1.alloc o)) → J [] W →
      CallsIn Fence.wide (n - 1) Tryz.prog gf (#[.func (.yield l) #[] #[]] ++ lb) W fun e W' => (∃ v, e = .returned v) ∧ ((∃ xs, xs = T ∧ J xs W') ∨ (∃ pre, pre <+: T ∧ Jx pre W')))
    (hholds : ∀ (x : Pt) W, Below w.heap.size w W → x.In W (fun _ => True) → Calls Tryz.prog hf #[x.val] W fun e W' => e = .returned (.bool (p x)) ∧ Below W.heap.size W W') :
    CallsIn Fence.wide n Tryz.prog 68 #[.func (.func gf) #[] lb, .func (.func hf) #[] #[]] w fun e w' => e = .returned (.bool (T.all p)) ∧ Below w.heap.size w w' := by
  refine callsIn_of_wp_marks Tryz.func68 rfl trivial ?_ rfl
  simp only [Tryz.ntmps68, List.size_toArray, List.length_cons, List.length_nil, Nat.reduceAdd, Nat.reduceSub, Array.replicate_succ, Array.replicate_zero, List.push_toArray, List.append_toArray, List.nil_append, List.cons_append]
  gi_wp2
  have e0 : ∀ o1 o2, ((w.alloc o1).alloc o2).heap.size = w.heap.size + 2 := fun o1 o2 => by simp
  obtain ⟨w2, hw2⟩ : ∃ w2, (w.alloc (.cells #[.func (.func hf) #[] #[]] 98)).alloc (.cells #[.bool false] 4) = w2 := ⟨_, rfl⟩
  have hs2 : w2.heap.size = w.heap.size + 2 := by rw [← hw2]; exact e0 _ _
  have hb2 : Below w.heap.size w w2 := by rw [← hw2]; exact ((Below.refl _ _).alloc (Nat.le_refl _) _).alloc (by simp) _
  have hc0 : Cel w w.heap.size (.func (.func hf) #[] #[]) w2 := by rw [← hw2]; exact (Cel.new w w _ _).alloc _
  have hc1 : Cel w (w.heap.size + 1) (.bool false) w2 := by rw [← hw2]; have := Cel.new w (w.alloc (.cells #[.func (.func hf) #[] #[]] 98)) (.bool false) 4; rwa [World.size_alloc] at this
  rw [hw2]
  have habd : ∀ (c : Bool), Abd w2.heap.size (fun (pre : List Pt) W => pre.all p = c ∧ Cel w w.heap.size (.func (.func hf) #[] #[]) W ∧ Cel w (w.heap.size + 1) (.bool false) W ∧ Below w.heap.size w W ∧ w2.heap.size ≤ W.heap.size) := fun c =>
    ⟨fun pre W W' h hq hb => ⟨h.1, h.2.1.ceq hq, h.2.2.1.ceq hq, h.2.2.2.1.trans (hb.mono (by omega)), by have := h.2.2.2.2; rw [hq.size]; exact this⟩,
      fun pre W o h hs => ⟨h.1, h.2.1.alloc o, h.2.2.1.alloc o, h.2.2.2.1.alloc (by omega) o, by simp; omega⟩⟩
  refine range_law (α := Pt) rfl rfl (gf := gf) (lb := lb) rfl trivial eg (encs := fun x => #[x.val]) (fun _ => rfl) (fun x W => x.In W (fun _ => True)) (Kps (fun _ => True)) (fun xs => xs = T) (fun pre => pre <+: T) T.length
    (fun l J Jx W hsz hb hY hJa hJ0 => hseq l J Jx W (hb2.trans (hb.mono (by omega))) (by omega) hY hJa hJ0) (fun h k => h.trans k) ceq_kps _ _ (habd true) (habd false) (fun _ _ h => h.2.2.2.2) ⟨rfl, hc0, hc1, hb2, Nat.le_refl _⟩ ?round ?done ?stop
  case round =>
    rintro l m pre x W ⟨hp, hk0, hk1, hbW, hsz⟩ hx hlen
    obtain ⟨p1, p2, hv⟩ := x.val_eq
    rw [hv]
    gi_wp2
    refine ⟨keeps_below ((Below.refl _ _).alloc (Nat.le_refl _) _), Kps.alloc _ _, fun W2 hq hb => ?_⟩
    have a0 := ((hk0.alloc (.cells #[.pointer p1, .pointer p2, .int .i64 x.d] 97)).ceq hq).cell
    have ha0 := ((hk0.alloc (.cells #[.pointer p1, .pointer p2, .int .i64 x.d] 97)).ceq hq).frozen
    have a1 := (hk1.alloc (.cells #[.pointer p1, .pointer p2, .int .i64 x.d] 97)).ceq hq
    have b0 : W2.cell? ⟨W.heap.size, 0, none⟩ = some (.pointer p1) := by rw [hq.cell]; go_simp
    have b1 : W2.cell? ⟨W.heap.size, 1, none⟩ = some (.pointer p2) := by rw [hq.cell]; go_simp
    have b2 : W2.cell? ⟨W.heap.size, 2, none⟩ = some (.int .i64 x.d) := by rw [hq.cell]; go_simp
    have hx2 := hx.keep ((Kps.alloc W (.cells #[.pointer p1, .pointer p2, .int .i64 x.d] 97)).trans (ceq_kps hq))
    have hbW2 : Below w.heap.size w W2 := (hbW.alloc (by omega) _).trans (hb.mono (by omega))
    have hsz2 : w2.heap.size ≤ W2.heap.size := by rw [hq.size]; simp; omega
    have hc := hholds x W2 hbW2 hx2
    rw [hv] at hc
    have ha1 := a1.cell
    have ha2 := a1.frozen
    replace hbW2 := Lib.hid hbW2
    replace hp := Lib.hid hp
    replace hc := Lib.hid hc
    clear hq hb hx2 hx hk0 hk1
    cases hpx : p x
    · rw [hpx] at hc
      replace hpx := Lib.hid hpx
      replace hc := Lib.hid hc
      gi_wp2_with fail
      refine ⟨trivial, fun h => (by cases h), (CallsIn.inRound l (callsIn_wide.2 hc.out)).mono ?_⟩
      rintro e W3 ⟨rfl, hb3⟩
      have d0 := (a1.below hb3).cell
      have d1 := (a1.below hb3).frozen
      have dd := a1.below hb3
      have de := Cel.below (w := w) ⟨a0, ha0⟩ hb3
      replace hb3 := Lib.hid hb3
      gi_wp2_with fail
      refine ⟨(keeps_below hb3.out).trans ((KeepsOthers.setCell _ _ _).from _), ?_, de.setO (by omega) _, dd.setS _, (hbW2.out.trans (hb3.out.mono (by omega))).setCell (by simp) _, ?_⟩
      · rw [List.all_append, hp.out]; simp [hpx.out]
      · have := hb3.out.size; simp; omega
    · rw [hpx] at hc
      replace hpx := Lib.hid hpx
      replace hc := Lib.hid hc
      gi_wp2_with fail
      refine ⟨trivial, fun h => (by cases h), (CallsIn.inRound l (callsIn_wide.2 hc.out)).mono ?_⟩
      rintro e W3 ⟨rfl, hb3⟩
      have dd := a1.below hb3
      have de := Cel.below (w := w) ⟨a0, ha0⟩ hb3
      replace hb3 := Lib.hid hb3
      gi_wp2_with fail
      refine ⟨keeps_below hb3.out, Kps.of_below hb3.out, ?_, de, dd, hbW2.out.trans (hb3.out.mono (by omega)), ?_⟩
      · rw [List.all_append, hp.out]; simp [hpx.out]
      · have := hb3.out.size; omega
  case done =>
    rintro D xs W hD rfl ⟨hp, hk0, hk1, hbW, hsz⟩ hK
    have a1 := hk1.cell
    have a2 := hk1.frozen
    gi_wp2
    have hK' : (W.setCell ⟨w.heap.size + 1, 0, none⟩ (.bool true)).heap[D]? = some (.deferred (some [])) := (Below.heap_setCell _ _ _ _ (by simp; omega)).trans hK
    refine ⟨by simp, .inl ⟨_, _, rfl, run_takeDeferred hK', ?_⟩⟩
    have hc5 := ((hk1.setS (.bool true)).ceq (ceq_deferred (d' := none) hK')).cell
    refine ⟨.bool true, ?_, by rw [hp], (hbW.setCell (by simp) _).trans (below_put _ _ (by omega))⟩
    simp [results, Tryz.results68, go_sem, hc5]
  case stop =>
    rintro D pre W hD hpre ⟨hp, hk0, hk1, hbW, hsz⟩ hK
    gi_wp2
    refine ⟨by simp, .inl ⟨_, _, rfl, run_takeDeferred hK, ?_⟩⟩
    have hc5 := (hk1.ceq (ceq_deferred (d' := none) hK)).cell
    have hT : T.all p = false := by
      obtain ⟨r, rfl⟩ := hpre
      rw [List.all_append, hp]; rfl
    refine ⟨.bool false, ?_, by rw [hT], hbW.trans (below_put _ _ (by omega))⟩
    simp [results, Tryz.results68, go_sem, hc5]
end Go.Proofs.YtpcdlneompnhlaaGreatDoor.Tr

namespace Go.Proofs.YtpcdlneompnhlaaGreatDoor.Tr
open Go Go.RowKit
open Go.Proofs.YtpcdlneompnhlaaGreatDoor.Lx

/-- what a Kind of statements has -/
def stName (k : Int) : Bool := k == 1 || k == 2 || k == 3 || k == 6 || k == 8
def stLeast (k : Int) : Int := if k = 3 then 2 else if k = 0 ∨ k = 6 ∨ k = 8 then 0 else 1
def stMost (k : Int) : Int := if k = 8 then 8 else if k = 3 then 2 else if k = 0 ∨ k = 6 then 0 else 1
def stBody (k : Int) : Bool := k == 4 || k == 5 || k == 6
def stOther (k : Int) : Bool := k == 4
def stTo (k : Int) : Bool := k == 8
def stVals : Array Value := ((List.range 10).flatMap fun (i : Nat) => [Value.bool (stName (i : Int)), .int .i64 (stLeast (i : Int)), .int .i64 (stMost (i : Int)), .bool (stBody (i : Int)), .bool (stOther (i : Int)), .bool (stTo (i : Int))]).toArray
def StTab (w : World) : Prop := ∃ t fr, w.heap[2]? = some (.cells stVals t fr)
theorem StTab.below {w w' : World} (h : StTab w) (hb : Below w.heap.size w w') : StTab w' := by
  obtain ⟨t, fr, hg⟩ := h
  exact ⟨t, fr, (hb.block _ (Array.getElem?_eq_some_iff.1 hg).1).trans hg⟩
theorem stTab_at {w : World} (h : StTab w) (k : Int) (h0 : 0 ≤ k) (h1 : k ≤ 9) :
    w.cell? ⟨2, k.toNat * 6, none⟩ = some (.bool (stName k)) ∧ w.cell? ⟨2, k.toNat * 6 + 1, none⟩ = some (.int .i64 (stLeast k)) ∧ w.cell? ⟨2, k.toNat * 6 + 2, none⟩ = some (.int .i64 (stMost k)) ∧
    w.cell? ⟨2, k.toNat * 6 + 3, none⟩ = some (.bool (stBody k)) ∧ w.cell? ⟨2, k.toNat * 6 + 4, none⟩ = some (.bool (stOther k)) ∧ w.cell? ⟨2, k.toNat * 6 + 5, none⟩ = some (.bool (stTo k)) := by
  obtain ⟨t, fr, hg⟩ := h
  obtain ⟨m, rfl⟩ : ∃ m : Nat, k = m := ⟨k.toNat, by omega⟩
  rw [Int.toNat_natCast]
  have hc : ∀ j, w.cell? ⟨2, j, none⟩ = stVals[j]? := fun j => by simp [World.cell?, hg]
  rw [hc, hc, hc, hc, hc, hc]
  have hm : m < 10 := by omega
  clear hg hc h0 h1
  have hd : m = 0 ∨ m = 1 ∨ m = 2 ∨ m = 3 ∨ m = 4 ∨ m = 5 ∨ m = 6 ∨ m = 7 ∨ m = 8 ∨ m = 9 := by omega
  rcases hd with rfl | rfl | rfl | rfl | rfl | rfl | rfl | rfl | rfl | rfl <;> exact ⟨rfl, rfl, rfl, rfl, rfl, rfl⟩

/-- may a statement's To and New be? -/
def fitTo (to : ByteArray) (new may : Bool) : Bool := if to.data.toList.isEmpty then !new else may && nme to.data.toList
theorem fitTo_no (to : ByteArray) (new may : Bool) (h : to.data.toList.isEmpty = true) : fitTo to new may = !new := by unfold fitTo; rw [h]; rfl
theorem fitTo_yes (to : ByteArray) (new may : Bool) (h : to.data.toList.isEmpty = false) : fitTo to new may = (may && nme to.data.toList) := by unfold fitTo; rw [h]; rfl

set_option maxHeartbeats 800000 in
theorem fitTo_any (k : Int) (nm to : ByteArray) (new : Bool) (ea : Option Addr) (el ecap : Nat) (ba : Option Addr) (bl bcap : Nat) (la : Option Addr) (ll lcap : Nat) (pos : Int) (may : Bool) (w : World) (hto : to.size ≤ maxLen) (hsg : SignsIn w) :
    Calls Tryz.prog 156 #[.agg #[.int .u8 k, .string nm, .string to, .bool new, .slice ea el ecap, .slice ba bl bcap, .slice la ll lcap, .int .i64 pos], .bool may] w fun e w' =>
      e = .returned (.bool (fitTo to new may)) ∧ Below w.heap.size w w' := by
  have hg := hsg.lt
  cases he : to.data.toList.isEmpty
  · have h1 : to.toList.isEmpty = false := by rw [Lib.toList_data]; exact he
    have h2 : (to.toList == []) = false := by rw [Bool.eq_false_iff]; intro e; rw [beq_iff_eq] at e; rw [e] at h1; cases h1
    have HF := Lib.hid (fitTo_yes to new may he)
    clear he
    cases may
    · go_enter Tryz.func156, Tryz.ntmps156
      go_wp2_with fail
      go_ret
      exact ⟨ret_bool HF.out.symm, (Below.refl _ _).alloc (Nat.le_refl _) _⟩
    · go_enter Tryz.func156, Tryz.ntmps156
      go_wp2_with fail
      refine (tname_any to _ hto (hsg.below hg ((Below.refl _ _).alloc (Nat.le_refl _) _))).mono ?_
      rintro e w' ⟨rfl, hb⟩
      go_wp2_with fail
      go_ret
      exact ⟨ret_bool HF.out.symm, ((Below.refl _ _).alloc (Nat.le_refl _) _).trans (hb.mono (by simp))⟩
  · have h1 : to.toList.isEmpty = true := by rw [Lib.toList_data]; exact he
    have h3 : to.toList = [] := by simpa using h1
    have HF := Lib.hid (fitTo_no to new may he)
    clear he
    go_enter Tryz.func156, Tryz.ntmps156
    go_wp2_with fail
    go_ret
    exact ⟨ret_bool HF.out.symm, (Below.refl _ _).alloc (Nat.le_refl _) _⟩

def fitS : St → Bool
  | .mk k nm to new _ _ e _ _ body _ _ els _ => decide (1 ≤ k) && decide (k ≤ 9) && (fitNm nm (stName k) && fitTo to new (stTo k) && decide (stLeast k ≤ (e.length : Int)) && decide ((e.length : Int) ≤ stMost k) && (stBody k || decide (body.length = 0)) && (stOther k || decide (els.length = 0)))
theorem fitS_eq (k : Int) (nm to : ByteArray) (new : Bool) (ea : Option Addr) (ecap : Nat) (e : List Ex) (ba : Option Addr) (bcap : Nat) (body : List St) (la : Option Addr) (lcap : Nat) (els : List St) (pos : Int) :
    fitS (.mk k nm to new ea ecap e ba bcap body la lcap els pos) = (decide (1 ≤ k) && decide (k ≤ 9) && (fitNm nm (stName k) && fitTo to new (stTo k) && decide (stLeast k ≤ (e.length : Int)) && decide ((e.length : Int) ≤ stMost k) && (stBody k || decide (body.length = 0)) && (stOther k || decide (els.length = 0)))) := rfl

set_option maxHeartbeats 1600000 in
theorem fitS_any (k : Int) (nm to : ByteArray) (new : Bool) (ea : Option Addr) (ecap : Nat) (e : List Ex) (ba : Option Addr) (bcap : Nat) (body : List St) (la : Option Addr) (lcap : Nat) (els : List St) (pos : Int) (w : World)
    (hk : U8 k) (hs : nm.size ≤ maxLen) (hto : to.size ≤ maxLen) (hsg : SignsIn w) (ht : StTab w) :
    Calls Tryz.prog 107 #[.agg #[.int .u8 k, .string nm, .string to, .bool new, .slice ea e.length ecap, .slice ba body.length bcap, .slice la els.length lcap, .int .i64 pos]] w fun e' w' =>
      e' = .returned (.bool (fitS (.mk k nm to new ea ecap e ba bcap body la lcap els pos))) ∧ Below w.heap.size w w' := by
  unfold U8 at hk
  by_cases h1 : k < 1
  · go_enter Tryz.func107, Tryz.ntmps107
    go_wp2_with fail
    go_ret
    exact ⟨ret_bool (by rw [fitS_eq, decide_eq_false (by omega : ¬ 1 ≤ k)]; rfl), (Below.refl _ _).alloc (Nat.le_refl _) _⟩
  · by_cases h9 : 9 < k
    · go_enter Tryz.func107, Tryz.ntmps107
      go_wp2_with fail
      go_ret
      exact ⟨ret_bool (by rw [fitS_eq, decide_eq_false (by omega : ¬ k ≤ 9), Bool.and_false]; rfl), (Below.refl _ _).alloc (Nat.le_refl _) _⟩
    · obtain ⟨c0, c1, c2, c3, c4, c5⟩ := stTab_at ht k (by omega) (by omega)
      have hz2 : 2 < w.heap.size := World.block_lt_of_cell? _ _ c0
      replace c0 := fun o => (World.cell?_alloc_lt w o ⟨2, k.toNat * 6, none⟩ hz2).trans c0
      replace c1 := fun o => (World.cell?_alloc_lt w o ⟨2, k.toNat * 6 + 1, none⟩ hz2).trans c1
      replace c2 := fun o => (World.cell?_alloc_lt w o ⟨2, k.toNat * 6 + 2, none⟩ hz2).trans c2
      replace c3 := fun o => (World.cell?_alloc_lt w o ⟨2, k.toNat * 6 + 3, none⟩ hz2).trans c3
      replace c4 := fun o => (World.cell?_alloc_lt w o ⟨2, k.toNat * 6 + 4, none⟩ hz2).trans c4
      replace c5 := fun o => (World.cell?_alloc_lt w o ⟨2, k.toNat * 6 + 5, none⟩ hz2).trans c5
      have hcall := fun W h => fitNm_any nm (stName k) W hs h
      have hcall2 := fun W h => fitTo_any k nm to new ea e.length ecap ba body.length bcap la els.length lcap pos (stTo k) W hto h
      have HD := Lib.hid (fitS_eq k nm to new ea ecap e ba bcap body la lcap els pos)
      rw [decide_eq_true (by omega : 1 ≤ k), decide_eq_true (by omega : k ≤ 9)] at HD
      have hg : 0 < w.heap.size := hsg.lt
      generalize stName k = xn at *
      generalize stLeast k = xl at *
      generalize stMost k = xm at *
      generalize stBody k = xb at *
      generalize stOther k = xo at *
      generalize stTo k = xt at *
      generalize fitNm nm xn = f1 at *
      generalize fitTo to new xt = f2 at *
      replace hcall := Lib.hid hcall
      replace hcall2 := Lib.hid hcall2
      have hfin : ∀ b, b = (true && true && (f1 && f2 && decide (xl ≤ (e.length : Int)) && decide ((e.length : Int) ≤ xm) && (xb || decide (body.length = 0)) && (xo || decide (els.length = 0)))) → Ending.returned (.bool b) = .returned (.bool (fitS (.mk k nm to new ea ecap e ba bcap body la lcap els pos))) := fun b hb => ret_bool (hb.trans HD.out.symm)
      replace hfin := Lib.hid hfin
      cases f1
      · go_enter Tryz.func107, Tryz.ntmps107
        go_wp2_with fail
        refine (hcall.out _ ((hsg.below hg (((Below.refl _ _).alloc (Nat.le_refl _) _).alloc (by simp) _)))).mono ?_
        rintro e w' ⟨rfl, hb⟩
        obtain ⟨hc, hf⟩ := bcell hb
        go_wp2_with fail
        go_ret
        exact ⟨hfin.out _ rfl, (((Below.refl _ _).alloc (Nat.le_refl _) _).alloc (by simp) _).trans (hb.mono (by simp; omega))⟩
      · cases f2
        · go_enter Tryz.func107, Tryz.ntmps107
          go_wp2_with fail
          refine (hcall.out _ ((hsg.below hg (((Below.refl _ _).alloc (Nat.le_refl _) _).alloc (by simp) _)))).mono ?_
          rintro e w' ⟨rfl, hb⟩
          obtain ⟨hc, hf⟩ := bcell hb
          go_wp2_with fail
          refine (hcall2.out _ ?_).mono ?_
          · exact (hsg.below hg (((Below.refl _ _).alloc (Nat.le_refl _) _).alloc (by simp) _)).below (by simp <;> omega) hb
          rintro e w'' ⟨rfl, hb'⟩
          obtain ⟨hc', hf'⟩ := bcell hb'
          have hz := hb.size
          go_wp2_with fail
          go_ret
          exact ⟨hfin.out _ rfl, ((((Below.refl _ _).alloc (Nat.le_refl _) _).alloc (by simp) _).trans (hb.mono (by simp; omega))).trans (hb'.mono (by simp at hz; omega))⟩
        · go_enter Tryz.func107, Tryz.ntmps107
          go_wp2_with fail
          refine (hcall.out _ ((hsg.below hg (((Below.refl _ _).alloc (Nat.le_refl _) _).alloc (by simp) _)))).mono ?_
          rintro e w' ⟨rfl, hb⟩
          obtain ⟨hc, hf⟩ := bcell hb
          go_wp2_with fail
          refine (hcall2.out _ ?_).mono ?_
          · exact (hsg.below hg (((Below.refl _ _).alloc (Nat.le_refl _) _).alloc (by simp) _)).below (by simp <;> omega) hb
          rintro e w'' ⟨rfl, hb'⟩
          obtain ⟨hc', hf'⟩ := bcell hb'
          have hz := hb.size
          have hlw : ∀ b o, b < w.heap.size + 2 → w''.cell? ⟨b, o, none⟩ = w'.cell? ⟨b, o, none⟩ := fun b o h => hc' b o (by simp at hz; omega)
          go_wp2_with fail
          all_goals
            go_ret
            refine ⟨hfin.out _ ?_, ((((Below.refl _ _).alloc (Nat.le_refl _) _).alloc (by simp) _).trans (hb.mono (by simp; omega))).trans (hb'.mono (by simp at hz; omega))⟩
            clear hc hf hc' hf' hlw c0 c1 c2 c3 c4 c5
            rw [Bool.eq_iff_iff]
            first
              | (simp [*]; done)
              | (simp [*]; intros; exfalso; omega)

/-- a statement's cells -/
theorem StAt.cells {w : World} {S : Nat → Prop} {b o : Nat} {k : Int} {nm to : ByteArray} {new : Bool} {ea : Option Addr} {ecap : Nat} {e : List Ex} {ba : Option Addr} {bcap : Nat} {body : List St} {la : Option Addr} {lcap : Nat} {els : List St} {pos : Int}
    (h : StAt w S b o (.mk k nm to new ea ecap e ba bcap body la lcap els pos)) :
    w.cell? ⟨b, o, none⟩ = some (.int .u8 k) ∧ w.cell? ⟨b, o + 1, none⟩ = some (.string nm) ∧ w.cell? ⟨b, o + 2, none⟩ = some (.string to) ∧ w.cell? ⟨b, o + 3, none⟩ = some (.bool new) ∧ w.cell? ⟨b, o + 4, none⟩ = some (.slice ea e.length ecap) ∧
    w.cell? ⟨b, o + 5, none⟩ = some (.slice ba body.length bcap) ∧ w.cell? ⟨b, o + 6, none⟩ = some (.slice la els.length lcap) ∧ w.cell? ⟨b, o + 7, none⟩ = some (.int .i64 pos) :=
  ⟨h.2 0 _ rfl, h.2 1 _ rfl, h.2 2 _ rfl, h.2 3 _ rfl, h.2 4 _ rfl, h.2 5 _ rfl, h.2 6 _ rfl, h.2 7 _ rfl⟩

set_option maxHeartbeats 800000 in
theorem fits_st (e : St) (b o : Nat) (S : Nat → Prop) (d : Int) (w : World) (hat : StAt w S b o e) (hin : St.In w S e) (hsg : SignsIn w) (ht : StTab w) :
    Calls Tryz.prog 64 #[.agg #[.pointer (some ⟨b, o, none⟩), .pointer none, .int .i64 d]] w fun e' w' => e' = .returned (.bool (fitS e)) ∧ Below w.heap.size w w' := by
  obtain ⟨k, nm, to, new, ea, ecap, e, ba, bcap, body, la, lcap, els, pos⟩ := e
  obtain ⟨c0, c1, c2, c3, c4, c5, c6, c7⟩ := hat.cells
  unfold St.In at hin
  have hbl : b < w.heap.size := World.block_lt_of_cell? _ _ c0
  have hg := hsg.lt
  have hcall := fun W hsg ht => fitS_any k nm to new ea ecap e ba bcap body la lcap els pos W hin.1 hin.2.1 hin.2.2.1 hsg ht
  replace hcall := Lib.hid hcall
  generalize fitS (.mk k nm to new ea ecap e ba bcap body la lcap els pos) = fe at *
  clear hat hin
  go_enter Tryz.func64, Tryz.ntmps64
  go_wp2_with fail
  refine (hcall.out _ (hsg.below hg ((Below.refl _ _).alloc (Nat.le_refl _) _)) (ht.below ((Below.refl _ _).alloc (Nat.le_refl _) _))).mono ?_
  rintro e w' ⟨rfl, hb⟩
  go_wp2_with fail
  go_ret
  exact ⟨rfl, ((Below.refl _ _).alloc (Nat.le_refl _) _).trans (hb.mono (by simp))⟩
end Go.Proofs.YtpcdlneompnhlaaGreatDoor.Tr

namespace Go.Proofs.YtpcdlneompnhlaaGreatDoor.Tr
open Go Go.RowKit Go.Shelf
open Go.Proofs.YtpcdlneompnhlaaGreatDoor.Lx Go.Proofs.YtpcdlneompnhlaaGreatDoor.Rg
attribute [local go_sem] Oper.semAt_some

theorem ptsE_eq (b o : Nat) (d : Int) (k : Int) (nm : ByteArray) (n : Int) (a : Option Addr) (cap : Nat) (args : List Ex) (pos : Int) :
    ptsE b o d (.mk k nm n a cap args pos) = ⟨b, o, .inl (.mk k nm n a cap args pos), d⟩ :: ptsL (adB a) (adO a) (d + 1) args := by unfold ptsE; rfl
theorem ptsL_one (b o : Nat) (d : Int) (e : Ex) : ptsL b o d [e] = ptsE b o d e := by unfold ptsL ptsL; rw [List.append_nil]

/-- does a part fit? -/
def fitPt (p : Pt) : Bool := match p.x with
  | .inl e => fitE e
  | .inr s => fitS s
/-- the tables lie in the world -/
structure Tabs (w : World) : Prop where
  sg : SignsIn w
  ex : ExTab w
  st : StTab w
theorem Tabs.below {w w' : World} (h : Tabs w) (hb : Below w.heap.size w w') : Tabs w' := ⟨h.sg.below h.sg.lt hb, h.ex.below hb, h.st.below hb⟩
theorem fitPt_any (x : Pt) (S : Nat → Prop) (w : World) (hx : x.In w S) (ht : Tabs w) :
    Calls Tryz.prog 64 #[x.val] w fun e' w' => e' = .returned (.bool (fitPt x)) ∧ Below w.heap.size w w' := by
  obtain ⟨b, o, x, d⟩ := x
  cases x with
  | inl e => exact fits_ex e b o S d w hx.1 hx.2 ht.sg ht.ex
  | inr e => exact fits_st e b o S d w hx.1 hx.2 ht.sg ht.st
/-- may an expression be? -/
def mayE (e : Ex) : Bool := (ptsE 0 0 1 e).all fitPt
theorem mayE_at (b o : Nat) (e : Ex) : (ptsE b o 1 e).all fitPt = mayE e := by
  obtain ⟨k, nm, en, a, cap, args, pos⟩ := e
  unfold mayE
  rw [ptsE_eq, ptsE_eq]
  rfl

end Go.Proofs.YtpcdlneompnhlaaGreatDoor.Tr

namespace Go.Proofs.YtpcdlneompnhlaaGreatDoor.Tr
open Go Go.RowKit Go.Shelf
open Go.Proofs.YtpcdlneompnhlaaGreatDoor.Lx Go.Proofs.YtpcdlneompnhlaaGreatDoor.Rg
attribute [local go_sem] Oper.semAt_some

mutual
def ptsS (b o : Nat) (d : Int) : St → List Pt
  | .mk k nm to new ea ecap e ba bcap body la lcap els pos => ⟨b, o, .inr (.mk k nm to new ea ecap e ba bcap body la lcap els pos), d⟩ ::
      (ptsL (adB ea) (adO ea) (d + 1) e ++ (ptsSL (adB ba) (adO ba) (d + 1) body ++ ptsSL (adB la) (adO la) (d + 1) els))
def ptsSL (b o : Nat) (d : Int) : List St → List Pt
  | [] => []
  | e :: r => ptsS b o d e ++ ptsSL b (o + 8) d r
end
mutual
def St.sz : St → Nat
  | .mk _ _ _ _ _ _ e _ _ body _ _ els _ => 1 + Ex.szL e + St.szL body + St.szL els
def St.szL : List St → Nat
  | [] => 0
  | e :: r => St.sz e + St.szL r
end
theorem St.sz_get : ∀ {l : List St} {i : Nat} {e : St}, l[i]? = some e → e.sz ≤ St.szL l
  | x :: r, 0, e, h => by simp at h; subst h; unfold St.szL; omega
  | x :: r, i + 1, e, h => by
    have := St.sz_get (l := r) (i := i) (e := e) (by simpa using h)
    unfold St.szL; omega
theorem ptsSL_take (d : Int) (b : Nat) : ∀ (l : List St) (o k : Nat) (e : St), l[k]? = some e → ptsSL b o d (l.take (k + 1)) = ptsSL b o d (l.take k) ++ ptsS b (o + k * 8) d e
  | x :: r, o, 0, e, h => by
    simp at h; subst h
    simp [ptsSL]
  | x :: r, o, k + 1, e, h => by
    rw [List.take_succ_cons, List.take_succ_cons]
    unfold ptsSL
    rw [ptsSL_take d b r (o + 8) k e (by simpa using h), List.append_assoc]
    congr 3
    omega
theorem ptsSL_pre (d : Int) (b : Nat) (l : List St) (o k : Nat) : ptsSL b o d (l.take k) <+: ptsSL b o d l := by
  induction l generalizing o k with
  | nil => simp [ptsSL]
  | cons x r ih =>
    cases k with
    | zero => simp [ptsSL]
    | succ k =>
      rw [List.take_succ_cons]
      unfold ptsSL
      exact List.prefix_append_right_inj _ |>.2 (ih (o + 8) k)
theorem pre_app {α : Type} {A B C q : List α} (h : q <+: B) : A ++ q <+: A ++ (B ++ C) := by
  obtain ⟨r, rfl⟩ := h
  exact ⟨r ++ C, by simp [List.append_assoc]⟩

set_option maxRecDepth 100000 in
set_option maxHeartbeats 4000000 in
theorem eachS_in (F : Fence) (hd : F.depth = none) (hf : F.fn 114) (hfe : F.fn 158) (hro : F.round = none) (l N : Nat) (S : Nat → Prop) (J Jx : List Pt → World → Prop)
    (hY : ∀ m pre (x : Pt) W, J pre W → x.In W S → pre.length < N → YieldAt F m Tryz.prog l #[x.val] W fun e W' =>
      (e = .returned (.bool true) ∧ J (pre ++ [x]) W' ∧ Kps S W W') ∨ (e = .returned (.bool false) ∧ Jx (pre ++ [x]) W')) :
    ∀ (s : Nat) (L : List St) (a : Option Addr) (cap : Nat) (d : Int) (n : Nat) (pre : List Pt) (W : World), St.szL L ≤ s → 0 ≤ d → d + (s : Int) ≤ 4611686018427387904 →
      RowAt W S a cap L.length (stCells L) → St.InL W S L → J pre W → pre.length + (ptsSL (adB a) (adO a) d L).length ≤ N →
      CallsIn F n Tryz.prog 114 #[.slice a L.length cap, .int .i64 d, .func (.yield l) #[] #[]] W fun e W' =>
        (e = .returned (.bool true) ∧ J (pre ++ ptsSL (adB a) (adO a) d L) W' ∧ Kps S W W') ∨
        (e = .returned (.bool false) ∧ ∃ q, q <+: ptsSL (adB a) (adO a) d L ∧ Jx (pre ++ q) W') := by
  intro s
  induction s using Nat.strongRecOn with
  | _ s ih =>
    intro L a cap d n pre W hs h0 hd2 hrow hin hJ hN
    have hdd : ∀ k : Nat, (F.depth.isSome = true → 1 ≤ k) := fun k h => by rw [hd] at h; cases h
    have hll : L.length ≤ 9223372036854775807 := by have := hrow.le; have := hrow.lim; unfold maxLen at this; omega
    refine callsIn_of_wp Tryz.func114 rfl hf ?_ hro
    simp only [Tryz.ntmps114, List.size_toArray, List.length_cons, List.length_nil, Nat.reduceAdd, Nat.reduceSub, Array.replicate_succ, Array.replicate_zero, List.push_toArray, List.append_toArray, List.nil_append, List.cons_append]
    gi_wp2
    gi_loopw [11] (fun i wr => ∃ k : Nat, k ≤ L.length ∧ i = .int .i64 k ∧ J (pre ++ ptsSL (adB a) (adO a) d (L.take k)) wr ∧ Kps S W wr) (fun i _ => L.length - (intOf i).toNat)
    case atStart => exact ⟨0, Nat.zero_le _, rfl, by simpa [ptsSL] using hJ, Kps.refl _ _⟩
    case round =>
      obtain ⟨k, hk, rfl, hJs, hbr⟩ := hrel
      by_cases hlt : k < L.length
      · obtain ⟨e, he⟩ : ∃ e, L[k]? = some e := ⟨L[k], by simp [hlt]⟩
        have hsz := St.sz_get he
        have hei := St.In.below hbr _ (hin.get he)
        obtain ⟨b, off, rfl, hbn, hcell⟩ := st_row hrow k e he
        have htk := ptsSL_take d b L off k e he
        have hpp := ptsSL_pre d b L off (k + 1)
        have hat : StAt wr S b (off + k * 8) e := StAt.below ⟨hbn, fun j u hj => by rw [Nat.add_assoc]; exact hcell j u hj⟩ hbr
        have hlen : (pre ++ ptsSL b off d (L.take k)).length + (ptsS b (off + k * 8) d e).length ≤ N := by
          have h1 := hpp.length_le
          rw [htk, List.length_append] at h1
          have hN' : pre.length + (ptsSL b off d L).length ≤ N := hN
          rw [List.length_append]; omega
        obtain ⟨ek, enm, eto, enew, ea, ecap, ee, ba, bcap, ebody, la, lcap, eels, epos⟩ := e
        obtain ⟨PE, hPE⟩ : ∃ PE, PE = ptsL (adB ea) (adO ea) (d + 1) ee := ⟨_, rfl⟩
        obtain ⟨PB, hPB⟩ : ∃ PB, PB = ptsSL (adB ba) (adO ba) (d + 1) ebody := ⟨_, rfl⟩
        obtain ⟨PL, hPL⟩ : ∃ PL, PL = ptsSL (adB la) (adO la) (d + 1) eels := ⟨_, rfl⟩
        obtain ⟨x, hx⟩ : ∃ x : Pt, x = ⟨b, off + k * 8, .inr (.mk ek enm eto enew ea ecap ee ba bcap ebody la lcap eels epos), d⟩ := ⟨_, rfl⟩
        have hpe : ptsS b (off + k * 8) d (.mk ek enm eto enew ea ecap ee ba bcap ebody la lcap eels epos) = x :: (PE ++ (PB ++ PL)) := by unfold ptsS; rw [hx, hPE, hPB, hPL]
        have hex : St.sz (.mk ek enm eto enew ea ecap ee ba bcap ebody la lcap eels epos) = 1 + Ex.szL ee + St.szL ebody + St.szL eels := by unfold St.sz; rfl
        have hei2 := hei
        unfold St.In at hei2
        obtain ⟨_, _, _, _, hrE, hiE, hrB, hiB, hrL, hiL⟩ := hei2
        replace hJs : J (pre ++ ptsSL b off d (L.take k)) wr := hJs
        have hxv : x.val = .agg #[.pointer (some ⟨b, off + k * 8, none⟩), .pointer none, .int .i64 d] := by rw [hx]; rfl
        have hxi : x.In wr S := by rw [hx]; exact ⟨hat, hei⟩
        rw [hpe] at hlen htk
        obtain ⟨ys, hys⟩ : ∃ ys, ys = pre ++ ptsSL b off d (L.take k) := ⟨_, rfl⟩
        rw [← hys] at hJs hlen
        rw [List.length_cons, List.length_append, List.length_append] at hlen
        have hy0 := hY (n - 1) ys x wr hJs hxi (by omega)
        rw [hxv] at hy0
        have hiE1 := fun (W2 : World) (hJ2 : J (ys ++ [x]) W2) (hb2 : Kps S wr W2) => each_in F hd hfe hro l N S J Jx hY (Ex.szL ee) ee ea ecap (d + 1) (n - 1) (ys ++ [x]) W2 (Nat.le_refl _) (by omega) (by omega) (hrE.below hb2) (Ex.InL.below hb2 _ hiE) hJ2 (by rw [← hPE, List.length_append]; simp only [List.length_cons, List.length_nil]; omega)
        have hiB1 := fun (W2 : World) (hJ2 : J (ys ++ [x] ++ PE) W2) (hb2 : Kps S wr W2) => ih (St.szL ebody) (by omega) ebody ba bcap (d + 1) (n - 1) (ys ++ [x] ++ PE) W2 (Nat.le_refl _) (by omega) (by omega) (hrB.below hb2) (St.InL.below hb2 _ hiB) hJ2 (by rw [← hPB, List.length_append, List.length_append]; simp only [List.length_cons, List.length_nil]; omega)
        have hiL1 := fun (W2 : World) (hJ2 : J (ys ++ [x] ++ PE ++ PB) W2) (hb2 : Kps S wr W2) => ih (St.szL eels) (by omega) eels la lcap (d + 1) (n - 1) (ys ++ [x] ++ PE ++ PB) W2 (Nat.le_refl _) (by omega) (by omega) (hrL.below hb2) (St.InL.below hb2 _ hiL) hJ2 (by rw [← hPL, List.length_append, List.length_append, List.length_append]; simp only [List.length_cons, List.length_nil]; omega)
        rw [← hPE] at hiE1
        rw [← hPB] at hiB1
        rw [← hPL] at hiL1
        obtain ⟨_, _, _, _, c4, c5, c6, _⟩ := hat.cells
        replace hiE1 := Lib.hid hiE1
        replace hiB1 := Lib.hid hiB1
        replace hiL1 := Lib.hid hiL1
        replace htk := Lib.hid htk
        replace hpp := Lib.hid hpp
        replace hys := Lib.hid hys
        have hs0 : 0 < s := by omega
        have hb0 := Lib.hid hbr
        have c4' := Lib.hid (fun W2 (h : Kps S wr W2) => h _ _ _ hbn c4)
        have c5' := Lib.hid (fun W2 (h : Kps S wr W2) => h _ _ _ hbn c5)
        have c6' := Lib.hid (fun W2 (h : Kps S wr W2) => h _ _ _ hbn c6)
        clear hY ih hex hxv hxi hx hpe he hcell hat hei hrE hiE hrB hiB hrL hiL hrow hin hlen hN hbr hJ c4 c5 c6 hPE hPB hPL
        obtain ⟨fn, tmps, assign, body, hy, hR⟩ := hy0
        have fin : Hid (∀ (q : List Pt) (V : World), q <+: PE ++ (PB ++ PL) → Jx (ys ++ [x] ++ q) V → ∃ q', q' <+: ptsSL b off d L ∧ Jx (pre ++ q') V) := Lib.hid (fun q V hq hx3 => by
          refine ⟨ptsSL b off d (L.take k) ++ x :: q, List.IsPrefix.trans ?_ hpp.out, ?_⟩
          · rw [htk.out]
            obtain ⟨r, hr⟩ := hq
            exact ⟨r, by rw [List.append_assoc, List.cons_append, hr]⟩
          · rw [hys.out] at hx3
            simpa only [List.append_assoc, List.cons_append, List.nil_append] using hx3)
        gi_wp2_with fail
        refine hR.mono ?_
        clear hR
        rintro e W2 (⟨rfl, hJ2, hb2⟩ | ⟨rfl, hx2⟩)
        · have hc := Lib.hid (hiE1.out W2 hJ2 hb2)
          have e4 := c4'.out W2 hb2
          replace hb2 := Lib.hid hb2
          clear hJ2
          gi_wp2_with fail
          refine hc.out.mono ?_
          clear hc e4
          rintro e W3 (⟨rfl, hJ3, hb3⟩ | ⟨rfl, q, hq, hx3⟩)
          · have hbb := hb2.out.trans hb3
            have hc := Lib.hid (hiB1.out W3 hJ3 hbb)
            have e5 := c5'.out W3 hbb
            replace hbb := Lib.hid hbb
            clear hJ3 hb3
            gi_wp2_with fail
            refine hc.out.mono ?_
            clear hc e5
            rintro e W4 (⟨rfl, hJ4, hb4⟩ | ⟨rfl, q, hq, hx4⟩)
            · have hbb2 := hbb.out.trans hb4
              have hc := Lib.hid (hiL1.out W4 hJ4 hbb2)
              have e6 := c6'.out W4 hbb2
              replace hbb2 := Lib.hid hbb2
              clear hJ4 hb4
              gi_wp2_with fail
              refine hc.out.mono ?_
              clear hc e6
              rintro e W5 (⟨rfl, hJ5, hb5⟩ | ⟨rfl, q, hq, hx5⟩)
              · have HR : Hid (ys ++ [x] ++ PE ++ PB ++ PL = pre ++ ptsSL b off d (L.take (k + 1))) := Lib.hid (by
                  rw [htk.out, hys.out]; simp only [List.append_assoc, List.cons_append, List.nil_append])
                rw [HR.out] at hJ5
                have HJ := Lib.hid hJ5
                have hbb3 := Lib.hid (hbb2.out.trans hb5)
                clear hJ5 hb5 hy HR
                gi_wp2_with fail
                go_roundw
                case rel => exact ⟨k + 1, by omega, by go_num, HJ.out, hb0.out.trans hbb3.out⟩
                case measure => simp [intOf]; omega
              · have HR := Lib.hid (fin.out (PE ++ (PB ++ q)) W5 (by
                  obtain ⟨r, rfl⟩ := hq
                  exact ⟨r, by simp only [List.append_assoc]⟩) (by simpa only [List.append_assoc] using hx5))
                clear hq hx5 hy
                gi_wp2_with fail
                go_ret
                exact .inr ⟨rfl, HR.out⟩
            · have HR := Lib.hid (fin.out (PE ++ q) W4 (pre_app hq) (by simpa only [List.append_assoc] using hx4))
              clear hq hx4 hy
              gi_wp2_with fail
              go_ret
              exact .inr ⟨rfl, HR.out⟩
          · have HR := Lib.hid (fin.out q W3 (hq.trans (List.prefix_append _ _)) hx3)
            clear hq hx3 hy
            gi_wp2_with fail
            go_ret
            exact .inr ⟨rfl, HR.out⟩
        · have HR := Lib.hid (fin.out [] W2 (List.nil_prefix) (by rw [List.append_nil]; exact hx2))
          clear hx2 hy
          gi_wp2_with fail
          go_ret
          exact .inr ⟨rfl, HR.out⟩
      · rw [List.take_of_length_le (by omega)] at hJs
        gi_wp2
        go_ret
        exact .inl ⟨rfl, hJs, hbr⟩
end Go.Proofs.YtpcdlneompnhlaaGreatDoor.Tr
