/- Walks of tree.part.fits, eachExpr: all parts of expressions, each ahead of what is in it. Conditions: the package's tables hold their lists. -/
import Derived.Test.YtolmhcdcfnoicaaDoorTrB
import Derived.Test.YtolmhcdcfnoicaaDoorRgA
import Derived.RangeFuncNested
import Derived.RangeFuncBound
import Derived.RangeFuncCalls
import Derived.RangeFuncLeaves
import Derived.Shelf.Abstract
import Derived.Shelf.RegionOpen
import Derived.WalkKit
import Derived.OwnWalkIn
import Derived.TacticsInMore
import Derived.LoopNIn
import Derived.LoopIn
namespace Go.Proofs.YtolmhcdcfnoicaaDoor.Tr
open Go Go.RowKit Go.Shelf
open Go.Proofs.YtolmhcdcfnoicaaDoor.Lx
attribute [local go_sem] Oper.semAt_some

/-- an expression's cells lie at a place -/
def ExAt (w : World) (S : Nat → Prop) (b o : Nat) (e : Ex) : Prop := S b ∧ ∀ j u, e.vals[j]? = some u → w.cell? ⟨b, o + j, none⟩ = some u
theorem ExAt.below {w w' : World} {S : Nat → Prop} {b o : Nat} {e : Ex} (h : ExAt w S b o e) (hb : Kps S w w') : ExAt w' S b o e :=
  ⟨h.1, fun j u hj => hb _ _ _ h.1 (h.2 j u hj)⟩
theorem ExAt.cells {w : World} {S : Nat → Prop} {b o : Nat} {k : Int} {nm : ByteArray} {n : Int} {a : Option Addr} {cap : Nat} {args : List Ex} {pos : Int} (h : ExAt w S b o (.mk k nm n a cap args pos)) :
    w.cell? ⟨b, o, none⟩ = some (.int .u8 k) ∧ w.cell? ⟨b, o + 1, none⟩ = some (.string nm) ∧ w.cell? ⟨b, o + 2, none⟩ = some (.int .i64 n) ∧ w.cell? ⟨b, o + 3, none⟩ = some (.slice a args.length cap) ∧ w.cell? ⟨b, o + 4, none⟩ = some (.int .i64 pos) :=
  ⟨h.2 0 _ rfl, h.2 1 _ rfl, h.2 2 _ rfl, h.2 3 _ rfl, h.2 4 _ rfl⟩

theorem ExTab.below {w w' : World} (h : ExTab w) (hb : Below w.heap.size w w') : ExTab w' := by
  obtain ⟨t, fr, hg⟩ := h
  exact ⟨t, fr, (hb.block _ (Array.getElem?_eq_some_iff.1 hg).1).trans hg⟩
set_option maxHeartbeats 800000 in
theorem fits_ex (e : Ex) (b o : Nat) (S : Nat → Prop) (d : Int) (w : World) (hat : ExAt w S b o e) (hin : Ex.In w S e) (hsg : SignsIn w) (ht : ExTab w) :
    Calls Tryd.prog 30 #[.agg #[.pointer none, .pointer (some ⟨b, o, none⟩), .int .i64 d]] w fun e' w' => e' = .returned (.bool (fitE e)) ∧ Below w.heap.size w w' := by
  obtain ⟨k, nm, n, a, cap, args, pos⟩ := e
  obtain ⟨c0, c1, c2, c3, c4⟩ := hat.cells
  unfold Ex.In at hin
  have hbl : b < w.heap.size := World.block_lt_of_cell? _ _ c0
  have hg := hsg.lt
  have hcall := fun W hsg ht => fitE_any k nm n a cap args pos W hin.1 hin.2.1 hin.2.2.1 hsg ht
  replace hcall := Lib.hid hcall
  generalize fitE (.mk k nm n a cap args pos) = fe at *
  clear hat hin
  go_enter Tryd.func30, Tryd.ntmps30
  go_wp2_with fail
  refine (hcall.out _ (hsg.below hg ((Below.refl _ _).alloc (Nat.le_refl _) _)) (ht.below ((Below.refl _ _).alloc (Nat.le_refl _) _))).mono ?_
  rintro e w' ⟨rfl, hb⟩
  go_wp2_with fail
  go_ret
  exact ⟨rfl, ((Below.refl _ _).alloc (Nat.le_refl _) _).trans (hb.mono (by simp))⟩

/-! ### Parts, each ahead of what is in it -/
def adB : Option Addr → Nat
  | some a => a.block
  | none => 0
def adO : Option Addr → Nat
  | some a => a.off
  | none => 0
/-- a part: where it stands in memory, what it is, how deep it stands -/
structure Pt where
  b : Nat
  o : Nat
  x : Ex ⊕ St
  d : Int
def Pt.val (p : Pt) : Value := match p.x with
  | .inl _ => .agg #[.pointer none, .pointer (some ⟨p.b, p.o, none⟩), .int .i64 p.d]
  | .inr _ => .agg #[.pointer (some ⟨p.b, p.o, none⟩), .pointer none, .int .i64 p.d]
mutual
def ptsE (b o : Nat) (d : Int) : Ex → List Pt
  | .mk k nm n a cap args pos => ⟨b, o, .inl (.mk k nm n a cap args pos), d⟩ :: ptsL (adB a) (adO a) (d + 1) args
def ptsL (b o : Nat) (d : Int) : List Ex → List Pt
  | [] => []
  | e :: r => ptsE b o d e ++ ptsL b (o + 5) d r
end
mutual
def Ex.sz : Ex → Nat
  | .mk _ _ _ _ _ args _ => 1 + Ex.szL args
def Ex.szL : List Ex → Nat
  | [] => 0
  | e :: r => Ex.sz e + Ex.szL r
end
theorem Ex.sz_get : ∀ {l : List Ex} {i : Nat} {e : Ex}, l[i]? = some e → e.sz ≤ Ex.szL l
  | x :: r, 0, e, h => by simp at h; subst h; unfold Ex.szL; omega
  | x :: r, i + 1, e, h => by
    have := Ex.sz_get (l := r) (i := i) (e := e) (by simpa using h)
    unfold Ex.szL; omega
theorem ptsL_take (d : Int) (b : Nat) : ∀ (l : List Ex) (o k : Nat) (e : Ex), l[k]? = some e → ptsL b o d (l.take (k + 1)) = ptsL b o d (l.take k) ++ ptsE b (o + k * 5) d e
  | x :: r, o, 0, e, h => by
    simp at h; subst h
    simp [ptsL]
  | x :: r, o, k + 1, e, h => by
    rw [List.take_succ_cons, List.take_succ_cons]
    unfold ptsL
    rw [ptsL_take d b r (o + 5) k e (by simpa using h), List.append_assoc]
    congr 3
    omega
theorem ptsL_pre (d : Int) (b : Nat) (l : List Ex) (o k : Nat) : ptsL b o d (l.take k) <+: ptsL b o d l := by
  induction l generalizing o k with
  | nil => simp [ptsL]
  | cons x r ih =>
    cases k with
    | zero => simp [ptsL]
    | succ k =>
      rw [List.take_succ_cons]
      unfold ptsL
      exact List.prefix_append_right_inj _ |>.2 (ih (o + 5) k)
/-- a statement's cells lie at a place -/
def StAt (w : World) (S : Nat → Prop) (b o : Nat) (e : St) : Prop := S b ∧ ∀ j u, e.vals[j]? = some u → w.cell? ⟨b, o + j, none⟩ = some u
theorem StAt.below {w w' : World} {S : Nat → Prop} {b o : Nat} {e : St} (h : StAt w S b o e) (hb : Kps S w w') : StAt w' S b o e :=
  ⟨h.1, fun j u hj => hb _ _ _ h.1 (h.2 j u hj)⟩
def Pt.In (w : World) (S : Nat → Prop) (p : Pt) : Prop := match p.x with
  | .inl e => ExAt w S p.b p.o e ∧ Ex.In w S e
  | .inr s => StAt w S p.b p.o s ∧ St.In w S s
theorem Pt.In.keep {w w' : World} {S : Nat → Prop} {p : Pt} (h : p.In w S) (hb : Kps S w w') : p.In w' S := by
  obtain ⟨b, o, x, d⟩ := p
  cases x with
  | inl e => exact ⟨h.1.below hb, Ex.In.below hb _ h.2⟩
  | inr e => exact ⟨h.1.below hb, St.In.below hb _ h.2⟩

theorem room_of_none {F : Fence} (hd : F.depth = none) (k : Nat) : F.room k := fun d h => by rw [hd] at h; cases h
theorem RoundIn.anyDepth {F : Fence} (hd : F.depth = none) {m m' : Nat} {P : Program} {l : Nat} {f : FuncId} {tmps : Array Value} {assign body : Code} {w : World} {R : Ending → World → Prop}
    (h : RoundIn F m P l f tmps assign body w R) : RoundIn F m' P l f tmps assign body w R := ⟨h.1, fun c cs _ => h.2 c cs (room_of_none hd _)⟩
theorem YieldAt.anyDepth {F : Fence} (hd : F.depth = none) {m : Nat} (m' : Nat) {P : Program} {l : Nat} {args : Array Value} {W : World} {R : Ending → World → Prop} (h : YieldAt F m P l args W R) : YieldAt F m' P l args W R := by
  obtain ⟨fn, tmps, assign, body, hy, hR⟩ := h
  exact ⟨fn, tmps, assign, body, hy, RoundIn.anyDepth hd hR⟩

set_option maxRecDepth 100000 in
set_option maxHeartbeats 2000000 in
theorem each_in (F : Fence) (hd : F.depth = none) (hf : F.fn 63) (hro : F.round = none) (l N : Nat) (S : Nat → Prop) (J Jx : List Pt → World → Prop)
    (hY : ∀ m pre (x : Pt) W, J pre W → x.In W S → pre.length < N → YieldAt F m Tryd.prog l #[x.val] W fun e W' =>
      (e = .returned (.bool true) ∧ J (pre ++ [x]) W' ∧ Kps S W W') ∨ (e = .returned (.bool false) ∧ Jx (pre ++ [x]) W')) :
    ∀ (s : Nat) (L : List Ex) (a : Option Addr) (cap : Nat) (d : Int) (n : Nat) (pre : List Pt) (W : World), Ex.szL L ≤ s → 0 ≤ d → d + (s : Int) ≤ 4611686018427387904 →
      RowAt W S a cap L.length (exCells L) → Ex.InL W S L → J pre W → pre.length + (ptsL (adB a) (adO a) d L).length ≤ N →
      CallsIn F n Tryd.prog 63 #[.slice a L.length cap, .int .i64 d, .func (.yield l) #[] #[]] W fun e W' =>
        (e = .returned (.bool true) ∧ J (pre ++ ptsL (adB a) (adO a) d L) W' ∧ Kps S W W') ∨
        (e = .returned (.bool false) ∧ ∃ q, q <+: ptsL (adB a) (adO a) d L ∧ Jx (pre ++ q) W') := by
  intro s
  induction s using Nat.strongRecOn with
  | _ s ih =>
    intro L a cap d n pre W hs h0 hd2 hrow hin hJ hN
    have hdd : ∀ k : Nat, (F.depth.isSome = true → 1 ≤ k) := fun k h => by rw [hd] at h; cases h
    have hll : L.length ≤ 9223372036854775807 := by have := hrow.le; have := hrow.lim; unfold maxLen at this; omega
    refine callsIn_of_wp Tryd.func63 rfl hf ?_ hro
    simp only [Tryd.ntmps63, List.size_toArray, List.length_cons, List.length_nil, Nat.reduceAdd, Nat.reduceSub, Array.replicate_succ, Array.replicate_zero, List.push_toArray, List.append_toArray, List.nil_append, List.cons_append]
    gi_wp2
    gi_loopw [11] (fun i wr => ∃ k : Nat, k ≤ L.length ∧ i = .int .i64 k ∧ J (pre ++ ptsL (adB a) (adO a) d (L.take k)) wr ∧ Kps S W wr) (fun i _ => L.length - (intOf i).toNat)
    case atStart => exact ⟨0, Nat.zero_le _, rfl, by simpa [ptsL] using hJ, Kps.refl _ _⟩
    case round =>
      obtain ⟨k, hk, rfl, hJs, hbr⟩ := hrel
      by_cases hlt : k < L.length
      · obtain ⟨e, he⟩ : ∃ e, L[k]? = some e := ⟨L[k], by simp [hlt]⟩
        have hsz := Ex.sz_get he
        have hei := Ex.In.below hbr _ (hin.get he)
        obtain ⟨b, off, rfl, hbn, hcell⟩ := ex_row hrow k e he
        have htk := ptsL_take d b L off k e he
        have hpp := ptsL_pre d b L off (k + 1)
        have hat : ExAt wr S b (off + k * 5) e := ExAt.below ⟨hbn, fun j u hj => by rw [Nat.add_assoc]; exact hcell j u hj⟩ hbr
        have hlen : (pre ++ ptsL b off d (L.take k)).length + (ptsE b (off + k * 5) d e).length ≤ N := by
          have h1 := hpp.length_le
          rw [htk, List.length_append] at h1
          have hN' : pre.length + (ptsL b off d L).length ≤ N := hN
          rw [List.length_append]; omega
        obtain ⟨ek, enm, en, ea, ecap, eargs, epos⟩ := e
        have hpe : ptsE b (off + k * 5) d (.mk ek enm en ea ecap eargs epos) = ⟨b, off + k * 5, .inl (.mk ek enm en ea ecap eargs epos), d⟩ :: ptsL (adB ea) (adO ea) (d + 1) eargs := by unfold ptsE; rfl
        have hex : Ex.sz (.mk ek enm en ea ecap eargs epos) = 1 + Ex.szL eargs := by unfold Ex.sz; rfl
        have hei2 := hei
        unfold Ex.In at hei2
        obtain ⟨_, _, _, _, hrow2, hin2⟩ := hei2
        replace hJs : J (pre ++ ptsL b off d (L.take k)) wr := hJs
        obtain ⟨x, hx⟩ : ∃ x : Pt, x = ⟨b, off + k * 5, .inl (.mk ek enm en ea ecap eargs epos), d⟩ := ⟨_, rfl⟩
        have hxv : x.val = .agg #[.pointer none, .pointer (some ⟨b, off + k * 5, none⟩), .int .i64 d] := by rw [hx]; rfl
        have hxi : x.In wr S := by rw [hx]; exact ⟨hat, hei⟩
        rw [hpe, List.length_cons] at hlen
        rw [hpe, ← hx] at htk
        obtain ⟨ys, hys⟩ : ∃ ys, ys = pre ++ ptsL b off d (L.take k) := ⟨_, rfl⟩
        rw [← hys] at hJs hlen
        have hy0 := hY (n - 1) ys x wr hJs hxi (by omega)
        rw [hxv] at hy0
        have hih := fun (W2 : World) (hJ2 : J (ys ++ [x]) W2) (hb2 : Kps S wr W2) => ih (Ex.szL eargs) (by omega) eargs ea ecap (d + 1) (n - 1) (ys ++ [x]) W2 (Nat.le_refl _) (by omega) (by omega) (hrow2.below hb2) (Ex.InL.below hb2 _ hin2) hJ2 (by rw [List.length_append]; simp only [List.length_cons, List.length_nil]; omega)
        have c3 := hat.cells.2.2.2.1
        have hy1 : YieldAt F (n - 1) Tryd.prog l #[.agg #[.pointer none, .pointer (some ⟨b, off + k * 5, none⟩), .int .i64 d]] wr fun e' W2 =>
            (e' = .returned (.bool true) ∧ W2.cell? ⟨b, off + k * 5 + 3, none⟩ = some (.slice ea eargs.length ecap) ∧ J (ys ++ [x]) W2 ∧ Kps S wr W2) ∨ (e' = .returned (.bool false) ∧ Jx (ys ++ [x]) W2) :=
          YieldAt.mono hy0 fun e' W2 h => h.elim (fun ⟨he', hj, hb2⟩ => .inl ⟨he', hb2 _ _ _ hbn c3, hj, hb2⟩) .inr
        replace hih := Lib.hid hih
        replace htk := Lib.hid htk
        replace hpp := Lib.hid hpp
        replace hys := Lib.hid hys
        have hs0 : 0 < s := by omega
        have hb0 := Lib.hid hbr
        clear hy0 hY ih hex hxv hxi hx hpe he hcell hat hei hrow2 hin2 hrow hin hlen hN hbr hJ
        obtain ⟨fn, tmps, assign, body, hy, hR⟩ := hy1
        gi_wp2_with fail
        refine hR.mono ?_
        clear hR
        rintro e W2 (⟨rfl, c3', hJ2, hb2⟩ | ⟨rfl, hx2⟩)
        · have hc := hih.out W2 hJ2 hb2
          replace hc := Lib.hid hc
          replace hb2 := Lib.hid hb2
          gi_wp2_with fail
          refine hc.out.mono ?_
          rintro e W3 (⟨rfl, hJ3, hb3⟩ | ⟨rfl, q, hq, hx3⟩)
          · have HR : Hid (ys ++ [x] ++ ptsL (adB ea) (adO ea) (d + 1) eargs = pre ++ ptsL b off d (L.take (k + 1))) := Lib.hid (by
              rw [htk.out, hys.out]; simp only [List.append_assoc, List.cons_append, List.nil_append])
            rw [HR.out] at hJ3
            have HJ := Lib.hid hJ3
            replace hb3 := Lib.hid hb3
            clear hJ3 hc hy HR
            gi_wp2_with fail
            go_roundw
            case rel => exact ⟨k + 1, by omega, by go_num, HJ.out, (hb0.out.trans hb2.out).trans hb3.out⟩
            case measure => simp [intOf]; omega
          · have HR : Hid (∃ q', q' <+: ptsL b off d L ∧ Jx (pre ++ q') W3) := Lib.hid (by
              refine ⟨ptsL b off d (L.take k) ++ x :: q, List.IsPrefix.trans ?_ hpp.out, ?_⟩
              · rw [htk.out]
                obtain ⟨r, hr⟩ := hq
                exact ⟨r, by rw [List.append_assoc, List.cons_append, hr]⟩
              · rw [hys.out] at hx3
                simpa only [List.append_assoc, List.cons_append, List.nil_append] using hx3)
            clear hq hx3 hc hy
            gi_wp2_with fail
            go_ret
            exact .inr ⟨rfl, HR.out⟩
        · have HR : Hid (∃ q', q' <+: ptsL b off d L ∧ Jx (pre ++ q') W2) := Lib.hid (by
            refine ⟨ptsL b off d (L.take k) ++ [x], List.IsPrefix.trans ?_ hpp.out, ?_⟩
            · rw [htk.out]
              exact ⟨ptsL (adB ea) (adO ea) (d + 1) eargs, by simp only [List.append_assoc, List.cons_append, List.nil_append]⟩
            · rw [hys.out] at hx2
              simpa only [List.append_assoc] using hx2)
          clear hx2 hy
          gi_wp2_with fail
          go_ret
          exact .inr ⟨rfl, HR.out⟩
      · rw [List.take_of_length_le (by omega)] at hJs
        gi_wp2
        go_ret
        exact .inl ⟨rfl, hJs, hbr⟩
end Go.Proofs.YtolmhcdcfnoicaaDoor.Tr
