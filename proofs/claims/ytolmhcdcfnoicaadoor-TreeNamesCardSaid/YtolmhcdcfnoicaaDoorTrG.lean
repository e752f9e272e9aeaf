/- Walks of tree.eachStmt: all parts of statements, each ahead of what is in it. Conditions: none. -/
import Derived.Test.YtolmhcdcfnoicaaDoorTrE
namespace Go.Proofs.YtolmhcdcfnoicaaDoor.Tr
open Go Go.RowKit Go.Shelf
open Go.Proofs.YtolmhcdcfnoicaaDoor.Lx Go.Proofs.YtolmhcdcfnoicaaDoor.Rg
attribute [local go_sem] Oper.semAt_some

mutual
def ptsS (b o : Nat) (d : Int) : St → List Pt
  | .mk k nm to new ea ecap e ba bcap body la lcap els pos => ⟨b, o, .inr (.mk k nm to new ea ecap e ba bcap body la lcap els pos), d⟩ ::
      (ptsL (adB ea) (adO ea) (d + 1) e ++ (ptsSL (adB ba) (adO ba) (d + 1) body ++ ptsSL (adB la) (adO la) (d + 1) els))
def ptsSL (b o : Nat) (d : Int) : List St → List Pt
  | [] => []
  | e :: r => ptsS b o d e ++ ptsSL b (o + 8) d r
end
mutual
def St.sz : St → Nat
  | .mk _ _ _ _ _ _ e _ _ body _ _ els _ => 1 + Ex.szL e + St.szL body + St.szL els
def St.szL : List St → Nat
  | [] => 0
  | e :: r => St.sz e + St.szL r
end
theorem St.sz_get : ∀ {l : List St} {i : Nat} {e : St}, l[i]? = some e → e.sz ≤ St.szL l
  | x :: r, 0, e, h => by simp at h; subst h; unfold St.szL; omega
  | x :: r, i + 1, e, h => by
    have := St.sz_get (l := r) (i := i) (e := e) (by simpa using h)
    unfold St.szL; omega
theorem ptsSL_take (d : Int) (b : Nat) : ∀ (l : List St) (o k : Nat) (e : St), l[k]? = some e → ptsSL b o d (l.take (k + 1)) = ptsSL b o d (l.take k) ++ ptsS b (o + k * 8) d e
  | x :: r, o, 0, e, h => by
    simp at h; subst h
    simp [ptsSL]
  | x :: r, o, k + 1, e, h => by
    rw [List.take_succ_cons, List.take_succ_cons]
    unfold ptsSL
    rw [ptsSL_take d b r (o + 8) k e (by simpa using h), List.append_assoc]
    congr 3
    omega
theorem ptsSL_pre (d : Int) (b : Nat) (l : List St) (o k : Nat) : ptsSL b o d (l.take k) <+: ptsSL b o d l := by
  induction l generalizing o k with
  | nil => simp [ptsSL]
  | cons x r ih =>
    cases k with
    | zero => simp [ptsSL]
    | succ k =>
      rw [List.take_succ_cons]
      unfold ptsSL
      exact List.prefix_append_right_inj _ |>.2 (ih (o + 8) k)
theorem pre_app {α : Type} {A B C q : List α} (h : q <+: B) : A ++ q <+: A ++ (B ++ C) := by
  obtain ⟨r, rfl⟩ := h
  exact ⟨r ++ C, by simp [List.append_assoc]⟩

set_option maxRecDepth 100000 in
set_option maxHeartbeats 4000000 in
theorem eachS_in (F : Fence) (hd : F.depth = none) (hf : F.fn 55) (hfe : F.fn 63) (hro : F.round = none) (l N : Nat) (S : Nat → Prop) (J Jx : List Pt → World → Prop)
    (hY : ∀ m pre (x : Pt) W, J pre W → x.In W S → pre.length < N → YieldAt F m Tryd.prog l #[x.val] W fun e W' =>
      (e = .returned (.bool true) ∧ J (pre ++ [x]) W' ∧ Kps S W W') ∨ (e = .returned (.bool false) ∧ Jx (pre ++ [x]) W')) :
    ∀ (s : Nat) (L : List St) (a : Option Addr) (cap : Nat) (d : Int) (n : Nat) (pre : List Pt) (W : World), St.szL L ≤ s → 0 ≤ d → d + (s : Int) ≤ 4611686018427387904 →
      RowAt W S a cap L.length (stCells L) → St.InL W S L → J pre W → pre.length + (ptsSL (adB a) (adO a) d L).length ≤ N →
      CallsIn F n Tryd.prog 55 #[.slice a L.length cap, .int .i64 d, .func (.yield l) #[] #[]] W fun e W' =>
        (e = .returned (.bool true) ∧ J (pre ++ ptsSL (adB a) (adO a) d L) W' ∧ Kps S W W') ∨
        (e = .returned (.bool false) ∧ ∃ q, q <+: ptsSL (adB a) (adO a) d L ∧ Jx (pre ++ q) W') := by
  intro s
  induction s using Nat.strongRecOn with
  | _ s ih =>
    intro L a cap d n pre W hs h0 hd2 hrow hin hJ hN
    have hdd : ∀ k : Nat, (F.depth.isSome = true → 1 ≤ k) := fun k h => by rw [hd] at h; cases h
    have hll : L.length ≤ 9223372036854775807 := by have := hrow.le; have := hrow.lim; unfold maxLen at this; omega
    refine callsIn_of_wp Tryd.func55 rfl hf ?_ hro
    simp only [Tryd.ntmps55, List.size_toArray, List.length_cons, List.length_nil, Nat.reduceAdd, Nat.reduceSub, Array.replicate_succ, Array.replicate_zero, List.push_toArray, List.append_toArray, List.nil_append, List.cons_append]
    gi_wp2
    gi_loopw [11] (fun i wr => ∃ k : Nat, k ≤ L.length ∧ i = .int .i64 k ∧ J (pre ++ ptsSL (adB a) (adO a) d (L.take k)) wr ∧ Kps S W wr) (fun i _ => L.length - (intOf i).toNat)
    case atStart => exact ⟨0, Nat.zero_le _, rfl, by simpa [ptsSL] using hJ, Kps.refl _ _⟩
    case round =>
      obtain ⟨k, hk, rfl, hJs, hbr⟩ := hrel
      by_cases hlt : k < L.length
      · obtain ⟨e, he⟩ : ∃ e, L[k]? = some e := ⟨L[k], by simp [hlt]⟩
        have hsz := St.sz_get he
        have hei := St.In.below hbr _ (hin.get he)
        obtain ⟨b, off, rfl, hbn, hcell⟩ := st_row hrow k e he
        have htk := ptsSL_take d b L off k e he
        have hpp := ptsSL_pre d b L off (k + 1)
        have hat : StAt wr S b (off + k * 8) e := StAt.below ⟨hbn, fun j u hj => by rw [Nat.add_assoc]; exact hcell j u hj⟩ hbr
        have hlen : (pre ++ ptsSL b off d (L.take k)).length + (ptsS b (off + k * 8) d e).length ≤ N := by
          have h1 := hpp.length_le
          rw [htk, List.length_append] at h1
          have hN' : pre.length + (ptsSL b off d L).length ≤ N := hN
          rw [List.length_append]; omega
        obtain ⟨ek, enm, eto, enew, ea, ecap, ee, ba, bcap, ebody, la, lcap, eels, epos⟩ := e
        obtain ⟨PE, hPE⟩ : ∃ PE, PE = ptsL (adB ea) (adO ea) (d + 1) ee := ⟨_, rfl⟩
        obtain ⟨PB, hPB⟩ : ∃ PB, PB = ptsSL (adB ba) (adO ba) (d + 1) ebody := ⟨_, rfl⟩
        obtain ⟨PL, hPL⟩ : ∃ PL, PL = ptsSL (adB la) (adO la) (d + 1) eels := ⟨_, rfl⟩
        obtain ⟨x, hx⟩ : ∃ x : Pt, x = ⟨b, off + k * 8, .inr (.mk ek enm eto enew ea ecap ee ba bcap ebody la lcap eels epos), d⟩ := ⟨_, rfl⟩
        have hpe : ptsS b (off + k * 8) d (.mk ek enm eto enew ea ecap ee ba bcap ebody la lcap eels epos) = x :: (PE ++ (PB ++ PL)) := by unfold ptsS; rw [hx, hPE, hPB, hPL]
        have hex : St.sz (.mk ek enm eto enew ea ecap ee ba bcap ebody la lcap eels epos) = 1 + Ex.szL ee + St.szL ebody + St.szL eels := by unfold St.sz; rfl
        have hei2 := hei
        unfold St.In at hei2
        obtain ⟨_, _, _, _, hrE, hiE, hrB, hiB, hrL, hiL⟩ := hei2
        replace hJs : J (pre ++ ptsSL b off d (L.take k)) wr := hJs
        have hxv : x.val = .agg #[.pointer (some ⟨b, off + k * 8, none⟩), .pointer none, .int .i64 d] := by rw [hx]; rfl
        have hxi : x.In wr S := by rw [hx]; exact ⟨hat, hei⟩
        rw [hpe] at hlen htk
        obtain ⟨ys, hys⟩ : ∃ ys, ys = pre ++ ptsSL b off d (L.take k) := ⟨_, rfl⟩
        rw [← hys] at hJs hlen
        rw [List.length_cons, List.length_append, List.length_append] at hlen
        have hy0 := hY (n - 1) ys x wr hJs hxi (by omega)
        rw [hxv] at hy0
        have hiE1 := fun (W2 : World) (hJ2 : J (ys ++ [x]) W2) (hb2 : Kps S wr W2) => each_in F hd hfe hro l N S J Jx hY (Ex.szL ee) ee ea ecap (d + 1) (n - 1) (ys ++ [x]) W2 (Nat.le_refl _) (by omega) (by omega) (hrE.below hb2) (Ex.InL.below hb2 _ hiE) hJ2 (by rw [← hPE, List.length_append]; simp only [List.length_cons, List.length_nil]; omega)
        have hiB1 := fun (W2 : World) (hJ2 : J (ys ++ [x] ++ PE) W2) (hb2 : Kps S wr W2) => ih (St.szL ebody) (by omega) ebody ba bcap (d + 1) (n - 1) (ys ++ [x] ++ PE) W2 (Nat.le_refl _) (by omega) (by omega) (hrB.below hb2) (St.InL.below hb2 _ hiB) hJ2 (by rw [← hPB, List.length_append, List.length_append]; simp only [List.length_cons, List.length_nil]; omega)
        have hiL1 := fun (W2 : World) (hJ2 : J (ys ++ [x] ++ PE ++ PB) W2) (hb2 : Kps S wr W2) => ih (St.szL eels) (by omega) eels la lcap (d + 1) (n - 1) (ys ++ [x] ++ PE ++ PB) W2 (Nat.le_refl _) (by omega) (by omega) (hrL.below hb2) (St.InL.below hb2 _ hiL) hJ2 (by rw [← hPL, List.length_append, List.length_append, List.length_append]; simp only [List.length_cons, List.length_nil]; omega)
        rw [← hPE] at hiE1
        rw [← hPB] at hiB1
        rw [← hPL] at hiL1
        obtain ⟨_, _, _, _, c4, c5, c6, _⟩ := hat.cells
        replace hiE1 := Lib.hid hiE1
        replace hiB1 := Lib.hid hiB1
        replace hiL1 := Lib.hid hiL1
        replace htk := Lib.hid htk
        replace hpp := Lib.hid hpp
        replace hys := Lib.hid hys
        have hs0 : 0 < s := by omega
        have hb0 := Lib.hid hbr
        have c4' := Lib.hid (fun W2 (h : Kps S wr W2) => h _ _ _ hbn c4)
        have c5' := Lib.hid (fun W2 (h : Kps S wr W2) => h _ _ _ hbn c5)
        have c6' := Lib.hid (fun W2 (h : Kps S wr W2) => h _ _ _ hbn c6)
        clear hY ih hex hxv hxi hx hpe he hcell hat hei hrE hiE hrB hiB hrL hiL hrow hin hlen hN hbr hJ c4 c5 c6 hPE hPB hPL
        obtain ⟨fn, tmps, assign, body, hy, hR⟩ := hy0
        have fin : Hid (∀ (q : List Pt) (V : World), q <+: PE ++ (PB ++ PL) → Jx (ys ++ [x] ++ q) V → ∃ q', q' <+: ptsSL b off d L ∧ Jx (pre ++ q') V) := Lib.hid (fun q V hq hx3 => by
          refine ⟨ptsSL b off d (L.take k) ++ x :: q, List.IsPrefix.trans ?_ hpp.out, ?_⟩
          · rw [htk.out]
            obtain ⟨r, hr⟩ := hq
            exact ⟨r, by rw [List.append_assoc, List.cons_append, hr]⟩
          · rw [hys.out] at hx3
            simpa only [List.append_assoc, List.cons_append, List.nil_append] using hx3)
        gi_wp2_with fail
        refine hR.mono ?_
        clear hR
        rintro e W2 (⟨rfl, hJ2, hb2⟩ | ⟨rfl, hx2⟩)
        · have hc := Lib.hid (hiE1.out W2 hJ2 hb2)
          have e4 := c4'.out W2 hb2
          replace hb2 := Lib.hid hb2
          clear hJ2
          gi_wp2_with fail
          refine hc.out.mono ?_
          clear hc e4
          rintro e W3 (⟨rfl, hJ3, hb3⟩ | ⟨rfl, q, hq, hx3⟩)
          · have hbb := hb2.out.trans hb3
            have hc := Lib.hid (hiB1.out W3 hJ3 hbb)
            have e5 := c5'.out W3 hbb
            replace hbb := Lib.hid hbb
            clear hJ3 hb3
            gi_wp2_with fail
            refine hc.out.mono ?_
            clear hc e5
            rintro e W4 (⟨rfl, hJ4, hb4⟩ | ⟨rfl, q, hq, hx4⟩)
            · have hbb2 := hbb.out.trans hb4
              have hc := Lib.hid (hiL1.out W4 hJ4 hbb2)
              have e6 := c6'.out W4 hbb2
              replace hbb2 := Lib.hid hbb2
              clear hJ4 hb4
              gi_wp2_with fail
              refine hc.out.mono ?_
              clear hc e6
              rintro e W5 (⟨rfl, hJ5, hb5⟩ | ⟨rfl, q, hq, hx5⟩)
              · have HR : Hid (ys ++ [x] ++ PE ++ PB ++ PL = pre ++ ptsSL b off d (L.take (k + 1))) := Lib.hid (by
                  rw [htk.out, hys.out]; simp only [List.append_assoc, List.cons_append, List.nil_append])
                rw [HR.out] at hJ5
                have HJ := Lib.hid hJ5
                have hbb3 := Lib.hid (hbb2.out.trans hb5)
                clear hJ5 hb5 hy HR
                gi_wp2_with fail
                go_roundw
                case rel => exact ⟨k + 1, by omega, by go_num, HJ.out, hb0.out.trans hbb3.out⟩
                case measure => simp [intOf]; omega
              · have HR := Lib.hid (fin.out (PE ++ (PB ++ q)) W5 (by
                  obtain ⟨r, rfl⟩ := hq
                  exact ⟨r, by simp only [List.append_assoc]⟩) (by simpa only [List.append_assoc] using hx5))
                clear hq hx5 hy
                gi_wp2_with fail
                go_ret
                exact .inr ⟨rfl, HR.out⟩
            · have HR := Lib.hid (fin.out (PE ++ q) W4 (pre_app hq) (by simpa only [List.append_assoc] using hx4))
              clear hq hx4 hy
              gi_wp2_with fail
              go_ret
              exact .inr ⟨rfl, HR.out⟩
          · have HR := Lib.hid (fin.out q W3 (hq.trans (List.prefix_append _ _)) hx3)
            clear hq hx3 hy
            gi_wp2_with fail
            go_ret
            exact .inr ⟨rfl, HR.out⟩
        · have HR := Lib.hid (fin.out [] W2 (List.nil_prefix) (by rw [List.append_nil]; exact hx2))
          clear hx2 hy
          gi_wp2_with fail
          go_ret
          exact .inr ⟨rfl, HR.out⟩
      · rw [List.take_of_length_le (by omega)] at hJs
        gi_wp2
        go_ret
        exact .inl ⟨rfl, hJs, hbr⟩
end Go.Proofs.YtolmhcdcfnoicaaDoor.Tr
