/- Walk of Of: the tree of a graph, or a refusal. Conditions: the graph lies in memory, and is not too large. -/
import Derived.Test.YtiaecobjbckhoaaDnC
import Derived.Test.YtiaecobjbckhoaaDbT
import Derived.Test.YtiaecobjbckhoaaDbN
set_option linter.unusedVariables false
set_option linter.unusedSimpArgs false
namespace Go.Proofs.Ytiaecobjbckhoaa.Db
open Go Go.RowKit
open Go.WideShapes Go.MapKept Dm

theorem mayL_gf {n : Nat} {T : List Tl} (hT : T.length = n) (h : mayL n T = true) : Gf n T ∧ n ≤ 32768 := by
  unfold mayL at h
  simp only [Bool.and_eq_true, decide_eq_true_eq, Bool.not_eq_true'] at h
  obtain ⟨h1, h2, h3⟩ := h
  refine ⟨⟨h1, hT, fun b hb t ht => ?_⟩, h2⟩
  rw [List.any_eq_false] at h3
  have hx : T[b]? = some (T[b]'(by omega)) := List.getElem?_eq_getElem (by omega)
  have h4 := h3 _ (List.mem_of_getElem? hx)
  unfold tos at ht
  rw [List.getD_eq_getElem?_getD, hx] at ht
  have h5 : (T[b]'(by omega)).l.any (badN n) = false := by simpa using h4
  rw [List.any_eq_false] at h5
  have h6 := h5 t ht
  unfold badN at h6
  simp at h6
  omega
theorem WkM.keep {B wb gm go gl gt m cm co cl : Nat} {met over : Nat → Int} {s : (Nat → Int) × (Nat → List Int)} {W W' : World} (h : WkM B wb gm go gl gt m cm co cl met over s W) (hb : Below W.heap.size W W') : WkM B wb gm go gl gt m cm co cl met over s W' := by
  obtain ⟨a1, a2, a3, a4, a5, a6⟩ := h.lt
  exact ⟨(hb.block wb (by omega)).trans h.c, h.met.at_ (hb.block _ h.met.lt), h.over.at_ (hb.block _ h.over.lt), h.low.at_ (hb.block _ h.low.lt), h.late.keep hb, ⟨a1, a2, a3, a4, Nat.le_trans a5 hb.size, a6⟩, h.ne, h.cap, h.len⟩
section
variable {n : Nat} {T : List Tl}
theorem Gf.up (H : Gf n T) {B wb gm go gl gt cm co cl : Nat} {V : World} (h : WkM B wb gm go gl gt (thr n T).met.length cm co cl (fn (thr n T).met) (fn (thr n T).over) (gAl n T) V) :
    Calls Try.prog 38 #[.pointer (some ⟨wb, 0, none⟩)] V fun e w' => ∃ ga c, e = .returned (.slice (some ⟨ga, 0, none⟩) (thr n T).met.length c) ∧ (thr n T).met.length ≤ c ∧ c ≤ maxLen ∧ V.heap.size ≤ ga ∧ InR ga (thr n T).met.length (nxr n T) w' ∧ Fr (fun i => i = gl) V w' := by
  obtain ⟨L1, L2, L3⟩ := H.lows
  have hm := H.m0
  have hcap := h.cap.1
  have hlow : ∀ k, k < (thr n T).met.length → 0 ≤ (gAl n T).1 k ∧ (gAl n T).1 k < (thr n T).met.length := fun k hk => by
    refine ⟨L3 k, ?_⟩
    by_cases e : k = 0
    · subst e; rw [L1.z]; omega
    · obtain ⟨x, hx, hxk, _⟩ := L1.is k (by omega) hk
      omega
  refine (callsIn_wide.1 (up_c (n := 0) B wb gm go gl gt (thr n T).met.length cm co cl (fn (thr n T).met) (fn (thr n T).over) (gAl n T).1 (gAl n T).2 V h hm
    (fun k h0 hk => ⟨_, (H.over h0 hk).1, (H.over h0 hk).2⟩) hlow (fun k hk x hx => by
      obtain ⟨y, rfl, h1, _⟩ := L2.in_ k hk x hx
      omega) (fun k h0 hk => by
      obtain ⟨u, hu, hum⟩ := H.nx1 h0 hk
      show 0 ≤ (tAb n T).next k ∧ (tAb n T).next k < _
      omega))).mono ?_
  rintro e w' ⟨ga, he, h1, h2, h3⟩
  exact ⟨ga, _, he, Nat.le_refl _, by unfold maxLen; omega, h1, h2, h3⟩
end
set_option maxHeartbeats 4000000 in
set_option maxRecDepth 100000 in
theorem of_no {T : List Tl} (n tcap : Nat) (ta : Option Addr) (w : World) (hT : T.length = n) (hg : ToM w.heap.size ta tcap T w) (hm : mayL n T = false) :
    Calls Try.prog 11 #[.slice ta n tcap] w fun e w' => e = .returned (.tuple #[.pointer none, .int .i64 4]) ∧ Below w.heap.size w w' := by
  have hmay := Lib.hid (may_c n tcap ta w hT hg)
  rw [hm] at hmay
  clear hg hm
  go_enter Try.func11, Try.ntmps11
  go_wp2_with fail
  refine hmay.out.mono ?_
  rintro e w1 ⟨rfl, hb⟩
  replace hb := Lib.hid hb
  go_wp2_with fail
  go_ret2
  exact ⟨rfl, hb.out⟩
set_option maxHeartbeats 4000000 in
set_option maxRecDepth 100000 in
theorem of_yes {T : List Tl} (n tcap K : Nat) (ta : Option Addr) (w : World) (hT : T.length = n) (hg : ToM w.heap.size ta tcap T w) (hm : mayL n T = true) (hK : ∀ b, (tos T b).length ≤ K) (hnK : n * K ≤ 1000000) :
    Calls Try.prog 11 #[.slice ta n tcap] w fun e w' => ∃ tb gp ge gn oa oc, e = .returned (.tuple #[.pointer (some ⟨tb, 0, none⟩), .int .i64 0]) ∧ TreM tb gp ge gn n n n oa oc (tre n T) w' ∧ w.heap.size ≤ tb ∧ Below w.heap.size w w' := by
  obtain ⟨H, hn⟩ := mayL_gf hT hm
  have hmay := Lib.hid (may_c n tcap ta w hT hg)
  rw [hm] at hmay
  have hthr := Lib.hid (fun V (hb : Below w.heap.size w V) => through_c n tcap K ta V H.pos hn hT H.in_ hK hnK (T := T) ⟨(hg.keep hb).row.mono fun _ h => Nat.lt_of_lt_of_le h hb.size, fun x hx => ((hg.keep hb).rows x hx).mono fun _ h => Nat.lt_of_lt_of_le h hb.size⟩)
  obtain ⟨hl1, hl2⟩ := len_i hg.row
  rw [hT] at hl1
  clear hg hm
  go_enter Try.func11, Try.ntmps11
  go_wp2_with fail
  refine hmay.out.mono ?_
  rintro e w1 ⟨rfl, hb⟩
  have hcall := Lib.hid (hthr.out w1 hb)
  replace hb := Lib.hid hb
  clear hthr hmay
  go_wp2_with fail
  refine hcall.out.mono ?_
  rintro e w2 ⟨B, wb, gm, go, gl, gt, cm, co, cl, rfl, hW, q1, q2, q3, q4, hb2⟩
  have hne := hW.ne
  have hlt := hW.lt
  have hcap := hW.cap
  have hnx := Lib.hid (nexts_c wb gm gl (thr n T).met.length cm n (fn (thr n T).met) (nxr n T) w2 H.pos hn ⟨hcap.1, hcap.2.1, hcap.2.2.1⟩ (fun k hk => by
      obtain ⟨b, h1, h2, _⟩ := H.met hk
      exact ⟨b, fn_get h1, h2⟩) (fun k hk => by
      by_cases e : k = 0
      · subst e; exact .inl (nxr_0 n T)
      · obtain ⟨d, h1, h2⟩ := H.idom (by omega : 0 < k) hk
        exact .inr ⟨d, h1, by have := h2.lt; omega⟩)
    (blk_cell (j := 0) hW.c rfl) hW.met ⟨hne.1, hne.2.1⟩ (by omega) (fun V hV => H.up (hW.keep hV)))
  have hb3 := Lib.hid (hb.out.trans (hb2.mono (by have := hb.out.size; omega)))
  have hgl : Hid (w.heap.size ≤ gl) := Lib.hid (by have := hb.out.size; omega)
  clear hcall hb hb2 hW hne hlt hcap q1 q2 q3 q4
  go_wp2_with fail
  refine hnx.out.mono ?_
  rintro e w3 ⟨g, rfl, hg, hr, hf⟩
  have hgr := Lib.hid (grow_c g n n (nxt n T) (hgt n T) w3 H.pos hn ⟨Nat.le_refl _, by unfold maxLen; omega⟩ hr (fun b hb => H.hn.up b hb) (H.hn.le 0) (Nat.le_trans H.hn.len hn))
  have hb4 := Lib.hid (hb3.out.trans (hf.below (n := w.heap.size) hb3.out.size (fun i e => by rw [e]; exact hgl.out)))
  clear hnx hr hf hg hb3
  go_wp2_with fail
  refine hgr.out.mono ?_
  rintro e w4 ⟨tb, gp, ge, oa, oc, rfl, hTm, htb, hb5⟩
  replace hTm := Lib.hid hTm
  have htb2 : Hid (w.heap.size ≤ tb) := Lib.hid (Nat.le_trans hb4.out.size htb)
  have hb6 := Lib.hid (hb4.out.trans (hb5.mono hb4.out.size))
  clear hb4 hb5 htb hgr
  go_wp2_with fail
  go_ret2
  exact ⟨tb, gp, ge, g, oa, oc, rfl, hTm.out, htb2.out, hb6.out⟩
end Go.Proofs.Ytiaecobjbckhoaa.Db
