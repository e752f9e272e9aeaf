/- Plain: parts of programs, taken by themselves; programs one behind the other. Conditions: none. -/
import Derived.Test.YtolmhcdcfnoicaaDoorTrW
namespace Go.Proofs.YtolmhcdcfnoicaaDoor.Tr
open Go Go.RowKit
open Go.Proofs.YtolmhcdcfnoicaaDoor.Lx

mutual
theorem ptsS_up (c b o d) : ∀ e, ptsS b o (d + c) e = (ptsS b o d e).map (Pt.up c)
  | .mk k nm to nw ea ecap e ba bcap body la lcap els pos => by
    unfold ptsS
    rw [show d + c + 1 = (d + 1) + c by omega, ptsL_up c, ptsSL_up c (adB ba) (adO ba) (d + 1) body, ptsSL_up c (adB la) (adO la) (d + 1) els, List.map_cons, List.map_append, List.map_append]
    rfl
theorem ptsSL_up (c b o d) : ∀ l, ptsSL b o (d + c) l = (ptsSL b o d l).map (Pt.up c)
  | [] => by unfold ptsSL; rfl
  | e :: r => by
    unfold ptsSL
    rw [List.map_append, ptsS_up c b o d e, ptsSL_up c b (o + 8) d r]
end
theorem fitPt_up (c : Int) (p : Pt) : fitPt (p.up c) = fitPt p := rfl
/-- all of some parts fit, none is too deep -/
def Ok (l : List Pt) : Prop := ∀ p ∈ l, fitPt p = true ∧ p.d ≤ 60
theorem Ok.key {l l' : List Pt} (h : l.map Pt.key = l'.map Pt.key) (ho : Ok l) : Ok l' := by
  intro p hp
  have : p.key ∈ l'.map Pt.key := List.mem_map_of_mem hp
  rw [← h] at this
  obtain ⟨q, hq, hqe⟩ := List.mem_map.1 this
  have := ho q hq
  simp only [Pt.key, Prod.mk.injEq] at hqe
  rw [← hqe.1, ← hqe.2]
  exact this
theorem Ok.down {l : List Pt} (c : Int) (hc : 0 ≤ c) (h : Ok (l.map (Pt.up c))) : Ok l := fun p hp => by
  have := h (p.up c) (List.mem_map_of_mem hp)
  rw [fitPt_up] at this
  refine ⟨this.1, ?_⟩
  have h2 : p.d + c ≤ 60 := this.2
  omega
theorem Ok.sub {l l' : List Pt} (h : Ok l') (hs : ∀ p ∈ l, p ∈ l') : Ok l := fun p hp => h p (hs p hp)
theorem holdPt_ok (l : List Pt) : l.all holdPt = true ↔ Ok l := by
  rw [List.all_eq_true]
  unfold Ok holdPt
  simp only [Bool.and_eq_true, decide_eq_true_eq]
  exact ⟨fun h p hp => ⟨(h p hp).2, (h p hp).1⟩, fun h p hp => ⟨(h p hp).2, (h p hp).1⟩⟩
theorem ptsSL_at (l : List St) (b o b' o' : Nat) (d : Int) : (ptsSL b o d l).map Pt.key = (ptsSL b' o' d l).map Pt.key := (ptsSL_key l b o d).trans (ptsSL_key l b' o' d).symm
theorem ptsL_at (l : List Ex) (b o b' o' : Nat) (d : Int) : (ptsL b o d l).map Pt.key = (ptsL b' o' d l).map Pt.key := (ptsL_key l b o d).trans (ptsL_key l b' o' d).symm
theorem ptsE_at (e : Ex) (b o b' o' : Nat) (d : Int) : (ptsE b o d e).map Pt.key = (ptsE b' o' d e).map Pt.key := (ptsE_key e b o d).trans (ptsE_key e b' o' d).symm
theorem ptsS_at (e : St) (b o b' o' : Nat) (d : Int) : (ptsS b o d e).map Pt.key = (ptsS b' o' d e).map Pt.key := (ptsS_key e b o d).trans (ptsS_key e b' o' d).symm

/-- statements that may be, as a body -/
def OkL (l : List St) : Prop := Ok (ptsSL 0 0 1 l)
theorem mem_ptsSL {p : Pt} {d : Int} : ∀ (l : List St) (b o : Nat) (x : St), x ∈ l → ∀ q ∈ (ptsS 0 0 d x).map Pt.key, q ∈ (ptsSL b o d l).map Pt.key
  | [], _, _, _, h => by cases h
  | y :: r, b, o, x, h => by
    intro q hq
    unfold ptsSL
    rw [List.map_append]
    rcases List.mem_cons.1 h with rfl | h
    · exact List.mem_append_left _ (by rw [ptsS_at x b o 0 0 d]; exact hq)
    · exact List.mem_append_right _ (mem_ptsSL (p := p) r b (o + 8) x h q hq)
theorem Ok.of_keys {l l' : List Pt} (h : Ok l') (hs : ∀ q ∈ l.map Pt.key, q ∈ l'.map Pt.key) : Ok l := by
  intro p hp
  have := hs _ (List.mem_map_of_mem hp)
  obtain ⟨q, hq, hqe⟩ := List.mem_map.1 this
  have := h q hq
  simp only [Pt.key, Prod.mk.injEq] at hqe
  rw [← hqe.1, ← hqe.2]
  exact this
theorem OkL.one {l : List St} (h : OkL l) {x : St} (hx : x ∈ l) : OkL [x] := by
  unfold OkL
  unfold ptsSL
  unfold ptsSL
  rw [List.append_nil]
  exact Ok.of_keys h (mem_ptsSL (p := ⟨0, 0, .inr x, 0⟩) l 0 0 x hx)
theorem OkL.parts {k : Int} {nm to : ByteArray} {nw : Bool} {ea : Option Addr} {ecap : Nat} {e : List Ex} {ba : Option Addr} {bcap : Nat} {body : List St} {la : Option Addr} {lcap : Nat} {els : List St} {pos : Int}
    (h : OkL [.mk k nm to nw ea ecap e ba bcap body la lcap els pos]) : (∀ y ∈ e, mayE y = true) ∧ OkL body ∧ OkL els := by
  unfold OkL ptsSL ptsSL ptsS at h
  rw [List.append_nil] at h
  have he : Ok (ptsL (adB ea) (adO ea) (1 + 1) e) := h.sub fun p hp => List.mem_cons_of_mem _ (List.mem_append_left _ hp)
  have hb : Ok (ptsSL (adB ba) (adO ba) (1 + 1) body) := h.sub fun p hp => List.mem_cons_of_mem _ (List.mem_append_right _ (List.mem_append_left _ hp))
  have hl : Ok (ptsSL (adB la) (adO la) (1 + 1) els) := h.sub fun p hp => List.mem_cons_of_mem _ (List.mem_append_right _ (List.mem_append_right _ hp))
  refine ⟨?_, ?_, ?_⟩
  · clear hb hl h
    generalize adB ea = b at he
    generalize adO ea = o at he
    intro y hy
    have key : ∀ (l : List Ex) (o : Nat), Ok (ptsL b o (1 + 1) l) → ∀ y ∈ l, mayE y = true := by
      intro l
      induction l with
      | nil => intro o _ y hy; cases hy
      | cons x r ih =>
        intro o h y hy
        unfold ptsL at h
        rcases List.mem_cons.1 hy with rfl | hy
        · have hx : Ok (ptsE b o (1 + 1) y) := h.sub fun p hp => List.mem_append_left _ hp
          have h2 : (ptsE b o 2 y).all fitPt = true := List.all_eq_true.2 fun p hp => (hx p hp).1
          rw [mayE_two] at h2
          exact h2
        · exact ih (o + 5) (h.sub fun p hp => List.mem_append_right _ hp) y hy
    exact key e o he y hy
  · rw [ptsSL_up 1 _ _ 1] at hb
    exact (Ok.down 1 (by omega) hb).key (ptsSL_at _ _ _ _ _ _)
  · rw [ptsSL_up 1 _ _ 1] at hl
    exact (Ok.down 1 (by omega) hl).key (ptsSL_at _ _ _ _ _ _)

/-- a thread of statements -/
def dTh (ba : Option Addr) (bcap : Nat) (body : List St) : De := ⟨5, ⟨#[116]⟩, 0, none, 0, [], ba, bcap, body, 0⟩
theorem may_th (ba : Option Addr) (bcap : Nat) (body : List St) (h : OkL body) : mayP [dTh ba bcap body] = true := by
  unfold mayP
  have hf : fitD (dTh ba bcap body) = true := by
    unfold dTh
    rw [fitD_eq]
    have : nme [116] = true := by rfl
    simp [this, deLeast, deMost, deParams, deBody, nmes]
  have hp : (ptsD [dTh ba bcap body]).all holdPt = true := by
    rw [holdPt_ok]
    have : ptsD [dTh ba bcap body] = ptsSL (adB ba) (adO ba) 1 body := by simp [ptsD, dTh]
    rw [this]
    exact h.key (ptsSL_at _ _ _ _ _ _)
  rw [hp]
  simp [hf]

theorem ptsD_app (l l' : List De) : ptsD (l ++ l') = ptsD l ++ ptsD l' := by unfold ptsD; rw [List.flatMap_append]
theorem deepest_app (l l' : List Pt) : deepest (l ++ l') = max (deepest l) (deepest l') := by
  refine eq_of_le _ _ fun B => ?_
  rw [deepest_le]
  have h1 := deepest_le l B
  have h2 := deepest_le l' B
  constructor
  · rintro ⟨h0, h⟩
    have := h1.2 ⟨h0, fun p hp => h p (List.mem_append_left _ hp)⟩
    have := h2.2 ⟨h0, fun p hp => h p (List.mem_append_right _ hp)⟩
    omega
  · intro h
    have a1 := h1.1 (by omega)
    have a2 := h2.1 (by omega)
    exact ⟨a1.1, fun p hp => (List.mem_append.1 hp).elim (a1.2 p) (a2.2 p)⟩
theorem mayP_app (l l' : List De) : mayP (l ++ l') = (mayP l && mayP l' && decide ((l ++ l').length ≤ 256)) := by
  unfold mayP
  rw [ptsD_app, List.all_append, List.all_append, Bool.eq_iff_iff]
  simp only [Bool.and_eq_true, decide_eq_true_eq, List.length_append]
  constructor
  · rintro ⟨⟨h1, h2, h3⟩, h4, h5⟩
    exact ⟨⟨⟨⟨by omega, h2⟩, h4⟩, ⟨by omega, h3⟩, h5⟩, h1⟩
  · rintro ⟨⟨⟨⟨h1, h2⟩, h3⟩, ⟨h4, h5⟩, h6⟩, h7⟩
    exact ⟨⟨h7, h2, h5⟩, h3, h6⟩
theorem mayP_one {l : List De} (h : mayP l = true) {x : De} (hx : x ∈ l) : mayP [x] = true ∧ OkL x.body := by
  unfold mayP at h ⊢
  simp only [Bool.and_eq_true, decide_eq_true_eq] at h
  obtain ⟨⟨_, h2⟩, h3⟩ := h
  rw [holdPt_ok] at h3
  have h4 : Ok (ptsSL (adB x.ba) (adO x.ba) 1 x.body) := h3.sub fun p hp => List.mem_flatMap.2 ⟨x, hx, hp⟩
  refine ⟨?_, h4.key (ptsSL_at _ _ _ _ _ _)⟩
  have h5 : (ptsD [x]).all holdPt = true := by
    rw [holdPt_ok]
    have : ptsD [x] = ptsSL (adB x.ba) (adO x.ba) 1 x.body := by simp [ptsD]
    rw [this]; exact h4
  rw [h5]
  simp [List.all_eq_true.1 h2 x hx]
theorem De.szL_app (l l' : List De) : De.szL (l ++ l') = De.szL l + De.szL l' := by
  induction l with
  | nil => simp [De.szL]
  | cons x r ih =>
    show St.szL x.body + De.szL (r ++ l') = (St.szL x.body + De.szL r) + De.szL l'
    rw [ih]; omega
end Go.Proofs.YtolmhcdcfnoicaaDoor.Tr
