/- Plain theory for CodeParts: an instruction in the place of another one, names turned about. Conditions: none. inside answers true of a program that may be. Conditions: the program lies in memory, its lists are of bounded length, the package's table holds its lists. inside answers true of a program that may be. Conditions: the program lies in memory, its lists are of bounded length, the package's table holds its lists. -/
import Derived.Test.YtiicjbnocpphdaaDoorCdQ
import Derived.Test.YtiicjbnocpphdaaDoorCgC
import Derived.Test.YtiicjbnocpphdaaDoorCsX
import Derived.BigQuiet
namespace Go.Proofs.YtiicjbnocpphdaaDoor.Cd
open Go Go.RowKit
open Go.Proofs.YtiicjbnocpphdaaDoor.Lx Go.Proofs.YtiicjbnocpphdaaDoor.Tr

/-! ### what may be is told by how Funs look from outside -/
/-- a Fun as another one sees it -/
def faceP (f : Fn) : Bool × Int := (f.thread, f.params)
/-- two programs whose instructions see the same -/
structure Alike (p q : Pg) : Prop where
  mems : p.mems.length = q.mems.length
  locks : p.locks.length = q.locks.length
  funs : p.funs.map faceP = q.funs.map faceP
theorem Alike.get {p q : Pg} (h : Alike p q) (n : Nat) : (p.funs[n]?).map faceP = (q.funs[n]?).map faceP := by
  rw [← List.getElem?_map, ← List.getElem?_map, h.funs]
theorem Alike.len {p q : Pg} (h : Alike p q) : p.funs.length = q.funs.length := by
  have := congrArg List.length h.funs
  simpa using this
theorem mayF_alike {p q : Pg} {f g : Fn} (h : Alike p q) (hl : f.code.length = g.code.length) (hr : f.regs = g.regs) (i : Ins) : mayF p f i = mayF q g i := by
  have hfit : fitP p f i = fitP q g i := by
    unfold fitP
    rw [h.mems, h.locks, h.len, hl]
    have hg := h.get i.n.toNat
    cases h1 : p.funs[i.n.toNat]? with
    | none =>
      rw [h1] at hg
      cases h2 : q.funs[i.n.toNat]? with
      | none => rfl
      | some y => rw [h2] at hg; cases hg
    | some x =>
      rw [h1] at hg
      cases h2 : q.funs[i.n.toNat]? with
      | none => rw [h2] at hg; cases hg
      | some y =>
        rw [h2] at hg
        have e : faceP x = faceP y := by simpa using hg
        have e1 : x.thread = y.thread := congrArg Prod.fst e
        have e2 : x.params = y.params := congrArg Prod.snd e
        simp only [e1, e2]
  unfold mayF numP
  rw [hfit, hr]
theorem codeP_alike {p q : Pg} {f g : Fn} (h : Alike p q) (hc : f.code = g.code) (hr : f.regs = g.regs) : codeP p f = codeP q g := by
  have e : mayF p f = mayF q g := funext fun i => mayF_alike h (by rw [hc]) hr i
  unfold codeP
  rw [e, hc]
theorem thrs_map : ∀ (l m : List Fn) (k : Nat), l.map faceP = m.map faceP → thrsFrom k l = thrsFrom k m
  | [], [], _, _ => rfl
  | [], _ :: _, _, h => by simp at h
  | _ :: _, [], _, h => by simp at h
  | a :: r, b :: s, k, h => by
    simp only [List.map_cons, List.cons.injEq] at h
    unfold thrsFrom
    have e1 : a.thread = b.thread := congrArg Prod.fst h.1
    rw [e1, thrs_map r s (k + 1) h.2]
theorem all_map2 {f g : Fn → Bool} : ∀ (l m : List Fn), (∀ (k : Nat) (x y : Fn), l[k]? = some x → m[k]? = some y → f x = g y) → l.length = m.length → l.all f = m.all g
  | [], [], _, _ => rfl
  | [], _ :: _, _, h => by simp at h
  | _ :: _, [], _, h => by simp at h
  | a :: r, b :: s, h, hl => by
    rw [List.all_cons, List.all_cons, h 0 a b rfl rfl, all_map2 r s (fun k x y hx hy => h (k + 1) x y (by simpa using hx) (by simpa using hy)) (by simpa using hl)]
/-! ### names -/
theorem nms_iff (nm : ByteArray → Bool) : ∀ (l met : List ByteArray), nmsP nm met l = true ↔ (∀ s ∈ l, nm s = true) ∧ l.Nodup ∧ ∀ s ∈ l, s ∉ met
  | [], met => by simp [nmsP]
  | s :: r, met => by
    unfold nmsP
    simp only [Bool.and_eq_true, Bool.not_eq_true', nms_iff nm r (met ++ [s]), List.nodup_cons, List.any_eq_false, decide_eq_true_eq]
    constructor
    · rintro ⟨h1, h2, h3, h4, h5⟩
      refine ⟨fun x hx => ?_, ⟨fun hm => ?_, h4⟩, fun x hx hm => ?_⟩
      · rcases List.mem_cons.1 hx with rfl | hx
        · exact h2
        · exact h3 x hx
      · exact h5 s hm (by simp)
      · rcases List.mem_cons.1 hx with rfl | hx
        · exact h1 x hm rfl
        · exact h5 x hx (by simp [hm])
    · rintro ⟨h1, ⟨h2, h3⟩, h4⟩
      refine ⟨fun x hx e => ?_, h1 s (by simp), fun x hx => h1 x (by simp [hx]), h3, fun x hx hm => ?_⟩
      · exact h4 s (by simp) (e ▸ hx)
      · rcases List.mem_append.1 hm with hm | hm
        · exact h4 x (by simp [hx]) hm
        · have := List.mem_singleton.1 hm
          subst this
          exact h2 hx
theorem nms_perm {nm : ByteArray → Bool} {l m : List ByteArray} (h : l.Perm m) : nmsP nm [] l = nmsP nm [] m := by
  rw [Bool.eq_iff_iff, nms_iff, nms_iff]
  have hm := fun s => h.mem_iff (a := s)
  constructor
  · rintro ⟨h1, h2, h3⟩
    exact ⟨fun s hs => h1 s ((hm s).2 hs), h.nodup_iff.1 h2, fun s hs => by simp⟩
  · rintro ⟨h1, h2, h3⟩
    exact ⟨fun s hs => h1 s ((hm s).1 hs), h.nodup_iff.2 h2, fun s hs => by simp⟩
/-- the first one and the last one turned about -/
theorem ends_perm {α : Type} (l : List α) (a b : α) (h0 : l[0]? = some a) (h1 : l[l.length - 1]? = some b) : ((l.set 0 b).set (l.length - 1) a).Perm l := by
  cases l with
  | nil => simp at h0
  | cons x r =>
    simp at h0
    subst h0
    rcases List.eq_nil_or_concat r with rfl | ⟨m, y, rfl⟩
    · simp at h1
      subst h1
      simp
    · simp at h1
      subst h1
      rw [List.concat_eq_append]
      simp only [List.set_cons_zero, List.length_cons, List.length_append, List.length_nil, Nat.add_sub_cancel]
      rw [show m.length + (0 + 1) = m.length + 1 from rfl, List.set_cons_succ, List.set_append_right _ _ (Nat.le_refl _), Nat.sub_self, List.set_cons_zero]
      refine List.Perm.trans (List.Perm.cons y (List.perm_append_comm (l₁ := m) (l₂ := [x]))) ?_
      refine List.Perm.trans (List.Perm.swap x y m) ?_
      exact List.Perm.cons x (List.perm_append_comm (l₁ := [y]) (l₂ := m))
theorem set_get_same {α : Type} {l : List α} {k : Nat} {x : α} (h : l[k]? = some x) : l.set k x = l := by
  obtain ⟨hk, rfl⟩ := List.getElem?_eq_some_iff.1 h
  exact List.set_getElem_self hk
theorem map_set_same {α β : Type} {f : α → β} {l : List α} {k : Nat} {x y : α} (h : l[k]? = some x) (he : f y = f x) : (l.set k y).map f = l.map f := by
  rw [List.map_set, he]
  exact set_get_same (by rw [List.getElem?_map, h]; rfl)
/-! ### another instruction in the place of one -/
theorem lastOp_set {l : List Ins} {k : Nat} {i : Ins} (hk : k + 1 < l.length) : lastOp (l.set k i) = lastOp l := by
  unfold lastOp
  rw [List.getLast?_eq_getElem?, List.getLast?_eq_getElem?, List.length_set, List.getElem?_set_ne (by omega)]
theorem all_set {α : Type} {f : α → Bool} : ∀ (l : List α) (k : Nat) (y : α), l.all f = true → k < l.length → (l.set k y).all f = f y
  | [], _, _, _, h => by simp at h
  | a :: r, 0, y, h, _ => by
    rw [List.all_cons, Bool.and_eq_true] at h
    rw [List.set_cons_zero, List.all_cons, h.2, Bool.and_true]
  | a :: r, k + 1, y, h, hk => by
    rw [List.all_cons, Bool.and_eq_true] at h
    rw [List.set_cons_succ, List.all_cons, h.1, Bool.true_and]
    exact all_set r k y h.2 (by simpa using hk)
theorem mayP_parts {p : Pg} (h : mayP p = true) : mayNamesP p = true ∧ sizesP p.mems = true ∧ (thrsP p).length ≤ 16 ∧ p.funs.all headP = true ∧ p.funs.all (codeP p) = true := by
  unfold mayP at h
  simp only [Bool.and_eq_true, decide_eq_true_eq] at h
  exact ⟨h.1, h.2.1, h.2.2.1, h.2.2.2.1, h.2.2.2.2⟩
/-- with an instruction in the place of another one, but the last one -/
theorem mayP_set {p q : Pg} {n k : Nat} {f g : Fn} {i : Ins} (hm : q.mems = p.mems) (hl : q.locks = p.locks) (hf : q.funs = p.funs.set n g) (hn : p.funs[n]? = some f)
    (gn : g.name = f.name) (gt : g.thread = f.thread) (gp : g.params = f.params) (gr : g.regs = f.regs) (gc : g.code = f.code.set k i) (hk : k + 1 < f.code.length) (h : mayP p = true) : mayP q = mayI p n i := by
  obtain ⟨h1, h2, h3, h4, h5⟩ := mayP_parts h
  have hnl := (List.getElem?_eq_some_iff.1 hn).1
  have hface : faceP g = faceP f := by unfold faceP; rw [gt, gp]
  have hal : Alike q p := ⟨by rw [hm], by rw [hl], by rw [hf]; exact map_set_same hn hface⟩
  have hname : namesP q = namesP p := by
    unfold namesP
    rw [hm, hl, hf, map_set_same hn gn]
  have hthr : thrsP q = thrsP p := thrs_map _ _ 0 hal.funs
  have hhead : q.funs.all headP = true := by
    rw [hf, all_set _ _ _ h4 hnl]
    have := List.all_eq_true.1 h4 f (List.mem_of_getElem? hn)
    unfold headP at this ⊢
    rw [gp, gt, gr]
    exact this
  have hcf := List.all_eq_true.1 h5 f (List.mem_of_getElem? hn)
  have hcode : q.funs.all (codeP q) = codeP q g := by
    rw [hf]
    have h6 : ∀ x ∈ p.funs, codeP q x = true := fun x hx => by
      rw [codeP_alike hal rfl rfl]
      exact List.all_eq_true.1 h5 x hx
    exact all_set p.funs n g (List.all_eq_true.2 h6) hnl
  have hlen : g.code.length = f.code.length := by rw [gc, List.length_set]
  have hmf : mayF q g = mayF p f := funext fun j => mayF_alike hal hlen gr j
  have hcg : codeP q g = mayF p f i := by
    unfold codeP at hcf ⊢
    simp only [Bool.and_eq_true] at hcf
    obtain ⟨⟨⟨a1, a2⟩, a3⟩, a4⟩ := hcf
    rw [hmf, hlen, a1, a2, gc, lastOp_set hk, all_set _ _ _ a3 (by omega), a4]
    simp
  have hin : inP (n : Int) p.funs.length = true := by unfold inP; simp; omega
  unfold mayP mayI mayNamesP
  unfold mayNamesP at h1
  rw [hname, h1, hm, h2, hthr, hhead, hcode, hcg, hin]
  simp [h3, hn]
/-- with the names of the first Fun and the last one turned about -/
theorem mayP_turn {p q : Pg} {f g : Fn} (hm : q.mems = p.mems) (hl : q.locks = p.locks) (h0 : p.funs[0]? = some f) (h1 : p.funs[p.funs.length - 1]? = some g)
    (hlen : q.funs.length = p.funs.length) (hsame : ∀ (k : Nat) (x y : Fn), q.funs[k]? = some x → p.funs[k]? = some y → x.thread = y.thread ∧ x.params = y.params ∧ x.regs = y.regs ∧ x.code = y.code)
    (hname : q.funs.map Fn.name = ((p.funs.map Fn.name).set 0 g.name).set (p.funs.length - 1) f.name) (h : mayP p = true) : mayP q = true := by
  obtain ⟨a1, a2, a3, a4, a5⟩ := mayP_parts h
  have hface : q.funs.map faceP = p.funs.map faceP := by
    apply List.ext_getElem?
    intro k
    rw [List.getElem?_map, List.getElem?_map]
    cases hx : q.funs[k]? with
    | none =>
      rw [List.getElem?_eq_none_iff, hlen, ← List.getElem?_eq_none_iff] at hx
      rw [hx]
    | some x =>
      obtain ⟨y, hy⟩ : ∃ y, p.funs[k]? = some y := ⟨_, List.getElem?_eq_getElem (hlen ▸ (List.getElem?_eq_some_iff.1 hx).1)⟩
      rw [hy]
      obtain ⟨b1, b2, _, _⟩ := hsame k x y hx hy
      simp [faceP, b1, b2]
  have hal : Alike q p := ⟨by rw [hm], by rw [hl], hface⟩
  have hthr : thrsP q = thrsP p := thrs_map _ _ 0 hface
  have hperm : (namesP q).Perm (namesP p) := by
    unfold namesP
    rw [hm, hl, hname]
    refine List.Perm.append_left _ (List.Perm.append_left _ ?_)
    have := ends_perm (p.funs.map Fn.name) f.name g.name (by rw [List.getElem?_map, h0]; rfl) (by rw [List.length_map, List.getElem?_map, h1]; rfl)
    rwa [List.length_map] at this
  have hhead : q.funs.all headP = p.funs.all headP := all_map2 _ _ (fun k x y hx hy => by
    obtain ⟨b1, b2, b3, _⟩ := hsame k x y hx hy
    unfold headP; rw [b1, b2, b3]) hlen
  have hcode : q.funs.all (codeP q) = p.funs.all (codeP p) := all_map2 _ _ (fun k x y hx hy => by
    obtain ⟨_, _, b3, b4⟩ := hsame k x y hx hy
    exact codeP_alike hal b4 b3) hlen
  unfold mayP mayNamesP
  unfold mayNamesP at a1
  rw [hperm.length_eq, nms_perm hperm, a1, hm, a2, hthr, hhead, a4, hcode, a5]
  simp [a3]
/-- such a program is the same just where there is one Fun -/
theorem sameP_turn {p q : Pg} {f g : Fn} (hm : q.mems = p.mems) (hl : q.locks = p.locks) (h0 : p.funs[0]? = some f) (h1 : p.funs[p.funs.length - 1]? = some g)
    (hlen : q.funs.length = p.funs.length) (hsame : ∀ (k : Nat) (x y : Fn), q.funs[k]? = some x → p.funs[k]? = some y → x.thread = y.thread ∧ x.params = y.params ∧ x.regs = y.regs ∧ x.code = y.code)
    (hname : q.funs.map Fn.name = ((p.funs.map Fn.name).set 0 g.name).set (p.funs.length - 1) f.name) (h : mayP p = true) : sameP p q = decide (p.funs.length - 1 = 0) := by
  obtain ⟨a1, _⟩ := mayP_parts h
  have hpos : 0 < p.funs.length := (List.getElem?_eq_some_iff.1 h0).1
  by_cases hz : p.funs.length - 1 = 0
  · rw [decide_eq_true hz]
    have e1 : p.funs = [f] := by
      match hp : p.funs, h0, hz, hpos with
      | [x], h0, _, _ => simp at h0; subst h0; rfl
      | x :: y :: r, _, hz, _ => simp at hz
    obtain ⟨x, hx⟩ : ∃ x, q.funs = [x] := by
      rw [e1] at hlen
      match hq : q.funs, hlen with
      | [x], _ => exact ⟨x, rfl⟩
    obtain ⟨b1, b2, b3, b4⟩ := hsame 0 x f (by rw [hx]; rfl) h0
    have hg : g = f := by rw [e1] at h1; simpa using h1.symm
    have hn : x.name = f.name := by
      rw [hx, e1] at hname
      simpa using hname
    unfold sameP
    rw [hm, hl, e1, hx]
    rw [eqL_refl (fun x _ => sameM_refl x), eqL_refl (f := fun x y : ByteArray => decide (x = y)) (fun x _ => by simp)]
    have : sameF f x = true := by
      unfold sameF
      rw [hn, b1, b2, b3, b4, eqL_refl (fun x _ => sameI_refl x)]
      simp
    simp [eqL, this]
  · rw [decide_eq_false hz]
    have hne : f.name ≠ g.name := by
      unfold mayNamesP at a1
      rw [Bool.and_eq_true, nms_iff] at a1
      have hd := a1.2.2.1
      unfold namesP at hd
      have hd2 := (List.nodup_append.1 (List.nodup_append.1 hd).2.1).2.1
      intro e
      have i0 : (p.funs.map Fn.name)[0]? = some f.name := by rw [List.getElem?_map, h0]; rfl
      have i1 : (p.funs.map Fn.name)[p.funs.length - 1]? = some g.name := by rw [List.getElem?_map, h1]; rfl
      have := (List.getElem?_inj (l := p.funs.map Fn.name) (i := 0) (j := p.funs.length - 1) (by simpa using hpos) hd2).1 (by rw [i0, i1, e])
      omega
    have hfun : eqL sameF p.funs q.funs = false := by
      refine Bool.eq_false_iff.2 (fun e => ?_)
      obtain ⟨x, hx⟩ : ∃ x, q.funs[0]? = some x := ⟨_, List.getElem?_eq_getElem (by omega)⟩
      have h2 := eqL_get e 0 f x h0 hx
      have hxn : x.name = g.name := by
        have : (q.funs.map Fn.name)[0]? = some x.name := by rw [List.getElem?_map, hx]; rfl
        rw [hname, List.getElem?_set_ne (by omega), List.getElem?_set_self (by simpa using hpos)] at this
        exact (Option.some.inj this).symm
      unfold sameF at h2
      simp only [Bool.and_eq_true, decide_eq_true_eq] at h2
      exact hne (h2.1.1.1.1.trans hxn)
    unfold sameP
    rw [hfun]
    simp
end Go.Proofs.YtiicjbnocpphdaaDoor.Cd

set_option linter.unusedSimpArgs false
set_option linter.unusedVariables false
namespace Go.Proofs.YtiicjbnocpphdaaDoor.Cd
open Go Go.RowKit
open Go.Proofs.YtiicjbnocpphdaaDoor.Lx Go.Proofs.YtiicjbnocpphdaaDoor.Tr Go.Proofs.YtiicjbnocpphdaaDoor.Pa
open Go.Proofs.YtiicjbnocpphdaaDoor.Vq Go.Proofs.YtiicjbnocpphdaaDoor.Qr
open Go.Proofs.YtiicjbnocpphdaaDoor.Qg (run_call1 run_call2 run_call3)

/-- what an instruction that may be reads, writes and goes to is there -/
theorem may_facts {p : Pg} {f : Fn} {e : Ins} (h : mayF p f e = true) : (∀ r ∈ rdP e ++ (if hasR e.op then [e.r] else []), 0 ≤ r ∧ r < f.regs) ∧ ((glP e).2 = true → 0 ≤ (glP e).1 ∧ (glP e).1 < f.code.length) := by
  unfold mayF at h
  simp only [Bool.and_eq_true] at h
  obtain ⟨_, ⟨_, h2⟩, h3⟩ := h
  refine ⟨fun r hr => ?_, fun hg => ?_⟩
  · have := List.all_eq_true.1 h3 r (by
      unfold regsP
      rcases List.mem_append.1 hr with hr | hr
      · exact List.mem_append_right _ hr
      · exact List.mem_append_left _ hr)
    simpa [inP] using this
  · unfold glP at hg ⊢
    by_cases h7 : numK e.op = 7
    · rw [if_pos h7] at hg ⊢
      unfold numP fitP at h2
      rw [h7] at h2
      simp [inP] at h2
      exact h2.1
    · rw [if_neg h7] at hg
      cases hg
theorem rdP_len (e : Ins) : (rdP e).length ≤ 2 + e.args.length := by
  unfold rdP rdA rdB rdC
  simp only [List.length_append]
  split <;> split <;> split <;> simp <;> omega
theorem mayP_get {p : Pg} (h : mayP p = true) {n k : Nat} {f : Fn} {e : Ins} (hf : p.funs[n]? = some f) (he : f.code[k]? = some e) : mayF p f e = true ∧ mayI p n e = true := by
  obtain ⟨_, _, _, _, h5⟩ := mayP_parts h
  have h6 := List.all_eq_true.1 h5 f (List.mem_of_getElem? hf)
  unfold codeP at h6
  simp only [Bool.and_eq_true] at h6
  have h7 := List.all_eq_true.1 h6.1.2 e (List.mem_of_getElem? he)
  refine ⟨h7, ?_⟩
  unfold mayI
  have hn := (List.getElem?_eq_some_iff.1 hf).1
  have hin : inP (n : Int) p.funs.length = true := by unfold inP; simp; omega
  rw [hin]
  simp [hf, h7]
theorem fnB_cells {W : World} {bx : Nat} {f : Fn} (h : ∀ j u, f.vals[j]? = some u → W.cell? ⟨bx, j, none⟩ = some u) : W.cell? ⟨bx, 0, none⟩ = some (.string f.name) ∧ W.cell? ⟨bx, 1, none⟩ = some (.bool f.thread) ∧ W.cell? ⟨bx, 2, none⟩ = some (.int .i64 f.params) ∧ W.cell? ⟨bx, 3, none⟩ = some (.int .i64 f.regs) ∧ W.cell? ⟨bx, 4, none⟩ = some (.slice f.ca f.code.length f.ccap) :=
  ⟨h 0 _ rfl, h 1 _ rfl, h 2 _ rfl, h 3 _ rfl, h 4 _ rfl⟩
theorem run_fa {P : Program} {a : Act} {o : Oper} {t : TypeId} {x : Operand} {u v : Value} {k : Nat} {w w' : World} (ho : o.op = .fieldAddr t x k) (hx : a.eval x = u) (hr : (Instr.fieldAt t u k).run P w = .ok v w') : (execOp a.eval o).run P w = .ok (.value v) w' := by
  subst hx
  unfold execOp
  simp [ho, hr]
theorem fl_fn4 {V : World} {b : Nat} : (Instr.fieldAt 42 (.pointer (some ⟨b, 0, none⟩)) 4).run Tryd.prog V = .ok (.pointer (some ⟨b, 4, none⟩)) V := by go_simp
theorem ld_code {V : World} {b o : Nat} {a : Option Addr} {n c : Nat} (h : V.cell? ⟨b, o, none⟩ = some (.slice a n c)) : (Instr.loadAt 40 (.pointer (some ⟨b, o, none⟩))).run Tryd.prog V = .ok (.slice a n c) V := by go_simp
theorem ln_code {p : Option Addr} {n c : Nat} {w : World} : (Builtin.len_ #[40] 3 #[.slice p n c]).run Tryd.prog w = .ok (.int .i64 n) w := by go_simp
theorem load_pgB {p : Pg} {W : World} {b : Nat} (h : W.cell? ⟨b, 0, none⟩ = some (.slice p.ma p.mems.length p.mcap) ∧ W.cell? ⟨b, 1, none⟩ = some (.slice p.la p.locks.length p.lcap) ∧ W.cell? ⟨b, 2, none⟩ = some (.slice p.fa p.funs.length p.fcap)) : (Instr.loadAt 27 (.pointer (some ⟨b, 0, none⟩))).run Tryd.prog W = .ok p.val W := by
  obtain ⟨h0, h1, h2⟩ := h
  simp [go_sem, h0, h1, h2, Pg.val]
theorem load_inB {i : Ins} {W : World} {b o : Nat} (h0 : W.cell? ⟨b, o, none⟩ = some (.int .u8 i.op)) (h1 : W.cell? ⟨b, o + 1, none⟩ = some (.int .i64 i.r)) (h2 : W.cell? ⟨b, o + 2, none⟩ = some (.int .i64 i.a)) (h3 : W.cell? ⟨b, o + 3, none⟩ = some (.int .i64 i.b)) (h4 : W.cell? ⟨b, o + 4, none⟩ = some (.int .i64 i.n)) (h5 : W.cell? ⟨b, o + 5, none⟩ = some (.slice i.aa i.args.length i.acap)) : (Instr.loadAt 31 (.pointer (some ⟨b, o, none⟩))).run Tryd.prog W = .ok (.agg ⟨i.vals⟩) W := by
  simp [go_sem, h0, h1, h2, h3, h4, h5, Ins.vals]
theorem run_lss {a : Act} {o : Oper} {t t2 : TypeId} {x y : Operand} {n m : Int} {w : World} (ht : Tryd.prog.underlying t = some (.int .i64)) (ho : o.op = .binOp .lss t x y t2) (hx : a.eval x = .int .i64 n) (hy : a.eval y = .int .i64 m) : (execOp a.eval o).run Tryd.prog w = .ok (.value (.bool (decide (n < m)))) w := by
  unfold execOp
  rw [ho]
  simp only [hx, hy]
  simp [go_sem, ht]
theorem run_geq {a : Act} {o : Oper} {t t2 : TypeId} {x y : Operand} {n m : Int} {w : World} (ht : Tryd.prog.underlying t = some (.int .i64)) (ho : o.op = .binOp .geq t x y t2) (hx : a.eval x = .int .i64 n) (hy : a.eval y = .int .i64 m) : (execOp a.eval o).run Tryd.prog w = .ok (.value (.bool (decide (m ≤ n)))) w := by
  unfold execOp
  rw [ho]
  simp only [hx, hy]
  simp [go_sem, ht]
theorem run_notB {a : Act} {o : Oper} {t : TypeId} {x : Operand} {b : Bool} {w : World} (ho : o.op = .unOp .not t x) (hx : a.eval x = .bool b) : (execOp a.eval o).run Tryd.prog w = .ok (.value (.bool !b)) w := by
  unfold execOp
  rw [ho]
  simp only [hx]
  cases b <;> simp [go_sem]
theorem below_dN {B : Nat} {a w : World} (h : Below B a w) (n : Nat) : Below B a (w.drewN n) := h.trans ⟨rfl, rfl, rfl, Nat.le_refl _, fun _ _ => rfl⟩
/-- an operation that isn't wanted -/
theorem s_skip {P : Program} {ops : Array Oper} {Q : Exit → Act → World → Prop} {C : World → Prop} {R : Nat → Value → World → Prop} {a0 : Act} {j : Nat} {o : Oper} (h : ∀ a w, C w → Seen ops R a0 o a w → Region.wanted o (yielded ops a.tmps) = false) (hR : ∀ w, R j undef w) : Step P ops Q C R a0 j o := fun a w hC hs =>
  ⟨fun hn => (by rw [h a w hC hs] at hn; cases hn), fun _ => ⟨Below.refl _ _, hR w⟩⟩
theorem wanted_not {ops : Array Oper} {o : Oper} {a : Act} {j d : Nat} {b : Bool} (hg : o.guard = some (j, b)) (hd : Go.Proofs.YtiicjbnocpphdaaDoor.Qr.dstOf ops j = some d) (h : a.tmps[d]? = some (.bool !b)) : Region.wanted o (yielded ops a.tmps) = false := by
  unfold Region.wanted; rw [hg]
  have : yielded ops a.tmps j = some (!b) := by
    unfold yielded; unfold Go.Proofs.YtiicjbnocpphdaaDoor.Qr.dstOf at hd
    rw [hd]; simp [h]
  simp [this]
theorem wanted_undef {ops : Array Oper} {o : Oper} {a : Act} {j d : Nat} {b : Bool} (hg : o.guard = some (j, b)) (hd : Go.Proofs.YtiicjbnocpphdaaDoor.Qr.dstOf ops j = some d) (h : a.tmps[d]? = some undef) : Region.wanted o (yielded ops a.tmps) = false := by
  unfold Region.wanted; rw [hg]
  have : yielded ops a.tmps j = none := by
    unfold yielded; unfold Go.Proofs.YtiicjbnocpphdaaDoor.Qr.dstOf at hd
    rw [hd]; simp [h, undef]
  simp [this]
end Go.Proofs.YtiicjbnocpphdaaDoor.Cd

set_option linter.unusedSimpArgs false
set_option linter.unusedVariables false
namespace Go.Proofs.YtiicjbnocpphdaaDoor.Cd
open Go Go.RowKit
open Go.Proofs.YtiicjbnocpphdaaDoor.Lx Go.Proofs.YtiicjbnocpphdaaDoor.Tr Go.Proofs.YtiicjbnocpphdaaDoor.Pa
open Go.Proofs.YtiicjbnocpphdaaDoor.Vq Go.Proofs.YtiicjbnocpphdaaDoor.Qr
open Go.Proofs.YtiicjbnocpphdaaDoor.Qg (run_call1 run_call2 run_call3)

def rg1 (p : Pg) (gv : Int) (n k B bc offc : Nat) (f : Fn) (e : Ins) (cap : Nat) : List (Value → World → Prop) :=
  [VK (.bool true), VK (.bool true), VK (.int .i64 gv), VK (.bool false), VK (.bool false), VK (.int .i64 gv), VK (.pointer (some ⟨B, 4, none⟩)), VK (.slice (some ⟨bc, offc, none⟩) f.code.length cap), VK (.int .i64 f.code.length), VK (.bool false), VK (.bool false), VK (.bool false), VK (.bool false), VK p.val, VK (.int .i64 n), VK (.pointer (some ⟨B, 4, none⟩)), VK (.slice (some ⟨bc, offc, none⟩) f.code.length cap), VK (.int .i64 k), VK (.pointer (some ⟨bc, offc + k * 6, none⟩)), VK (.agg ⟨e.vals⟩), VK (.bool true), VK (.bool false), VK (.bool false)]
def rg0 (p : Pg) (n k B bc offc : Nat) (f : Fn) (e : Ins) (cap : Nat) : List (Value → World → Prop) :=
  [VK (.bool false), VK (.bool false), VK undef, VK undef, VK undef, VK undef, VK undef, VK undef, VK undef, VK undef, VK undef, VK (.bool false), VK (.bool false), VK p.val, VK (.int .i64 n), VK (.pointer (some ⟨B, 4, none⟩)), VK (.slice (some ⟨bc, offc, none⟩) f.code.length cap), VK (.int .i64 k), VK (.pointer (some ⟨bc, offc + k * 6, none⟩)), VK (.agg ⟨e.vals⟩), VK (.bool true), VK (.bool false), VK (.bool false)]
theorem rg1_mono {p : Pg} {gv : Int} {n k B bc offc : Nat} {f : Fn} {e : Ins} {cap : Nat} : MonoL (rg1 p gv n k B bc offc f e cap) := ⟨VK.mono, VK.mono, VK.mono, VK.mono, VK.mono, VK.mono, VK.mono, VK.mono, VK.mono, VK.mono, VK.mono, VK.mono, VK.mono, VK.mono, VK.mono, VK.mono, VK.mono, VK.mono, VK.mono, VK.mono, VK.mono, VK.mono, VK.mono, trivial⟩
theorem rg0_mono {p : Pg} {n k B bc offc : Nat} {f : Fn} {e : Ins} {cap : Nat} : MonoL (rg0 p n k B bc offc f e cap) := ⟨VK.mono, VK.mono, VK.mono, VK.mono, VK.mono, VK.mono, VK.mono, VK.mono, VK.mono, VK.mono, VK.mono, VK.mono, VK.mono, VK.mono, VK.mono, VK.mono, VK.mono, VK.mono, VK.mono, VK.mono, VK.mono, VK.mono, VK.mono, trivial⟩
set_option maxHeartbeats 16000000 in
set_option maxRecDepth 100000 in
theorem inside_any (p : Pg) (w : World) (hp : Pg.In w (fun _ => True) p) (hm : mayP p = true) (hS : Sml p) (hT : OpTab w) :
    Calls Tryd.prog 20 #[p.val] w fun e w' => e = .returned (.bool true) ∧ Below w.heap.size w w' := by
  obtain ⟨pf1, pf2⟩ := len_i hp.frow
  have hsum := hS.sum
  have hpV : Hid (∀ V, Below w.heap.size w V → Pg.In V (fun _ => True) p) := Lib.hid fun V hV => hp.below (Kps.of_below hV)
  have hTV : Hid (∀ V, Below w.heap.size w V → OpTab V) := Lib.hid fun V hV => hT.keep hV
  have hargs := Lib.hid hS.args
  have hst : Hid (Below w.heap.size w (w.alloc (.cells #[.slice p.ma p.mems.length p.mcap, .slice p.la p.locks.length p.lcap, .slice p.fa p.funs.length p.fcap] 27))) := Lib.hid (b_alloc _ _)
  have hbx := pg_cells (p := p) (box_new w p.vals 27)
  replace hbx : Hid ((w.alloc (.cells #[.slice p.ma p.mems.length p.mcap, .slice p.la p.locks.length p.lcap, .slice p.fa p.funs.length p.fcap] 27)).cell? ⟨w.heap.size, 0, none⟩ = some (.slice p.ma p.mems.length p.mcap) ∧ (w.alloc (.cells #[.slice p.ma p.mems.length p.mcap, .slice p.la p.locks.length p.lcap, .slice p.fa p.funs.length p.fcap] 27)).cell? ⟨w.heap.size, 1, none⟩ = some (.slice p.la p.locks.length p.lcap) ∧ (w.alloc (.cells #[.slice p.ma p.mems.length p.mcap, .slice p.la p.locks.length p.lcap, .slice p.fa p.funs.length p.fcap] 27)).cell? ⟨w.heap.size, 2, none⟩ = some (.slice p.fa p.funs.length p.fcap)) := Lib.hid hbx
  have hm' := Lib.hid hm
  clear hp hS hT hm
  go_enter Tryd.func20, Tryd.ntmps20
  go_upto_region 1 with fail
  generalize hW0 : w.alloc (.cells #[.slice p.ma p.mems.length p.mcap, .slice p.la p.locks.length p.lcap, .slice p.fa p.funs.length p.fcap] 27) = W0 at *
  clear hW0
  have hcell : Hid (∀ V, Below W0.heap.size W0 V → (V.cell? ⟨w.heap.size, 0, none⟩ = some (.slice p.ma p.mems.length p.mcap) ∧ V.cell? ⟨w.heap.size, 1, none⟩ = some (.slice p.la p.locks.length p.lcap) ∧ V.cell? ⟨w.heap.size, 2, none⟩ = some (.slice p.fa p.funs.length p.fcap)) ∧ Below w.heap.size w V) := Lib.hid fun V hV => ⟨⟨below_in hV hbx.out.1, below_in hV hbx.out.2.1, below_in hV hbx.out.2.2⟩, hst.out.trans (hV.mono hst.out.size)⟩
  clear hbx hst
  go_wp2_with fail
  go_loopw [3] (fun i wr => ∃ n : Nat, n ≤ p.funs.length ∧ i = .int .i64 n ∧ Hid (Below W0.heap.size W0 wr)) (fun i _ => p.funs.length - (intOf i).toNat)
  case atStart => exact ⟨0, Nat.zero_le _, rfl, Lib.hid (Below.refl _ _)⟩
  case round =>
    obtain ⟨n, hn, rfl, hb⟩ := hrel
    obtain ⟨⟨x0, x1, x2⟩, hbw⟩ := hcell.out _ hb.out
    by_cases hnl : n < p.funs.length
    · obtain ⟨f, hf⟩ : ∃ f, p.funs[n]? = some f := ⟨_, List.getElem?_eq_getElem hnl⟩
      obtain ⟨b, off, ha, _, c0, c1, c2, c3, c4⟩ := fn_row (hpV.out _ hbw).frow n f hf
      obtain ⟨fc1, fc2⟩ := len_i ((hpV.out _ hbw).funs f (List.mem_of_getElem? hf)).row
      have hFV : Hid (∀ V, Below w.heap.size w V → Fn.In V (fun _ => True) f) := Lib.hid fun V hV => (hpV.out V hV).funs f (List.mem_of_getElem? hf)
      have hfa := Lib.hid (hargs.out f (List.mem_of_getElem? hf))
      have hmay := Lib.hid (fun k e (he : f.code[k]? = some e) => mayP_get hm'.out hf he)
      have hz0 := fnB_cells (f := f) (box_new wr f.vals 42)
      have hal := b_alloc wr (.cells ⟨f.vals⟩ 42)
      have hsW : (wr.alloc (.cells ⟨f.vals⟩ 42)).heap.size = wr.heap.size + 1 := by simp
      unfold Fn.vals at hz0 hal hsW
      replace hz0 := Lib.hid hz0
      replace hal := Lib.hid hal
      rw [ha] at x2
      have hi0 : (0 : Int) ≤ (n : Int) := by omega
      have hi1 : (n : Int) < (p.funs.length : Int) := by omega
      clear hf ha
      go_upto_region 5 with fail
      generalize hW1 : wr.alloc (.cells #[.string f.name, .bool f.thread, .int .i64 f.params, .int .i64 f.regs, .slice f.ca f.code.length f.ccap] 42) = W1 at *
      clear hW1
      generalize hB : wr.heap.size = B at *
      have hfc : Hid (∀ V, Below W1.heap.size W1 V → (V.cell? ⟨B, 0, none⟩ = some (.string f.name) ∧ V.cell? ⟨B, 1, none⟩ = some (.bool f.thread) ∧ V.cell? ⟨B, 2, none⟩ = some (.int .i64 f.params) ∧ V.cell? ⟨B, 3, none⟩ = some (.int .i64 f.regs) ∧ V.cell? ⟨B, 4, none⟩ = some (.slice f.ca f.code.length f.ccap)) ∧ (V.cell? ⟨w.heap.size, 0, none⟩ = some (.slice p.ma p.mems.length p.mcap) ∧ V.cell? ⟨w.heap.size, 1, none⟩ = some (.slice p.la p.locks.length p.lcap) ∧ V.cell? ⟨w.heap.size, 2, none⟩ = some (.slice p.fa p.funs.length p.fcap)) ∧ Below w.heap.size w V ∧ Below W0.heap.size W0 V) := Lib.hid fun V hV => by
        have h1 : Below W0.heap.size W0 V := (hb.out.trans (hal.out.mono (by rw [← hB]; exact hb.out.size))).trans (hV.mono (by have := hb.out.size; omega))
        obtain ⟨q1, q2⟩ := hcell.out V h1
        exact ⟨⟨below_in hV hz0.out.1, below_in hV hz0.out.2.1, below_in hV hz0.out.2.2.1, below_in hV hz0.out.2.2.2.1, below_in hV hz0.out.2.2.2.2⟩, q1, q2, h1⟩
      clear c0 c1 c2 c3 c4 x0 x1 x2 hz0 hal hbw hb
      go_wp2_with fail
      go_loopw [5] (fun i V => ∃ k : Nat, k ≤ f.code.length ∧ i = .int .i64 k ∧ Hid (Below W1.heap.size W1 V)) (fun i _ => f.code.length - (intOf i).toNat)
      case atStart => exact ⟨0, Nat.zero_le _, rfl, Lib.hid (Below.refl _ _)⟩
      case round =>
        obtain ⟨k, hk, rfl, hb2⟩ := hrel
        obtain ⟨⟨z0, z1, z2, z3, z4⟩, _, hbw, hbW⟩ := hfc.out _ hb2.out
        by_cases hkl : k < f.code.length
        · obtain ⟨e, he⟩ : ∃ e, f.code[k]? = some e := ⟨_, List.getElem?_eq_getElem hkl⟩
          obtain ⟨bc, offc, hca, _, _, _, _, _, _, _⟩ := in_row (hFV.out _ hbw).row k e he
          have hec : Hid (∀ V, Below W1.heap.size W1 V → (V.cell? ⟨B, 0, none⟩ = some (.string f.name) ∧ V.cell? ⟨B, 1, none⟩ = some (.bool f.thread) ∧ V.cell? ⟨B, 2, none⟩ = some (.int .i64 f.params) ∧ V.cell? ⟨B, 3, none⟩ = some (.int .i64 f.regs) ∧ V.cell? ⟨B, 4, none⟩ = some (.slice (some ⟨bc, offc, none⟩) f.code.length f.ccap)) ∧ (V.cell? ⟨bc, offc + k * 6, none⟩ = some (.int .u8 e.op) ∧ V.cell? ⟨bc, offc + k * 6 + 1, none⟩ = some (.int .i64 e.r) ∧ V.cell? ⟨bc, offc + k * 6 + 2, none⟩ = some (.int .i64 e.a) ∧ V.cell? ⟨bc, offc + k * 6 + 3, none⟩ = some (.int .i64 e.b) ∧ V.cell? ⟨bc, offc + k * 6 + 4, none⟩ = some (.int .i64 e.n) ∧ V.cell? ⟨bc, offc + k * 6 + 5, none⟩ = some (.slice e.aa e.args.length e.acap)) ∧ (V.cell? ⟨w.heap.size, 0, none⟩ = some (.slice p.ma p.mems.length p.mcap) ∧ V.cell? ⟨w.heap.size, 1, none⟩ = some (.slice p.la p.locks.length p.lcap) ∧ V.cell? ⟨w.heap.size, 2, none⟩ = some (.slice p.fa p.funs.length p.fcap)) ∧ Below w.heap.size w V) := Lib.hid fun V hV => by
            obtain ⟨q1, q2, q3, _⟩ := hfc.out V hV
            obtain ⟨b', o', ha', _, q4⟩ := in_row (hFV.out _ q3).row k e he
            rw [hca] at ha'
            cases ha'
            rw [← hca]
            exact ⟨q1, q4, q2, q3⟩
          have hIe : Hid (∀ V, Below w.heap.size w V → Ins.In V (fun _ => True) e) := Lib.hid fun V hV => (hFV.out V hV).code e (List.mem_of_getElem? he)
          have hae := hfa.out e (List.mem_of_getElem? he)
          obtain ⟨hm1, hm2⟩ := hmay.out k e he
          obtain ⟨hreg, hgl⟩ := may_facts hm1
          obtain ⟨⟨wv, wb⟩, hwv⟩ : ∃ x, wrP e = x := ⟨_, rfl⟩
          obtain ⟨⟨gv, gb⟩, hgv⟩ : ∃ x, glP e = x := ⟨_, rfl⟩
          rw [hgv] at hgl
          have hreg2 : Hid (∀ r ∈ rdP e ++ (if wb then [wv] else []), 0 ≤ r ∧ r < f.regs) := Lib.hid (by
            unfold wrP at hwv
            split at hwv
            · rename_i h1
              rw [if_pos h1] at hreg
              cases hwv
              simpa using hreg
            · rename_i h1
              rw [if_neg h1] at hreg
              cases hwv
              simpa using hreg)
          have hrl := rdP_len e
          replace hm2 := Lib.hid hm2
          clear hreg
          replace hgl := Lib.hid hgl
          have hrd : Hid (∀ V, Hid (Below W1.heap.size W1 V) → Calls Tryd.prog 22 #[e.val] V fun e1 V' => ∃ v, e1 = .returned v ∧ V'.ownsRow V.heap.size 3 1 v (rdP e).length (numCells (rdP e)) ∧ Below V.heap.size V V') := Lib.hid fun V hV => by
            obtain ⟨_, _, _, q3⟩ := hec.out V hV.out
            exact reads_any e V (hIe.out V q3) (hTV.out V q3) (by omega)
          have hwr : Hid (∀ V, Hid (Below W1.heap.size W1 V) → Calls Tryd.prog 31 #[e.val] V fun e1 V' => e1 = .returned (.tuple #[.int .i64 wv, .bool wb]) ∧ Below V.heap.size V V') := Lib.hid fun V hV => by
            obtain ⟨_, _, _, q3⟩ := hec.out V hV.out
            have := writes_any e V (hIe.out V q3).op (hTV.out V q3)
            rw [hwv] at this
            exact this
          have hgo : Hid (∀ V, Hid (Below W1.heap.size W1 V) → Calls Tryd.prog 23 #[e.val] V fun e1 V' => e1 = .returned (.tuple #[.int .i64 gv, .bool gb]) ∧ Below V.heap.size V V') := Lib.hid fun V hV => by
            obtain ⟨_, _, _, q3⟩ := hec.out V hV.out
            have := goal_any e V (hIe.out V q3).op (hTV.out V q3)
            rw [hgv] at this
            exact this
          unfold Ins.val at hrd hwr hgo
          have hk0 : (0 : Int) ≤ (k : Int) := by omega
          have hk1 : (k : Int) < (f.code.length : Int) := by omega
          clear z0 z1 z2 z3 z4
          obtain ⟨⟨z0, z1, z2, z3, z4⟩, ⟨d0, d1, d2, d3, d4, d5⟩, _, _⟩ := hec.out _ hb2.out
          clear he hca hwv hgv hm1
          go_upto_region 9 with (go_at_call 22; refine (hrd.out _ hb2).mono ?_; rintro e1 V1 ⟨rv, rfl, hown, hb3⟩; obtain ⟨la0, lc0, rfl, _⟩ := row_own hown)
          have hs3 := hb3.size
          have hb3' := Lib.hid (hb2.out.trans (hb3.mono hb2.out.size))
          replace hown := Lib.hid hown
          clear z0 z1 z2 z3 z4 d0 d1 d2 d3 d4 d5 hb3
          obtain ⟨⟨z0, z1, z2, z3, z4⟩, ⟨d0, d1, d2, d3, d4, d5⟩, _, _⟩ := hec.out _ hb3'.out
          go_upto_region 10 with (go_at_call 31; refine (hwr.out _ hb3').mono ?_; rintro e1 V2 ⟨rfl, hb4⟩)
          have hs4 := hb4.size
          have hb4' := Lib.hid (hb3'.out.trans (hb4.mono hb3'.out.size))
          have hown2 := Lib.hid (own_below hown.out hb4)
          clear z0 z1 z2 z3 z4 d0 d1 d2 d3 d4 d5 hb4 hown
          cases wb with
          | false =>
            obtain ⟨L, hLd⟩ : ∃ L, rdP e = L := ⟨_, rfl⟩
            rw [hLd] at hown2 hreg2
            rw [hLd]
            obtain ⟨la, lc, hlv, hrow0⟩ := row_own hown2.out
            have hrow := Lib.hid (hrow0.mono (fun b _ => (trivial : (fun _ : Nat => True) b)))
            have hL : Hid (∀ r ∈ L, 0 ≤ r ∧ r < f.regs) := Lib.hid (by have := hreg2.out; simpa using this)
            cases hlv
            have hbc := hb4'
            clear hrow0 hown2 hreg2 hLd hb3' hb4' hrl
            generalize V2 = Vc at *
            obtain ⟨⟨z0, z1, z2, z3, z4⟩, ⟨d0, d1, d2, d3, d4, d5⟩, _, _⟩ := hec.out _ hbc.out
            obtain ⟨fl1, fl2⟩ := len_i hrow.out
            clear d0 d1 d2 d3 d4 d5 z0 z1 z2
            go_wp2_with fail
            go_loopw [9] (fun t V => ∃ j : Nat, j ≤ L.length ∧ t = .int .i64 j ∧ ∃ m, V = Vc.drewN m) (fun t _ => L.length - (intOf t).toNat)
            case atStart => exact ⟨0, Nat.zero_le _, rfl, 0, rfl⟩
            case round =>
              obtain ⟨j, hj, rfl, m0, rfl⟩ := hrel
              by_cases hjl : j < L.length
              · obtain ⟨r, hr⟩ : ∃ r, L[j]? = some r := ⟨_, List.getElem?_eq_getElem hjl⟩
                obtain ⟨b3, off3, hla, _, g0⟩ := num_row hrow.out j r hr
                have hrr := hL.out r (List.mem_of_getElem? hr)
                have hr1 : ¬ r < 0 := by omega
                have hr2 : ¬ f.regs ≤ r := by omega
                have hj0 : (0 : Int) ≤ (j : Int) := by omega
                have hj1 : (j : Int) < (L.length : Int) := by omega
                clear hrr hr hrow hL
                subst hla
                go_wp2_with fail
                go_quiet (fail)
                go_wp2_with fail
                go_roundw
                case rel => exact ⟨j + 1, by omega, by go_num, _, by first | rfl | rw [World.drewN_drewN]⟩
                case measure => simp [intOf]; omega
              · have hj1 : ¬ (j : Int) < (L.length : Int) := by omega
                have hbm := Lib.hid (below_dN hbc.out m0)
                obtain ⟨⟨z0, z1, z2, z3, z4⟩, ⟨d0, d1, d2, d3, d4, d5⟩, ⟨x0, x1, x2⟩, _⟩ := hec.out _ hbm.out
                clear hrow hL hrd hwr hbc z0 z1 z2 x0 x1 x2
                go_upto_region 18 with (go_at_call 23; refine (hgo.out _ hbm).mono ?_; rintro e1 V4 ⟨rfl, hb6⟩)
                have hb6' := Lib.hid (hbm.out.trans (hb6.mono hbm.out.size))
                clear hb6 z3 z4 d0 d1 d2 d3 d4 d5 hbm hgo
                have hce : Hid (∀ V, Below V4.heap.size V4 V → _) := Lib.hid fun V hV => hec.out V (hb6'.out.trans (hV.mono hb6'.out.size))
                clear hec
                cases gb with
                | true =>
                  obtain ⟨hg1, hg2⟩ := hgl.out rfl
                  replace hg1 : 0 ≤ gv := hg1
                  replace hg2 : gv < f.code.length := hg2
                  refine wp_region_rel (C := fun V => Below V4.heap.size V4 V) (E := Ext) (R := fun j => (rg1 p gv n k B bc offc f e f.ccap).getD j VT) (by kernel_rfl) ((Below.refl _ _).drew) (by kernel_rfl) (fun j v w' w'' _ hE h => mono_get _ j rg1_mono v w' w'' hE h) (steps_all ?hst) ?het
                  case hst =>
                    refine stepsL_cons (s_val fun a W hC hs => ?_) ?_
                    · have ho := old_of hs 11 (by kernel_rfl) (by rfl)
                      exact ⟨wanted_none rfl, _, run_mv (Or.inl rfl) (ev ho), rfl⟩
                    refine stepsL_cons (s_val fun a W hC hs => ?_) ?_
                    · obtain ⟨v0, hv0, hR0⟩ := got_of hs 0 80 (by kernel_rfl) (by rfl)
                      have hR0' : v0 = _ := hR0
                      subst hR0'
                      exact ⟨wanted_none rfl, _, run_mv (Or.inl rfl) (ev hv0), rfl⟩
                    refine stepsL_cons (s_val fun a W hC hs => ?_) ?_
                    · obtain ⟨v9, hv9, hR9⟩ := got_of hs 1 81 (by kernel_rfl) (by rfl)
                      have hR9' : v9 = _ := hR9
                      subst hR9'
                      have ho := old_of hs 10 (by kernel_rfl) (by rfl)
                      exact ⟨wanted_true (j := 1) (d := 81) rfl (by rfl) hv9, _, run_mv (Or.inl rfl) (ev ho), rfl⟩
                    refine stepsL_cons (s_val fun a W hC hs => ?_) ?_
                    · obtain ⟨v9, hv9, hR9⟩ := got_of hs 1 81 (by kernel_rfl) (by rfl)
                      have hR9' : v9 = _ := hR9
                      subst hR9'
                      obtain ⟨v0, hv0, hR0⟩ := got_of hs 2 82 (by kernel_rfl) (by rfl)
                      have hR0' : v0 = _ := hR0
                      subst hR0'
                      exact ⟨wanted_true (j := 1) (d := 81) rfl (by rfl) hv9, _, run_lss Tryd.underlying3 rfl (ev hv0) (ev_const _), by show Value.bool _ = _; rw [decide_eq_false (by omega)]⟩
                    refine stepsL_cons (s_val fun a W hC hs => ?_) ?_
                    · obtain ⟨v9, hv9, hR9⟩ := got_of hs 1 81 (by kernel_rfl) (by rfl)
                      have hR9' : v9 = _ := hR9
                      subst hR9'
                      obtain ⟨v0, hv0, hR0⟩ := got_of hs 3 83 (by kernel_rfl) (by rfl)
                      have hR0' : v0 = _ := hR0
                      subst hR0'
                      exact ⟨wanted_true (j := 1) (d := 81) rfl (by rfl) hv9, _, run_mv (Or.inl rfl) (ev hv0), rfl⟩
                    refine stepsL_cons (s_val fun a W hC hs => ?_) ?_
                    · obtain ⟨v9, hv9, hR9⟩ := got_of hs 4 84 (by kernel_rfl) (by rfl)
                      have hR9' : v9 = _ := hR9
                      subst hR9'
                      have ho := old_of hs 10 (by kernel_rfl) (by rfl)
                      exact ⟨wanted_no (j := 4) (d := 84) rfl (by rfl) hv9, _, run_mv (Or.inl rfl) (ev ho), rfl⟩
                    refine stepsL_cons (s_val fun a W hC hs => ?_) ?_
                    · obtain ⟨v9, hv9, hR9⟩ := got_of hs 4 84 (by kernel_rfl) (by rfl)
                      have hR9' : v9 = _ := hR9
                      subst hR9'
                      have ho := old_of hs 4 (by kernel_rfl) (by rfl)
                      exact ⟨wanted_no (j := 4) (d := 84) rfl (by rfl) hv9, _, run_fa rfl (ev ho) fl_fn4, rfl⟩
                    refine stepsL_cons (s_val fun a W hC hs => ?_) ?_
                    · obtain ⟨v9, hv9, hR9⟩ := got_of hs 4 84 (by kernel_rfl) (by rfl)
                      have hR9' : v9 = _ := hR9
                      subst hR9'
                      obtain ⟨v0, hv0, hR0⟩ := got_of hs 6 86 (by kernel_rfl) (by rfl)
                      have hR0' : v0 = _ := hR0
                      subst hR0'
                      have hB := hce.out W hC
                      exact ⟨wanted_no (j := 4) (d := 84) rfl (by rfl) hv9, _, run_ld rfl (ev hv0) (ld_code hB.1.2.2.2.2), rfl⟩
                    refine stepsL_cons (s_val fun a W hC hs => ?_) ?_
                    · obtain ⟨v9, hv9, hR9⟩ := got_of hs 4 84 (by kernel_rfl) (by rfl)
                      have hR9' : v9 = _ := hR9
                      subst hR9'
                      obtain ⟨v0, hv0, hR0⟩ := got_of hs 7 87 (by kernel_rfl) (by rfl)
                      have hR0' : v0 = _ := hR0
                      subst hR0'
                      exact ⟨wanted_no (j := 4) (d := 84) rfl (by rfl) hv9, _, run_len rfl (ev hv0) ln_code, rfl⟩
                    refine stepsL_cons (s_val fun a W hC hs => ?_) ?_
                    · obtain ⟨v9, hv9, hR9⟩ := got_of hs 4 84 (by kernel_rfl) (by rfl)
                      have hR9' : v9 = _ := hR9
                      subst hR9'
                      obtain ⟨v0, hv0, hR0⟩ := got_of hs 5 85 (by kernel_rfl) (by rfl)
                      have hR0' : v0 = _ := hR0
                      subst hR0'
                      obtain ⟨v1, hv1, hR1⟩ := got_of hs 8 88 (by kernel_rfl) (by rfl)
                      have hR1' : v1 = _ := hR1
                      subst hR1'
                      exact ⟨wanted_no (j := 4) (d := 84) rfl (by rfl) hv9, _, run_geq Tryd.underlying3 rfl (ev hv0) (ev hv1), by show Value.bool _ = _; rw [decide_eq_false (by omega)]⟩
                    refine stepsL_cons (s_val fun a W hC hs => ?_) ?_
                    · obtain ⟨v9, hv9, hR9⟩ := got_of hs 1 81 (by kernel_rfl) (by rfl)
                      have hR9' : v9 = _ := hR9
                      subst hR9'
                      obtain ⟨v0, hv0, hR0⟩ := got_of hs 4 84 (by kernel_rfl) (by rfl)
                      have hR0' : v0 = _ := hR0
                      subst hR0'
                      obtain ⟨v1, hv1, hR1⟩ := got_of hs 9 89 (by kernel_rfl) (by rfl)
                      have hR1' : v1 = _ := hR1
                      subst hR1'
                      exact ⟨wanted_true (j := 1) (d := 81) rfl (by rfl) hv9, _, run_pk rfl (ev hv0) (by rw [if_neg (by simp)]; exact ev hv1), rfl⟩
                    refine stepsL_cons (s_val fun a W hC hs => ?_) ?_
                    · obtain ⟨v0, hv0, hR0⟩ := got_of hs 1 81 (by kernel_rfl) (by rfl)
                      have hR0' : v0 = _ := hR0
                      subst hR0'
                      obtain ⟨v1, hv1, hR1⟩ := got_of hs 10 90 (by kernel_rfl) (by rfl)
                      have hR1' : v1 = _ := hR1
                      subst hR1'
                      exact ⟨wanted_none rfl, _, run_pk rfl (ev hv0) (by rw [if_pos rfl]; exact ev hv1), rfl⟩
                    refine stepsL_cons (s_val fun a W hC hs => ?_) ?_
                    · obtain ⟨v0, hv0, hR0⟩ := got_of hs 11 91 (by kernel_rfl) (by rfl)
                      have hR0' : v0 = _ := hR0
                      subst hR0'
                      exact ⟨wanted_none rfl, _, run_mv (Or.inl rfl) (ev hv0), rfl⟩
                    refine stepsL_cons (s_val fun a W hC hs => ?_) ?_
                    · obtain ⟨v9, hv9, hR9⟩ := got_of hs 12 92 (by kernel_rfl) (by rfl)
                      have hR9' : v9 = _ := hR9
                      subst hR9'
                      have ho := old_of hs 1 (by kernel_rfl) (by rfl)
                      have hB := hce.out W hC
                      exact ⟨wanted_no (j := 12) (d := 92) rfl (by rfl) hv9, _, run_ld rfl (ev ho) (load_pgB hB.2.2.1), rfl⟩
                    refine stepsL_cons (s_val fun a W hC hs => ?_) ?_
                    · obtain ⟨v9, hv9, hR9⟩ := got_of hs 12 92 (by kernel_rfl) (by rfl)
                      have hR9' : v9 = _ := hR9
                      subst hR9'
                      have ho := old_of hs 3 (by kernel_rfl) (by rfl)
                      exact ⟨wanted_no (j := 12) (d := 92) rfl (by rfl) hv9, _, run_mv (Or.inl rfl) (ev ho), rfl⟩
                    refine stepsL_cons (s_val fun a W hC hs => ?_) ?_
                    · obtain ⟨v9, hv9, hR9⟩ := got_of hs 12 92 (by kernel_rfl) (by rfl)
                      have hR9' : v9 = _ := hR9
                      subst hR9'
                      have ho := old_of hs 4 (by kernel_rfl) (by rfl)
                      exact ⟨wanted_no (j := 12) (d := 92) rfl (by rfl) hv9, _, run_fa rfl (ev ho) fl_fn4, rfl⟩
                    refine stepsL_cons (s_val fun a W hC hs => ?_) ?_
                    · obtain ⟨v9, hv9, hR9⟩ := got_of hs 12 92 (by kernel_rfl) (by rfl)
                      have hR9' : v9 = _ := hR9
                      subst hR9'
                      obtain ⟨v0, hv0, hR0⟩ := got_of hs 15 95 (by kernel_rfl) (by rfl)
                      have hR0' : v0 = _ := hR0
                      subst hR0'
                      have hB := hce.out W hC
                      exact ⟨wanted_no (j := 12) (d := 92) rfl (by rfl) hv9, _, run_ld rfl (ev hv0) (ld_code hB.1.2.2.2.2), rfl⟩
                    refine stepsL_cons (s_val fun a W hC hs => ?_) ?_
                    · obtain ⟨v9, hv9, hR9⟩ := got_of hs 12 92 (by kernel_rfl) (by rfl)
                      have hR9' : v9 = _ := hR9
                      subst hR9'
                      have ho := old_of hs 5 (by kernel_rfl) (by rfl)
                      exact ⟨wanted_no (j := 12) (d := 92) rfl (by rfl) hv9, _, run_mv (Or.inl rfl) (ev ho), rfl⟩
                    refine stepsL_cons (s_val fun a W hC hs => ?_) ?_
                    · obtain ⟨v9, hv9, hR9⟩ := got_of hs 12 92 (by kernel_rfl) (by rfl)
                      have hR9' : v9 = _ := hR9
                      subst hR9'
                      obtain ⟨v0, hv0, hR0⟩ := got_of hs 16 96 (by kernel_rfl) (by rfl)
                      have hR0' : v0 = _ := hR0
                      subst hR0'
                      obtain ⟨v1, hv1, hR1⟩ := got_of hs 17 97 (by kernel_rfl) (by rfl)
                      have hR1' : v1 = _ := hR1
                      subst hR1'
                      exact ⟨wanted_no (j := 12) (d := 92) rfl (by rfl) hv9, _, run_ix rfl (ev hv0) (ev hv1) (ix_in hk1), rfl⟩
                    refine stepsL_cons (s_val fun a W hC hs => ?_) ?_
                    · obtain ⟨v9, hv9, hR9⟩ := got_of hs 12 92 (by kernel_rfl) (by rfl)
                      have hR9' : v9 = _ := hR9
                      subst hR9'
                      obtain ⟨v0, hv0, hR0⟩ := got_of hs 18 98 (by kernel_rfl) (by rfl)
                      have hR0' : v0 = _ := hR0
                      subst hR0'
                      have hB := (hce.out W hC).2.1
                      exact ⟨wanted_no (j := 12) (d := 92) rfl (by rfl) hv9, _, run_ld rfl (ev hv0) (load_inB hB.1 hB.2.1 hB.2.2.1 hB.2.2.2.1 hB.2.2.2.2.1 hB.2.2.2.2.2), rfl⟩
                    refine stepsL_cons (s_call fun a W hC hs => ?_) ?_
                    · obtain ⟨v9, hv9, hR9⟩ := got_of hs 12 92 (by kernel_rfl) (by rfl)
                      have hR9' : v9 = _ := hR9
                      subst hR9'
                      obtain ⟨v0, hv0, hR0⟩ := got_of hs 13 93 (by kernel_rfl) (by rfl)
                      have hR0' : v0 = _ := hR0
                      subst hR0'
                      obtain ⟨v1, hv1, hR1⟩ := got_of hs 14 94 (by kernel_rfl) (by rfl)
                      have hR1' : v1 = _ := hR1
                      subst hR1'
                      obtain ⟨v2, hv2, hR2⟩ := got_of hs 19 99 (by kernel_rfl) (by rfl)
                      have hR2' : v2 = _ := hR2
                      subst hR2'
                      have hB := (hce.out W hC).2.2.2
                      refine ⟨wanted_no (j := 12) (d := 92) rfl (by rfl) hv9, 9, _, run_call3 rfl (ev hv0) (ev hv1) (ev hv2) (fun _ _ => rfl), (mayIns_any p n e W (hIe.out W hB).op (hIe.out W hB).row (hTV.out W hB) (hpV.out W hB).frow).mono ?_⟩
                      rintro e1 W' ⟨rfl, hb7⟩
                      exact ⟨_, rfl, hC.trans (hb7.mono hC.size), hb7, by show Value.bool _ = _; rw [hm2.out]⟩
                    refine stepsL_cons (s_val fun a W hC hs => ?_) ?_
                    · obtain ⟨v9, hv9, hR9⟩ := got_of hs 12 92 (by kernel_rfl) (by rfl)
                      have hR9' : v9 = _ := hR9
                      subst hR9'
                      obtain ⟨v0, hv0, hR0⟩ := got_of hs 20 100 (by kernel_rfl) (by rfl)
                      have hR0' : v0 = _ := hR0
                      subst hR0'
                      exact ⟨wanted_no (j := 12) (d := 92) rfl (by rfl) hv9, _, run_notB rfl (ev hv0), rfl⟩
                    refine stepsL_cons (s_val fun a W hC hs => ?_) ?_
                    · obtain ⟨v0, hv0, hR0⟩ := got_of hs 12 92 (by kernel_rfl) (by rfl)
                      have hR0' : v0 = _ := hR0
                      subst hR0'
                      obtain ⟨v1, hv1, hR1⟩ := got_of hs 21 101 (by kernel_rfl) (by rfl)
                      have hR1' : v1 = _ := hR1
                      subst hR1'
                      exact ⟨wanted_none rfl, _, run_pk rfl (ev hv0) (by rw [if_neg (by simp)]; exact ev hv1), rfl⟩
                    exact stepsL_nil
                  case het =>
                    intro σ V5 hC hR
                    generalize hF : fillL _ _ _ _ _ = F
                    simp [fillL, dstOf, List.range, List.range.loop, Act.put] at hF
                    subst hF
                    have h22 : σ 22 = .bool false := hR 22 (by simp)
                    rw [h22]
                    have hb9 := Lib.hid (hb6'.out.trans (hC.mono hb6'.out.size))
                    clear hR h22 hce hb6' hC
                    go_wp2_with fail
                    go_roundw
                    case rel => exact ⟨k + 1, by omega, by go_num, hb9⟩
                    case measure => simp [intOf]; omega
                | false =>
                  refine wp_region_rel (C := fun V => Below V4.heap.size V4 V) (E := Ext) (R := fun j => (rg0 p n k B bc offc f e f.ccap).getD j VT) (by kernel_rfl) ((Below.refl _ _).drew) (by kernel_rfl) (fun j v w' w'' _ hE h => mono_get _ j rg0_mono v w' w'' hE h) (steps_all ?hsn) ?hen
                  case hsn =>
                    refine stepsL_cons (s_val fun a W hC hs => ?_) ?_
                    · have ho := old_of hs 11 (by kernel_rfl) (by rfl)
                      exact ⟨wanted_none rfl, _, run_mv (Or.inl rfl) (ev ho), rfl⟩
                    refine stepsL_cons (s_val fun a W hC hs => ?_) ?_
                    · obtain ⟨v0, hv0, hR0⟩ := got_of hs 0 80 (by kernel_rfl) (by rfl)
                      have hR0' : v0 = _ := hR0
                      subst hR0'
                      exact ⟨wanted_none rfl, _, run_mv (Or.inl rfl) (ev hv0), rfl⟩
                    refine stepsL_cons (s_skip (fun a W hC hs => ?_) (fun _ => rfl)) ?_
                    · obtain ⟨v9, hv9, hR9⟩ := got_of hs 1 81 (by kernel_rfl) (by rfl)
                      have hR9' : v9 = _ := hR9
                      subst hR9'
                      exact wanted_not (j := 1) (d := 81) rfl (by rfl) hv9
                    refine stepsL_cons (s_skip (fun a W hC hs => ?_) (fun _ => rfl)) ?_
                    · obtain ⟨v9, hv9, hR9⟩ := got_of hs 1 81 (by kernel_rfl) (by rfl)
                      have hR9' : v9 = _ := hR9
                      subst hR9'
                      exact wanted_not (j := 1) (d := 81) rfl (by rfl) hv9
                    refine stepsL_cons (s_skip (fun a W hC hs => ?_) (fun _ => rfl)) ?_
                    · obtain ⟨v9, hv9, hR9⟩ := got_of hs 1 81 (by kernel_rfl) (by rfl)
                      have hR9' : v9 = _ := hR9
                      subst hR9'
                      exact wanted_not (j := 1) (d := 81) rfl (by rfl) hv9
                    refine stepsL_cons (s_skip (fun a W hC hs => ?_) (fun _ => rfl)) ?_
                    · obtain ⟨v9, hv9, hR9⟩ := got_of hs 4 84 (by kernel_rfl) (by rfl)
                      have hR9' : v9 = _ := hR9
                      subst hR9'
                      exact wanted_undef (j := 4) (d := 84) rfl (by rfl) hv9
                    refine stepsL_cons (s_skip (fun a W hC hs => ?_) (fun _ => rfl)) ?_
                    · obtain ⟨v9, hv9, hR9⟩ := got_of hs 4 84 (by kernel_rfl) (by rfl)
                      have hR9' : v9 = _ := hR9
                      subst hR9'
                      exact wanted_undef (j := 4) (d := 84) rfl (by rfl) hv9
                    refine stepsL_cons (s_skip (fun a W hC hs => ?_) (fun _ => rfl)) ?_
                    · obtain ⟨v9, hv9, hR9⟩ := got_of hs 4 84 (by kernel_rfl) (by rfl)
                      have hR9' : v9 = _ := hR9
                      subst hR9'
                      exact wanted_undef (j := 4) (d := 84) rfl (by rfl) hv9
                    refine stepsL_cons (s_skip (fun a W hC hs => ?_) (fun _ => rfl)) ?_
                    · obtain ⟨v9, hv9, hR9⟩ := got_of hs 4 84 (by kernel_rfl) (by rfl)
                      have hR9' : v9 = _ := hR9
                      subst hR9'
                      exact wanted_undef (j := 4) (d := 84) rfl (by rfl) hv9
                    refine stepsL_cons (s_skip (fun a W hC hs => ?_) (fun _ => rfl)) ?_
                    · obtain ⟨v9, hv9, hR9⟩ := got_of hs 4 84 (by kernel_rfl) (by rfl)
                      have hR9' : v9 = _ := hR9
                      subst hR9'
                      exact wanted_undef (j := 4) (d := 84) rfl (by rfl) hv9
                    refine stepsL_cons (s_skip (fun a W hC hs => ?_) (fun _ => rfl)) ?_
                    · obtain ⟨v9, hv9, hR9⟩ := got_of hs 1 81 (by kernel_rfl) (by rfl)
                      have hR9' : v9 = _ := hR9
                      subst hR9'
                      exact wanted_not (j := 1) (d := 81) rfl (by rfl) hv9
                    refine stepsL_cons (s_val fun a W hC hs => ?_) ?_
                    · obtain ⟨v0, hv0, hR0⟩ := got_of hs 1 81 (by kernel_rfl) (by rfl)
                      have hR0' : v0 = _ := hR0
                      subst hR0'
                      exact ⟨wanted_none rfl, _, run_pk rfl (ev hv0) (by rw [if_neg (by simp)]; exact ev_const _), rfl⟩
                    refine stepsL_cons (s_val fun a W hC hs => ?_) ?_
                    · obtain ⟨v0, hv0, hR0⟩ := got_of hs 11 91 (by kernel_rfl) (by rfl)
                      have hR0' : v0 = _ := hR0
                      subst hR0'
                      exact ⟨wanted_none rfl, _, run_mv (Or.inl rfl) (ev hv0), rfl⟩
                    refine stepsL_cons (s_val fun a W hC hs => ?_) ?_
                    · obtain ⟨v9, hv9, hR9⟩ := got_of hs 12 92 (by kernel_rfl) (by rfl)
                      have hR9' : v9 = _ := hR9
                      subst hR9'
                      have ho := old_of hs 1 (by kernel_rfl) (by rfl)
                      have hB := hce.out W hC
                      exact ⟨wanted_no (j := 12) (d := 92) rfl (by rfl) hv9, _, run_ld rfl (ev ho) (load_pgB hB.2.2.1), rfl⟩
                    refine stepsL_cons (s_val fun a W hC hs => ?_) ?_
                    · obtain ⟨v9, hv9, hR9⟩ := got_of hs 12 92 (by kernel_rfl) (by rfl)
                      have hR9' : v9 = _ := hR9
                      subst hR9'
                      have ho := old_of hs 3 (by kernel_rfl) (by rfl)
                      exact ⟨wanted_no (j := 12) (d := 92) rfl (by rfl) hv9, _, run_mv (Or.inl rfl) (ev ho), rfl⟩
                    refine stepsL_cons (s_val fun a W hC hs => ?_) ?_
                    · obtain ⟨v9, hv9, hR9⟩ := got_of hs 12 92 (by kernel_rfl) (by rfl)
                      have hR9' : v9 = _ := hR9
                      subst hR9'
                      have ho := old_of hs 4 (by kernel_rfl) (by rfl)
                      exact ⟨wanted_no (j := 12) (d := 92) rfl (by rfl) hv9, _, run_fa rfl (ev ho) fl_fn4, rfl⟩
                    refine stepsL_cons (s_val fun a W hC hs => ?_) ?_
                    · obtain ⟨v9, hv9, hR9⟩ := got_of hs 12 92 (by kernel_rfl) (by rfl)
                      have hR9' : v9 = _ := hR9
                      subst hR9'
                      obtain ⟨v0, hv0, hR0⟩ := got_of hs 15 95 (by kernel_rfl) (by rfl)
                      have hR0' : v0 = _ := hR0
                      subst hR0'
                      have hB := hce.out W hC
                      exact ⟨wanted_no (j := 12) (d := 92) rfl (by rfl) hv9, _, run_ld rfl (ev hv0) (ld_code hB.1.2.2.2.2), rfl⟩
                    refine stepsL_cons (s_val fun a W hC hs => ?_) ?_
                    · obtain ⟨v9, hv9, hR9⟩ := got_of hs 12 92 (by kernel_rfl) (by rfl)
                      have hR9' : v9 = _ := hR9
                      subst hR9'
                      have ho := old_of hs 5 (by kernel_rfl) (by rfl)
                      exact ⟨wanted_no (j := 12) (d := 92) rfl (by rfl) hv9, _, run_mv (Or.inl rfl) (ev ho), rfl⟩
                    refine stepsL_cons (s_val fun a W hC hs => ?_) ?_
                    · obtain ⟨v9, hv9, hR9⟩ := got_of hs 12 92 (by kernel_rfl) (by rfl)
                      have hR9' : v9 = _ := hR9
                      subst hR9'
                      obtain ⟨v0, hv0, hR0⟩ := got_of hs 16 96 (by kernel_rfl) (by rfl)
                      have hR0' : v0 = _ := hR0
                      subst hR0'
                      obtain ⟨v1, hv1, hR1⟩ := got_of hs 17 97 (by kernel_rfl) (by rfl)
                      have hR1' : v1 = _ := hR1
                      subst hR1'
                      exact ⟨wanted_no (j := 12) (d := 92) rfl (by rfl) hv9, _, run_ix rfl (ev hv0) (ev hv1) (ix_in hk1), rfl⟩
                    refine stepsL_cons (s_val fun a W hC hs => ?_) ?_
                    · obtain ⟨v9, hv9, hR9⟩ := got_of hs 12 92 (by kernel_rfl) (by rfl)
                      have hR9' : v9 = _ := hR9
                      subst hR9'
                      obtain ⟨v0, hv0, hR0⟩ := got_of hs 18 98 (by kernel_rfl) (by rfl)
                      have hR0' : v0 = _ := hR0
                      subst hR0'
                      have hB := (hce.out W hC).2.1
                      exact ⟨wanted_no (j := 12) (d := 92) rfl (by rfl) hv9, _, run_ld rfl (ev hv0) (load_inB hB.1 hB.2.1 hB.2.2.1 hB.2.2.2.1 hB.2.2.2.2.1 hB.2.2.2.2.2), rfl⟩
                    refine stepsL_cons (s_call fun a W hC hs => ?_) ?_
                    · obtain ⟨v9, hv9, hR9⟩ := got_of hs 12 92 (by kernel_rfl) (by rfl)
                      have hR9' : v9 = _ := hR9
                      subst hR9'
                      obtain ⟨v0, hv0, hR0⟩ := got_of hs 13 93 (by kernel_rfl) (by rfl)
                      have hR0' : v0 = _ := hR0
                      subst hR0'
                      obtain ⟨v1, hv1, hR1⟩ := got_of hs 14 94 (by kernel_rfl) (by rfl)
                      have hR1' : v1 = _ := hR1
                      subst hR1'
                      obtain ⟨v2, hv2, hR2⟩ := got_of hs 19 99 (by kernel_rfl) (by rfl)
                      have hR2' : v2 = _ := hR2
                      subst hR2'
                      have hB := (hce.out W hC).2.2.2
                      refine ⟨wanted_no (j := 12) (d := 92) rfl (by rfl) hv9, 9, _, run_call3 rfl (ev hv0) (ev hv1) (ev hv2) (fun _ _ => rfl), (mayIns_any p n e W (hIe.out W hB).op (hIe.out W hB).row (hTV.out W hB) (hpV.out W hB).frow).mono ?_⟩
                      rintro e1 W' ⟨rfl, hb7⟩
                      exact ⟨_, rfl, hC.trans (hb7.mono hC.size), hb7, by show Value.bool _ = _; rw [hm2.out]⟩
                    refine stepsL_cons (s_val fun a W hC hs => ?_) ?_
                    · obtain ⟨v9, hv9, hR9⟩ := got_of hs 12 92 (by kernel_rfl) (by rfl)
                      have hR9' : v9 = _ := hR9
                      subst hR9'
                      obtain ⟨v0, hv0, hR0⟩ := got_of hs 20 100 (by kernel_rfl) (by rfl)
                      have hR0' : v0 = _ := hR0
                      subst hR0'
                      exact ⟨wanted_no (j := 12) (d := 92) rfl (by rfl) hv9, _, run_notB rfl (ev hv0), rfl⟩
                    refine stepsL_cons (s_val fun a W hC hs => ?_) ?_
                    · obtain ⟨v0, hv0, hR0⟩ := got_of hs 12 92 (by kernel_rfl) (by rfl)
                      have hR0' : v0 = _ := hR0
                      subst hR0'
                      obtain ⟨v1, hv1, hR1⟩ := got_of hs 21 101 (by kernel_rfl) (by rfl)
                      have hR1' : v1 = _ := hR1
                      subst hR1'
                      exact ⟨wanted_none rfl, _, run_pk rfl (ev hv0) (by rw [if_neg (by simp)]; exact ev hv1), rfl⟩
                    exact stepsL_nil
                  case hen =>
                    intro σ V5 hC hR
                    generalize hF : fillL _ _ _ _ _ = F
                    simp [fillL, dstOf, List.range, List.range.loop, Act.put] at hF
                    subst hF
                    have h22 : σ 22 = .bool false := hR 22 (by simp)
                    rw [h22]
                    have hb9 := Lib.hid (hb6'.out.trans (hC.mono hb6'.out.size))
                    clear hR h22 hce hb6' hC
                    go_wp2_with fail
                    go_roundw
                    case rel => exact ⟨k + 1, by omega, by go_num, hb9⟩
                    case measure => simp [intOf]; omega
          | true =>
            obtain ⟨i0, hi0, hz0, hz1, hz2⟩ := info_i
            obtain ⟨⟨z0, z1, z2, z3, z4⟩, _, _, _⟩ := hec.out _ hb4'.out
            have hs1 := hb2.out.size
            go_upto_region 12 with (at_builtin; refine wpList_append_own_at _ rfl _ _ 29 rfl wr.heap.size 3 i0 _ 1 8 Tryd.underlying29 hi0 hz0 hz1 hz2 rfl (by decide) _ _ _ rfl (own_below hown2.out (b_alloc V2 _)) _ 1 1 [.int .i64 wv] rfl rfl (one_at _ _ _ _ (by first | rfl | simp)) (by simp [Value.oneCell']) (by unfold maxLen; omega) (by omega) (by simp; omega) ?_; intro v' w3 hown3 hg3 _ hat3)
            have hb5 := Lib.hid ((hb4'.out.alloc (by have := hb4'.out.size; omega) (.cells #[.int .i64 wv] 3)).grown hg3 (by have := hb4'.out.size; simp; omega) (fun q e => Nat.le_trans hs1 (hown2.out.lt q e).1))
            have hb5' : Hid (Below W1.heap.size W1 w3) := hb5
            obtain ⟨L, hLd⟩ : ∃ L, rdP e ++ [wv] = L := ⟨_, rfl⟩
            have hown4 : w3.ownsRow wr.heap.size 3 1 v' L.length (numCells L) := by
              rw [← hLd, List.length_append]
              have he : numCells (rdP e ++ [wv]) = numCells (rdP e) ++ [.int .i64 wv] := by unfold numCells; rw [List.map_append]; rfl
              rw [he]; exact hown3
            obtain ⟨la, lc, hlv, hrow0⟩ := row_own hown4
            have hrow := Lib.hid (hrow0.mono (fun b _ => (trivial : (fun _ : Nat => True) b)))
            have hL : Hid (∀ r ∈ L, 0 ≤ r ∧ r < f.regs) := Lib.hid (by have := hreg2.out; rw [← hLd]; simpa using this)
            subst hlv
            have hbc := hb5'
            clear hrow0 hown2 hown3 hown4 hg3 hat3 hreg2 hLd hb3' hb4' hrl hb5 hb5' z0 z1 z2 z3 z4 hi0 hz0 hz1 hz2
            generalize w3 = Vc at *
            obtain ⟨⟨z0, z1, z2, z3, z4⟩, ⟨d0, d1, d2, d3, d4, d5⟩, _, _⟩ := hec.out _ hbc.out
            obtain ⟨fl1, fl2⟩ := len_i hrow.out
            clear d0 d1 d2 d3 d4 d5 z0 z1 z2
            go_wp2_with fail
            go_loopw [9] (fun t V => ∃ j : Nat, j ≤ L.length ∧ t = .int .i64 j ∧ ∃ m, V = Vc.drewN m) (fun t _ => L.length - (intOf t).toNat)
            case atStart => exact ⟨0, Nat.zero_le _, rfl, 0, rfl⟩
            case round =>
              obtain ⟨j, hj, rfl, m0, rfl⟩ := hrel
              by_cases hjl : j < L.length
              · obtain ⟨r, hr⟩ : ∃ r, L[j]? = some r := ⟨_, List.getElem?_eq_getElem hjl⟩
                obtain ⟨b3, off3, hla, _, g0⟩ := num_row hrow.out j r hr
                have hrr := hL.out r (List.mem_of_getElem? hr)
                have hr1 : ¬ r < 0 := by omega
                have hr2 : ¬ f.regs ≤ r := by omega
                have hj0 : (0 : Int) ≤ (j : Int) := by omega
                have hj1 : (j : Int) < (L.length : Int) := by omega
                clear hrr hr hrow hL
                subst hla
                go_wp2_with fail
                go_quiet (fail)
                go_wp2_with fail
                go_roundw
                case rel => exact ⟨j + 1, by omega, by go_num, _, by first | rfl | rw [World.drewN_drewN]⟩
                case measure => simp [intOf]; omega
              · have hj1 : ¬ (j : Int) < (L.length : Int) := by omega
                have hbm := Lib.hid (below_dN hbc.out m0)
                obtain ⟨⟨z0, z1, z2, z3, z4⟩, ⟨d0, d1, d2, d3, d4, d5⟩, ⟨x0, x1, x2⟩, _⟩ := hec.out _ hbm.out
                clear hrow hL hrd hwr hbc z0 z1 z2 x0 x1 x2
                go_upto_region 18 with (go_at_call 23; refine (hgo.out _ hbm).mono ?_; rintro e1 V4 ⟨rfl, hb6⟩)
                have hb6' := Lib.hid (hbm.out.trans (hb6.mono hbm.out.size))
                clear hb6 z3 z4 d0 d1 d2 d3 d4 d5 hbm hgo
                have hce : Hid (∀ V, Below V4.heap.size V4 V → _) := Lib.hid fun V hV => hec.out V (hb6'.out.trans (hV.mono hb6'.out.size))
                clear hec
                cases gb with
                | true =>
                  obtain ⟨hg1, hg2⟩ := hgl.out rfl
                  replace hg1 : 0 ≤ gv := hg1
                  replace hg2 : gv < f.code.length := hg2
                  refine wp_region_rel (C := fun V => Below V4.heap.size V4 V) (E := Ext) (R := fun j => (rg1 p gv n k B bc offc f e f.ccap).getD j VT) (by kernel_rfl) ((Below.refl _ _).drew) (by kernel_rfl) (fun j v w' w'' _ hE h => mono_get _ j rg1_mono v w' w'' hE h) (steps_all ?hst) ?het
                  case hst =>
                    refine stepsL_cons (s_val fun a W hC hs => ?_) ?_
                    · have ho := old_of hs 11 (by kernel_rfl) (by rfl)
                      exact ⟨wanted_none rfl, _, run_mv (Or.inl rfl) (ev ho), rfl⟩
                    refine stepsL_cons (s_val fun a W hC hs => ?_) ?_
                    · obtain ⟨v0, hv0, hR0⟩ := got_of hs 0 80 (by kernel_rfl) (by rfl)
                      have hR0' : v0 = _ := hR0
                      subst hR0'
                      exact ⟨wanted_none rfl, _, run_mv (Or.inl rfl) (ev hv0), rfl⟩
                    refine stepsL_cons (s_val fun a W hC hs => ?_) ?_
                    · obtain ⟨v9, hv9, hR9⟩ := got_of hs 1 81 (by kernel_rfl) (by rfl)
                      have hR9' : v9 = _ := hR9
                      subst hR9'
                      have ho := old_of hs 10 (by kernel_rfl) (by rfl)
                      exact ⟨wanted_true (j := 1) (d := 81) rfl (by rfl) hv9, _, run_mv (Or.inl rfl) (ev ho), rfl⟩
                    refine stepsL_cons (s_val fun a W hC hs => ?_) ?_
                    · obtain ⟨v9, hv9, hR9⟩ := got_of hs 1 81 (by kernel_rfl) (by rfl)
                      have hR9' : v9 = _ := hR9
                      subst hR9'
                      obtain ⟨v0, hv0, hR0⟩ := got_of hs 2 82 (by kernel_rfl) (by rfl)
                      have hR0' : v0 = _ := hR0
                      subst hR0'
                      exact ⟨wanted_true (j := 1) (d := 81) rfl (by rfl) hv9, _, run_lss Tryd.underlying3 rfl (ev hv0) (ev_const _), by show Value.bool _ = _; rw [decide_eq_false (by omega)]⟩
                    refine stepsL_cons (s_val fun a W hC hs => ?_) ?_
                    · obtain ⟨v9, hv9, hR9⟩ := got_of hs 1 81 (by kernel_rfl) (by rfl)
                      have hR9' : v9 = _ := hR9
                      subst hR9'
                      obtain ⟨v0, hv0, hR0⟩ := got_of hs 3 83 (by kernel_rfl) (by rfl)
                      have hR0' : v0 = _ := hR0
                      subst hR0'
                      exact ⟨wanted_true (j := 1) (d := 81) rfl (by rfl) hv9, _, run_mv (Or.inl rfl) (ev hv0), rfl⟩
                    refine stepsL_cons (s_val fun a W hC hs => ?_) ?_
                    · obtain ⟨v9, hv9, hR9⟩ := got_of hs 4 84 (by kernel_rfl) (by rfl)
                      have hR9' : v9 = _ := hR9
                      subst hR9'
                      have ho := old_of hs 10 (by kernel_rfl) (by rfl)
                      exact ⟨wanted_no (j := 4) (d := 84) rfl (by rfl) hv9, _, run_mv (Or.inl rfl) (ev ho), rfl⟩
                    refine stepsL_cons (s_val fun a W hC hs => ?_) ?_
                    · obtain ⟨v9, hv9, hR9⟩ := got_of hs 4 84 (by kernel_rfl) (by rfl)
                      have hR9' : v9 = _ := hR9
                      subst hR9'
                      have ho := old_of hs 4 (by kernel_rfl) (by rfl)
                      exact ⟨wanted_no (j := 4) (d := 84) rfl (by rfl) hv9, _, run_fa rfl (ev ho) fl_fn4, rfl⟩
                    refine stepsL_cons (s_val fun a W hC hs => ?_) ?_
                    · obtain ⟨v9, hv9, hR9⟩ := got_of hs 4 84 (by kernel_rfl) (by rfl)
                      have hR9' : v9 = _ := hR9
                      subst hR9'
                      obtain ⟨v0, hv0, hR0⟩ := got_of hs 6 86 (by kernel_rfl) (by rfl)
                      have hR0' : v0 = _ := hR0
                      subst hR0'
                      have hB := hce.out W hC
                      exact ⟨wanted_no (j := 4) (d := 84) rfl (by rfl) hv9, _, run_ld rfl (ev hv0) (ld_code hB.1.2.2.2.2), rfl⟩
                    refine stepsL_cons (s_val fun a W hC hs => ?_) ?_
                    · obtain ⟨v9, hv9, hR9⟩ := got_of hs 4 84 (by kernel_rfl) (by rfl)
                      have hR9' : v9 = _ := hR9
                      subst hR9'
                      obtain ⟨v0, hv0, hR0⟩ := got_of hs 7 87 (by kernel_rfl) (by rfl)
                      have hR0' : v0 = _ := hR0
                      subst hR0'
                      exact ⟨wanted_no (j := 4) (d := 84) rfl (by rfl) hv9, _, run_len rfl (ev hv0) ln_code, rfl⟩
                    refine stepsL_cons (s_val fun a W hC hs => ?_) ?_
                    · obtain ⟨v9, hv9, hR9⟩ := got_of hs 4 84 (by kernel_rfl) (by rfl)
                      have hR9' : v9 = _ := hR9
                      subst hR9'
                      obtain ⟨v0, hv0, hR0⟩ := got_of hs 5 85 (by kernel_rfl) (by rfl)
                      have hR0' : v0 = _ := hR0
                      subst hR0'
                      obtain ⟨v1, hv1, hR1⟩ := got_of hs 8 88 (by kernel_rfl) (by rfl)
                      have hR1' : v1 = _ := hR1
                      subst hR1'
                      exact ⟨wanted_no (j := 4) (d := 84) rfl (by rfl) hv9, _, run_geq Tryd.underlying3 rfl (ev hv0) (ev hv1), by show Value.bool _ = _; rw [decide_eq_false (by omega)]⟩
                    refine stepsL_cons (s_val fun a W hC hs => ?_) ?_
                    · obtain ⟨v9, hv9, hR9⟩ := got_of hs 1 81 (by kernel_rfl) (by rfl)
                      have hR9' : v9 = _ := hR9
                      subst hR9'
                      obtain ⟨v0, hv0, hR0⟩ := got_of hs 4 84 (by kernel_rfl) (by rfl)
                      have hR0' : v0 = _ := hR0
                      subst hR0'
                      obtain ⟨v1, hv1, hR1⟩ := got_of hs 9 89 (by kernel_rfl) (by rfl)
                      have hR1' : v1 = _ := hR1
                      subst hR1'
                      exact ⟨wanted_true (j := 1) (d := 81) rfl (by rfl) hv9, _, run_pk rfl (ev hv0) (by rw [if_neg (by simp)]; exact ev hv1), rfl⟩
                    refine stepsL_cons (s_val fun a W hC hs => ?_) ?_
                    · obtain ⟨v0, hv0, hR0⟩ := got_of hs 1 81 (by kernel_rfl) (by rfl)
                      have hR0' : v0 = _ := hR0
                      subst hR0'
                      obtain ⟨v1, hv1, hR1⟩ := got_of hs 10 90 (by kernel_rfl) (by rfl)
                      have hR1' : v1 = _ := hR1
                      subst hR1'
                      exact ⟨wanted_none rfl, _, run_pk rfl (ev hv0) (by rw [if_pos rfl]; exact ev hv1), rfl⟩
                    refine stepsL_cons (s_val fun a W hC hs => ?_) ?_
                    · obtain ⟨v0, hv0, hR0⟩ := got_of hs 11 91 (by kernel_rfl) (by rfl)
                      have hR0' : v0 = _ := hR0
                      subst hR0'
                      exact ⟨wanted_none rfl, _, run_mv (Or.inl rfl) (ev hv0), rfl⟩
                    refine stepsL_cons (s_val fun a W hC hs => ?_) ?_
                    · obtain ⟨v9, hv9, hR9⟩ := got_of hs 12 92 (by kernel_rfl) (by rfl)
                      have hR9' : v9 = _ := hR9
                      subst hR9'
                      have ho := old_of hs 1 (by kernel_rfl) (by rfl)
                      have hB := hce.out W hC
                      exact ⟨wanted_no (j := 12) (d := 92) rfl (by rfl) hv9, _, run_ld rfl (ev ho) (load_pgB hB.2.2.1), rfl⟩
                    refine stepsL_cons (s_val fun a W hC hs => ?_) ?_
                    · obtain ⟨v9, hv9, hR9⟩ := got_of hs 12 92 (by kernel_rfl) (by rfl)
                      have hR9' : v9 = _ := hR9
                      subst hR9'
                      have ho := old_of hs 3 (by kernel_rfl) (by rfl)
                      exact ⟨wanted_no (j := 12) (d := 92) rfl (by rfl) hv9, _, run_mv (Or.inl rfl) (ev ho), rfl⟩
                    refine stepsL_cons (s_val fun a W hC hs => ?_) ?_
                    · obtain ⟨v9, hv9, hR9⟩ := got_of hs 12 92 (by kernel_rfl) (by rfl)
                      have hR9' : v9 = _ := hR9
                      subst hR9'
                      have ho := old_of hs 4 (by kernel_rfl) (by rfl)
                      exact ⟨wanted_no (j := 12) (d := 92) rfl (by rfl) hv9, _, run_fa rfl (ev ho) fl_fn4, rfl⟩
                    refine stepsL_cons (s_val fun a W hC hs => ?_) ?_
                    · obtain ⟨v9, hv9, hR9⟩ := got_of hs 12 92 (by kernel_rfl) (by rfl)
                      have hR9' : v9 = _ := hR9
                      subst hR9'
                      obtain ⟨v0, hv0, hR0⟩ := got_of hs 15 95 (by kernel_rfl) (by rfl)
                      have hR0' : v0 = _ := hR0
                      subst hR0'
                      have hB := hce.out W hC
                      exact ⟨wanted_no (j := 12) (d := 92) rfl (by rfl) hv9, _, run_ld rfl (ev hv0) (ld_code hB.1.2.2.2.2), rfl⟩
                    refine stepsL_cons (s_val fun a W hC hs => ?_) ?_
                    · obtain ⟨v9, hv9, hR9⟩ := got_of hs 12 92 (by kernel_rfl) (by rfl)
                      have hR9' : v9 = _ := hR9
                      subst hR9'
                      have ho := old_of hs 5 (by kernel_rfl) (by rfl)
                      exact ⟨wanted_no (j := 12) (d := 92) rfl (by rfl) hv9, _, run_mv (Or.inl rfl) (ev ho), rfl⟩
                    refine stepsL_cons (s_val fun a W hC hs => ?_) ?_
                    · obtain ⟨v9, hv9, hR9⟩ := got_of hs 12 92 (by kernel_rfl) (by rfl)
                      have hR9' : v9 = _ := hR9
                      subst hR9'
                      obtain ⟨v0, hv0, hR0⟩ := got_of hs 16 96 (by kernel_rfl) (by rfl)
                      have hR0' : v0 = _ := hR0
                      subst hR0'
                      obtain ⟨v1, hv1, hR1⟩ := got_of hs 17 97 (by kernel_rfl) (by rfl)
                      have hR1' : v1 = _ := hR1
                      subst hR1'
                      exact ⟨wanted_no (j := 12) (d := 92) rfl (by rfl) hv9, _, run_ix rfl (ev hv0) (ev hv1) (ix_in hk1), rfl⟩
                    refine stepsL_cons (s_val fun a W hC hs => ?_) ?_
                    · obtain ⟨v9, hv9, hR9⟩ := got_of hs 12 92 (by kernel_rfl) (by rfl)
                      have hR9' : v9 = _ := hR9
                      subst hR9'
                      obtain ⟨v0, hv0, hR0⟩ := got_of hs 18 98 (by kernel_rfl) (by rfl)
                      have hR0' : v0 = _ := hR0
                      subst hR0'
                      have hB := (hce.out W hC).2.1
                      exact ⟨wanted_no (j := 12) (d := 92) rfl (by rfl) hv9, _, run_ld rfl (ev hv0) (load_inB hB.1 hB.2.1 hB.2.2.1 hB.2.2.2.1 hB.2.2.2.2.1 hB.2.2.2.2.2), rfl⟩
                    refine stepsL_cons (s_call fun a W hC hs => ?_) ?_
                    · obtain ⟨v9, hv9, hR9⟩ := got_of hs 12 92 (by kernel_rfl) (by rfl)
                      have hR9' : v9 = _ := hR9
                      subst hR9'
                      obtain ⟨v0, hv0, hR0⟩ := got_of hs 13 93 (by kernel_rfl) (by rfl)
                      have hR0' : v0 = _ := hR0
                      subst hR0'
                      obtain ⟨v1, hv1, hR1⟩ := got_of hs 14 94 (by kernel_rfl) (by rfl)
                      have hR1' : v1 = _ := hR1
                      subst hR1'
                      obtain ⟨v2, hv2, hR2⟩ := got_of hs 19 99 (by kernel_rfl) (by rfl)
                      have hR2' : v2 = _ := hR2
                      subst hR2'
                      have hB := (hce.out W hC).2.2.2
                      refine ⟨wanted_no (j := 12) (d := 92) rfl (by rfl) hv9, 9, _, run_call3 rfl (ev hv0) (ev hv1) (ev hv2) (fun _ _ => rfl), (mayIns_any p n e W (hIe.out W hB).op (hIe.out W hB).row (hTV.out W hB) (hpV.out W hB).frow).mono ?_⟩
                      rintro e1 W' ⟨rfl, hb7⟩
                      exact ⟨_, rfl, hC.trans (hb7.mono hC.size), hb7, by show Value.bool _ = _; rw [hm2.out]⟩
                    refine stepsL_cons (s_val fun a W hC hs => ?_) ?_
                    · obtain ⟨v9, hv9, hR9⟩ := got_of hs 12 92 (by kernel_rfl) (by rfl)
                      have hR9' : v9 = _ := hR9
                      subst hR9'
                      obtain ⟨v0, hv0, hR0⟩ := got_of hs 20 100 (by kernel_rfl) (by rfl)
                      have hR0' : v0 = _ := hR0
                      subst hR0'
                      exact ⟨wanted_no (j := 12) (d := 92) rfl (by rfl) hv9, _, run_notB rfl (ev hv0), rfl⟩
                    refine stepsL_cons (s_val fun a W hC hs => ?_) ?_
                    · obtain ⟨v0, hv0, hR0⟩ := got_of hs 12 92 (by kernel_rfl) (by rfl)
                      have hR0' : v0 = _ := hR0
                      subst hR0'
                      obtain ⟨v1, hv1, hR1⟩ := got_of hs 21 101 (by kernel_rfl) (by rfl)
                      have hR1' : v1 = _ := hR1
                      subst hR1'
                      exact ⟨wanted_none rfl, _, run_pk rfl (ev hv0) (by rw [if_neg (by simp)]; exact ev hv1), rfl⟩
                    exact stepsL_nil
                  case het =>
                    intro σ V5 hC hR
                    generalize hF : fillL _ _ _ _ _ = F
                    simp [fillL, dstOf, List.range, List.range.loop, Act.put] at hF
                    subst hF
                    have h22 : σ 22 = .bool false := hR 22 (by simp)
                    rw [h22]
                    have hb9 := Lib.hid (hb6'.out.trans (hC.mono hb6'.out.size))
                    clear hR h22 hce hb6' hC
                    go_wp2_with fail
                    go_roundw
                    case rel => exact ⟨k + 1, by omega, by go_num, hb9⟩
                    case measure => simp [intOf]; omega
                | false =>
                  refine wp_region_rel (C := fun V => Below V4.heap.size V4 V) (E := Ext) (R := fun j => (rg0 p n k B bc offc f e f.ccap).getD j VT) (by kernel_rfl) ((Below.refl _ _).drew) (by kernel_rfl) (fun j v w' w'' _ hE h => mono_get _ j rg0_mono v w' w'' hE h) (steps_all ?hsn) ?hen
                  case hsn =>
                    refine stepsL_cons (s_val fun a W hC hs => ?_) ?_
                    · have ho := old_of hs 11 (by kernel_rfl) (by rfl)
                      exact ⟨wanted_none rfl, _, run_mv (Or.inl rfl) (ev ho), rfl⟩
                    refine stepsL_cons (s_val fun a W hC hs => ?_) ?_
                    · obtain ⟨v0, hv0, hR0⟩ := got_of hs 0 80 (by kernel_rfl) (by rfl)
                      have hR0' : v0 = _ := hR0
                      subst hR0'
                      exact ⟨wanted_none rfl, _, run_mv (Or.inl rfl) (ev hv0), rfl⟩
                    refine stepsL_cons (s_skip (fun a W hC hs => ?_) (fun _ => rfl)) ?_
                    · obtain ⟨v9, hv9, hR9⟩ := got_of hs 1 81 (by kernel_rfl) (by rfl)
                      have hR9' : v9 = _ := hR9
                      subst hR9'
                      exact wanted_not (j := 1) (d := 81) rfl (by rfl) hv9
                    refine stepsL_cons (s_skip (fun a W hC hs => ?_) (fun _ => rfl)) ?_
                    · obtain ⟨v9, hv9, hR9⟩ := got_of hs 1 81 (by kernel_rfl) (by rfl)
                      have hR9' : v9 = _ := hR9
                      subst hR9'
                      exact wanted_not (j := 1) (d := 81) rfl (by rfl) hv9
                    refine stepsL_cons (s_skip (fun a W hC hs => ?_) (fun _ => rfl)) ?_
                    · obtain ⟨v9, hv9, hR9⟩ := got_of hs 1 81 (by kernel_rfl) (by rfl)
                      have hR9' : v9 = _ := hR9
                      subst hR9'
                      exact wanted_not (j := 1) (d := 81) rfl (by rfl) hv9
                    refine stepsL_cons (s_skip (fun a W hC hs => ?_) (fun _ => rfl)) ?_
                    · obtain ⟨v9, hv9, hR9⟩ := got_of hs 4 84 (by kernel_rfl) (by rfl)
                      have hR9' : v9 = _ := hR9
                      subst hR9'
                      exact wanted_undef (j := 4) (d := 84) rfl (by rfl) hv9
                    refine stepsL_cons (s_skip (fun a W hC hs => ?_) (fun _ => rfl)) ?_
                    · obtain ⟨v9, hv9, hR9⟩ := got_of hs 4 84 (by kernel_rfl) (by rfl)
                      have hR9' : v9 = _ := hR9
                      subst hR9'
                      exact wanted_undef (j := 4) (d := 84) rfl (by rfl) hv9
                    refine stepsL_cons (s_skip (fun a W hC hs => ?_) (fun _ => rfl)) ?_
                    · obtain ⟨v9, hv9, hR9⟩ := got_of hs 4 84 (by kernel_rfl) (by rfl)
                      have hR9' : v9 = _ := hR9
                      subst hR9'
                      exact wanted_undef (j := 4) (d := 84) rfl (by rfl) hv9
                    refine stepsL_cons (s_skip (fun a W hC hs => ?_) (fun _ => rfl)) ?_
                    · obtain ⟨v9, hv9, hR9⟩ := got_of hs 4 84 (by kernel_rfl) (by rfl)
                      have hR9' : v9 = _ := hR9
                      subst hR9'
                      exact wanted_undef (j := 4) (d := 84) rfl (by rfl) hv9
                    refine stepsL_cons (s_skip (fun a W hC hs => ?_) (fun _ => rfl)) ?_
                    · obtain ⟨v9, hv9, hR9⟩ := got_of hs 4 84 (by kernel_rfl) (by rfl)
                      have hR9' : v9 = _ := hR9
                      subst hR9'
                      exact wanted_undef (j := 4) (d := 84) rfl (by rfl) hv9
                    refine stepsL_cons (s_skip (fun a W hC hs => ?_) (fun _ => rfl)) ?_
                    · obtain ⟨v9, hv9, hR9⟩ := got_of hs 1 81 (by kernel_rfl) (by rfl)
                      have hR9' : v9 = _ := hR9
                      subst hR9'
                      exact wanted_not (j := 1) (d := 81) rfl (by rfl) hv9
                    refine stepsL_cons (s_val fun a W hC hs => ?_) ?_
                    · obtain ⟨v0, hv0, hR0⟩ := got_of hs 1 81 (by kernel_rfl) (by rfl)
                      have hR0' : v0 = _ := hR0
                      subst hR0'
                      exact ⟨wanted_none rfl, _, run_pk rfl (ev hv0) (by rw [if_neg (by simp)]; exact ev_const _), rfl⟩
                    refine stepsL_cons (s_val fun a W hC hs => ?_) ?_
                    · obtain ⟨v0, hv0, hR0⟩ := got_of hs 11 91 (by kernel_rfl) (by rfl)
                      have hR0' : v0 = _ := hR0
                      subst hR0'
                      exact ⟨wanted_none rfl, _, run_mv (Or.inl rfl) (ev hv0), rfl⟩
                    refine stepsL_cons (s_val fun a W hC hs => ?_) ?_
                    · obtain ⟨v9, hv9, hR9⟩ := got_of hs 12 92 (by kernel_rfl) (by rfl)
                      have hR9' : v9 = _ := hR9
                      subst hR9'
                      have ho := old_of hs 1 (by kernel_rfl) (by rfl)
                      have hB := hce.out W hC
                      exact ⟨wanted_no (j := 12) (d := 92) rfl (by rfl) hv9, _, run_ld rfl (ev ho) (load_pgB hB.2.2.1), rfl⟩
                    refine stepsL_cons (s_val fun a W hC hs => ?_) ?_
                    · obtain ⟨v9, hv9, hR9⟩ := got_of hs 12 92 (by kernel_rfl) (by rfl)
                      have hR9' : v9 = _ := hR9
                      subst hR9'
                      have ho := old_of hs 3 (by kernel_rfl) (by rfl)
                      exact ⟨wanted_no (j := 12) (d := 92) rfl (by rfl) hv9, _, run_mv (Or.inl rfl) (ev ho), rfl⟩
                    refine stepsL_cons (s_val fun a W hC hs => ?_) ?_
                    · obtain ⟨v9, hv9, hR9⟩ := got_of hs 12 92 (by kernel_rfl) (by rfl)
                      have hR9' : v9 = _ := hR9
                      subst hR9'
                      have ho := old_of hs 4 (by kernel_rfl) (by rfl)
                      exact ⟨wanted_no (j := 12) (d := 92) rfl (by rfl) hv9, _, run_fa rfl (ev ho) fl_fn4, rfl⟩
                    refine stepsL_cons (s_val fun a W hC hs => ?_) ?_
                    · obtain ⟨v9, hv9, hR9⟩ := got_of hs 12 92 (by kernel_rfl) (by rfl)
                      have hR9' : v9 = _ := hR9
                      subst hR9'
                      obtain ⟨v0, hv0, hR0⟩ := got_of hs 15 95 (by kernel_rfl) (by rfl)
                      have hR0' : v0 = _ := hR0
                      subst hR0'
                      have hB := hce.out W hC
                      exact ⟨wanted_no (j := 12) (d := 92) rfl (by rfl) hv9, _, run_ld rfl (ev hv0) (ld_code hB.1.2.2.2.2), rfl⟩
                    refine stepsL_cons (s_val fun a W hC hs => ?_) ?_
                    · obtain ⟨v9, hv9, hR9⟩ := got_of hs 12 92 (by kernel_rfl) (by rfl)
                      have hR9' : v9 = _ := hR9
                      subst hR9'
                      have ho := old_of hs 5 (by kernel_rfl) (by rfl)
                      exact ⟨wanted_no (j := 12) (d := 92) rfl (by rfl) hv9, _, run_mv (Or.inl rfl) (ev ho), rfl⟩
                    refine stepsL_cons (s_val fun a W hC hs => ?_) ?_
                    · obtain ⟨v9, hv9, hR9⟩ := got_of hs 12 92 (by kernel_rfl) (by rfl)
                      have hR9' : v9 = _ := hR9
                      subst hR9'
                      obtain ⟨v0, hv0, hR0⟩ := got_of hs 16 96 (by kernel_rfl) (by rfl)
                      have hR0' : v0 = _ := hR0
                      subst hR0'
                      obtain ⟨v1, hv1, hR1⟩ := got_of hs 17 97 (by kernel_rfl) (by rfl)
                      have hR1' : v1 = _ := hR1
                      subst hR1'
                      exact ⟨wanted_no (j := 12) (d := 92) rfl (by rfl) hv9, _, run_ix rfl (ev hv0) (ev hv1) (ix_in hk1), rfl⟩
                    refine stepsL_cons (s_val fun a W hC hs => ?_) ?_
                    · obtain ⟨v9, hv9, hR9⟩ := got_of hs 12 92 (by kernel_rfl) (by rfl)
                      have hR9' : v9 = _ := hR9
                      subst hR9'
                      obtain ⟨v0, hv0, hR0⟩ := got_of hs 18 98 (by kernel_rfl) (by rfl)
                      have hR0' : v0 = _ := hR0
                      subst hR0'
                      have hB := (hce.out W hC).2.1
                      exact ⟨wanted_no (j := 12) (d := 92) rfl (by rfl) hv9, _, run_ld rfl (ev hv0) (load_inB hB.1 hB.2.1 hB.2.2.1 hB.2.2.2.1 hB.2.2.2.2.1 hB.2.2.2.2.2), rfl⟩
                    refine stepsL_cons (s_call fun a W hC hs => ?_) ?_
                    · obtain ⟨v9, hv9, hR9⟩ := got_of hs 12 92 (by kernel_rfl) (by rfl)
                      have hR9' : v9 = _ := hR9
                      subst hR9'
                      obtain ⟨v0, hv0, hR0⟩ := got_of hs 13 93 (by kernel_rfl) (by rfl)
                      have hR0' : v0 = _ := hR0
                      subst hR0'
                      obtain ⟨v1, hv1, hR1⟩ := got_of hs 14 94 (by kernel_rfl) (by rfl)
                      have hR1' : v1 = _ := hR1
                      subst hR1'
                      obtain ⟨v2, hv2, hR2⟩ := got_of hs 19 99 (by kernel_rfl) (by rfl)
                      have hR2' : v2 = _ := hR2
                      subst hR2'
                      have hB := (hce.out W hC).2.2.2
                      refine ⟨wanted_no (j := 12) (d := 92) rfl (by rfl) hv9, 9, _, run_call3 rfl (ev hv0) (ev hv1) (ev hv2) (fun _ _ => rfl), (mayIns_any p n e W (hIe.out W hB).op (hIe.out W hB).row (hTV.out W hB) (hpV.out W hB).frow).mono ?_⟩
                      rintro e1 W' ⟨rfl, hb7⟩
                      exact ⟨_, rfl, hC.trans (hb7.mono hC.size), hb7, by show Value.bool _ = _; rw [hm2.out]⟩
                    refine stepsL_cons (s_val fun a W hC hs => ?_) ?_
                    · obtain ⟨v9, hv9, hR9⟩ := got_of hs 12 92 (by kernel_rfl) (by rfl)
                      have hR9' : v9 = _ := hR9
                      subst hR9'
                      obtain ⟨v0, hv0, hR0⟩ := got_of hs 20 100 (by kernel_rfl) (by rfl)
                      have hR0' : v0 = _ := hR0
                      subst hR0'
                      exact ⟨wanted_no (j := 12) (d := 92) rfl (by rfl) hv9, _, run_notB rfl (ev hv0), rfl⟩
                    refine stepsL_cons (s_val fun a W hC hs => ?_) ?_
                    · obtain ⟨v0, hv0, hR0⟩ := got_of hs 12 92 (by kernel_rfl) (by rfl)
                      have hR0' : v0 = _ := hR0
                      subst hR0'
                      obtain ⟨v1, hv1, hR1⟩ := got_of hs 21 101 (by kernel_rfl) (by rfl)
                      have hR1' : v1 = _ := hR1
                      subst hR1'
                      exact ⟨wanted_none rfl, _, run_pk rfl (ev hv0) (by rw [if_neg (by simp)]; exact ev hv1), rfl⟩
                    exact stepsL_nil
                  case hen =>
                    intro σ V5 hC hR
                    generalize hF : fillL _ _ _ _ _ = F
                    simp [fillL, dstOf, List.range, List.range.loop, Act.put] at hF
                    subst hF
                    have h22 : σ 22 = .bool false := hR 22 (by simp)
                    rw [h22]
                    have hb9 := Lib.hid (hb6'.out.trans (hC.mono hb6'.out.size))
                    clear hR h22 hce hb6' hC
                    go_wp2_with fail
                    go_roundw
                    case rel => exact ⟨k + 1, by omega, by go_num, hb9⟩
                    case measure => simp [intOf]; omega
        · have hkk : k = f.code.length := by omega
          subst hkk
          have hk1 : ¬ ((f.code.length : Int) < (f.code.length : Int)) := by omega
          have hbO := Lib.hid hbW
          clear hfc hFV hfa hmay
          go_wp2_with fail
          go_roundw
          case rel => exact ⟨n + 1, by omega, by go_num, hbO⟩
          case measure => simp [intOf]; omega
    · have hi1 : ¬ (n : Int) < (p.funs.length : Int) := by omega
      clear hpV hTV hargs hm'
      go_wp2_with fail
      go_ret
      exact ⟨rfl, hbw⟩
end Go.Proofs.YtiicjbnocpphdaaDoor.Cd
