/- What is looked at without a fault is so in another program too, that has what it names; plain. Conditions: none. · What is gathered of statements: new names, callees; plain. Conditions: none. · Programs without a fault: with other declarations; their local ones; plain. Conditions: none. · A fault says something; plain. Conditions: none. · What may be: each part is of a Kind, with as many parts as it has. Conditions: none. · What may be: statements within others alone where there may be some. Conditions: none. -/
import Derived.Test.YtpcdlneompnhlaaGreatDoorTyP1
import Derived.Test.YtpcdlneompnhlaaGreatDoorTyV0
import Derived.Test.YtpcdlneompnhlaaGreatDoorTyG
import Derived.Test.YtpcdlneompnhlaaGreatDoorTrK
namespace Go.Proofs.YtpcdlneompnhlaaGreatDoor.Ty
open Go Go.RowKit
open Go.Proofs.YtpcdlneompnhlaaGreatDoor.Lx Go.Proofs.YtpcdlneompnhlaaGreatDoor.Tr

mutual
/-- the names that calls name in a statement -/
def callN : St → List ByteArray
  | .mk k nm _ _ _ _ _ _ _ body _ _ els _ => (if k = 8 then [nm] else []) ++ (callNL body ++ callNL els)
def callNL : List St → List ByteArray
  | [] => []
  | x :: r => callN x ++ callNL r
end
mutual
/-- the names that are new in a statement -/
def newN : St → List ByteArray
  | .mk k nm to new _ _ _ _ _ body _ _ els _ => (if k = 1 then [nm] else if k = 8 ∧ new = true then [to] else []) ++ (newNL body ++ newNL els)
def newNL : List St → List ByteArray
  | [] => []
  | x :: r => newN x ++ newNL r
end
mutual
/-- there are statements in those alone that have some -/
def okR : St → Prop
  | .mk k _ _ _ _ _ _ _ _ body _ _ els _ => ((k ≠ 4 → k ≠ 5 → k ≠ 6 → body = []) ∧ (k ≠ 4 → els = [])) ∧ okRL body ∧ okRL els
def okRL : List St → Prop
  | [] => True
  | x :: r => okR x ∧ okRL r
end
theorem callN_eq (k : Int) (nm to : ByteArray) (new : Bool) (ea : Option Addr) (ec : Nat) (e : List Ex) (ba : Option Addr) (bc : Nat) (body : List St) (la : Option Addr) (lc : Nat) (els : List St) (pos : Int) : callN (.mk k nm to new ea ec e ba bc body la lc els pos) = (if k = 8 then [nm] else []) ++ (callNL body ++ callNL els) := by conv => lhs; unfold callN
theorem newN_eq (k : Int) (nm to : ByteArray) (new : Bool) (ea : Option Addr) (ec : Nat) (e : List Ex) (ba : Option Addr) (bc : Nat) (body : List St) (la : Option Addr) (lc : Nat) (els : List St) (pos : Int) : newN (.mk k nm to new ea ec e ba bc body la lc els pos) = (if k = 1 then [nm] else if k = 8 ∧ new = true then [to] else []) ++ (newNL body ++ newNL els) := by conv => lhs; unfold newN
theorem okR_eq (k : Int) (nm to : ByteArray) (new : Bool) (ea : Option Addr) (ec : Nat) (e : List Ex) (ba : Option Addr) (bc : Nat) (body : List St) (la : Option Addr) (lc : Nat) (els : List St) (pos : Int) : okR (.mk k nm to new ea ec e ba bc body la lc els pos) = (((k ≠ 4 → k ≠ 5 → k ≠ 6 → body = []) ∧ (k ≠ 4 → els = [])) ∧ okRL body ∧ okRL els) := by conv => lhs; unfold okR
theorem callNL_nil : callNL [] = [] := by unfold callNL; rfl
theorem callNL_cons (x : St) (r : List St) : callNL (x :: r) = callN x ++ callNL r := by conv => lhs; unfold callNL
theorem newNL_nil : newNL [] = [] := by unfold newNL; rfl
theorem newNL_cons (x : St) (r : List St) : newNL (x :: r) = newN x ++ newNL r := by conv => lhs; unfold newNL
theorem okRL_cons (x : St) (r : List St) : okRL (x :: r) = (okR x ∧ okRL r) := by conv => lhs; unfold okRL

/-- what is found is found in another program too, but for bad names, that are of funcs or threads -/
structure Tp (ds : List De) (D : List (ByteArray × Nat)) (ds' : List De) (D' : List (ByteArray × Nat)) (bad : ByteArray → Prop) : Prop where
  keep : ∀ nm i d, findA D nm = some i → ds[i]? = some d → ¬ bad nm → ∃ i' d', findA D' nm = some i' ∧ ds'[i']? = some d' ∧ d'.kind = d.kind ∧ d'.params.length = d.params.length
  back : ∀ nm, findA D nm = none → findA D' nm = none
  kinds : ∀ nm i d, findA D nm = some i → ds[i]? = some d → bad nm → d.kind = 4 ∨ d.kind = 5

theorem findK_inv {ds : List De} {D : List (ByteArray × Nat)} {K : List (ByteArray × Int)} {nm : ByteArray} {kind at_ : Int} {i : Nat} (h : findK ds D K nm kind at_ = .ok i) : findA D nm = some i ∧ ∃ d, ds[i]? = some d ∧ d.kind = kind := by
  unfold findK at h
  cases hD : findA D nm with
  | none =>
    rw [hD] at h
    cases hK : findA K nm <;> rw [hK] at h <;> cases h
  | some j =>
    rw [hD] at h
    simp only at h
    cases hd : ds[j]? with
    | none => rw [hd] at h; cases h
    | some d =>
      rw [hd] at h
      simp only at h
      by_cases hk : d.kind = kind
      · rw [if_pos hk] at h
        cases h
        exact ⟨rfl, d, hd, hk⟩
      · rw [if_neg hk] at h; cases h
theorem findK_mk {ds : List De} {D : List (ByteArray × Nat)} {K : List (ByteArray × Int)} {nm : ByteArray} {kind at_ : Int} {i : Nat} {d : De} (h : findA D nm = some i) (hd : ds[i]? = some d) (hk : d.kind = kind) : findK ds D K nm kind at_ = .ok i := by
  unfold findK
  rw [h]
  simp only
  rw [hd]
  simp only
  rw [if_pos hk]
theorem findK_tp {ds ds' : List De} {D D' : List (ByteArray × Nat)} {bad : ByteArray → Prop} (T : Tp ds D ds' D' bad) {K : List (ByteArray × Int)} {nm : ByteArray} {kind at_ : Int} {i : Nat} (hk : kind < 4 ∨ ¬ bad nm) (h : findK ds D K nm kind at_ = .ok i) :
    ∃ i' d d', findK ds' D' K nm kind at_ = .ok i' ∧ ds[i]? = some d ∧ ds'[i']? = some d' ∧ d'.params.length = d.params.length := by
  obtain ⟨h1, d, hd, hdk⟩ := findK_inv h
  have hb : ¬ bad nm := by
    rcases hk with hk | hk
    · intro hb
      have := T.kinds nm i d h1 hd hb
      omega
    · exact hk
  obtain ⟨i', d', k1, k2, k3, k4⟩ := T.keep nm i d h1 hd hb
  exact ⟨i', d, d', findK_mk k1 k2 (k3.trans hdk), hd, k2, k4⟩
theorem varK_tp {ds ds' : List De} {D D' : List (ByteArray × Nat)} {bad : ByteArray → Prop} (T : Tp ds D ds' D' bad) {K : List (ByteArray × Int)} {nm : ByteArray} {at_ t : Int} (h : varK ds D K nm at_ = .ok t) : varK ds' D' K nm at_ = .ok t := by
  unfold varK at h ⊢
  cases hK : findA K nm with
  | some k => rw [hK] at h; exact h
  | none =>
    rw [hK] at h
    simp only at h ⊢
    cases hf : findK ds D K nm 1 at_ with
    | error q => rw [hf] at h; cases h
    | ok i =>
      obtain ⟨i', _, _, h', _⟩ := findK_tp T (Or.inl (by decide)) hf
      rw [hf] at h
      rw [h']
      exact h
mutual
theorem exK_tp {ds ds' : List De} {D D' : List (ByteArray × Nat)} {bad : ByteArray → Prop} (T : Tp ds D ds' D' bad) {K : List (ByteArray × Int)} : ∀ (e : Ex) (t : Int), exK ds D K e = .ok t → exK ds' D' K e = .ok t
  | .mk k nm n a cap args pos, t, h => by
    have hw := fun u => wantK_tp T (K := K) u args
    rw [exK_eq] at h ⊢
    split at h
    · rename_i h1; rw [if_pos h1]; exact varK_tp T h
    · rename_i h1; rw [if_neg h1]
      split at h
      · rename_i h2; rw [if_pos h2]
        cases hf : findK ds D K nm 2 pos with
        | error q => rw [hf] at h; cases h
        | ok i =>
          obtain ⟨i', _, _, h', _⟩ := findK_tp T (Or.inl (by decide)) hf
          rw [hf] at h
          rw [h']
          simp only at h ⊢
          cases hq : wantK ds D K 1 args with
          | error q => rw [hq] at h; cases h
          | ok u => rw [hq] at h; rw [hw 1 hq]; exact h
      · rename_i h2; rw [if_neg h2]
        split at h
        · rename_i h3; rw [if_pos h3]
          cases hq : wantK ds D K 2 args with
          | error q => rw [hq] at h; cases h
          | ok u => rw [hq] at h; rw [hw 2 hq]; exact h
        · rename_i h3; rw [if_neg h3]
          split at h
          · rename_i h4; rw [if_pos h4]
            cases hq : wantK ds D K 1 args with
            | error q => rw [hq] at h; cases h
            | ok u => rw [hq] at h; rw [hw 1 hq]; exact h
          · rename_i h4; rw [if_neg h4]
            cases hq : wantK ds D K 1 args with
            | error q => rw [hq] at h; cases h
            | ok u => rw [hq] at h; rw [hw 1 hq]; exact h
theorem wantK_tp {ds ds' : List De} {D D' : List (ByteArray × Nat)} {bad : ByteArray → Prop} (T : Tp ds D ds' D' bad) {K : List (ByteArray × Int)} (t : Int) : ∀ (l : List Ex), wantK ds D K t l = .ok () → wantK ds' D' K t l = .ok ()
  | [], _ => by rw [wantK_nil]
  | e :: r, h => by
    rw [wantK_cons] at h ⊢
    cases he : exK ds D K e with
    | error q => rw [he] at h; cases h
    | ok k =>
      rw [he] at h
      rw [exK_tp T e k he]
      simp only at h ⊢
      split at h
      · rename_i hk; rw [if_pos hk]; exact wantK_tp T t r h
      · cases h
end
theorem findA_none {β : Type} : ∀ {L : List (ByteArray × β)} {s : ByteArray}, findA L s = none ↔ s ∉ L.map Prod.fst
  | [], s => by simp [findA]
  | x :: r, s => by
    unfold findA
    by_cases hx : x.1 = s
    · rw [if_pos hx]; simp [hx]
    · rw [if_neg hx, findA_none (L := r)]
      simp only [List.map_cons, List.mem_cons, not_or]
      exact ⟨fun h => ⟨fun e => hx e.symm, h⟩, fun h => h.2⟩
theorem putA_new {β : Type} : ∀ {L : List (ByteArray × β)} {s : ByteArray} {v : β}, findA L s = none → putA L s v = L ++ [(s, v)]
  | [], _, _, _ => rfl
  | x :: r, s, v, h => by
    unfold findA at h
    unfold putA
    split at h
    · cases h
    · rename_i hx
      rw [if_neg hx, putA_new h]
      rfl
theorem declK_ok {D : List (ByteArray × Nat)} {p q : PS} {nm : ByteArray} {k at_ : Int} (h : declK D p nm k at_ = .ok q) : findA p.dec nm = none ∧ findA D nm = none ∧ q = { p with dec := p.dec ++ [(nm, ())], kn := putA p.kn nm k } := by
  unfold declK at h
  split at h
  · cases h
  · rename_i hn
    rw [not_or] at hn
    have h1 : findA p.dec nm = none := by
      cases hf : findA p.dec nm with
      | none => rfl
      | some u => rw [hf] at hn; exact absurd rfl hn.1
    have h2 : findA D nm = none := by
      cases hf : findA D nm with
      | none => rfl
      | some u => rw [hf] at hn; exact absurd rfl hn.2
    rw [putA_new h1] at h
    cases h
    exact ⟨h1, h2, rfl⟩
theorem declK_mk {D : List (ByteArray × Nat)} {p : PS} {nm : ByteArray} {k at_ : Int} (h1 : findA p.dec nm = none) (h2 : findA D nm = none) : declK D p nm k at_ = .ok { p with dec := p.dec ++ [(nm, ())], kn := putA p.kn nm k } := by
  unfold declK
  rw [h1, h2, if_neg (by simp), putA_new h1]
theorem declK_tp {D D' : List (ByteArray × Nat)} (hb : ∀ nm, findA D nm = none → findA D' nm = none) {p q : PS} (cs : List (List Nat)) {nm : ByteArray} {k at_ : Int} (h : declK D p nm k at_ = .ok q) : ∃ cs', declK D' ⟨p.dec, p.kn, cs⟩ nm k at_ = .ok ⟨q.dec, q.kn, cs'⟩ := by
  obtain ⟨h1, h2, rfl⟩ := declK_ok h
  exact ⟨_, declK_mk (p := ⟨p.dec, p.kn, cs⟩) h1 (hb nm h2)⟩
theorem answerK_ok {D D' : List (ByteArray × Nat)} {K : List (ByteArray × Int)} {to : ByteArray} {at_ : Int} (h : answerK D K to at_ = .ok ()) : answerK D' K to at_ = .ok () := by
  unfold answerK at h ⊢
  cases hK : findA K to with
  | none => rw [hK] at h; simp only at h; cases hD : findA D to <;> rw [hD] at h <;> cases h
  | some k => rw [hK] at h; exact h
theorem callK_inv {ds : List De} {D : List (ByteArray × Nat)} {pos : Nat} {p q : PS} {nm to : ByteArray} {new : Bool} {e : List Ex} {at_ : Int} (h : callK ds D pos p nm to new e at_ = .ok q) :
    ∃ i d, findK ds D p.kn nm 4 at_ = .ok i ∧ ds[i]? = some d ∧ d.params.length = e.length ∧ wantK ds D p.kn 1 e = .ok () ∧ ((new = true ∧ declK D { p with calls := addCall p.calls pos i } to 1 at_ = .ok q) ∨ (new = false ∧ q = { p with calls := addCall p.calls pos i } ∧ (to = ⟨#[]⟩ ∨ answerK D p.kn to at_ = .ok ()))) := by
  unfold callK at h
  cases hf : findK ds D p.kn nm 4 at_ with
  | error x => rw [hf] at h; cases h
  | ok i =>
    rw [hf] at h
    simp only at h
    obtain ⟨_, d, hd, _⟩ := findK_inv hf
    rw [hd] at h
    simp only at h
    by_cases hl : d.params.length ≠ e.length
    · rw [if_pos hl] at h; cases h
    · rw [if_neg hl] at h
      have hl2 : d.params.length = e.length := by omega
      cases hw : wantK ds D p.kn 1 e with
      | error x => rw [hw] at h; cases h
      | ok u =>
        rw [hw] at h
        simp only at h
        refine ⟨i, d, rfl, hd, hl2, rfl, ?_⟩
        cases new with
        | true => rw [if_pos rfl] at h; exact Or.inl ⟨rfl, h⟩
        | false =>
          rw [if_neg (by decide)] at h
          by_cases ht : to = ⟨#[]⟩
          · rw [if_pos ht] at h; cases h; exact Or.inr ⟨rfl, rfl, Or.inl ht⟩
          · rw [if_neg ht] at h
            cases ha : answerK D p.kn to at_ with
            | error x => rw [ha] at h; cases h
            | ok u => rw [ha] at h; simp only at h; cases h; exact Or.inr ⟨rfl, rfl, Or.inr rfl⟩
theorem callK_tp {ds ds' : List De} {D D' : List (ByteArray × Nat)} {bad : ByteArray → Prop} (T : Tp ds D ds' D' bad) {pos pos' : Nat} {p q : PS} (cs : List (List Nat)) {nm to : ByteArray} {new : Bool} {e : List Ex} {at_ : Int} (hn : ¬ bad nm) (h : callK ds D pos p nm to new e at_ = .ok q) : ∃ cs', callK ds' D' pos' ⟨p.dec, p.kn, cs⟩ nm to new e at_ = .ok ⟨q.dec, q.kn, cs'⟩ := by
  obtain ⟨i, d, h1, h2, h3, h4, h5⟩ := callK_inv h
  obtain ⟨i', d0, d', k1, k2, k3, k4⟩ := findK_tp T (Or.inr hn) h1
  rw [h2] at k2; cases k2
  have hw := wantK_tp T 1 e h4
  unfold callK
  rw [k1]
  simp only
  rw [k3]
  simp only
  rw [if_neg (by rw [k4, h3]; simp), hw]
  simp only
  rcases h5 with ⟨rfl, h5⟩ | ⟨rfl, rfl, h5⟩
  · rw [if_pos rfl]
    exact declK_tp T.back (p := { p with calls := addCall p.calls pos i }) _ h5
  · rw [if_neg (by decide)]
    by_cases ht : to = ⟨#[]⟩
    · rw [if_pos ht]; exact ⟨_, rfl⟩
    · rw [if_neg ht]
      rcases h5 with h5 | h5
      · exact absurd h5 ht
      · rw [answerK_ok (D' := D') h5]
        exact ⟨_, rfl⟩
mutual
theorem stK_tp {ds ds' : List De} {D D' : List (ByteArray × Nat)} {bad : ByteArray → Prop} (T : Tp ds D ds' D' bad) {pos pos' : Nat} : ∀ (x : St) (last : Bool) (p q : PS) (cs : List (List Nat)), (∀ nm ∈ callN x, ¬ bad nm) → stK ds D pos last p x = .ok q → ∃ cs', stK ds' D' pos' last ⟨p.dec, p.kn, cs⟩ x = .ok ⟨q.dec, q.kn, cs'⟩
  | .mk k nm to new ea ec e ba bc body la lc els at_, last, p, q, cs, hn, h => by
    rw [callN_eq] at hn
    have hb := fun p q cs => listK_tp T (pos' := pos') (pos := pos) body false p q cs (fun nm h => hn nm (List.mem_append_right _ (List.mem_append_left _ h)))
    have hl := fun p q cs => listK_tp T (pos' := pos') (pos := pos) els false p q cs (fun nm h => hn nm (List.mem_append_right _ (List.mem_append_right _ h)))
    have hw := fun u (h : wantK ds D p.kn u e = .ok ()) => wantK_tp T (K := p.kn) u e h
    rw [stK_eq] at h ⊢
    by_cases h1 : k = 1
    · rw [if_pos h1] at h ⊢
      cases e with
      | nil => cases h
      | cons x r =>
        simp only at h ⊢
        cases hx : exK ds D p.kn x with
        | error y => rw [hx] at h; cases h
        | ok t =>
          rw [hx] at h
          rw [exK_tp T x t hx]
          exact declK_tp T.back _ h
    · rw [if_neg h1] at h ⊢
      by_cases h2 : k = 2
      · rw [if_pos h2] at h ⊢
        cases hv : varK ds D p.kn nm at_ with
        | error y => rw [hv] at h; cases h
        | ok t =>
          rw [hv] at h
          rw [varK_tp T hv]
          simp only at h ⊢
          cases hq : wantK ds D p.kn t e with
          | error y => rw [hq] at h; cases h
          | ok u => rw [hq] at h; rw [hw t hq]; cases h; exact ⟨_, rfl⟩
      · rw [if_neg h2] at h ⊢
        by_cases h3 : k = 3
        · rw [if_pos h3] at h ⊢
          cases hf : findK ds D p.kn nm 2 at_ with
          | error y => rw [hf] at h; cases h
          | ok i =>
            obtain ⟨i', _, _, h', _⟩ := findK_tp T (Or.inl (by decide)) hf
            rw [hf] at h
            rw [h']
            simp only at h ⊢
            cases hq : wantK ds D p.kn 1 e with
            | error y => rw [hq] at h; cases h
            | ok u => rw [hq] at h; rw [hw 1 hq]; cases h; exact ⟨_, rfl⟩
        · rw [if_neg h3] at h ⊢
          by_cases h4 : k = 4 ∨ k = 5
          · rw [if_pos h4] at h ⊢
            cases hq : wantK ds D p.kn 2 e with
            | error y => rw [hq] at h; cases h
            | ok u =>
              rw [hq] at h
              rw [hw 2 hq]
              simp only at h ⊢
              unfold blockK at h ⊢
              cases hB : listK ds D pos false p body with
              | error y => rw [hB] at h; cases h
              | ok p1 =>
                rw [hB] at h
                obtain ⟨c1, hB'⟩ := hb p p1 cs hB
                rw [hB']
                simp only at h ⊢
                cases hE : listK ds D pos false { p1 with kn := p.kn } els with
                | error y => rw [hE] at h; cases h
                | ok p2 =>
                  rw [hE] at h
                  obtain ⟨c2, hE'⟩ := hl { p1 with kn := p.kn } p2 c1 hE
                  rw [hE']
                  cases h
                  exact ⟨_, rfl⟩
          · rw [if_neg h4] at h ⊢
            by_cases h6 : k = 6
            · rw [if_pos h6] at h ⊢
              cases hf : findK ds D p.kn nm 3 at_ with
              | error y => rw [hf] at h; cases h
              | ok i =>
                obtain ⟨i', _, _, h', _⟩ := findK_tp T (Or.inl (by decide)) hf
                rw [hf] at h
                rw [h']
                simp only at h ⊢
                unfold blockK at h ⊢
                cases hB : listK ds D pos false p body with
                | error y => rw [hB] at h; cases h
                | ok p1 =>
                  rw [hB] at h
                  obtain ⟨c1, hB'⟩ := hb p p1 cs hB
                  rw [hB']
                  cases h
                  exact ⟨_, rfl⟩
            · rw [if_neg h6] at h ⊢
              by_cases h7 : k = 7
              · rw [if_pos h7] at h ⊢
                cases hq : wantK ds D p.kn 1 e with
                | error y => rw [hq] at h; cases h
                | ok u => rw [hq] at h; rw [hw 1 hq]; cases h; exact ⟨_, rfl⟩
              · rw [if_neg h7] at h ⊢
                by_cases h8 : k = 8
                · rw [if_pos h8] at h ⊢
                  exact callK_tp T _ (hn nm (by rw [if_pos h8]; simp)) h
                · rw [if_neg h8] at h ⊢
                  by_cases h9 : last = true
                  · rw [if_pos h9] at h ⊢
                    cases hq : wantK ds D p.kn 1 e with
                    | error y => rw [hq] at h; cases h
                    | ok u => rw [hq] at h; rw [hw 1 hq]; cases h; exact ⟨_, rfl⟩
                  · rw [if_neg h9] at h; cases h
theorem listK_tp {ds ds' : List De} {D D' : List (ByteArray × Nat)} {bad : ByteArray → Prop} (T : Tp ds D ds' D' bad) {pos pos' : Nat} : ∀ (l : List St) (whole : Bool) (p q : PS) (cs : List (List Nat)), (∀ nm ∈ callNL l, ¬ bad nm) → listK ds D pos whole p l = .ok q → ∃ cs', listK ds' D' pos' whole ⟨p.dec, p.kn, cs⟩ l = .ok ⟨q.dec, q.kn, cs'⟩
  | [], whole, p, q, cs, _, h => by
    rw [listK_nil] at h ⊢
    cases h
    exact ⟨_, rfl⟩
  | x :: r, whole, p, q, cs, hn, h => by
    rw [callNL_cons] at hn
    rw [listK_cons] at h ⊢
    cases hx : stK ds D pos (whole && r.isEmpty) p x with
    | error y => rw [hx] at h; cases h
    | ok p1 =>
      rw [hx] at h
      obtain ⟨c1, hx'⟩ := stK_tp T x (whole && r.isEmpty) p p1 cs (fun nm h => hn nm (List.mem_append_left _ h)) hx
      rw [hx']
      exact listK_tp T r whole p1 q c1 (fun nm h => hn nm (List.mem_append_right _ h)) h
end
end Go.Proofs.YtpcdlneompnhlaaGreatDoor.Ty

namespace Go.Proofs.YtpcdlneompnhlaaGreatDoor.Ty
open Go Go.RowKit
open Go.Proofs.YtpcdlneompnhlaaGreatDoor.Lx Go.Proofs.YtpcdlneompnhlaaGreatDoor.Tr

/-- what is gathered of a statement: its new names, none twice, none of a declaration; whom it calls -/
structure Got (ds : List De) (D : List (ByteArray × Nat)) (pos : Nat) (p q : PS) (new calls : List ByteArray) : Prop where
  dec : q.dec.map Prod.fst = p.dec.map Prod.fst ++ new
  nd : (p.dec.map Prod.fst).Nodup → (q.dec.map Prod.fst).Nodup
  out : ∀ nm ∈ new, findA D nm = none
  len : q.calls.length = p.calls.length
  oth : ∀ j, j ≠ pos → q.calls[j]? = p.calls[j]?
  row : ∀ i, i ∈ q.calls.getD pos [] ↔ i ∈ p.calls.getD pos [] ∨ (pos < p.calls.length ∧ ∃ nm ∈ calls, findA D nm = some i)
  fnd : ∀ nm ∈ calls, ∃ i d, findA D nm = some i ∧ ds[i]? = some d ∧ d.kind = 4
theorem Got.refl (ds : List De) (D : List (ByteArray × Nat)) (pos : Nat) (p : PS) (kn : List (ByteArray × Int)) : Got ds D pos p { p with kn := kn } [] [] :=
  ⟨by simp, id, by simp, rfl, fun _ _ => rfl, by simp, by simp⟩
theorem Got.trans {ds : List De} {D : List (ByteArray × Nat)} {pos : Nat} {p q r : PS} {n1 n2 c1 c2 : List ByteArray} (h : Got ds D pos p q n1 c1) (k : Got ds D pos q r n2 c2) : Got ds D pos p r (n1 ++ n2) (c1 ++ c2) where
  dec := by rw [k.dec, h.dec, List.append_assoc]
  nd := fun hn => k.nd (h.nd hn)
  out := fun nm hm => (List.mem_append.1 hm).elim (h.out nm) (k.out nm)
  len := k.len.trans h.len
  oth := fun j hj => (k.oth j hj).trans (h.oth j hj)
  row := fun i => by
    rw [k.row, h.row, h.len]
    constructor
    · rintro ((h1 | ⟨hl, nm, h1, h2⟩) | ⟨hl, nm, h1, h2⟩)
      · exact Or.inl h1
      · exact Or.inr ⟨hl, nm, List.mem_append_left _ h1, h2⟩
      · exact Or.inr ⟨hl, nm, List.mem_append_right _ h1, h2⟩
    · rintro (h1 | ⟨hl, nm, h1, h2⟩)
      · exact Or.inl (Or.inl h1)
      · rcases List.mem_append.1 h1 with h1 | h1
        · exact Or.inl (Or.inr ⟨hl, nm, h1, h2⟩)
        · exact Or.inr ⟨hl, nm, h1, h2⟩
  fnd := fun nm hm => (List.mem_append.1 hm).elim (h.fnd nm) (k.fnd nm)
theorem Got.kn {ds : List De} {D : List (ByteArray × Nat)} {pos : Nat} {p q : PS} {n c : List ByteArray} (kn kn' : List (ByteArray × Int)) (h : Got ds D pos { p with kn := kn' } q n c) : Got ds D pos p { q with kn := kn } n c := ⟨h.dec, h.nd, h.out, h.len, h.oth, h.row, h.fnd⟩
theorem decl_got {ds : List De} {D : List (ByteArray × Nat)} {pos : Nat} {p q : PS} {nm : ByteArray} {k at_ : Int} (h : declK D p nm k at_ = .ok q) : Got ds D pos p q [nm] [] := by
  obtain ⟨h1, h2, rfl⟩ := declK_ok h
  refine ⟨by simp, fun hn => ?_, by simp; exact h2, rfl, fun _ _ => rfl, by simp, by simp⟩
  show ((p.dec ++ [(nm, ())]).map Prod.fst).Nodup
  rw [List.map_append, List.nodup_append]
  refine ⟨hn, by simp, fun a ha b hb => ?_⟩
  simp at hb
  rw [hb]
  exact fun e => findA_none.1 h1 (e ▸ ha)
theorem addCall_got {ds : List De} {D : List (ByteArray × Nat)} {pos i : Nat} {p : PS} {nm : ByteArray} {d : De} (h1 : findA D nm = some i) (h2 : ds[i]? = some d) (h3 : d.kind = 4) : Got ds D pos p { p with calls := addCall p.calls pos i } [] [nm] := by
  have hfn : ∀ x ∈ [nm], ∃ i d, findA D x = some i ∧ ds[i]? = some d ∧ d.kind = 4 := fun x hx => by
    rw [List.mem_singleton.1 hx]; exact ⟨i, d, h1, h2, h3⟩
  have hone : ∀ j, (∃ x ∈ [nm], findA D x = some j) ↔ i = j := fun j => by simp [h1]
  unfold addCall
  cases hr : p.calls[pos]? with
  | none =>
    have hl : p.calls.length ≤ pos := List.getElem?_eq_none_iff.1 hr
    refine ⟨by simp, id, by simp, rfl, fun _ _ => rfl, fun j => ?_, hfn⟩
    simp only
    constructor
    · exact Or.inl
    · rintro (h | ⟨h, _⟩)
      · exact h
      · omega
  | some r =>
    have hl : pos < p.calls.length := (List.getElem?_eq_some_iff.1 hr).1
    have hg : p.calls.getD pos [] = r := by rw [List.getD_eq_getElem?_getD, hr]; rfl
    by_cases hi : i ∈ r
    · simp only [if_pos hi]
      refine ⟨by simp, id, by simp, rfl, fun _ _ => rfl, fun j => ?_, hfn⟩
      simp only [hg, hone]
      constructor
      · exact Or.inl
      · rintro (h | ⟨_, h⟩)
        · exact h
        · rw [← h]; exact hi
    · simp only [if_neg hi]
      refine ⟨by simp, id, by simp, by simp, fun j hj => ?_, fun j => ?_, hfn⟩
      · simp only; rw [List.getElem?_set_ne (Ne.symm hj)]
      · simp only [hg, hone]
        rw [List.getD_eq_getElem?_getD, List.getElem?_set_self hl]
        simp only [Option.getD_some, List.mem_append, List.mem_singleton]
        constructor
        · rintro (h | h)
          · exact Or.inl h
          · exact Or.inr ⟨hl, h.symm⟩
        · rintro (h | ⟨_, h⟩)
          · exact Or.inl h
          · exact Or.inr h.symm
theorem call_got {ds : List De} {D : List (ByteArray × Nat)} {pos : Nat} {p q : PS} {nm to : ByteArray} {new : Bool} {e : List Ex} {at_ : Int} (h : callK ds D pos p nm to new e at_ = .ok q) : Got ds D pos p q (if new = true then [to] else []) [nm] := by
  obtain ⟨i, d, h1, h2, h3, h4, h5⟩ := callK_inv h
  obtain ⟨g1, d', g2, g3⟩ := findK_inv h1
  have ha := addCall_got (pos := pos) (p := p) g1 g2 g3
  rcases h5 with ⟨rfl, h5⟩ | ⟨rfl, rfl, _⟩
  · have := ha.trans (decl_got (ds := ds) (pos := pos) h5)
    simpa using this
  · exact ha
mutual
theorem st_got {ds : List De} {D : List (ByteArray × Nat)} {pos : Nat} : ∀ (x : St) (last : Bool) (p q : PS), okR x → stK ds D pos last p x = .ok q → Got ds D pos p q (newN x) (callN x)
  | .mk k nm to new ea ec e ba bc body la lc els at_, last, p, q, ho, h => by
    rw [okR_eq] at ho
    obtain ⟨⟨ho1, ho2⟩, ho3, ho4⟩ := ho
    have hb := fun p q => list_got (ds := ds) (D := D) (pos := pos) body false p q ho3
    have hl := fun p q => list_got (ds := ds) (D := D) (pos := pos) els false p q ho4
    rw [callN_eq, newN_eq]
    rw [stK_eq] at h
    have hbod : k ≠ 4 → k ≠ 5 → k ≠ 6 → newNL body = [] ∧ callNL body = [] := fun a b c => by rw [ho1 a b c]; exact ⟨newNL_nil, callNL_nil⟩
    have hels : k ≠ 4 → newNL els = [] ∧ callNL els = [] := fun a => by rw [ho2 a]; exact ⟨newNL_nil, callNL_nil⟩
    by_cases h1 : k = 1
    · subst h1
      obtain ⟨e1, e2⟩ := hbod (by decide) (by decide) (by decide)
      obtain ⟨e3, e4⟩ := hels (by decide)
      rw [e1, e2, e3, e4]
      rw [if_pos rfl] at h
      cases e with
      | nil => cases h
      | cons x r =>
        simp only at h
        cases hx : exK ds D p.kn x with
        | error y => rw [hx] at h; cases h
        | ok t =>
          rw [hx] at h
          simpa using decl_got (ds := ds) (pos := pos) h
    · rw [if_neg h1] at h ⊢
      by_cases h2 : k = 2
      · subst h2
        obtain ⟨e1, e2⟩ := hbod (by decide) (by decide) (by decide)
        obtain ⟨e3, e4⟩ := hels (by decide)
        rw [e1, e2, e3, e4]
        rw [if_pos rfl] at h
        cases hv : varK ds D p.kn nm at_ with
        | error y => rw [hv] at h; cases h
        | ok t =>
          rw [hv] at h
          simp only at h
          cases hq : wantK ds D p.kn t e with
          | error y => rw [hq] at h; cases h
          | ok u => rw [hq] at h; cases h; exact Got.refl ds D pos p p.kn
      · rw [if_neg h2] at h
        by_cases h3 : k = 3
        · subst h3
          obtain ⟨e1, e2⟩ := hbod (by decide) (by decide) (by decide)
          obtain ⟨e3, e4⟩ := hels (by decide)
          rw [e1, e2, e3, e4]
          rw [if_pos rfl] at h
          cases hf : findK ds D p.kn nm 2 at_ with
          | error y => rw [hf] at h; cases h
          | ok i =>
            rw [hf] at h
            simp only at h
            cases hq : wantK ds D p.kn 1 e with
            | error y => rw [hq] at h; cases h
            | ok u => rw [hq] at h; cases h; exact Got.refl ds D pos p p.kn
        · rw [if_neg h3] at h
          by_cases h4 : k = 4 ∨ k = 5
          · rw [if_pos h4] at h
            have h8 : k ≠ 8 := by omega
            rw [if_neg h8, if_neg (fun c => h8 c.1)]
            cases hq : wantK ds D p.kn 2 e with
            | error y => rw [hq] at h; cases h
            | ok u =>
              rw [hq] at h
              simp only at h
              unfold blockK at h
              cases hB : listK ds D pos false p body with
              | error y => rw [hB] at h; cases h
              | ok p1 =>
                rw [hB] at h
                simp only at h
                cases hE : listK ds D pos false { p1 with kn := p.kn } els with
                | error y => rw [hE] at h; cases h
                | ok p2 =>
                  rw [hE] at h
                  cases h
                  exact ((hb _ _ hB).trans (Got.kn p2.kn p.kn (hl _ _ hE))).kn p.kn p.kn
          · rw [if_neg h4] at h
            by_cases h6 : k = 6
            · subst h6
              rw [if_pos rfl] at h
              obtain ⟨e3, e4⟩ := hels (by decide)
              rw [e3, e4]
              cases hf : findK ds D p.kn nm 3 at_ with
              | error y => rw [hf] at h; cases h
              | ok i =>
                rw [hf] at h
                simp only at h
                unfold blockK at h
                cases hB : listK ds D pos false p body with
                | error y => rw [hB] at h; cases h
                | ok p1 =>
                  rw [hB] at h
                  cases h
                  have := (hb _ _ hB).kn p.kn p.kn
                  simpa using this
            · rw [if_neg h6] at h
              obtain ⟨e1, e2⟩ := hbod (by omega) (by omega) (by omega)
              obtain ⟨e3, e4⟩ := hels (by omega)
              rw [e1, e2, e3, e4]
              by_cases h7 : k = 7
              · subst h7
                rw [if_pos rfl] at h
                cases hq : wantK ds D p.kn 1 e with
                | error y => rw [hq] at h; cases h
                | ok u => rw [hq] at h; cases h; exact Got.refl ds D pos p p.kn
              · rw [if_neg h7] at h
                by_cases h8 : k = 8
                · subst h8
                  rw [if_pos rfl] at h
                  have := call_got h
                  simpa using this
                · rw [if_neg h8] at h
                  rw [if_neg h8, if_neg (fun c => h8 c.1)]
                  by_cases h9 : last = true
                  · rw [if_pos h9] at h
                    cases hq : wantK ds D p.kn 1 e with
                    | error y => rw [hq] at h; cases h
                    | ok u => rw [hq] at h; cases h; exact Got.refl ds D pos p p.kn
                  · rw [if_neg h9] at h; cases h
theorem list_got {ds : List De} {D : List (ByteArray × Nat)} {pos : Nat} : ∀ (l : List St) (whole : Bool) (p q : PS), okRL l → listK ds D pos whole p l = .ok q → Got ds D pos p q (newNL l) (callNL l)
  | [], whole, p, q, _, h => by
    rw [listK_nil] at h
    cases h
    rw [newNL_nil, callNL_nil]
    exact Got.refl ds D pos p p.kn
  | x :: r, whole, p, q, ho, h => by
    rw [okRL_cons] at ho
    rw [newNL_cons, callNL_cons]
    rw [listK_cons] at h
    cases hx : stK ds D pos (whole && r.isEmpty) p x with
    | error y => rw [hx] at h; cases h
    | ok p1 =>
      rw [hx] at h
      exact (st_got x _ p p1 ho.1 hx).trans (list_got r whole p1 q ho.2 h)
end
end Go.Proofs.YtpcdlneompnhlaaGreatDoor.Ty

namespace Go.Proofs.YtpcdlneompnhlaaGreatDoor.Ty
open Go Go.RowKit
open Go.Proofs.YtpcdlneompnhlaaGreatDoor.Lx Go.Proofs.YtpcdlneompnhlaaGreatDoor.Tr

def numL : List De → Nat → List (ByteArray × Nat)
  | [], _ => []
  | d :: r, i => (d.name, i) :: numL r (i + 1)
theorem numL_fst : ∀ (l : List De) (i : Nat), (numL l i).map Prod.fst = l.map De.name
  | [], _ => rfl
  | d :: r, i => by rw [numL, List.map_cons, List.map_cons, numL_fst r (i + 1)]
theorem names_ok : ∀ {l : List De} {i : Nat} {D D' : List (ByteArray × Nat)}, namesK l i D = .ok D' → D' = D ++ numL l i ∧ ((D.map Prod.fst).Nodup → (D'.map Prod.fst).Nodup)
  | [], i, D, D', h => by
    unfold namesK at h
    cases h
    exact ⟨by simp [numL], id⟩
  | d :: r, i, D, D', h => by
    unfold namesK at h
    split at h
    · cases h
    · rename_i hn
      have h1 : findA D d.name = none := by
        cases hf : findA D d.name with
        | none => rfl
        | some u => rw [hf] at hn; exact absurd rfl hn
      rw [putA_new h1] at h
      obtain ⟨k1, k2⟩ := names_ok h
      refine ⟨by rw [k1, numL]; simp, fun hd => k2 ?_⟩
      rw [List.map_append, List.nodup_append]
      refine ⟨hd, by simp, fun a ha b hb => ?_⟩
      simp at hb
      rw [hb]
      exact fun e => findA_none.1 h1 (e ▸ ha)
theorem names_mk : ∀ {l : List De} {i : Nat} {D : List (ByteArray × Nat)}, ((D ++ numL l i).map Prod.fst).Nodup → namesK l i D = .ok (D ++ numL l i)
  | [], i, D, _ => by unfold namesK; simp [numL]
  | d :: r, i, D, h => by
    have e : D ++ numL (d :: r) i = (D ++ [(d.name, i)]) ++ numL r (i + 1) := by rw [numL]; simp
    rw [e] at h ⊢
    have h1 : findA D d.name = none := by
      rw [findA_none]
      intro hm
      rw [List.map_append, List.nodup_append] at h
      have h2 := h.1
      rw [List.map_append, List.nodup_append] at h2
      exact h2.2.2 _ hm _ (by simp) rfl
    unfold namesK
    rw [h1, if_neg (by simp), putA_new h1]
    exact names_mk h
theorem find_num : ∀ {l : List De} {i j : Nat} {nm : ByteArray}, findA (numL l i) nm = some j → i ≤ j ∧ ∃ d, l[j - i]? = some d ∧ d.name = nm
  | d :: r, i, j, nm, h => by
    unfold numL findA at h
    split at h
    · rename_i hx
      cases h
      exact ⟨Nat.le_refl _, d, by simp, hx⟩
    · obtain ⟨k1, x, k2, k3⟩ := find_num h
      refine ⟨by omega, x, ?_, k3⟩
      rw [show j - i = (j - (i + 1)) + 1 by omega]
      simpa using k2
theorem num_find : ∀ {l : List De} {i k : Nat} {d : De}, (l.map De.name).Nodup → l[k]? = some d → findA (numL l i) d.name = some (i + k)
  | x :: r, i, 0, d, _, h => by
    simp at h; subst h
    unfold numL findA
    rw [if_pos rfl]; rfl
  | x :: r, i, k + 1, d, hn, h => by
    rw [List.map_cons, List.nodup_cons] at hn
    have h' : r[k]? = some d := by simpa using h
    unfold numL findA
    rw [if_neg (fun e => hn.1 (by rw [show x.name = d.name from e]; exact List.mem_map_of_mem (List.mem_of_getElem? h')))]
    rw [num_find hn.2 h']
    congr 1; omega
theorem params_got {ds : List De} {D : List (ByteArray × Nat)} {pos : Nat} {at_ : Int} : ∀ {l : List ByteArray} {p q : PS}, paramsK D at_ l p = .ok q → Got ds D pos p q l []
  | [], p, q, h => by
    unfold paramsK at h
    cases h
    exact Got.refl ds D pos p p.kn
  | x :: r, p, q, h => by
    unfold paramsK at h
    cases hx : declK D p x 1 at_ with
    | error y => rw [hx] at h; cases h
    | ok p1 =>
      rw [hx] at h
      simpa using (decl_got (ds := ds) (pos := pos) hx).trans (params_got h)
theorem params_tp {D D' : List (ByteArray × Nat)} (hb : ∀ nm, findA D nm = none → findA D' nm = none) {at_ : Int} : ∀ {l : List ByteArray} {p q : PS} (cs : List (List Nat)), paramsK D at_ l p = .ok q → ∃ cs', paramsK D' at_ l ⟨p.dec, p.kn, cs⟩ = .ok ⟨q.dec, q.kn, cs'⟩
  | [], p, q, cs, h => by
    unfold paramsK at h ⊢
    cases h
    exact ⟨_, rfl⟩
  | x :: r, p, q, cs, h => by
    unfold paramsK at h ⊢
    cases hx : declK D p x 1 at_ with
    | error y => rw [hx] at h; cases h
    | ok p1 =>
      rw [hx] at h
      obtain ⟨c1, hx'⟩ := declK_tp hb cs hx
      rw [hx']
      exact params_tp hb c1 h
theorem body_got {ds : List De} {D : List (ByteArray × Nat)} {i : Nat} {cs : List (List Nat)} {d : De} {q : PS} (ho : okRL d.body) (h : bodyK ds D i cs d = .ok q) : Got ds D i ⟨[], [], cs⟩ q (d.params ++ newNL d.body) (callNL d.body) := by
  unfold bodyK at h
  cases hp : paramsK D d.pos d.params ⟨[], [], cs⟩ with
  | error y => rw [hp] at h; cases h
  | ok p =>
    rw [hp] at h
    exact (params_got (ds := ds) (pos := i) hp).trans (list_got d.body _ p q ho h)
theorem body_tp {ds ds' : List De} {D D' : List (ByteArray × Nat)} {bad : ByteArray → Prop} (T : Tp ds D ds' D' bad) {i i' : Nat} {cs : List (List Nat)} (cs' : List (List Nat)) {d : De} {q : PS} (hn : ∀ nm ∈ callNL d.body, ¬ bad nm) (h : bodyK ds D i cs d = .ok q) : ∃ q', bodyK ds' D' i' cs' d = .ok q' := by
  unfold bodyK at h ⊢
  cases hp : paramsK D d.pos d.params ⟨[], [], cs⟩ with
  | error y => rw [hp] at h; cases h
  | ok p =>
    rw [hp] at h
    obtain ⟨c1, hp'⟩ := params_tp T.back cs' hp
    rw [show (⟨[], [], cs'⟩ : PS) = ⟨(⟨[], [], cs⟩ : PS).dec, (⟨[], [], cs⟩ : PS).kn, cs'⟩ from rfl, hp']
    obtain ⟨c2, h'⟩ := listK_tp T (pos' := i') d.body _ p q c1 hn h
    exact ⟨_, h'⟩
theorem bodies_mk {ds : List De} {D : List (ByteArray × Nat)} : ∀ {l : List De} {i : Nat} {c : List (List Nat)}, (∀ d ∈ l, ∀ i cs, ∃ q, bodyK ds D i cs d = .ok q) → ∃ c', bodiesK ds D l i c = .ok c'
  | [], i, c, _ => ⟨c, rfl⟩
  | d :: r, i, c, h => by
    obtain ⟨q, hq⟩ := h d (by simp) i c
    unfold bodiesK
    rw [hq]
    exact bodies_mk fun x hx => h x (List.mem_cons_of_mem _ hx)
theorem bodies_ok {ds : List De} {D : List (ByteArray × Nat)} : ∀ {l : List De} {i : Nat} {c c' : List (List Nat)}, (∀ d ∈ l, okRL d.body) → bodiesK ds D l i c = .ok c' →
    c'.length = c.length ∧ (∀ j, j < i → c'[j]? = c[j]?) ∧ (∀ k d, l[k]? = some d → (∃ cs q, bodyK ds D (i + k) cs d = .ok q) ∧ ∀ j, j ∈ c'.getD (i + k) [] ↔ j ∈ c.getD (i + k) [] ∨ (i + k < c.length ∧ ∃ nm ∈ callNL d.body, findA D nm = some j))
  | [], i, c, c', _, h => by
    unfold bodiesK at h
    cases h
    exact ⟨rfl, fun _ _ => rfl, fun k d hd => by simp at hd⟩
  | d :: r, i, c, c', ho, h => by
    unfold bodiesK at h
    cases hq : bodyK ds D i c d with
    | error y => rw [hq] at h; cases h
    | ok q =>
      rw [hq] at h
      have g := body_got (ho d (by simp)) hq
      obtain ⟨k1, k2, k3⟩ := bodies_ok (fun x hx => ho x (List.mem_cons_of_mem _ hx)) h
      have hlen : q.calls.length = c.length := g.len
      refine ⟨k1.trans hlen, fun j hj => (k2 j (by omega)).trans (g.oth j (by omega)), fun k x hx => ?_⟩
      cases k with
      | zero =>
        simp at hx; subst hx
        refine ⟨⟨c, q, hq⟩, fun j => ?_⟩
        rw [Nat.add_zero]
        have e : c'.getD i [] = q.calls.getD i [] := by rw [List.getD_eq_getElem?_getD, List.getD_eq_getElem?_getD, k2 i (by omega)]
        rw [e]
        exact g.row j
      | succ k =>
        have hx' : r[k]? = some x := by simpa using hx
        obtain ⟨m1, m2⟩ := k3 k x hx'
        rw [show i + 1 + k = i + (k + 1) by omega] at m1 m2
        refine ⟨m1, fun j => ?_⟩
        rw [m2 j, hlen]
        have e : q.calls.getD (i + (k + 1)) [] = c.getD (i + (k + 1)) [] := by rw [List.getD_eq_getElem?_getD, List.getD_eq_getElem?_getD, g.oth _ (by omega)]
        rw [e]
theorem circ_ok {calls : List (List Nat)} : ∀ {l : List De} {i : Nat}, circK calls l i = .ok () ↔ ∀ k < l.length, backK calls (i + k) = false
  | [], i => by simp [circK]
  | d :: r, i => by
    unfold circK
    by_cases hb : backK calls i = true
    · rw [if_pos hb]
      constructor
      · intro h; cases h
      · intro h
        have := h 0 (by simp)
        rw [Nat.add_zero, hb] at this
        cases this
    · rw [if_neg hb, circ_ok]
      constructor
      · intro h k hk
        cases k with
        | zero => simpa using hb
        | succ k =>
          have := h k (by simpa using hk)
          rwa [show i + 1 + k = i + (k + 1) by omega] at this
      · intro h k hk
        have := h (k + 1) (by simpa using hk)
        rwa [show i + (k + 1) = i + 1 + k by omega] at this
/-- what a program is that is looked at without a fault -/
structure Good (ds : List De) (calls : List (List Nat)) : Prop where
  nd : (ds.map De.name).Nodup
  body : ∀ d ∈ ds, ∃ i cs q, bodyK ds (numL ds 0) i cs d = .ok q
  len : calls.length = ds.length
  row : ∀ k d, ds[k]? = some d → ∀ j, j ∈ calls.getD k [] ↔ ∃ nm ∈ callNL d.body, findA (numL ds 0) nm = some j
  circ : ∀ k < ds.length, backK calls k = false
theorem nil_row (ds : List De) (k : Nat) : (ds.map fun _ => ([] : List Nat)).getD k [] = [] := by
  rw [List.getD_eq_getElem?_getD, List.getElem?_map]
  cases ds[k]? <;> rfl
theorem look_good {ds : List De} (hR : ∀ d ∈ ds, okRL d.body) (h : lookK ds = .ok ()) : ∃ calls, Good ds calls := by
  unfold lookK at h
  cases hn : namesK ds 0 [] with
  | error q => rw [hn] at h; cases h
  | ok D =>
    obtain ⟨e1, e2⟩ := names_ok hn
    have hD : D = numL ds 0 := by simpa using e1
    subst hD
    have hnd : (ds.map De.name).Nodup := by rw [← numL_fst ds 0]; exact e2 (by simp)
    rw [hn] at h
    simp only at h
    cases hb : bodiesK ds (numL ds 0) ds 0 (ds.map fun _ => []) with
    | error q => rw [hb] at h; cases h
    | ok calls =>
      rw [hb] at h
      obtain ⟨k1, _, k3⟩ := bodies_ok hR hb
      refine ⟨calls, hnd, fun d hd => ?_, by simpa using k1, fun k d hd j => ?_, fun k hk => ?_⟩
      · obtain ⟨k, hk⟩ := List.mem_iff_getElem?.1 hd
        obtain ⟨⟨cs, q, hq⟩, _⟩ := k3 k d hk
        exact ⟨_, cs, q, hq⟩
      · have hk : k < ds.length := (List.getElem?_eq_some_iff.1 hd).1
        have := (k3 k d hd).2 j
        rw [Nat.zero_add, nil_row] at this
        rw [this]
        simp [hk]
      · have := circ_ok.1 h k hk
        rwa [Nat.zero_add] at this
theorem good_look {ds : List De} (hR : ∀ d ∈ ds, okRL d.body) (hnd : (ds.map De.name).Nodup) (hb : ∀ d ∈ ds, ∀ i cs, ∃ q, bodyK ds (numL ds 0) i cs d = .ok q) (hc : ∀ calls : List (List Nat), calls.length = ds.length → (∀ k d, ds[k]? = some d → ∀ j, j ∈ calls.getD k [] ↔ ∃ nm ∈ callNL d.body, findA (numL ds 0) nm = some j) → ∀ k < ds.length, backK calls k = false) : lookK ds = .ok () := by
  have e : namesK ds 0 [] = .ok (numL ds 0) := by
    have := names_mk (l := ds) (i := 0) (D := []) (by rw [List.nil_append, numL_fst]; exact hnd)
    simpa using this
  unfold lookK
  rw [e]
  simp only
  obtain ⟨c', h'⟩ := bodies_mk (ds := ds) (D := numL ds 0) (i := 0) (c := ds.map fun _ => []) hb
  rw [h']
  simp only
  obtain ⟨k1, _, k3⟩ := bodies_ok hR h'
  refine circ_ok.2 fun k hk => ?_
  rw [Nat.zero_add]
  refine hc c' (by simpa using k1) (fun k d hd j => ?_) k hk
  have hk : k < ds.length := (List.getElem?_eq_some_iff.1 hd).1
  have := (k3 k d hd).2 j
  rw [Nat.zero_add, nil_row] at this
  rw [this]
  simp [hk]
theorem name_one {ds : List De} (hn : (ds.map De.name).Nodup) {i j : Nat} {a b : De} (ha : ds[i]? = some a) (hb : ds[j]? = some b) (e : a.name = b.name) : i = j := by
  have h1 := num_find (i := 0) hn ha
  have h2 := num_find (i := 0) hn hb
  rw [e, h2] at h1
  simp only [Option.some.injEq] at h1
  omega
theorem find_iff {ds : List De} (hn : (ds.map De.name).Nodup) {nm : ByteArray} {j : Nat} : findA (numL ds 0) nm = some j ↔ ∃ d, ds[j]? = some d ∧ d.name = nm := by
  constructor
  · intro h
    obtain ⟨_, d, h1, h2⟩ := find_num h
    exact ⟨d, by simpa using h1, h2⟩
  · rintro ⟨d, h1, rfl⟩
    have := num_find (i := 0) hn h1
    rwa [Nat.zero_add] at this
theorem rows_lt {ds : List De} {calls : List (List Nat)} (hlen : calls.length = ds.length) (hrow : ∀ k d, ds[k]? = some d → ∀ j, j ∈ calls.getD k [] ↔ ∃ nm ∈ callNL d.body, findA (numL ds 0) nm = some j) : ∀ a, ∀ b ∈ calls.getD a [], b < calls.length := by
  intro a b hb
  cases ha : ds[a]? with
  | none =>
    have : ds.length ≤ a := List.getElem?_eq_none_iff.1 ha
    rw [List.getD_eq_getElem?_getD, List.getElem?_eq_none_iff.2 (by omega)] at hb
    cases hb
  | some d =>
    obtain ⟨nm, _, h2⟩ := (hrow a d ha b).1 hb
    obtain ⟨_, x, h3, _⟩ := find_num h2
    rw [hlen]
    have := (List.getElem?_eq_some_iff.1 h3).1
    omega
/-- with other declarations, of its own, no name twice, but threads and funcs that nobody calls: no fault either -/
theorem look_sub {ds ds' : List De} (hR : ∀ d ∈ ds, okRL d.body) (h : lookK ds = .ok ()) (hsub : ∀ d ∈ ds', d ∈ ds) (hnd : (ds'.map De.name).Nodup) (hgone : ∀ d ∈ ds, d ∈ ds' ∨ d.kind = 5 ∨ (d.kind = 4 ∧ ∀ e ∈ ds', d.name ∉ callNL e.body)) : lookK ds' = .ok () := by
  obtain ⟨calls, G⟩ := look_good hR h
  have T : Tp ds (numL ds 0) ds' (numL ds' 0) (fun nm => ∃ d ∈ ds, d.name = nm ∧ d ∉ ds') := by
    refine ⟨fun nm i d h1 h2 hb => ?_, fun nm hn => ?_, fun nm i d h1 h2 hb => ?_⟩
    · obtain ⟨d1, h3, h4⟩ := (find_iff G.nd).1 h1
      rw [h2] at h3; cases h3
      have hd : d ∈ ds' := Classical.byContradiction fun hc => hb ⟨d, List.mem_of_getElem? h2, h4, hc⟩
      obtain ⟨j, hj⟩ := List.mem_iff_getElem?.1 hd
      exact ⟨j, d, (find_iff hnd).2 ⟨d, hj, h4⟩, hj, rfl, rfl⟩
    · rw [findA_none, numL_fst] at hn ⊢
      intro hm
      obtain ⟨d, hd, e⟩ := List.mem_map.1 hm
      exact hn (List.mem_map.2 ⟨d, hsub d hd, e⟩)
    · obtain ⟨d0, h3, h4, h5⟩ := hb
      obtain ⟨d1, h6, h7⟩ := (find_iff G.nd).1 h1
      rw [h2] at h6; cases h6
      obtain ⟨j, hj⟩ := List.mem_iff_getElem?.1 h3
      have := name_one G.nd h2 hj (h7.trans h4.symm)
      subst this
      rw [h2] at hj; cases hj
      rcases hgone d h3 with h | h | h
      · exact absurd h h5
      · exact Or.inr h
      · exact Or.inl h.1
  have hno : ∀ e ∈ ds', ∀ nm ∈ callNL e.body, ¬ ∃ d ∈ ds, d.name = nm ∧ d ∉ ds' := by
    rintro e he nm hm ⟨d, hd, h1, h2⟩
    obtain ⟨i, cs, q, hq⟩ := G.body e (hsub e he)
    obtain ⟨i1, d1, k1, k2, k3⟩ := (body_got (hR e (hsub e he)) hq).fnd nm hm
    obtain ⟨d2, k4, k5⟩ := (find_iff G.nd).1 k1
    rw [k2] at k4; cases k4
    obtain ⟨j, hj⟩ := List.mem_iff_getElem?.1 hd
    have := name_one G.nd k2 hj (k5.trans h1.symm)
    subst this
    rw [k2] at hj; cases hj
    rcases hgone d hd with h | h | h
    · exact h2 h
    · omega
    · rw [h1] at h; exact h.2 e he hm
  refine good_look (fun d hd => hR d (hsub d hd)) hnd (fun d hd i cs => ?_) (fun calls' hlen hrow k hk => ?_)
  · obtain ⟨i0, cs0, q, hq⟩ := G.body d (hsub d hd)
    exact body_tp T cs (hno d hd) hq
  · cases hb : backK calls' k with
    | false => rfl
    | true =>
      have hW := (back_iff calls' k (by omega) (rows_lt hlen hrow)).1 hb
      have key : ∀ {a b : Nat}, Way calls' a b → ∀ ia d, ds'[a]? = some d → ds[ia]? = some d → ∃ ib e, ds'[b]? = some e ∧ ds[ib]? = some e ∧ Way calls ia ib := by
        intro a b hw
        have one : ∀ {x y : Nat}, y ∈ calls'.getD x [] → ∀ ix d, ds'[x]? = some d → ds[ix]? = some d → ∃ iy e, ds'[y]? = some e ∧ ds[iy]? = some e ∧ iy ∈ calls.getD ix [] := by
          intro x y hy ix d h1 h2
          obtain ⟨nm, h3, h4⟩ := (hrow x d h1 y).1 hy
          obtain ⟨e, h5, h6⟩ := (find_iff hnd).1 h4
          obtain ⟨iy, h7⟩ := List.mem_iff_getElem?.1 (hsub e (List.mem_of_getElem? h5))
          exact ⟨iy, e, h5, h7, (G.row ix d h2 iy).2 ⟨nm, h3, (find_iff G.nd).2 ⟨e, h7, h6⟩⟩⟩
        induction hw with
        | one hb =>
          intro ia d h1 h2
          obtain ⟨iy, e, h3, h4, h5⟩ := one hb ia d h1 h2
          exact ⟨iy, e, h3, h4, .one h5⟩
        | more _ hc ih =>
          intro ia d h1 h2
          obtain ⟨ib, e, h3, h4, h5⟩ := ih ia d h1 h2
          obtain ⟨iy, e', h6, h7, h8⟩ := one hc ib e h3 h4
          exact ⟨iy, e', h6, h7, .more h5 h8⟩
      obtain ⟨d, hd⟩ : ∃ d, ds'[k]? = some d := ⟨_, List.getElem?_eq_getElem hk⟩
      obtain ⟨i, hi⟩ := List.mem_iff_getElem?.1 (hsub d (List.mem_of_getElem? hd))
      obtain ⟨ib, e, h3, h4, h5⟩ := key hW i d hd hi
      rw [hd] at h3; cases h3
      have := name_one G.nd hi h4 rfl
      subst this
      have hil : i < ds.length := (List.getElem?_eq_some_iff.1 hi).1
      have := (back_iff calls i (by rw [G.len]; exact hil) (rows_lt G.len G.row)).2 h5
      rw [G.circ i hil] at this
      cases this
/-- the local ones of a declaration: none twice, none of a declaration -/
theorem look_locals {ds : List De} (hR : ∀ d ∈ ds, okRL d.body) (h : lookK ds = .ok ()) : ∀ d ∈ ds, (d.params ++ newNL d.body).Nodup ∧ ∀ nm ∈ d.params ++ newNL d.body, ∀ e ∈ ds, e.name ≠ nm := by
  obtain ⟨calls, G⟩ := look_good hR h
  intro d hd
  obtain ⟨i, cs, q, hq⟩ := G.body d hd
  have g := body_got (hR d hd) hq
  refine ⟨?_, fun nm hn e he h1 => ?_⟩
  · have h1 := g.nd (by simp)
    rw [g.dec] at h1
    simpa using h1
  · have := findA_none.1 (g.out nm hn)
    rw [numL_fst] at this
    exact this (List.mem_map.2 ⟨e, he, h1⟩)
end Go.Proofs.YtpcdlneompnhlaaGreatDoor.Ty

namespace Go.Proofs.YtpcdlneompnhlaaGreatDoor.Ty
open Go Go.RowKit
open Go.Proofs.YtpcdlneompnhlaaGreatDoor.Lx Go.Proofs.YtpcdlneompnhlaaGreatDoor.Tr

/-- a fault says something -/
structure Er {α : Type} (r : Except (Int × Int) α) : Prop where
  out : ∀ q, r = .error q → q.2 = 64 ∨ q.2 = 65 ∨ q.2 = 67
theorem Er.ok {α : Type} (x : α) : Er (.ok x : Except (Int × Int) α) := ⟨fun _ h => by cases h⟩
theorem Er.e64 {α : Type} (a : Int) : Er (.error (a, 64) : Except (Int × Int) α) := ⟨fun _ h => by cases h; exact Or.inl rfl⟩
theorem Er.e65 {α : Type} (a : Int) : Er (.error (a, 65) : Except (Int × Int) α) := ⟨fun _ h => by cases h; exact Or.inr (Or.inl rfl)⟩
theorem Er.err {α β : Type} {q : Int × Int} (h : Er (.error q : Except (Int × Int) α)) : Er (.error q : Except (Int × Int) β) := ⟨fun q' h' => by cases h'; exact h.out q rfl⟩
theorem findK_er (ds : List De) (D : List (ByteArray × Nat)) (K : List (ByteArray × Int)) (nm : ByteArray) (kind at_ : Int) : Er (findK ds D K nm kind at_) := by
  unfold findK
  cases findA D nm with
  | none => cases findA K nm with
    | none => exact Er.e64 _
    | some _ => exact Er.e65 _
  | some i =>
    simp only
    cases ds[i]? with
    | none => exact Er.e65 _
    | some d =>
      simp only
      split
      · exact Er.ok _
      · exact Er.e65 _
theorem varK_er (ds : List De) (D : List (ByteArray × Nat)) (K : List (ByteArray × Int)) (nm : ByteArray) (at_ : Int) : Er (varK ds D K nm at_) := by
  unfold varK
  cases findA K nm with
  | some k => exact Er.ok _
  | none =>
    simp only
    have e1 := findK_er ds D K nm 1 at_
    generalize findK ds D K nm 1 at_ = r1 at e1 ⊢
    cases r1 with
    | error q => exact e1.err
    | ok x1 =>
      simp only
      exact Er.ok _
mutual
theorem exK_er (ds : List De) (D : List (ByteArray × Nat)) (K : List (ByteArray × Int)) : ∀ e, Er (exK ds D K e)
  | .mk k nm n a cap args pos => by
    have hw := fun t => wantK_er ds D K t args
    rw [exK_eq]
    split
    · exact varK_er ds D K nm pos
    · split
      · skip
        have e2 := findK_er ds D K nm 2 pos
        generalize findK ds D K nm 2 pos = r2 at e2 ⊢
        cases r2 with
        | error q => exact e2.err
        | ok x2 =>
          simp only
          have e3 := hw 1
          generalize wantK ds D K 1 args = r3 at e3 ⊢
          cases r3 with
          | error q => exact e3.err
          | ok x3 =>
            simp only
            exact Er.ok _
      · split
        · skip
          have e4 := hw 2
          generalize wantK ds D K 2 args = r4 at e4 ⊢
          cases r4 with
          | error q => exact e4.err
          | ok x4 =>
            simp only
            exact Er.ok _
        · split
          · skip
            have e5 := hw 1
            generalize wantK ds D K 1 args = r5 at e5 ⊢
            cases r5 with
            | error q => exact e5.err
            | ok x5 =>
              simp only
              exact Er.ok _
          · skip
            have e6 := hw 1
            generalize wantK ds D K 1 args = r6 at e6 ⊢
            cases r6 with
            | error q => exact e6.err
            | ok x6 =>
              simp only
              exact Er.ok _
theorem wantK_er (ds : List De) (D : List (ByteArray × Nat)) (K : List (ByteArray × Int)) (t : Int) : ∀ l, Er (wantK ds D K t l)
  | [] => by rw [wantK_nil]; exact Er.ok _
  | e :: r => by
    rw [wantK_cons]
    have e7 := exK_er ds D K e
    generalize exK ds D K e = r7 at e7 ⊢
    cases r7 with
    | error q => exact e7.err
    | ok x7 =>
      simp only
      split
      · exact wantK_er ds D K t r
      · exact Er.e65 _
end
theorem declK_er (D : List (ByteArray × Nat)) (p : PS) (nm : ByteArray) (k at_ : Int) : Er (declK D p nm k at_) := by
  unfold declK
  split
  · exact Er.e64 _
  · exact Er.ok _
theorem answerK_er (D : List (ByteArray × Nat)) (K : List (ByteArray × Int)) (to : ByteArray) (at_ : Int) : Er (answerK D K to at_) := by
  unfold answerK
  cases findA K to with
  | none => cases findA D to with
    | none => exact Er.e64 _
    | some _ => exact Er.e65 _
  | some k =>
    simp only
    split
    · exact Er.ok _
    · exact Er.e65 _
theorem callK_er (ds : List De) (D : List (ByteArray × Nat)) (pos : Nat) (p : PS) (nm to : ByteArray) (new : Bool) (e : List Ex) (at_ : Int) : Er (callK ds D pos p nm to new e at_) := by
  unfold callK
  have e8 := findK_er ds D p.kn nm 4 at_
  generalize findK ds D p.kn nm 4 at_ = r8 at e8 ⊢
  cases r8 with
  | error q => exact e8.err
  | ok x8 =>
    simp only
    cases hd : ds[x8]? with
    | none => exact Er.e65 _
    | some d =>
      simp only
      split
      · exact Er.e65 _
      · skip
        have e9 := wantK_er ds D p.kn 1 e
        generalize wantK ds D p.kn 1 e = r9 at e9 ⊢
        cases r9 with
        | error q => exact e9.err
        | ok x9 =>
          simp only
          split
          · exact declK_er ..
          · split
            · exact Er.ok _
            · skip
              have e10 := answerK_er D p.kn to at_
              generalize answerK D p.kn to at_ = r10 at e10 ⊢
              cases r10 with
              | error q => exact e10.err
              | ok x10 =>
                simp only
                exact Er.ok _
mutual
theorem stK_er (ds : List De) (D : List (ByteArray × Nat)) (pos : Nat) (last : Bool) (p : PS) : ∀ x, Er (stK ds D pos last p x)
  | .mk k nm to new ea ec e ba bc body la lc els at_ => by
    have hbb : ∀ p, Er (blockK ds D pos p body) := fun p => by
      unfold blockK
      have e11 := listK_er ds D pos false p body
      generalize listK ds D pos false p body = r11 at e11 ⊢
      cases r11 with
      | error q => exact e11.err
      | ok x11 =>
        simp only
        exact Er.ok _
    have hll : ∀ p, Er (blockK ds D pos p els) := fun p => by
      unfold blockK
      have e12 := listK_er ds D pos false p els
      generalize listK ds D pos false p els = r12 at e12 ⊢
      cases r12 with
      | error q => exact e12.err
      | ok x12 =>
        simp only
        exact Er.ok _
    rw [stK_eq]
    split
    · cases e with
      | nil => exact Er.e65 _
      | cons x r =>
        simp only
        have e13 := exK_er ds D p.kn x
        generalize exK ds D p.kn x = r13 at e13 ⊢
        cases r13 with
        | error q => exact e13.err
        | ok x13 =>
          simp only
          exact declK_er ..
    · split
      · skip
        have e14 := varK_er ds D p.kn nm at_
        generalize varK ds D p.kn nm at_ = r14 at e14 ⊢
        cases r14 with
        | error q => exact e14.err
        | ok x14 =>
          simp only
          have e15 := wantK_er ds D p.kn x14 e
          generalize wantK ds D p.kn x14 e = r15 at e15 ⊢
          cases r15 with
          | error q => exact e15.err
          | ok x15 =>
            simp only
            exact Er.ok _
      · split
        · skip
          have e16 := findK_er ds D p.kn nm 2 at_
          generalize findK ds D p.kn nm 2 at_ = r16 at e16 ⊢
          cases r16 with
          | error q => exact e16.err
          | ok x16 =>
            simp only
            have e17 := wantK_er ds D p.kn 1 e
            generalize wantK ds D p.kn 1 e = r17 at e17 ⊢
            cases r17 with
            | error q => exact e17.err
            | ok x17 =>
              simp only
              exact Er.ok _
        · split
          · skip
            have e18 := wantK_er ds D p.kn 2 e
            generalize wantK ds D p.kn 2 e = r18 at e18 ⊢
            cases r18 with
            | error q => exact e18.err
            | ok x18 =>
              simp only
              have e19 := hbb p
              generalize blockK ds D pos p body = r19 at e19 ⊢
              cases r19 with
              | error q => exact e19.err
              | ok x19 =>
                simp only
                exact hll _
          · split
            · skip
              have e20 := findK_er ds D p.kn nm 3 at_
              generalize findK ds D p.kn nm 3 at_ = r20 at e20 ⊢
              cases r20 with
              | error q => exact e20.err
              | ok x20 =>
                simp only
                exact hbb p
            · split
              · skip
                have e21 := wantK_er ds D p.kn 1 e
                generalize wantK ds D p.kn 1 e = r21 at e21 ⊢
                cases r21 with
                | error q => exact e21.err
                | ok x21 =>
                  simp only
                  exact Er.ok _
              · split
                · exact callK_er ..
                · split
                  · skip
                    have e22 := wantK_er ds D p.kn 1 e
                    generalize wantK ds D p.kn 1 e = r22 at e22 ⊢
                    cases r22 with
                    | error q => exact e22.err
                    | ok x22 =>
                      simp only
                      exact Er.ok _
                  · exact Er.e65 _
theorem listK_er (ds : List De) (D : List (ByteArray × Nat)) (pos : Nat) (whole : Bool) (p : PS) : ∀ l, Er (listK ds D pos whole p l)
  | [] => by rw [listK_nil]; exact Er.ok _
  | x :: r => by
    rw [listK_cons]
    have e23 := stK_er ds D pos (whole && r.isEmpty) p x
    generalize stK ds D pos (whole && r.isEmpty) p x = r23 at e23 ⊢
    cases r23 with
    | error q => exact e23.err
    | ok x23 =>
      simp only
      exact listK_er ds D pos whole x23 r
end
theorem namesK_er : ∀ (l : List De) (i : Nat) (D : List (ByteArray × Nat)), Er (namesK l i D)
  | [], i, D => Er.ok _
  | d :: r, i, D => by
    unfold namesK
    split
    · exact Er.e64 _
    · exact namesK_er r _ _
theorem paramsK_er (D : List (ByteArray × Nat)) (at_ : Int) : ∀ (l : List ByteArray) (p : PS), Er (paramsK D at_ l p)
  | [], p => Er.ok _
  | x :: r, p => by
    unfold paramsK
    have e24 := declK_er D p x 1 at_
    generalize declK D p x 1 at_ = r24 at e24 ⊢
    cases r24 with
    | error q => exact e24.err
    | ok x24 =>
      simp only
      exact paramsK_er D at_ r x24
theorem bodyK_er (ds : List De) (D : List (ByteArray × Nat)) (i : Nat) (c : List (List Nat)) (d : De) : Er (bodyK ds D i c d) := by
  unfold bodyK
  have e25 := paramsK_er D d.pos d.params ⟨[], [], c⟩
  generalize paramsK D d.pos d.params ⟨[], [], c⟩ = r25 at e25 ⊢
  cases r25 with
  | error q => exact e25.err
  | ok x25 =>
    simp only
    exact listK_er ..
theorem bodiesK_er (ds : List De) (D : List (ByteArray × Nat)) : ∀ (l : List De) (i : Nat) (c : List (List Nat)), Er (bodiesK ds D l i c)
  | [], i, c => Er.ok _
  | d :: r, i, c => by
    unfold bodiesK
    have e26 := bodyK_er ds D i c d
    generalize bodyK ds D i c d = r26 at e26 ⊢
    cases r26 with
    | error q => exact e26.err
    | ok x26 =>
      simp only
      exact bodiesK_er ds D r _ _
theorem circK_er (calls : List (List Nat)) : ∀ (l : List De) (i : Nat), Er (circK calls l i)
  | [], i => Er.ok _
  | d :: r, i => by
    unfold circK
    split
    · exact ⟨fun _ h => by cases h; exact Or.inr (Or.inr rfl)⟩
    · exact circK_er calls r _
theorem lookK_er (ds : List De) : Er (lookK ds) := by
  unfold lookK
  have e27 := namesK_er ds 0 []
  generalize namesK ds 0 [] = r27 at e27 ⊢
  cases r27 with
  | error q => exact e27.err
  | ok x27 =>
    simp only
    have e28 := bodiesK_er ds x27 ds 0 (ds.map fun _ => [])
    generalize bodiesK ds x27 ds 0 (ds.map fun _ => []) = r28 at e28 ⊢
    cases r28 with
    | error q => exact e28.err
    | ok x28 =>
      simp only
      exact circK_er ..
end Go.Proofs.YtpcdlneompnhlaaGreatDoor.Ty

namespace Go.Proofs.YtpcdlneompnhlaaGreatDoor.Ty
open Go Go.RowKit
open Go.Proofs.YtpcdlneompnhlaaGreatDoor.Lx Go.Proofs.YtpcdlneompnhlaaGreatDoor.Tr

theorem hold_fit {p : Pt} (h : holdPt p = true) : fitPt p = true := by
  unfold holdPt at h
  rw [Bool.and_eq_true] at h
  exact h.2
mutual
theorem okE_of (b o : Nat) (d : Int) : ∀ e : Ex, (ptsE b o d e).all holdPt = true → okE e
  | .mk k nm n a cap args pos, h => by
    unfold ptsE at h
    rw [List.all_cons, Bool.and_eq_true] at h
    obtain ⟨h1, h2⟩ := h
    rw [okE_eq]
    have h3 : fitE (.mk k nm n a cap args pos) = true := hold_fit h1
    rw [fitE_eq] at h3
    simp only [Bool.and_eq_true, decide_eq_true_eq] at h3
    exact ⟨⟨h3.1.1, h3.1.2, h3.2.2⟩, okEL_of _ _ _ args h2⟩
theorem okEL_of (b o : Nat) (d : Int) : ∀ l : List Ex, (ptsL b o d l).all holdPt = true → okEL l
  | [], _ => by unfold okEL; trivial
  | e :: r, h => by
    unfold ptsL at h
    rw [List.all_append, Bool.and_eq_true] at h
    unfold okEL
    exact ⟨okE_of _ _ _ e h.1, okEL_of _ _ _ r h.2⟩
end
mutual
theorem okS_of (b o : Nat) (d : Int) : ∀ e : St, (ptsS b o d e).all holdPt = true → okS e
  | .mk k nm to new ea ec e ba bc body la lc els pos, h => by
    unfold ptsS at h
    rw [List.all_cons, Bool.and_eq_true] at h
    obtain ⟨h1, h2⟩ := h
    rw [List.all_append, Bool.and_eq_true, List.all_append, Bool.and_eq_true] at h2
    rw [okS_eq]
    have h3 : fitS (.mk k nm to new ea ec e ba bc body la lc els pos) = true := hold_fit h1
    rw [fitS_eq] at h3
    simp only [Bool.and_eq_true, decide_eq_true_eq] at h3
    exact ⟨⟨h3.1.1, h3.1.2, h3.2.1.1.1.2⟩, okEL_of _ _ _ e h2.1, okSL_of _ _ _ body h2.2.1, okSL_of _ _ _ els h2.2.2⟩
theorem okSL_of (b o : Nat) (d : Int) : ∀ l : List St, (ptsSL b o d l).all holdPt = true → okSL l
  | [], _ => by unfold okSL; trivial
  | e :: r, h => by
    unfold ptsSL at h
    rw [List.all_append, Bool.and_eq_true] at h
    unfold okSL
    exact ⟨okS_of _ _ _ e h.1, okSL_of _ _ _ r h.2⟩
end
theorem may_ok {ds : List De} (h : mayP ds = true) : ds.length ≤ 256 ∧ ∀ d ∈ ds, okSL d.body ∧ fitD d = true := by
  unfold mayP at h
  simp only [Bool.and_eq_true, decide_eq_true_eq] at h
  refine ⟨h.1.1, fun d hd => ⟨?_, List.all_eq_true.1 h.1.2 d hd⟩⟩
  have h2 : (ptsSL (adB d.ba) (adO d.ba) 1 d.body).all holdPt = true := by
    rw [List.all_eq_true]
    intro x hx
    exact List.all_eq_true.1 h.2 x (List.mem_flatMap.2 ⟨d, hd, hx⟩)
  exact okSL_of _ _ _ _ h2
end Go.Proofs.YtpcdlneompnhlaaGreatDoor.Ty

namespace Go.Proofs.YtpcdlneompnhlaaGreatDoor.Ty
open Go Go.RowKit
open Go.Proofs.YtpcdlneompnhlaaGreatDoor.Lx Go.Proofs.YtpcdlneompnhlaaGreatDoor.Tr

theorem body_k {k : Int} (h1 : k ≠ 4) (h2 : k ≠ 5) (h3 : k ≠ 6) : stBody k = false := by unfold stBody; simp [h1, h2, h3]
theorem other_k {k : Int} (h1 : k ≠ 4) : stOther k = false := by unfold stOther; simp [h1]
mutual
theorem okR_of (b o : Nat) (d : Int) : ∀ e : St, (ptsS b o d e).all holdPt = true → okR e
  | .mk k nm to new ea ec e ba bc body la lc els pos, h => by
    unfold ptsS at h
    rw [List.all_cons, Bool.and_eq_true] at h
    obtain ⟨h1, h2⟩ := h
    rw [List.all_append, Bool.and_eq_true, List.all_append, Bool.and_eq_true] at h2
    rw [okR_eq]
    have h3 : fitS (.mk k nm to new ea ec e ba bc body la lc els pos) = true := hold_fit h1
    rw [fitS_eq] at h3
    simp only [Bool.and_eq_true, decide_eq_true_eq, Bool.or_eq_true] at h3
    refine ⟨⟨fun a b c => ?_, fun a => ?_⟩, okRL_of _ _ _ body h2.2.1, okRL_of _ _ _ els h2.2.2⟩
    · rcases h3.2.1.2 with h | h
      · rw [body_k a b c] at h; cases h
      · exact List.length_eq_zero_iff.1 h
    · rcases h3.2.2 with h | h
      · rw [other_k a] at h; cases h
      · exact List.length_eq_zero_iff.1 h
theorem okRL_of (b o : Nat) (d : Int) : ∀ l : List St, (ptsSL b o d l).all holdPt = true → okRL l
  | [], _ => by unfold okRL; trivial
  | e :: r, h => by
    unfold ptsSL at h
    rw [List.all_append, Bool.and_eq_true] at h
    unfold okRL
    exact ⟨okR_of _ _ _ e h.1, okRL_of _ _ _ r h.2⟩
end
theorem may_okR {ds : List De} (h : mayP ds = true) : ∀ d ∈ ds, okRL d.body := by
  unfold mayP at h
  simp only [Bool.and_eq_true, decide_eq_true_eq] at h
  intro d hd
  have h2 : (ptsSL (adB d.ba) (adO d.ba) 1 d.body).all holdPt = true := by
    rw [List.all_eq_true]
    intro x hx
    exact List.all_eq_true.1 h.2 x (List.mem_flatMap.2 ⟨d, hd, hx⟩)
  exact okRL_of _ _ _ _ h2
theorem may_sub {ds ds' : List De} (h : mayP ds = true) (hl : ds'.length ≤ ds.length) (hsub : ∀ d ∈ ds', d ∈ ds) : mayP ds' = true := by
  unfold mayP at h ⊢
  simp only [Bool.and_eq_true, decide_eq_true_eq] at h ⊢
  refine ⟨⟨by omega, List.all_eq_true.2 fun d hd => List.all_eq_true.1 h.1.2 d (hsub d hd)⟩, List.all_eq_true.2 fun x hx => ?_⟩
  obtain ⟨d, hd, hx⟩ := List.mem_flatMap.1 hx
  exact List.all_eq_true.1 h.2 x (List.mem_flatMap.2 ⟨d, hsub d hd, hx⟩)
/-- a program is OK -/
theorem check_ok {ds : List De} : (checkK ds).2 = 0 ↔ mayP ds = true ∧ threadsK ds ≤ 16 ∧ lookK ds = .ok () := by
  unfold checkK
  by_cases hm : mayP ds = true
  · rw [if_pos hm]
    by_cases ht : 16 < threadsK ds
    · rw [if_pos ht]
      constructor
      · intro h; cases h
      · rintro ⟨_, h, _⟩; omega
    · rw [if_neg ht]
      have he := lookK_er ds
      cases hl : lookK ds with
      | error q =>
        rw [hl] at he
        have := he.out q rfl
        simp only
        constructor
        · intro h; omega
        · rintro ⟨_, _, h⟩; cases h
      | ok u => exact ⟨fun _ => ⟨hm, by omega, rfl⟩, fun _ => rfl⟩
  · rw [if_neg hm]
    constructor
    · intro h; cases h
    · intro h; exact absurd h.1 hm
/-- with other declarations, of its own, no name twice, no more, but threads and funcs that nobody calls: OK still -/
theorem check_sub {ds ds' : List De} (h : (checkK ds).2 = 0) (hl : ds'.length ≤ ds.length) (ht : threadsK ds' ≤ threadsK ds) (hsub : ∀ d ∈ ds', d ∈ ds) (hnd : (ds'.map De.name).Nodup) (hgone : ∀ d ∈ ds, d ∈ ds' ∨ d.kind = 5 ∨ (d.kind = 4 ∧ ∀ e ∈ ds', d.name ∉ callNL e.body)) : (checkK ds').2 = 0 := by
  obtain ⟨h1, h2, h3⟩ := check_ok.1 h
  exact check_ok.2 ⟨may_sub h1 hl hsub, by omega, look_sub (may_okR h1) h3 hsub hnd hgone⟩
theorem check_names {ds : List De} (h : (checkK ds).2 = 0) : (ds.map De.name).Nodup := by
  obtain ⟨h1, _, h3⟩ := check_ok.1 h
  obtain ⟨_, G⟩ := look_good (may_okR h1) h3
  exact G.nd
theorem check_perm {ds ds' : List De} (hp : ds'.Perm ds) (h : (checkK ds).2 = 0) : (checkK ds').2 = 0 :=
  check_sub h (Nat.le_of_eq hp.length_eq) (Nat.le_of_eq (hp.countP_eq _)) (fun _ hd => hp.mem_iff.1 hd) ((hp.map De.name).nodup_iff.2 (check_names h)) (fun _ hd => Or.inl (hp.mem_iff.2 hd))
end Go.Proofs.YtpcdlneompnhlaaGreatDoor.Ty
