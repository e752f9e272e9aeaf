/- The plain parser of expressions: more fuel changes nothing; what is read hangs on the tokens that are read, and on the next one's being none that goes on. Conditions: none. · The plain parser on a thread that prints one expression: what it answers, and when. Conditions: none. · What is cut stays cut with a semicolon behind; a text with a semicolon and a bracket behind it, but for a remark at its end. Conditions: none. · An expression in brackets is that expression: the plain parser on the tokens of a thread that prints it. Conditions: none. -/
import Derived.Test.YtfhmhplbkheojaaGreatDoorGrAJ
import Derived.Test.YtfhmhplbkheojaaGreatDoorGrAV
namespace Go.Proofs.YtfhmhplbkheojaaGreatDoor.Pa
open Go Go.RowKit
open Go.Proofs.YtfhmhplbkheojaaGreatDoor.Lx Go.Proofs.YtfhmhplbkheojaaGreatDoor.Tr

/-- more fuel changes nothing -/
theorem more (l : List Tk) : ∀ f : Nat, (∀ i r, unaryP l f i = some r → unaryP l (f + 1) i = some r) ∧ (∀ i r, atomP l f i = some r → atomP l (f + 1) i = some r) ∧
    (∀ m i r, joinedP l f m i = some r → joinedP l (f + 1) m i = some r) ∧ (∀ m k x i r, loopP l f m k x i = some r → loopP l (f + 1) m k x i = some r) := by
  intro f
  induction f with
  | zero =>
    refine ⟨fun i r h => ?_, fun i r h => ?_, fun m i r h => ?_, fun m k x i r h => ?_⟩
    · unfold unaryP at h; cases h
    · unfold atomP at h; cases h
    · unfold joinedP at h; cases h
    · unfold loopP at h; cases h
  | succ f ih =>
    obtain ⟨hU, hA, hJ, hL⟩ := ih
    refine ⟨fun i r h => ?_, fun i r h => ?_, fun m i r h => ?_, fun m k x i r h => ?_⟩
    · unfold unaryP at h ⊢
      by_cases h1 : tx l i = ⟨#[45]⟩
      · rw [if_pos h1] at h ⊢
        cases hu : unaryP l f (i + 1) with
        | none => rw [hu] at h; cases h
        | some q => rw [hu] at h; rw [hU _ _ hu]; exact h
      · rw [if_neg h1] at h ⊢
        by_cases h2 : tx l i = ⟨#[33]⟩
        · rw [if_pos h2] at h ⊢
          cases hu : unaryP l f (i + 1) with
          | none => rw [hu] at h; cases h
          | some q => rw [hu] at h; rw [hU _ _ hu]; exact h
        · rw [if_neg h2] at h ⊢
          exact hA _ _ h
    · unfold atomP at h ⊢
      by_cases h0 : kd l i = 2
      · rw [if_pos h0] at h ⊢; exact h
      · rw [if_neg h0] at h ⊢
        by_cases h1 : tx l i = ⟨#[116, 114, 117, 101]⟩
        · rw [if_pos h1] at h ⊢; exact h
        · rw [if_neg h1] at h ⊢
          by_cases h2 : tx l i = ⟨#[102, 97, 108, 115, 101]⟩
          · rw [if_pos h2] at h ⊢; exact h
          · rw [if_neg h2] at h ⊢
            by_cases h3 : tx l i = ⟨#[40]⟩
            · rw [if_pos h3] at h ⊢
              cases hu : joinedP l f 1 (i + 1) with
              | none => rw [hu] at h; cases h
              | some q => rw [hu] at h; rw [hJ _ _ _ hu]; exact h
            · rw [if_neg h3] at h ⊢
              cases hn : nameR l i with
              | bad p => rw [hn] at h; exact h
              | ok s j =>
                rw [hn] at h
                simp only at h ⊢
                by_cases h4 : tx l j = ⟨#[91]⟩
                · rw [if_pos h4] at h ⊢
                  cases hu : joinedP l f 1 (j + 1) with
                  | none => rw [hu] at h; cases h
                  | some q => rw [hu] at h; rw [hJ _ _ _ hu]; exact h
                · rw [if_neg h4] at h ⊢; exact h
    · unfold joinedP at h ⊢
      cases hu : unaryP l f i with
      | none => rw [hu] at h; cases h
      | some q =>
        rw [hu] at h
        rw [hU _ _ hu]
        cases q with
        | ok e j => exact hL _ _ _ _ _ h
        | bad p => exact h
    · unfold loopP at h ⊢
      by_cases h1 : (opr (tx l i)).binds < m ∨ k < (opr (tx l i)).binds
      · rw [if_pos h1] at h ⊢; exact h
      · rw [if_neg h1] at h ⊢
        cases hu : joinedP l f ((opr (tx l i)).binds + 1) (i + 1) with
        | none => rw [hu] at h; cases h
        | some q =>
          rw [hu] at h
          rw [hJ _ _ _ hu]
          cases q with
          | ok e j => exact hL _ _ _ _ _ h
          | bad p => exact h
theorem joined_more (l : List Tk) {f g : Nat} (hfg : f ≤ g) {m : Int} {i : Nat} {r : Res Ex} (h : joinedP l f m i = some r) : joinedP l g m i = some r := by
  induction hfg with
  | refl => exact h
  | step _ ih => exact (more l _).2.2.1 _ _ _ ih

/-- a token that goes on with no expression, and begins none: ; or ) -/
def Stops (l : List Tk) (n : Nat) : Prop := (tx l n = ⟨#[59]⟩ ∨ tx l n = ⟨#[41]⟩) ∧ kd l n ≠ 2
theorem Stops.ne {l : List Tk} {n : Nat} (h : Stops l n) : tx l n ≠ ⟨#[45]⟩ ∧ tx l n ≠ ⟨#[33]⟩ ∧ tx l n ≠ ⟨#[116, 114, 117, 101]⟩ ∧ tx l n ≠ ⟨#[102, 97, 108, 115, 101]⟩ ∧ tx l n ≠ ⟨#[40]⟩ ∧ tx l n ≠ ⟨#[91]⟩ ∧ tx l n ≠ ⟨#[93]⟩ ∧ nme (tx l n).data.toList = false ∧ (opr (tx l n)).binds = 0 := by
  rcases h.1 with e | e <;> (rw [e]; decide)
/-- two rows of tokens: from i0 on up to n they are the same, so many farther on; at n both stop -/
structure Sub (g g' : Int → Int) (i0 n d : Nat) (l l' : List Tk) : Prop where
  tx : ∀ k, i0 ≤ k → k < n → Pa.tx l' (k + d) = Pa.tx l k
  kd : ∀ k, i0 ≤ k → k < n → Pa.kd l' (k + d) = Pa.kd l k
  ps : ∀ k, i0 ≤ k → k < n → g' (Pa.ps l' (k + d)) = g (Pa.ps l k)
  st : Stops l n
  st' : Stops l' (n + d)
def XG (g g' : Int → Int) (e e' : Ex) : Prop := eg g' e' = eg g e
/-- what is read of the one is read of the other -/
def Tr2 (g g' : Int → Int) (n d : Nat) (r r' : Option (Res Ex)) : Prop := ∀ e j, r = some (.ok e j) → j ≤ n → ∃ e', r' = some (.ok e' (j + d)) ∧ XG g g' e e'
theorem numR_sub {g g' : Int → Int} {i0 n d : Nat} {l l' : List Tk} (H : Sub g g' i0 n d l l') {i : Nat} (h0 : i0 ≤ i) (hi : i < n) {s : ByteArray} {x : Int} {j : Nat} (h : numR l i s = .ok x j) : numR l' (i + d) s = .ok x (j + d) := by
  have hj := numR_lt h
  subst hj
  unfold numR at h ⊢
  rw [H.tx i h0 hi, H.kd i h0 hi]
  split at h
  · split at h
    · cases h
      rename_i h1 h2
      rw [if_pos h1, show i + 1 + d = i + d + 1 by omega]
    · cases h
  · cases h
theorem nameR_sub {g g' : Int → Int} {i0 n d : Nat} {l l' : List Tk} (H : Sub g g' i0 n d l l') {i : Nat} (h0 : i0 ≤ i) (hi : i < n) {s : ByteArray} {j : Nat} (h : nameR l i = .ok s j) : nameR l' (i + d) = .ok s (j + d) := by
  have hj := nameR_lt h
  subst hj
  unfold nameR at h ⊢
  rw [H.tx i h0 hi]
  split at h
  · cases h
    rename_i h1
    rw [if_pos h1, show i + 1 + d = i + d + 1 by omega]
  · cases h
set_option maxHeartbeats 2000000 in
theorem sub {g g' : Int → Int} {i0 n d : Nat} {l l' : List Tk} (H : Sub g g' i0 n d l l') : ∀ f : Nat,
    (∀ i, i0 ≤ i → i ≤ n → Tr2 g g' n d (unaryP l f i) (unaryP l' f (i + d))) ∧ (∀ i, i0 ≤ i → i ≤ n → Tr2 g g' n d (atomP l f i) (atomP l' f (i + d))) ∧
    (∀ m i, 1 ≤ m → i0 ≤ i → i ≤ n → Tr2 g g' n d (joinedP l f m i) (joinedP l' f m (i + d))) ∧
    (∀ m k x x' i, 1 ≤ m → i0 ≤ i → i ≤ n → XG g g' x x' → Tr2 g g' n d (loopP l f m k x i) (loopP l' f m k x' (i + d))) := by
  intro f
  induction f with
  | zero =>
    refine ⟨fun i _ _ e j h => ?_, fun i _ _ e j h => ?_, fun m i _ _ _ e j h => ?_, fun m k x x' i _ _ _ _ e j h => ?_⟩
    · unfold unaryP at h; cases h
    · unfold atomP at h; cases h
    · unfold joinedP at h; cases h
    · unfold loopP at h; cases h
  | succ f ih =>
    obtain ⟨hU, hA, hJ, hL⟩ := ih
    have gr := growsS l f
    refine ⟨fun i h0 hi e j h hj => ?_, fun i h0 hi e j h hj => ?_, fun m i hm h0 hi e j h hj => ?_, fun m k x x' i hm h0 hi hx e j h hj => ?_⟩
    · by_cases hin : i = n
      · subst hin
        obtain ⟨s1, s2, _⟩ := H.st.ne
        unfold unaryP at h ⊢
        rw [if_neg s1, if_neg s2] at h
        have := hA i h0 (Nat.le_refl _) e j h hj
        have hlt := gr.2.1 _ _ _ h
        omega
      · have hlt : i < n := by omega
        unfold unaryP at h ⊢
        rw [H.tx i h0 hlt]
        by_cases h1 : tx l i = ⟨#[45]⟩
        · rw [if_pos h1] at h ⊢
          cases hu : unaryP l f (i + 1) with
          | none => rw [hu] at h; cases h
          | some q =>
            rw [hu] at h
            cases q with
            | bad p => cases h
            | ok e2 j2 =>
              cases h
              obtain ⟨e', h', hx⟩ := hU (i + 1) (by omega) (by omega) e2 j hu hj
              rw [show i + d + 1 = i + 1 + d by omega, h']
              refine ⟨_, rfl, ?_⟩
              unfold XG at *
              rw [eg_eq, eg_eq, egL_cons, egL_cons, egL_nil, egL_nil, hx, H.ps i h0 hlt]
        · rw [if_neg h1] at h ⊢
          by_cases h2 : tx l i = ⟨#[33]⟩
          · rw [if_pos h2] at h ⊢
            cases hu : unaryP l f (i + 1) with
            | none => rw [hu] at h; cases h
            | some q =>
              rw [hu] at h
              cases q with
              | bad p => cases h
              | ok e2 j2 =>
                cases h
                obtain ⟨e', h', hx⟩ := hU (i + 1) (by omega) (by omega) e2 j hu hj
                rw [show i + d + 1 = i + 1 + d by omega, h']
                refine ⟨_, rfl, ?_⟩
                unfold XG at *
                rw [eg_eq, eg_eq, egL_cons, egL_cons, egL_nil, egL_nil, hx, H.ps i h0 hlt]
          · rw [if_neg h2] at h ⊢
            exact hA i h0 hi e j h hj
    · by_cases hin : i = n
      · subst hin
        obtain ⟨_, _, s3, s4, s5, _, _, s8, _⟩ := H.st.ne
        unfold atomP at h
        rw [if_neg H.st.2, if_neg s3, if_neg s4, if_neg s5] at h
        have hn : nameR l i = .bad (ps l i) := by unfold nameR; rw [if_neg (by rw [s8]; decide)]
        rw [hn] at h
        cases h
      · have hlt : i < n := by omega
        unfold atomP at h ⊢
        rw [H.tx i h0 hlt, H.kd i h0 hlt]
        by_cases hk : kd l i = 2
        · rw [if_pos hk] at h ⊢
          cases hu : numR l i ⟨#[]⟩ with
          | bad p => rw [hu] at h; cases h
          | ok x j2 =>
            rw [hu] at h
            cases h
            rw [numR_sub H h0 hlt hu]
            refine ⟨_, rfl, ?_⟩
            unfold XG
            rw [eg_eq, eg_eq, egL_nil, egL_nil, H.ps i h0 hlt]
        · rw [if_neg hk] at h ⊢
          by_cases h1 : tx l i = ⟨#[116, 114, 117, 101]⟩
          · rw [if_pos h1] at h ⊢
            cases h
            refine ⟨_, by rw [show i + 1 + d = i + d + 1 by omega], ?_⟩
            unfold XG
            rw [eg_eq, eg_eq, egL_nil, egL_nil, H.ps i h0 hlt]
          · rw [if_neg h1] at h ⊢
            by_cases h2 : tx l i = ⟨#[102, 97, 108, 115, 101]⟩
            · rw [if_pos h2] at h ⊢
              cases h
              refine ⟨_, by rw [show i + 1 + d = i + d + 1 by omega], ?_⟩
              unfold XG
              rw [eg_eq, eg_eq, egL_nil, egL_nil, H.ps i h0 hlt]
            · rw [if_neg h2] at h ⊢
              by_cases h3 : tx l i = ⟨#[40]⟩
              · rw [if_pos h3] at h ⊢
                cases hu : joinedP l f 1 (i + 1) with
                | none => rw [hu] at h; cases h
                | some q =>
                  rw [hu] at h
                  cases q with
                  | bad p => cases h
                  | ok e2 j2 =>
                    simp only at h
                    by_cases h4 : tx l j2 = ⟨#[41]⟩
                    · rw [if_pos h4] at h
                      cases h
                      obtain ⟨e', h', hx⟩ := hJ 1 (i + 1) (by omega) (by omega) (by omega) e j2 hu (by omega)
                      rw [show i + d + 1 = i + 1 + d by omega, h']
                      simp only
                      have hg2 := gr.2.2.1 _ _ _ _ hu
                      rw [H.tx j2 (by omega) (by omega), if_pos h4]
                      exact ⟨e', by rw [show j2 + 1 + d = j2 + d + 1 by omega], hx⟩
                    · rw [if_neg h4] at h; cases h
              · rw [if_neg h3] at h ⊢
                cases hn : nameR l i with
                | bad p => rw [hn] at h; cases h
                | ok s j2 =>
                  rw [hn] at h
                  have hj2 := nameR_lt hn
                  subst hj2
                  rw [nameR_sub H h0 hlt hn]
                  simp only at h ⊢
                  by_cases hjn : i + 1 = n
                  · have s6 := H.st.ne.2.2.2.2.2.1
                    have s6' := H.st'.ne.2.2.2.2.2.1
                    rw [← hjn] at s6 s6'
                    rw [if_neg s6] at h
                    rw [if_neg s6']
                    cases h
                    refine ⟨_, rfl, ?_⟩
                    unfold XG
                    rw [eg_eq, eg_eq, egL_nil, egL_nil, H.ps i h0 hlt]
                  · rw [H.tx (i + 1) (by omega) (by omega)]
                    by_cases h4 : tx l (i + 1) = ⟨#[91]⟩
                    · rw [if_pos h4] at h ⊢
                      cases hu : joinedP l f 1 (i + 1 + 1) with
                      | none => rw [hu] at h; cases h
                      | some q =>
                        rw [hu] at h
                        cases q with
                        | bad p => cases h
                        | ok e2 k2 =>
                          simp only at h
                          by_cases h5 : tx l k2 = ⟨#[93]⟩
                          · rw [if_pos h5] at h
                            cases h
                            obtain ⟨e', h', hx⟩ := hJ 1 (i + 1 + 1) (by omega) (by omega) (by omega) e2 k2 hu (by omega)
                            rw [show i + 1 + d + 1 = i + 1 + 1 + d by omega, h']
                            simp only
                            have hg2 := gr.2.2.1 _ _ _ _ hu
                            rw [H.tx k2 (by omega) (by omega), if_pos h5]
                            refine ⟨_, by rw [show k2 + 1 + d = k2 + d + 1 by omega], ?_⟩
                            unfold XG at *
                            rw [eg_eq, eg_eq, egL_cons, egL_cons, egL_nil, egL_nil, hx, H.ps i h0 hlt]
                          · rw [if_neg h5] at h; cases h
                    · rw [if_neg h4] at h ⊢
                      cases h
                      refine ⟨_, rfl, ?_⟩
                      unfold XG
                      rw [eg_eq, eg_eq, egL_nil, egL_nil, H.ps i h0 hlt]
    · unfold joinedP at h ⊢
      cases hu : unaryP l f i with
      | none => rw [hu] at h; cases h
      | some q =>
        rw [hu] at h
        cases q with
        | bad p => cases h
        | ok e2 j2 =>
          have hg1 := gr.1 _ _ _ hu
          have hg2 := gr.2.2.2 _ _ _ _ _ _ h
          obtain ⟨e', h', hx⟩ := hU i h0 hi e2 j2 hu (by omega)
          rw [h']
          exact hL m 5 e2 e' j2 hm (by omega) (by omega) hx e j h hj
    · unfold loopP at h ⊢
      by_cases hin : i = n
      · subst hin
        have b1 := H.st.ne.2.2.2.2.2.2.2.2
        have b2 := H.st'.ne.2.2.2.2.2.2.2.2
        rw [if_pos (by omega)] at h
        rw [if_pos (by omega)]
        cases h
        exact ⟨x', rfl, hx⟩
      · have hlt : i < n := by omega
        rw [H.tx i h0 hlt]
        by_cases h1 : (opr (tx l i)).binds < m ∨ k < (opr (tx l i)).binds
        · rw [if_pos h1] at h ⊢
          cases h
          exact ⟨x', rfl, hx⟩
        · rw [if_neg h1] at h ⊢
          have hb : 1 ≤ (opr (tx l i)).binds := by omega
          cases hu : joinedP l f ((opr (tx l i)).binds + 1) (i + 1) with
          | none => rw [hu] at h; cases h
          | some q =>
            rw [hu] at h
            cases q with
            | bad p => cases h
            | ok e2 j2 =>
              have hg1 := gr.2.2.1 _ _ _ _ hu
              have hg2 := gr.2.2.2 _ _ _ _ _ _ h
              obtain ⟨e', h', hx2⟩ := hJ ((opr (tx l i)).binds + 1) (i + 1) (by omega) (by omega) (by omega) e2 j2 hu (by omega)
              rw [show i + d + 1 = i + 1 + d by omega, h']
              refine hL _ _ _ _ _ hm (by omega) (by omega) ?_ e j h hj
              unfold XG at *
              unfold two
              split <;> rw [eg_eq, eg_eq, egL_cons, egL_cons, egL_cons, egL_cons, egL_nil, egL_nil, hx, hx2, H.ps i h0 hlt]
end Go.Proofs.YtfhmhplbkheojaaGreatDoor.Pa

namespace Go.Proofs.YtfhmhplbkheojaaGreatDoor.Pa
open Go Go.RowKit
open Go.Proofs.YtfhmhplbkheojaaGreatDoor.Lx Go.Proofs.YtfhmhplbkheojaaGreatDoor.Tr

theorem stmtsR_len (l : List Tk) : ∀ (f : Nat) (acc : List St) (i : Nat) {b : List St} {j : Nat}, stmtsR l f acc i = .ok b j → acc.length ≤ b.length
  | 0, acc, i, b, j, h => by unfold stmtsR at h; cases h
  | f + 1, acc, i, b, j, h => by
    unfold stmtsR at h
    split at h
    · cases h; exact Nat.le_refl _
    · obtain ⟨s, k, _, h2⟩ := Res.bind_ok h
      have := stmtsR_len l f _ _ h2
      rw [List.length_append, List.length_singleton] at this
      omega
theorem declsR_len (l : List Tk) : ∀ (f : Nat) (acc : List De) (i : Nat) {b : List De} {j : Nat}, declsR l f acc i = .ok b j → acc.length ≤ b.length
  | 0, acc, i, b, j, h => by unfold declsR at h; cases h
  | f + 1, acc, i, b, j, h => by
    unfold declsR at h
    split at h
    · obtain ⟨s, k, _, h2⟩ := Res.bind_ok h
      have := declsR_len l f _ _ h2
      rw [List.length_append, List.length_singleton] at this
      omega
    · cases h; exact Nat.le_refl _

/-- a thread's beginning, up to what it prints -/
structure Hd (l : List Tk) : Prop where
  t0 : tx l 0 = wThread
  t1 : tx l 1 = ⟨#[116]⟩
  t2 : tx l 2 = ⟨#[123]⟩
  t3 : tx l 3 = wPrint
  len : 5 ≤ l.length
theorem told_eq {l : List Tk} (H : Hd l) (f : Nat) : stmtR l (f + 1) 3 = Res.at (ps l 3) (toldR l 7 4) := by
  unfold stmtR
  rw [H.t3, if_neg (by decide), if_neg (by decide), if_neg (by decide), if_neg (by decide), if_pos rfl]
theorem block_eq {l : List Tk} (H : Hd l) (f : Nat) : blockR l f 2 = stmtsR l f [] 3 := by
  unfold blockR takeR
  rw [H.t2, if_pos rfl]
  rfl
theorem decl_eq {l : List Tk} (H : Hd l) : declR l 0 = (stmtsR l (SF l) [] 3).bind fun b m => .ok (deE 5 ⟨#[116]⟩ 0 [] b (ps l 0)) m := by
  unfold declR
  have hn : nameR l 1 = .ok ⟨#[116]⟩ 2 := by
    unfold nameR
    rw [H.t1, if_pos (by decide)]
  rw [H.t0, if_neg (by decide), if_neg (by decide), if_neg (by decide), if_neg (by decide), if_pos rfl, hn]
  show (blockR l (SF l) 2).bind _ = _
  rw [block_eq H]
/-- what is answered of such a thread -/
def oneD (l : List Tk) (e : Ex) : De := deE 5 ⟨#[116]⟩ 0 [] [stAt (ps l 3) (stE 7 noB noB false [e] [] [])] (ps l 0)
theorem print_ok {l : List Tk} (H : Hd l) {e : Ex} {j : Nat} (he : exprR l 4 = .ok e j) (h1 : tx l j = ⟨#[59]⟩) (h2 : tx l (j + 1) = ⟨#[125]⟩) (h3 : l.length = j + 3) : declsR l (l.length + 1) [] 0 = .ok [oneD l e] (j + 2) := by
  have hto : toldR l 7 4 = .ok (stE 7 noB noB false [e] [] []) (j + 1) := by
    unfold toldR
    rw [he]
    show (takeR l j ⟨#[59]⟩).bind _ = _
    unfold takeR
    rw [h1, if_pos rfl]
    rfl
  have hst : stmtsR l (SF l) [] 3 = .ok [stAt (ps l 3) (stE 7 noB noB false [e] [] [])] (j + 2) := by
    obtain ⟨g, hg⟩ : ∃ g, SF l = g + 1 + 1 := ⟨SF l - 2, by unfold SF; omega⟩
    rw [hg]
    rw [stmtsR, H.t3, if_neg (by decide), told_eq H, hto]
    show stmtsR l (g + 1) ([] ++ [_]) (j + 1) = _
    rw [stmtsR, h2, if_pos rfl]
    rfl
  have hd : declR l 0 = .ok (oneD l e) (j + 2) := by rw [decl_eq H, hst]; rfl
  obtain ⟨g, hg⟩ : ∃ g, l.length = g + 1 := ⟨l.length - 1, by omega⟩
  rw [hg]
  rw [declsR, if_pos (by omega), hd]
  show declsR l (g + 1) ([] ++ [_]) (j + 2) = _
  rw [declsR, if_neg (by omega)]
  rfl
/-- where the print's expression is refused, all is -/
theorem print_bad {l : List Tk} (H : Hd l) {p : Int} (he : exprR l 4 = .bad p) : declsR l (l.length + 1) [] 0 = .bad p := by
  have hto : toldR l 7 4 = .bad p := by unfold toldR; rw [he]; rfl
  have hst : stmtsR l (SF l) [] 3 = .bad p := by
    obtain ⟨g, hg⟩ : ∃ g, SF l = g + 1 + 1 := ⟨SF l - 2, by unfold SF; omega⟩
    rw [hg]
    rw [stmtsR, H.t3, if_neg (by decide), told_eq H, hto]
    rfl
  have hd : declR l 0 = .bad p := by rw [decl_eq H, hst]; rfl
  have := H.len
  obtain ⟨g, hg⟩ : ∃ g, l.length = g + 1 := ⟨l.length - 1, by omega⟩
  rw [hg]
  rw [declsR, if_pos (by omega), hd]
  rfl
/-- where one thread of one statement is answered, that is the print, and nothing stands behind it -/
theorem print_inv {l : List Tk} (H : Hd l) {d : De} {J : Nat} (h : declsR l (l.length + 1) [] 0 = .ok [d] J) (hb : d.body.length = 1) :
    ∃ e j, exprR l 4 = .ok e j ∧ tx l j = ⟨#[59]⟩ ∧ tx l (j + 1) = ⟨#[125]⟩ ∧ ¬ j + 3 < l.length ∧ d = oneD l e := by
  have hl5 := H.len
  obtain ⟨g, hg⟩ : ∃ g, l.length = g + 1 := ⟨l.length - 1, by omega⟩
  rw [hg, declsR, if_pos (by omega)] at h
  obtain ⟨d0, m, h1, h2⟩ := Res.bind_ok h
  rw [declsR] at h2
  split at h2
  · obtain ⟨d1, m1, _, h3⟩ := Res.bind_ok h2
    have := declsR_len l _ _ _ h3
    simp at this
  · rename_i hm
    cases h2
    rw [decl_eq H] at h1
    obtain ⟨b, m2, h3, h4⟩ := Res.bind_ok h1
    cases h4
    have hb1 : b.length = 1 := hb
    obtain ⟨k, hk⟩ : ∃ k, SF l = k + 1 + 1 := ⟨SF l - 2, by unfold SF; omega⟩
    rw [hk, stmtsR, H.t3, if_neg (by decide), told_eq H] at h3
    obtain ⟨s, j, h5, h6⟩ := Res.bind_ok h3
    rw [stmtsR] at h6
    split at h6
    · rename_i hbr
      cases h6
      obtain ⟨s0, hs0⟩ := Res.at_ok h5
      rw [hs0] at h5
      have hs : s = stAt (ps l 3) s0 := by cases h5; rfl
      unfold toldR at hs0
      obtain ⟨e, q, h7, h8⟩ := Res.bind_ok hs0
      obtain ⟨u, r, h9, h10⟩ := Res.bind_ok h8
      cases h10
      have hr := takeR_lt h9
      subst hr
      have hq : tx l q = ⟨#[59]⟩ := by
        unfold takeR at h9
        split at h9
        · assumption
        · cases h9
      refine ⟨e, q, h7, hq, hbr, by omega, ?_⟩
      unfold oneD
      rw [hs]
      rfl
    · obtain ⟨s1, j1, _, h7⟩ := Res.bind_ok h6
      have := stmtsR_len l _ _ _ h7
      simp at this
      omega
end Go.Proofs.YtfhmhplbkheojaaGreatDoor.Pa

namespace Go.Proofs.YtfhmhplbkheojaaGreatDoor.Lx
open Go

theorem sgn_semi (c : UInt8) (l r : List UInt8) : sgn ((c :: l) ++ 59 :: r) = sgn (c :: l) := by
  rw [sgn_eq, sgn_eq]
  cases l with
  | nil =>
    have e1 : (([c] : List UInt8) ++ 59 :: r).take 2 = [c, 59] := rfl
    have e2 : (([c] : List UInt8) ++ 59 :: r).take 1 = [c] := rfl
    have e3 : ([c] : List UInt8).take 2 = [c] := rfl
    have e4 : ([c] : List UInt8).take 1 = [c] := rfl
    have h2 : twos.contains [c, 59] = false := by
      have hx : ∀ x ∈ twos, x.getD 1 0 ≠ 59 := by decide
      rw [Bool.eq_false_iff]
      intro e
      have hm : [c, 59] ∈ twos := by simpa using e
      exact hx _ hm rfl
    rw [e1, e2, e3, e4, h2]
    have h1 : twos.contains [c] = false := by have := twos_short [c] (by simp); rwa [e3] at this
    rw [h1]
  | cons a l => rfl
theorem cutL_semi (l r : List UInt8) (hl : l ≠ []) : cutL (l ++ 59 :: r) = cutL l := by
  cases l with
  | nil => exact absurd rfl hl
  | cons c l =>
    rw [List.cons_append, cutL_cons, cutL_cons, ← List.cons_append, run_app wth 59 (by decide), run_app dgt 59 (by decide), sgn_semi]
    have h1 := run_le dgt (c :: l)
    have e1 : ((c :: l) ++ 59 :: r).take (run dgt (c :: l)) = (c :: l).take (run dgt (c :: l)) := by
      rw [List.take_append_of_le_length h1]
    have e2 : ((((c :: l) ++ 59 :: r).drop (run dgt (c :: l))).head?.elim false bgn) = (((c :: l).drop (run dgt (c :: l))).head?.elim false bgn) := by
      rw [List.drop_append_of_le_length h1]
      cases hx : (c :: l).drop (run dgt (c :: l)) with
      | nil => rw [List.nil_append, List.head?_cons, Option.elim_some]; rfl
      | cons a b => rfl
    rw [e1, e2]
/-- does what is passed over end within a remark? -/
def opn : Bool → List UInt8 → Bool
  | b, [] => b
  | true, c :: l => if c.toNat = 10 then opn false l else opn true l
  | false, c :: l => if blk c then opn false l else opn true l
theorem skp_semi : ∀ (b : Bool) (l r : List UInt8), skp b (l ++ 59 :: r) = if skp b l = l.length then (if opn b l = true then l.length + 1 + skp true r else l.length) else skp b l
  | true, [], r => by
    rw [List.nil_append, skp_true_cons, if_neg (by decide), skp_nil, List.length_nil, if_pos (Eq.refl 0)]
    unfold opn
    rw [if_pos rfl]; omega
  | false, [], r => by
    rw [List.nil_append, skp_false_cons, if_neg (by decide), if_neg (by decide), skp_nil, List.length_nil, if_pos (Eq.refl 0)]
    unfold opn
    rw [if_neg (by decide)]
  | true, c :: l, r => by
    rw [List.cons_append, skp_true_cons, skp_true_cons, skp_semi false l r, skp_semi true l r]
    by_cases hc : c.toNat = 10
    · have ho : opn true (c :: l) = opn false l := by rw [opn, if_pos hc]
      rw [if_pos hc, if_pos hc, ho]
      by_cases he : skp false l = l.length
      · rw [if_pos he, if_pos (show skp false l + 1 = (c :: l).length by simp [he])]; cases hoo : opn false l <;> simp <;> try omega
      · rw [if_neg he, if_neg (by simp; exact he)]
    · have ho : opn true (c :: l) = opn true l := by rw [opn, if_neg hc]
      rw [if_neg hc, if_neg hc, ho]
      by_cases he : skp true l = l.length
      · rw [if_pos he, if_pos (show skp true l + 1 = (c :: l).length by simp [he])]; cases hoo : opn true l <;> simp <;> try omega
      · rw [if_neg he, if_neg (by simp; exact he)]
  | false, c :: l, r => by
    rw [List.cons_append, skp_false_cons, skp_false_cons, skp_semi false l r, skp_semi true l r]
    by_cases hc : blk c = true
    · have ho : opn false (c :: l) = opn false l := by rw [opn, if_pos hc]
      rw [if_pos hc, if_pos hc, ho]
      by_cases he : skp false l = l.length
      · rw [if_pos he, if_pos (show skp false l + 1 = (c :: l).length by simp [he])]; cases hoo : opn false l <;> simp <;> try omega
      · rw [if_neg he, if_neg (by simp; exact he)]
    · have ho : opn false (c :: l) = opn true l := by rw [opn, if_neg hc]
      rw [if_neg hc, if_neg hc]
      by_cases h35 : c.toNat = 35
      · rw [if_pos h35, if_pos h35, ho]
        by_cases he : skp true l = l.length
        · rw [if_pos he, if_pos (show skp true l + 1 = (c :: l).length by simp [he])]; cases hoo : opn true l <;> simp <;> try omega
        · rw [if_neg he, if_neg (by simp; exact he)]
      · rw [if_neg h35, if_neg h35, if_neg (by simp)]
theorem lexs_cb (p : Nat) : lexs [125] p = .ok [⟨3, [125], p⟩] := by
  rw [lexs_tok [125] [125] p rfl (by simp) (by decide)]
  have h3 : cutL [125] = (3, 1) := by decide
  have h4 : skp false [125] = 0 := by decide
  rw [h3, h4]
  simp only [List.drop_succ_cons, List.drop_zero, Nat.add_zero]
  rw [lexs_end [] _ rfl]
  rfl
theorem lexs_st (p : Nat) : lexs [59, 125] p = .ok [⟨3, [59], p⟩, ⟨3, [125], p + 1⟩] := by
  rw [lexs_tok [59, 125] [59, 125] p rfl (by simp) (by decide)]
  have h1 : cutL [59, 125] = (3, 1) := by decide
  have h2 : skp false [59, 125] = 0 := by decide
  rw [h1, h2]
  simp only [List.drop_succ_cons, List.drop_zero, Nat.add_zero]
  rw [lexs_cb]
  rfl
/-- a semicolon and a bracket behind a text: tokens of their own, or within the remark at its end -/
theorem lexs_semi : ∀ (n : Nat) (l : List UInt8) (p : Nat), l.length ≤ n →
    (∀ ts, lexs l p = .ok ts → lexs (l ++ [59, 125]) p = .ok ts ∨ lexs (l ++ [59, 125]) p = pre ts (lexs [59, 125] (p + l.length))) ∧ (∀ q, lexs l p = .error q → ∃ q', lexs (l ++ [59, 125]) p = .error q')
  | n, l, p, hn => by
    have hs := skp_le false l
    have hsa : skp false (l ++ [59, 125]) = _ := skp_semi false l [125]
    have h125 : skp true [125] = 1 := by decide
    rw [h125] at hsa
    by_cases he : l.drop (skp false l) = []
    · have hl : skp false l = l.length := by
        have := congrArg List.length he
        rw [List.length_drop, List.length_nil] at this
        omega
      rw [lexs_end l p he]
      rw [if_pos hl] at hsa
      refine ⟨fun ts h => ?_, fun q h => (by cases h)⟩
      have hts : ts = [] := by injection h with h; exact h.symm
      subst hts
      by_cases ho : opn false l = true
      · rw [if_pos ho] at hsa
        left
        exact lexs_end _ p (by rw [hsa]; exact List.drop_of_length_le (by simp))
      · rw [if_neg ho] at hsa
        right
        rw [← lexs_skip (l ++ [59, 125]) p, hsa, List.drop_left]
        cases lexs [59, 125] (p + l.length) <;> rfl
    · have hl : skp false l ≠ l.length := fun e => he (List.drop_of_length_le (by omega))
      rw [if_neg hl] at hsa
      have hda : (l ++ [59, 125]).drop (skp false (l ++ [59, 125])) = l.drop (skp false l) ++ [59, 125] := by
        rw [hsa, List.drop_append_of_le_length hs]
      have hca : cutL (l.drop (skp false l) ++ [59, 125]) = cutL (l.drop (skp false l)) := cutL_semi (l.drop (skp false l)) [125] he
      by_cases hk : (cutL (l.drop (skp false l))).1 = 0
      · rw [lexs_bad l _ p rfl he hk]
        refine ⟨fun ts h => (by cases h), fun q _ => ⟨_, lexs_bad (l ++ [59, 125]) _ p hda (by simp) (by rw [hca]; exact hk)⟩⟩
      · have hb := cutL_bd _ hk
        rw [List.length_drop] at hb
        rw [lexs_tok l _ p rfl he hk]
        rw [lexs_tok (l ++ [59, 125]) _ p hda (by simp) (by rw [hca]; exact hk), hca, hsa]
        have hd2 : (l.drop (skp false l) ++ [59, 125]).drop (cutL (l.drop (skp false l))).2 = (l.drop (skp false l)).drop (cutL (l.drop (skp false l))).2 ++ [59, 125] := by
          rw [List.drop_append_of_le_length (by rw [List.length_drop]; exact hb.2)]
        have ht2 : (l.drop (skp false l) ++ [59, 125]).take (cutL (l.drop (skp false l))).2 = (l.drop (skp false l)).take (cutL (l.drop (skp false l))).2 := by
          rw [List.take_append_of_le_length (by rw [List.length_drop]; exact hb.2)]
        rw [hd2, ht2]
        have hlen : ((l.drop (skp false l)).drop (cutL (l.drop (skp false l))).2).length = l.length - skp false l - (cutL (l.drop (skp false l))).2 := by rw [List.length_drop, List.length_drop]
        match n, hn with
        | 0, hn => omega
        | n + 1, hn =>
          obtain ⟨i1, i2⟩ := lexs_semi n ((l.drop (skp false l)).drop (cutL (l.drop (skp false l))).2) (p + skp false l + (cutL (l.drop (skp false l))).2) (by rw [hlen]; omega)
          rw [hlen, show p + skp false l + (cutL (l.drop (skp false l))).2 + (l.length - skp false l - (cutL (l.drop (skp false l))).2) = p + l.length by omega] at i1
          cases hr : lexs ((l.drop (skp false l)).drop (cutL (l.drop (skp false l))).2) (p + skp false l + (cutL (l.drop (skp false l))).2) with
          | error q =>
            obtain ⟨q', hq'⟩ := i2 q hr
            rw [hq']
            exact ⟨fun ts h => (by cases h), fun q1 _ => ⟨q', rfl⟩⟩
          | ok us =>
            refine ⟨fun ts h => ?_, fun q h => (by cases h)⟩
            have hts := (Except.ok.inj h).symm
            subst hts
            rcases i1 us hr with e | e
            · left; rw [e]
            · right; rw [e]; cases lexs [59, 125] (p + l.length) <;> simp [pre]
end Go.Proofs.YtfhmhplbkheojaaGreatDoor.Lx

namespace Go.Proofs.YtfhmhplbkheojaaGreatDoor.Pa
open Go Go.RowKit
open Go.Proofs.YtfhmhplbkheojaaGreatDoor.Lx Go.Proofs.YtfhmhplbkheojaaGreatDoor.Tr

theorem toks_at {us : List Tok} {p i : Nat} {t : Tok} (h : us[i]? = some t) : tx (toks us p) i = ⟨t.txt.toArray⟩ ∧ kd (toks us p) i = t.kind := by
  have hi : (toks us p)[i]? = some (tkOf t) := by
    unfold toks
    have hl := (List.getElem?_eq_some_iff.1 h).1
    rw [List.getElem?_append_left (by rw [List.length_map]; exact hl), List.getElem?_map, h]; rfl
  exact ⟨tx_of hi, kd_of hi⟩
theorem toks_length (us : List Tok) (p : Nat) : (toks us p).length = us.length + 1 := by unfold toks; simp
/-- the tokens of 'thread t{print' -/
def H4 : List Tok := [⟨1, [116, 104, 114, 101, 97, 100], 0⟩, ⟨1, [116], 7⟩, ⟨3, [123], 8⟩, ⟨1, [112, 114, 105, 110, 116], 9⟩]
theorem hd_toks (us : List Tok) (p : Nat) : Hd (toks (H4 ++ us) p) := by
  refine ⟨(toks_at (t := ⟨1, [116, 104, 114, 101, 97, 100], 0⟩) rfl).1, (toks_at (t := ⟨1, [116], 7⟩) rfl).1, (toks_at (t := ⟨3, [123], 8⟩) rfl).1, (toks_at (t := ⟨1, [112, 114, 105, 110, 116], 9⟩) rfl).1, ?_⟩
  rw [toks_length, List.length_append]
  show 5 ≤ 4 + us.length + 1
  omega
def sm (q : Nat) : Tok := ⟨3, [59], q⟩
def cb (q : Nat) : Tok := ⟨3, [125], q⟩
def op (q : Nat) : Tok := ⟨3, [40], q⟩
def cl (q : Nat) : Tok := ⟨3, [41], q⟩
theorem get_h4 (us : List Tok) (k : Nat) (h : 4 ≤ k) : (H4 ++ us)[k]? = us[k - 4]? := by
  rw [List.getElem?_append_right (by show H4.length ≤ k; exact h)]
  rfl
def ZZ : Int → Int := fun _ => 0
theorem map_key {ts ts' : List Tok} (h : ts'.map (fun t => (t.kind, t.txt)) = ts.map (fun t => (t.kind, t.txt))) {i : Nat} {t : Tok} (ht : ts[i]? = some t) : ∃ t', ts'[i]? = some t' ∧ t'.kind = t.kind ∧ t'.txt = t.txt := by
  have e := congrArg (fun x => x[i]?) h
  simp only [List.getElem?_map, ht, Option.map_some] at e
  cases ht' : ts'[i]? with
  | none => rw [ht'] at e; cases e
  | some t' =>
    rw [ht'] at e
    have e2 := Option.some.inj e
    simp only [Prod.mk.injEq] at e2
    exact ⟨t', rfl, e2.1, e2.2⟩
/-- tokens ahead of n are the same in both rows -/
theorem sub_of {ts ts' Z Z' : List Tok} {p p' n : Nat} (q : Nat) (hk : ts'.map (fun t => (t.kind, t.txt)) = ts.map (fun t => (t.kind, t.txt))) (hn : n ≤ 4 + ts.length) (s1 : Stops (toks (H4 ++ (ts ++ Z)) p) n) (s2 : Stops (toks (H4 ++ (op q :: (ts' ++ Z'))) p') (n + 1)) :
    Sub ZZ ZZ 4 n 1 (toks (H4 ++ (ts ++ Z)) p) (toks (H4 ++ (op q :: (ts' ++ Z'))) p') := by
  have key : ∀ k, 4 ≤ k → k < n → ∃ t t' : Tok, (H4 ++ (ts ++ Z))[k]? = some t ∧ (H4 ++ (op q :: (ts' ++ Z')))[k + 1]? = some t' ∧ t'.kind = t.kind ∧ t'.txt = t.txt := by
    intro k h4 hk2
    have hlt : k - 4 < ts.length := by omega
    obtain ⟨t, ht⟩ : ∃ t, ts[k - 4]? = some t := ⟨_, List.getElem?_eq_getElem hlt⟩
    obtain ⟨t', ht', e1, e2⟩ := map_key hk ht
    have hlt' : k - 4 < ts'.length := (List.getElem?_eq_some_iff.1 ht').1
    refine ⟨t, t', ?_, ?_, e1, e2⟩
    · rw [get_h4 _ _ h4, List.getElem?_append_left hlt, ht]
    · rw [get_h4 _ _ (by omega), show k + 1 - 4 = (k - 4) + 1 by omega, List.getElem?_cons_succ, List.getElem?_append_left hlt', ht']
  refine ⟨fun k h4 hk2 => ?_, fun k h4 hk2 => ?_, fun _ _ _ => rfl, s1, s2⟩
  · obtain ⟨t, t', h1, h2, _, e2⟩ := key k h4 hk2
    rw [(toks_at h1).1, (toks_at h2).1, e2]
  · obtain ⟨t, t', h1, h2, e1, _⟩ := key k h4 hk2
    rw [(toks_at h1).2, (toks_at h2).2, e1]
/-- an expression in brackets -/
theorem bracket_at {l : List Tk} {i j f : Nat} {e : Ex} (h1 : tx l i = ⟨#[40]⟩) (hk : kd l i ≠ 2) (h3 : joinedP l f 1 (i + 1) = some (.ok e j)) (h4 : tx l j = ⟨#[41]⟩) (h5 : (opr (tx l (j + 1))).binds = 0) : joinedP l (f + 3) 1 i = some (.ok e (j + 1)) := by
  have hA : atomP l (f + 1) i = some (.ok e (j + 1)) := by
    unfold atomP
    rw [if_neg hk, h1, if_neg (by decide), if_neg (by decide), if_pos rfl, h3]
    simp only
    rw [if_pos h4]
  have hU : unaryP l (f + 2) i = some (.ok e (j + 1)) := by
    unfold unaryP
    rw [h1, if_neg (by decide), if_neg (by decide)]
    exact hA
  unfold joinedP
  rw [hU]
  simp only
  unfold loopP
  rw [if_pos (by omega)]
theorem bracket_no {l : List Tk} {i j f : Nat} {e : Ex} (h1 : tx l i = ⟨#[40]⟩) (hk : kd l i ≠ 2) (h3 : joinedP l f 1 (i + 1) = some (.ok e j)) (h4 : tx l j ≠ ⟨#[41]⟩) : joinedP l (f + 3) 1 i = some (.bad (ps l j)) := by
  have hA : atomP l (f + 1) i = some (.bad (ps l j)) := by
    unfold atomP
    rw [if_neg hk, h1, if_neg (by decide), if_neg (by decide), if_pos rfl, h3]
    simp only
    rw [if_neg h4]
  have hU : unaryP l (f + 2) i = some (.bad (ps l j)) := by
    unfold unaryP
    rw [h1, if_neg (by decide), if_neg (by decide)]
    exact hA
  unfold joinedP
  rw [hU]
theorem exprR_of {l : List Tk} {f i : Nat} {r : Res Ex} (h : joinedP l f 1 i = some r) : exprR l i = r := by
  have e := exprR_some l i
  rcases Nat.le_total f (FU l) with hf | hf
  · rw [joined_more l hf h] at e
    exact (Option.some.inj e).symm
  · have := joined_more l hf e
    rw [h] at this
    exact (Option.some.inj this).symm
theorem stop_at {us : List Tok} {p n : Nat} {t : Tok} (h : us[n]? = some t) (ht : t.txt = [59] ∨ t.txt = [41]) (hk : t.kind = 3) : Stops (toks us p) n := by
  obtain ⟨h1, h2⟩ := toks_at (p := p) h
  refine ⟨?_, by rw [h2, hk]; decide⟩
  rw [h1]
  rcases ht with e | e <;> rw [e]
  · exact Or.inl rfl
  · exact Or.inr rfl
/-- with a semicolon and a bracket of their own behind the expression -/
theorem br_same {ts ts' : List Tok} {a b q c d f p p' : Nat} (hk : ts'.map (fun t => (t.kind, t.txt)) = ts.map (fun t => (t.kind, t.txt))) {x : De} {J : Nat}
    (h : declsR (toks (H4 ++ (ts ++ [sm a, cb b])) p) ((toks (H4 ++ (ts ++ [sm a, cb b])) p).length + 1) [] 0 = .ok [x] J) (hx : x.body.length = 1) :
    ∃ e e', x = oneD (toks (H4 ++ (ts ++ [sm a, cb b])) p) e ∧ declsR (toks (H4 ++ (op q :: (ts' ++ [cl c, sm d, cb f]))) p') ((toks (H4 ++ (op q :: (ts' ++ [cl c, sm d, cb f]))) p').length + 1) [] 0 = .ok [oneD (toks (H4 ++ (op q :: (ts' ++ [cl c, sm d, cb f]))) p') e'] (ts.length + 8) ∧ XG ZZ ZZ e e' := by
  have hl : ts'.length = ts.length := by simpa using congrArg List.length hk
  have hlA : (toks (H4 ++ (ts ++ [sm a, cb b])) p).length = ts.length + 7 := by rw [toks_length]; simp [H4] <;> omega
  have hlB : (toks (H4 ++ (op q :: (ts' ++ [cl c, sm d, cb f]))) p').length = ts.length + 9 := by rw [toks_length]; simp [H4] <;> omega
  obtain ⟨e, j, he, hj, hj1, hjl, hd⟩ := print_inv (hd_toks _ _) h hx
  rw [hlA] at hjl
  have hj2 : j + 1 < (toks (H4 ++ (ts ++ [sm a, cb b])) p).length := tx_lt hj1 (by decide)
  have hne : j + 2 ≠ ts.length + 7 := by
    intro e0
    have := (toks_last (H4 ++ (ts ++ [sm a, cb b])) p (j + 1) (by omega)).1
    rw [this] at hj1
    exact absurd hj1 (by decide)
  have hjn : j = 4 + ts.length := by omega
  have gA : (H4 ++ (ts ++ [sm a, cb b]))[4 + ts.length]? = some (sm a) := by
    rw [get_h4 _ _ (by omega), List.getElem?_append_right (by omega)]
    simp
  have gB : ∀ i, 4 + ts.length + 1 ≤ i → (H4 ++ (op q :: (ts' ++ [cl c, sm d, cb f])))[i]? = [cl c, sm d, cb f][i - (4 + ts.length + 1)]? := by
    intro i hi
    rw [get_h4 _ _ (by omega), show i - 4 = (i - 5) + 1 by omega, List.getElem?_cons_succ, List.getElem?_append_right (by omega), hl]
    congr 1; omega
  have gB1 := gB (4 + ts.length + 1) (by omega)
  have gB2 := gB (4 + ts.length + 2) (by omega)
  have gB3 := gB (4 + ts.length + 3) (by omega)
  rw [Nat.sub_self] at gB1
  rw [show 4 + ts.length + 2 - (4 + ts.length + 1) = 1 by omega] at gB2
  rw [show 4 + ts.length + 3 - (4 + ts.length + 1) = 2 by omega] at gB3
  have S := sub_of q hk (Nat.le_refl (4 + ts.length)) (stop_at (p := p) gA (Or.inl rfl) rfl) (stop_at (p := p') gB1 (Or.inr rfl) rfl)
  have hje := exprR_some (toks (H4 ++ (ts ++ [sm a, cb b])) p) 4
  rw [he] at hje
  obtain ⟨e', h', hxg⟩ := (sub S _).2.2.1 1 4 (by decide) (Nat.le_refl _) (by omega) e j hje (by omega)
  subst hjn
  have hop : (H4 ++ (op q :: (ts' ++ [cl c, sm d, cb f])))[4]? = some (op q) := by rw [get_h4 _ _ (Nat.le_refl _)]; rfl
  have hB := bracket_at (toks_at (p := p') hop).1 (by rw [(toks_at (p := p') hop).2]; show ((3 : Nat) : Int) ≠ 2; decide) h' (toks_at (p := p') gB1).1 (by rw [(toks_at (p := p') gB2).1]; show (opr ⟨[59].toArray⟩).binds = 0; decide)
  refine ⟨e, e', hd, ?_, hxg⟩
  have := print_ok (hd_toks _ p') (exprR_of hB) (toks_at (p := p') gB2).1 (toks_at (p := p') gB3).1 (by rw [hlB]; omega)
  rw [show 4 + ts.length + 1 + 1 + 2 = ts.length + 8 by omega] at this
  exact this
/-- with what is behind the expression in a remark: the brackets are refused -/
theorem br_no {ts ts' : List Tok} {q c d f p p' : Nat} (hg : ∀ t ∈ ts, Lx.Good t) (hk : ts'.map (fun t => (t.kind, t.txt)) = ts.map (fun t => (t.kind, t.txt))) {x : De} {J : Nat}
    (h : declsR (toks (H4 ++ (ts ++ [])) p) ((toks (H4 ++ (ts ++ [])) p).length + 1) [] 0 = .ok [x] J) (hx : x.body.length = 1) :
    ∃ r, declsR (toks (H4 ++ (op q :: (ts' ++ [cl c, sm d, cb f]))) p') ((toks (H4 ++ (op q :: (ts' ++ [cl c, sm d, cb f]))) p').length + 1) [] 0 = .bad r := by
  have hl : ts'.length = ts.length := by simpa using congrArg List.length hk
  have hlA : (toks (H4 ++ (ts ++ [])) p).length = ts.length + 5 := by rw [toks_length]; simp [H4] <;> omega
  obtain ⟨e, j, he, hj, hj1, hjl, _⟩ := print_inv (hd_toks _ _) h hx
  have hje := exprR_some (toks (H4 ++ (ts ++ [])) p) 4
  rw [he] at hje
  have hg4 := exprR_lt he
  have hj2 : j + 1 < (toks (H4 ++ (ts ++ [])) p).length := tx_lt hj1 (by decide)
  have hlt : j - 4 < ts.length := by omega
  obtain ⟨t, ht⟩ : ∃ t, ts[j - 4]? = some t := ⟨_, List.getElem?_eq_getElem hlt⟩
  have gA : (H4 ++ (ts ++ []))[j]? = some t := by rw [get_h4 _ _ (by omega), List.append_nil, ht]
  have htx : t.txt = [59] := by
    have := (toks_at (p := p) gA).1
    rw [hj] at this
    have h2 := congrArg (fun b : ByteArray => b.data.toList) this
    simpa using h2.symm
  obtain ⟨t', ht', e1, e2⟩ := map_key hk ht
  have gB : (H4 ++ (op q :: (ts' ++ [cl c, sm d, cb f])))[j + 1]? = some t' := by
    rw [get_h4 _ _ (by omega), show j + 1 - 4 = (j - 4) + 1 by omega, List.getElem?_cons_succ, List.getElem?_append_left (by omega), ht']
  have hkd : t.kind = 3 := by
    obtain ⟨g1, _, _, _⟩ := hg t (List.mem_of_getElem? ht)
    rw [htx] at g1
    have g2 : cutL [59] = (3, 1) := by decide
    rw [g2] at g1
    exact (congrArg Prod.fst g1).symm
  have S := sub_of q hk (by omega) (stop_at (p := p) gA (Or.inl htx) hkd) (stop_at (p := p') gB (Or.inl (by rw [e2]; exact htx)) (by rw [e1]; exact hkd))
  obtain ⟨e', h', _⟩ := (sub S _).2.2.1 1 4 (by decide) (Nat.le_refl _) (by omega) e j hje (Nat.le_refl _)
  have hop : (H4 ++ (op q :: (ts' ++ [cl c, sm d, cb f])))[4]? = some (op q) := by rw [get_h4 _ _ (Nat.le_refl _)]; rfl
  have hB := bracket_no (toks_at (p := p') hop).1 (by rw [(toks_at (p := p') hop).2]; show ((3 : Nat) : Int) ≠ 2; decide) h' (by
    rw [(toks_at (p := p') gB).1, e2, htx]; decide)
  exact ⟨_, print_bad (hd_toks _ p') (exprR_of hB)⟩
end Go.Proofs.YtfhmhplbkheojaaGreatDoor.Pa
