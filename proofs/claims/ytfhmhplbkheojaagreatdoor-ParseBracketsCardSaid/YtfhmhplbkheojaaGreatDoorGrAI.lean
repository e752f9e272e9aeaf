/- The plain parser: its places grow, so much fuel is enough. Conditions: none. · The plain parser on two rows of tokens that are alike but for their places: expressions. Conditions: none. -/
import Derived.Test.YtfhmhplbkheojaaGreatDoorGrAH
namespace Go.Proofs.YtfhmhplbkheojaaGreatDoor.Pa
open Go Go.RowKit
open Go.Proofs.YtfhmhplbkheojaaGreatDoor.Lx Go.Proofs.YtfhmhplbkheojaaGreatDoor.Tr

theorem tx_lt {l : List Tk} {i : Nat} {s : ByteArray} (h : tx l i = s) (hs : s ≠ ⟨#[]⟩) : i < l.length := by
  by_cases hl : i < l.length
  · exact hl
  · exfalso
    apply hs
    rw [← h]
    unfold tx
    rw [List.getElem?_eq_none (by omega)]
    rfl
theorem tx_lt' {l : List Tk} {i : Nat} (h : tx l i ≠ ⟨#[]⟩) : i < l.length := tx_lt rfl h
theorem numR_lt {l : List Tk} {i : Nat} {s : ByteArray} {n : Int} {j : Nat} (h : numR l i s = .ok n j) : j = i + 1 := by
  unfold numR at h
  split at h
  · split at h
    · cases h; rfl
    · cases h
  · cases h
theorem nameR_lt {l : List Tk} {i : Nat} {s : ByteArray} {j : Nat} (h : nameR l i = .ok s j) : j = i + 1 := by
  unfold nameR at h
  split at h
  · cases h; rfl
  · cases h
theorem takeR_lt {l : List Tk} {i : Nat} {s : ByteArray} {u : Unit} {j : Nat} (h : takeR l i s = .ok u j) : j = i + 1 := by
  unfold takeR at h
  split at h
  · cases h; rfl
  · cases h
theorem growsS (l : List Tk) : ∀ f : Nat, (∀ i e j, unaryP l f i = some (.ok e j) → i < j) ∧ (∀ i e j, atomP l f i = some (.ok e j) → i < j) ∧ (∀ m i e j, joinedP l f m i = some (.ok e j) → i < j) ∧ (∀ m k x i e j, loopP l f m k x i = some (.ok e j) → i ≤ j) := by
  intro f
  induction f with
  | zero =>
    refine ⟨fun i e j h => ?_, fun i e j h => ?_, fun m i e j h => ?_, fun m k x i e j h => ?_⟩
    · unfold unaryP at h; cases h
    · unfold atomP at h; cases h
    · unfold joinedP at h; cases h
    · unfold loopP at h; cases h
  | succ f ih =>
    obtain ⟨hU, hA, hJ, hL⟩ := ih
    refine ⟨fun i e j h => ?_, fun i e j h => ?_, fun m i e j h => ?_, fun m k x i e j h => ?_⟩
    · unfold unaryP at h
      split at h
      · split at h
        · rename_i q; have := hU _ _ _ q; cases h; omega
        · rename_i q; have := hU _ _ _ h; omega
      · split at h
        · split at h
          · rename_i q; have := hU _ _ _ q; cases h; omega
          · rename_i q; have := hU _ _ _ h; omega
        · exact hA _ _ _ h
    · unfold atomP at h
      split at h
      · split at h
        · rename_i q; have := numR_lt q; cases h; omega
        · cases h
      · split at h
        · cases h; omega
        · split at h
          · cases h; omega
          · split at h
            · split at h
              · rename_i q
                have := hJ _ _ _ _ q
                split at h
                · cases h; omega
                · cases h
              · have := hJ _ _ _ _ h; omega
            · split at h
              · cases h
              · rename_i q
                have h1 := nameR_lt q
                split at h
                · split at h
                  · rename_i q2
                    have := hJ _ _ _ _ q2
                    split at h
                    · cases h; omega
                    · cases h
                  · have := hJ _ _ _ _ h; omega
                · cases h; omega
    · unfold joinedP at h
      split at h
      · rename_i q; have h1 := hU _ _ _ q; have h2 := hL _ _ _ _ _ _ h; omega
      · exact hU _ _ _ h
    · unfold loopP at h
      split at h
      · cases h; omega
      · split at h
        · rename_i q; have h1 := hJ _ _ _ _ q; have h2 := hL _ _ _ _ _ _ h; omega
        · have := hJ _ _ _ _ h; omega
theorem opr_none : (opr ⟨#[]⟩).binds = 0 := by decide
theorem opr_lt {l : List Tk} {i : Nat} (h : 1 ≤ (opr (tx l i)).binds) : i < l.length := by
  apply tx_lt'
  intro he
  rw [he, opr_none] at h
  omega
/-- so much fuel is enough -/
theorem enough (l : List Tk) : ∀ f : Nat, (∀ i, 4 * (l.length - i) + 3 ≤ f → unaryP l f i ≠ none) ∧ (∀ i, 4 * (l.length - i) + 2 ≤ f → atomP l f i ≠ none) ∧ (∀ m i, 1 ≤ m → 4 * (l.length - i) + 4 ≤ f → joinedP l f m i ≠ none) ∧ (∀ m k x i, 1 ≤ m → 4 * (l.length - i) + 1 ≤ f → loopP l f m k x i ≠ none) := by
  intro f
  induction f with
  | zero => exact ⟨fun i h => by omega, fun i h => by omega, fun m i _ h => by omega, fun m k x i _ h => by omega⟩
  | succ f ih =>
    obtain ⟨hU, hA, hJ, hL⟩ := ih
    refine ⟨fun i h => ?_, fun i h => ?_, fun m i hm h => ?_, fun m k x i hm h => ?_⟩
    · unfold unaryP
      split
      · rename_i q
        have := tx_lt q (by decide)
        split
        · exact fun h => by cases h
        · exact hU _ (by omega)
      · split
        · rename_i q
          have := tx_lt q (by decide)
          split
          · exact fun h => by cases h
          · exact hU _ (by omega)
        · exact hA _ (by omega)
    · unfold atomP
      split
      · split <;> exact fun h => by cases h
      · split
        · exact fun h => by cases h
        · split
          · exact fun h => by cases h
          · split
            · rename_i q
              have := tx_lt q (by decide)
              split
              · exact fun h => by cases h
              · exact hJ _ _ (by omega) (by omega)
            · split
              · exact fun h => by cases h
              · rename_i q
                have h1 := nameR_lt q
                split
                · rename_i q3
                  have := tx_lt q3 (by decide)
                  split
                  · exact fun h => by cases h
                  · exact hJ _ _ (by omega) (by omega)
                · exact fun h => by cases h
    · unfold joinedP
      split
      · rename_i q; have h1 := (growsS l f).1 _ _ _ q; exact hL _ _ _ _ hm (by omega)
      · exact hU _ (by omega)
    · unfold loopP
      split
      · exact fun h => by cases h
      · rename_i hc
        have hb : 1 ≤ (opr (tx l i)).binds := by omega
        have hlt := opr_lt hb
        split
        · rename_i q; have h1 := (growsS l f).2.2.1 _ _ _ _ q; exact hL _ _ _ _ hm (by omega)
        · exact hJ _ _ (by omega) (by omega)
theorem exprR_some (l : List Tk) (i : Nat) : joinedP l (FU l) 1 i = some (exprR l i) := by
  have h := (enough l (FU l)).2.2.1 1 i (by omega) (by unfold FU; omega)
  unfold exprR
  cases hq : joinedP l (FU l) 1 i with
  | none => exact absurd hq h
  | some r => rfl
theorem exprR_lt {l : List Tk} {i j : Nat} {e : Ex} (h : exprR l i = .ok e j) : i < j := by
  have := exprR_some l i
  rw [h] at this
  exact (growsS l _).2.2.1 _ _ _ _ this
theorem Res.bind_ok {α β : Type} {r : Res α} {g : α → Nat → Res β} {y : β} {k : Nat} (h : r.bind g = .ok y k) : ∃ x j, r = .ok x j ∧ g x j = .ok y k := by
  cases r with
  | ok x j => exact ⟨x, j, rfl, h⟩
  | bad p => cases h
theorem argsR_lt {l : List Tk} : ∀ (f : Nat) (acc : List Ex) (i : Nat) {e : List Ex} {j : Nat}, argsR l f acc i = .ok e j → i < j := by
  intro f
  induction f with
  | zero => intro acc i e j h; unfold argsR at h; cases h
  | succ f ih =>
    intro acc i e j h
    unfold argsR at h
    obtain ⟨x, k, h1, h2⟩ := Res.bind_ok h
    have := exprR_lt h1
    split at h2
    · cases h2; omega
    · obtain ⟨_, m, h3, h4⟩ := Res.bind_ok h2
      have := takeR_lt h3
      have := ih _ _ h4
      omega
theorem parsR_lt {l : List Tk} : ∀ (f : Nat) (acc : List ByteArray) (i : Nat) {e : List ByteArray} {j : Nat}, parsR l f acc i = .ok e j → i < j := by
  intro f
  induction f with
  | zero => intro acc i e j h; unfold parsR at h; cases h
  | succ f ih =>
    intro acc i e j h
    unfold parsR at h
    obtain ⟨x, k, h1, h2⟩ := Res.bind_ok h
    have := nameR_lt h1
    split at h2
    · cases h2; omega
    · obtain ⟨_, m, h3, h4⟩ := Res.bind_ok h2
      have := takeR_lt h3
      have := ih _ _ h4
      omega
theorem listE_lt {l : List Tk} {i j : Nat} {e : List Ex} (h : listE l i = .ok e j) : i < j := by
  unfold listE at h
  obtain ⟨_, k, h1, h2⟩ := Res.bind_ok h
  have := takeR_lt h1
  split at h2
  · cases h2; omega
  · have := argsR_lt _ _ _ h2; omega
theorem listN_lt {l : List Tk} {i j : Nat} {e : List ByteArray} (h : listN l i = .ok e j) : i < j := by
  unfold listN at h
  obtain ⟨_, k, h1, h2⟩ := Res.bind_ok h
  have := takeR_lt h1
  split at h2
  · cases h2; omega
  · have := parsR_lt _ _ _ h2; omega
theorem callR_lt {l : List Tk} {i j : Nat} {s : St} (h : callR l i = .ok s j) : i < j := by
  unfold callR at h
  obtain ⟨_, k, h1, h2⟩ := Res.bind_ok h
  obtain ⟨_, m, h3, h4⟩ := Res.bind_ok h2
  obtain ⟨_, n, h5, h6⟩ := Res.bind_ok h4
  have := nameR_lt h1
  have := listE_lt h3
  have := takeR_lt h5
  cases h6
  omega
theorem becomesR_lt {l : List Tk} {kd : Int} {nm : ByteArray} {i j : Nat} {s : St} (h : becomesR l kd nm i = .ok s j) : i < j := by
  unfold becomesR at h
  obtain ⟨_, k, h1, h2⟩ := Res.bind_ok h
  have := takeR_lt h1
  split at h2
  · obtain ⟨_, m, h3, h4⟩ := Res.bind_ok h2
    have := callR_lt h3
    cases h4
    omega
  · obtain ⟨_, m, h3, h4⟩ := Res.bind_ok h2
    obtain ⟨_, n, h5, h6⟩ := Res.bind_ok h4
    have := exprR_lt h3
    have := takeR_lt h5
    cases h6
    omega
theorem varR_lt {l : List Tk} {i j : Nat} {s : St} (h : varR l i = .ok s j) : i < j := by
  unfold varR at h
  obtain ⟨_, k, h1, h2⟩ := Res.bind_ok h
  have := nameR_lt h1
  have := becomesR_lt h2
  omega
theorem toldR_lt {l : List Tk} {kd : Int} {i j : Nat} {s : St} (h : toldR l kd i = .ok s j) : i < j := by
  unfold toldR at h
  obtain ⟨_, k, h1, h2⟩ := Res.bind_ok h
  obtain ⟨_, n, h5, h6⟩ := Res.bind_ok h2
  have := exprR_lt h1
  have := takeR_lt h5
  cases h6
  omega
theorem nameStR_lt {l : List Tk} {i j : Nat} {s : St} (h : nameStR l i = .ok s j) : i < j := by
  unfold nameStR at h
  obtain ⟨_, k, h1, h2⟩ := Res.bind_ok h
  have := nameR_lt h1
  split at h2
  · obtain ⟨_, a, h3, h4⟩ := Res.bind_ok h2
    obtain ⟨_, b, h5, h6⟩ := Res.bind_ok h4
    obtain ⟨_, c, h7, h8⟩ := Res.bind_ok h6
    obtain ⟨_, d, h9, h10⟩ := Res.bind_ok h8
    obtain ⟨_, e, h11, h12⟩ := Res.bind_ok h10
    have := exprR_lt h3
    have := takeR_lt h5
    have := takeR_lt h7
    have := exprR_lt h9
    have := takeR_lt h11
    cases h12
    omega
  · have := becomesR_lt h2; omega
theorem Res.at_ok {p : Int} {r : Res St} {s : St} {j : Nat} (h : r.at p = .ok s j) : ∃ t, r = .ok t j := by
  cases r with
  | ok t k => cases h; exact ⟨t, rfl⟩
  | bad q => cases h
theorem stmts_grow (l : List Tk) : ∀ f : Nat, (∀ i s j, stmtR l f i = .ok s j → i < j) ∧ (∀ acc i s j, stmtsR l f acc i = .ok s j → i < j) := by
  intro f
  induction f with
  | zero =>
    refine ⟨fun i e j h => ?_, fun acc i e j h => ?_⟩
    · unfold stmtR at h; cases h
    · unfold stmtsR at h; cases h
  | succ f ih =>
    obtain ⟨hS, hB⟩ := ih
    refine ⟨fun i s j h => ?_, fun acc i s j h => ?_⟩
    · unfold stmtR at h
      obtain ⟨t, h⟩ := Res.at_ok h
      split at h
      · have := varR_lt h; omega
      · split at h
        · obtain ⟨_, k, h1, h2⟩ := Res.bind_ok h
          obtain ⟨_, m, h3, h4⟩ := Res.bind_ok h2
          obtain ⟨_, n, h5, h6⟩ := Res.bind_ok h4
          have := exprR_lt h1
          have := takeR_lt h3
          have := hB _ _ _ _ h5
          split at h6
          · obtain ⟨_, o, h7, h8⟩ := Res.bind_ok h6
            obtain ⟨_, q, h9, h10⟩ := Res.bind_ok h8
            have := takeR_lt h7
            have := hB _ _ _ _ h9
            cases h10
            omega
          · cases h6; omega
        · split at h
          · obtain ⟨_, k, h1, h2⟩ := Res.bind_ok h
            obtain ⟨_, m, h3, h4⟩ := Res.bind_ok h2
            obtain ⟨_, n, h5, h6⟩ := Res.bind_ok h4
            have := exprR_lt h1
            have := takeR_lt h3
            have := hB _ _ _ _ h5
            cases h6; omega
          · split at h
            · obtain ⟨_, k, h1, h2⟩ := Res.bind_ok h
              obtain ⟨_, m, h3, h4⟩ := Res.bind_ok h2
              obtain ⟨_, n, h5, h6⟩ := Res.bind_ok h4
              have := nameR_lt h1
              have := takeR_lt h3
              have := hB _ _ _ _ h5
              cases h6; omega
            · split at h
              · have := toldR_lt h; omega
              · split at h
                · have := callR_lt h; omega
                · split at h
                  · have := toldR_lt h; omega
                  · exact nameStR_lt h
    · unfold stmtsR at h
      split at h
      · cases h; omega
      · obtain ⟨_, k, h1, h2⟩ := Res.bind_ok h
        have := hS _ _ _ h1
        have := hB _ _ _ _ h2
        omega
theorem blockR_lt {l : List Tk} {f i j : Nat} {s : List St} (h : blockR l f i = .ok s j) : i < j := by
  unfold blockR at h
  obtain ⟨_, k, h1, h2⟩ := Res.bind_ok h
  have := takeR_lt h1
  have := (stmts_grow l f).2 _ _ _ _ h2
  omega
theorem declR_lt {l : List Tk} {i j : Nat} {d : De} (h : declR l i = .ok d j) : i < j := by
  unfold declR at h
  split at h
  · obtain ⟨_, a, h1, h2⟩ := Res.bind_ok h
    obtain ⟨_, b, h3, h4⟩ := Res.bind_ok h2
    obtain ⟨_, c, h5, h6⟩ := Res.bind_ok h4
    obtain ⟨_, e, h7, h8⟩ := Res.bind_ok h6
    have := nameR_lt h1
    have := takeR_lt h3
    have := takeR_lt h7
    cases h8
    split at h5
    · have := numR_lt h5; omega
    · have := numR_lt h5; omega
  · split at h
    · obtain ⟨_, a, h1, h2⟩ := Res.bind_ok h
      obtain ⟨_, b, h3, h4⟩ := Res.bind_ok h2
      obtain ⟨_, c, h5, h6⟩ := Res.bind_ok h4
      obtain ⟨_, e, h7, h8⟩ := Res.bind_ok h6
      obtain ⟨_, g, h9, h10⟩ := Res.bind_ok h8
      have := nameR_lt h1
      have := takeR_lt h3
      have := numR_lt h5
      have := takeR_lt h7
      have := takeR_lt h9
      cases h10
      omega
    · split at h
      · obtain ⟨_, a, h1, h2⟩ := Res.bind_ok h
        obtain ⟨_, b, h3, h4⟩ := Res.bind_ok h2
        have := nameR_lt h1
        have := takeR_lt h3
        cases h4
        omega
      · split at h
        · obtain ⟨_, a, h1, h2⟩ := Res.bind_ok h
          obtain ⟨_, b, h3, h4⟩ := Res.bind_ok h2
          obtain ⟨_, c, h5, h6⟩ := Res.bind_ok h4
          have := nameR_lt h1
          have := listN_lt h3
          have := blockR_lt h5
          cases h6
          omega
        · split at h
          · obtain ⟨_, a, h1, h2⟩ := Res.bind_ok h
            obtain ⟨_, b, h3, h4⟩ := Res.bind_ok h2
            have := nameR_lt h1
            have := blockR_lt h3
            cases h4
            omega
          · cases h
end Go.Proofs.YtfhmhplbkheojaaGreatDoor.Pa

namespace Go.Proofs.YtfhmhplbkheojaaGreatDoor.Pa
open Go Go.RowKit
open Go.Proofs.YtfhmhplbkheojaaGreatDoor.Lx Go.Proofs.YtfhmhplbkheojaaGreatDoor.Tr

mutual
/-- an expression, its places turned by g -/
def eg (g : Int → Int) : Ex → Ex
  | .mk k nm n a cap args pos => .mk k nm n a cap (egL g args) (g pos)
def egL (g : Int → Int) : List Ex → List Ex
  | [] => []
  | e :: r => eg g e :: egL g r
end
theorem eg_eq (g : Int → Int) (k : Int) (nm : ByteArray) (n : Int) (a : Option Addr) (cap : Nat) (args : List Ex) (pos : Int) : eg g (.mk k nm n a cap args pos) = .mk k nm n a cap (egL g args) (g pos) := by unfold eg; rfl
theorem egL_nil (g : Int → Int) : egL g [] = [] := by unfold egL; rfl
theorem egL_cons (g : Int → Int) (e : Ex) (r : List Ex) : egL g (e :: r) = eg g e :: egL g r := by rw [egL]
theorem egL_map (g : Int → Int) (l : List Ex) : egL g l = l.map (eg g) := by
  induction l with
  | nil => exact egL_nil g
  | cons e r ih => rw [egL_cons, ih]; rfl

mutual
/-- an expression such as is read: its Kind, number, name -/
def gE : Ex → Bool
  | .mk k nm n _ _ args _ => decide (1 ≤ k) && decide (k ≤ 17) && decide (0 ≤ n) && (decide (2 < k) || args.isEmpty) && decide (nm.size ≤ 32) && gL args
def gL : List Ex → Bool
  | [] => true
  | e :: r => gE e && gL r
end
theorem gE_mk {k : Int} {nm : ByteArray} {n : Int} {a : Option Addr} {cap : Nat} {args : List Ex} {pos : Int} (h1 : 1 ≤ k) (h2 : k ≤ 17) (h3 : 0 ≤ n) (h4 : 2 < k ∨ args = []) (h5 : nm.size ≤ 32) (h6 : gL args = true) : gE (.mk k nm n a cap args pos) = true := by
  unfold gE
  have e : (decide (2 < k) || args.isEmpty) = true := by
    rcases h4 with h | h
    · rw [decide_eq_true h]; rfl
    · rw [h]; simp
  rw [decide_eq_true h1, decide_eq_true h2, decide_eq_true h3, e, decide_eq_true h5, h6]; rfl
theorem gL_nil : gL [] = true := by unfold gL; rfl
theorem gL_cons (e : Ex) (r : List Ex) : gL (e :: r) = (gE e && gL r) := by rw [gL]
theorem gL_all (l : List Ex) : gL l = l.all gE := by
  induction l with
  | nil => rw [gL_nil]; rfl
  | cons e r ih => rw [gL_cons, ih]; rfl
theorem nme_32 {l : List UInt8} (h : nme l = true) : l.length ≤ 32 := by
  unfold nme at h
  simp only [Bool.and_eq_true, beq_iff_eq] at h
  obtain ⟨⟨_, h1⟩, h2⟩ := h
  cases l with
  | nil => simp
  | cons c r =>
    rw [cutL_cons] at h1 h2
    split at h1
    · split at h1
      · cases h1
      · rename_i hb hl
        rw [if_pos hb, if_neg hl] at h2
        simp only at h2
        omega
    · split at h1
      · split at h1 <;> cases h1
      · split at h1 <;> cases h1
theorem num_pos {l : List UInt8} {n : Int} (h : Lib.parseIntB 64 l = .ok n) (hh : l.head? ≠ some 45) : 0 ≤ n := by
  unfold Lib.parseIntB at h
  cases l with
  | nil => cases h
  | cons c r =>
    have hc : ¬ c.toNat = 45 := fun e => hh (by
      have : c = 45 := UInt8.toNat_inj.1 (by rw [e]; rfl)
      rw [this]; rfl)
    simp only at h
    split at h
    · cases h
    · cases h
    · split at h
      · cases h
      · split at h
        · cases h
        · cases h
          omega
theorem oprIn_mem (s : ByteArray) : ∀ L : List Opr, oprIn L s ∈ L ∨ oprIn L s = noOpr
  | [] => Or.inr (by unfold oprIn; rfl)
  | o :: r => by
    unfold oprIn
    split
    · exact Or.inl (List.mem_cons_self ..)
    · rcases oprIn_mem s r with h | h
      · exact Or.inl (List.mem_cons_of_mem _ h)
      · exact Or.inr h
theorem opr_kind {s : ByteArray} (h : 1 ≤ (opr s).binds) : 3 ≤ (opr s).kind ∧ (opr s).kind ≤ 17 := by
  unfold opr at *
  rcases oprIn_mem s oprs with hm | hm
  · have : ∀ o ∈ oprs, 3 ≤ o.kind ∧ o.kind ≤ 17 := by decide
    exact this _ hm
  · rw [hm] at h
    exact absurd h (by decide)

/-- two rows of tokens, alike but for their places -/
structure Tw (g g' : Int → Int) (l l' : List Tk) : Prop where
  len : l'.length = l.length
  tx : ∀ i, Pa.tx l' i = Pa.tx l i
  kd : ∀ i, Pa.kd l' i = Pa.kd l i
  ps : ∀ i, i < l.length → g' (Pa.ps l' i) = g (Pa.ps l i)
  last : ∀ i, l.length ≤ i + 1 → Pa.tx l i = ⟨#[]⟩ ∧ Pa.kd l i = 0
  num : ∀ i, Pa.kd l i = 2 → (Pa.tx l i).data.toList.head? ≠ some 45

theorem Tw.nxt {g g' : Int → Int} {l l' : List Tk} (H : Tw g g' l l') {i : Nat} (h : Pa.tx l i ≠ ⟨#[]⟩) : i + 1 < l.length := by
  by_cases hl : i + 1 < l.length
  · exact hl
  · exact absurd (H.last i (by omega)).1 h
theorem Tw.nxk {g g' : Int → Int} {l l' : List Tk} (H : Tw g g' l l') {i : Nat} (h : Pa.kd l i = 2) : i + 1 < l.length := by
  by_cases hl : i + 1 < l.length
  · exact hl
  · have := (H.last i (by omega)).2
    omega

/-- two results, alike but for places -/
def Lk {α : Type} (g g' : Int → Int) (n : Nat) (R : α → α → Prop) : Res α → Res α → Prop
  | .ok e j, .ok e' j' => j' = j ∧ j < n ∧ R e e'
  | .bad p, .bad p' => g' p' = g p
  | _, _ => False
def LkO {α : Type} (g g' : Int → Int) (n : Nat) (R : α → α → Prop) : Option (Res α) → Option (Res α) → Prop
  | some r, some r' => Lk g g' n R r r'
  | none, none => True
  | _, _ => False
theorem Lk.bind {α β : Type} {g g' : Int → Int} {n : Nat} {R : α → α → Prop} {Q : β → β → Prop} {r r' : Res α} {f f' : α → Nat → Res β} (h : Lk g g' n R r r') (hf : ∀ e e' j, j < n → R e e' → r = .ok e j → Lk g g' n Q (f e j) (f' e' j)) :
    Lk g g' n Q (r.bind f) (r'.bind f') := by
  cases r with
  | ok e j =>
    cases r' with
    | ok e' j' => obtain ⟨rfl, h1, h2⟩ := h; exact hf _ _ _ h1 h2 rfl
    | bad p' => exact h.elim
  | bad p =>
    cases r' with
    | ok e' j' => exact h.elim
    | bad p' => exact h
def XEg (g g' : Int → Int) (e e' : Ex) : Prop := eg g' e' = eg g e ∧ gE e = true
def NN (e e' : Int) : Prop := e' = e ∧ 0 ≤ e
def N32 (e e' : ByteArray) : Prop := e' = e ∧ e.size ≤ 32
def Eqq {α : Type} (e e' : α) : Prop := e' = e

theorem takeR_lk {g g' : Int → Int} {l l' : List Tk} (H : Tw g g' l l') {i : Nat} (hi : i < l.length) {s : ByteArray} (hs : s ≠ ⟨#[]⟩) : Lk g g' l.length Eqq (takeR l i s) (takeR l' i s) := by
  unfold takeR
  rw [H.tx]
  split
  · rename_i h
    exact ⟨rfl, H.nxt (by rw [h]; exact hs), rfl⟩
  · exact H.ps i hi
theorem numR_lk {g g' : Int → Int} {l l' : List Tk} (H : Tw g g' l l') {i : Nat} (hi : i < l.length) (s : ByteArray) : Lk g g' l.length Eqq (numR l i s) (numR l' i s) := by
  unfold numR
  rw [H.tx, H.kd]
  split
  · split
    · rename_i h
      exact ⟨rfl, H.nxk h, rfl⟩
    · exact H.ps i hi
  · exact H.ps i hi
theorem numR_nn {g g' : Int → Int} {l l' : List Tk} (H : Tw g g' l l') {i : Nat} (hi : i < l.length) (hk : kd l i = 2) : Lk g g' l.length NN (numR l i ⟨#[]⟩) (numR l' i ⟨#[]⟩) := by
  unfold numR
  rw [H.tx, H.kd]
  split
  · rename_i n hn
    rw [if_pos hk, if_pos hk]
    exact ⟨rfl, H.nxk hk, rfl, num_pos hn (by simpa using H.num i hk)⟩
  · exact H.ps i hi
theorem nme_nil : nme ((⟨#[]⟩ : ByteArray).data.toList) = false := by decide
theorem nameR_lk {g g' : Int → Int} {l l' : List Tk} (H : Tw g g' l l') {i : Nat} (hi : i < l.length) : Lk g g' l.length N32 (nameR l i) (nameR l' i) := by
  unfold nameR
  rw [H.tx]
  split
  · rename_i h
    exact ⟨rfl, H.nxt (fun hz => by rw [hz, nme_nil] at h; cases h), rfl, by have := nme_32 h; rw [Lib.size_eq]; exact this⟩
  · exact H.ps i hi
theorem lk_if {α : Type} {g g' : Int → Int} {n : Nat} {R : α → α → Prop} {c : Prop} [Decidable c] {a b a' b' : Res α} (h1 : c → Lk g g' n R a a') (h2 : ¬ c → Lk g g' n R b b') : Lk g g' n R (if c then a else b) (if c then a' else b') := by
  by_cases h : c
  · rw [if_pos h, if_pos h]; exact h1 h
  · rw [if_neg h, if_neg h]; exact h2 h
theorem two_lk {g g' : Int → Int} (o : Opr) {a b a' b' : Ex} {p p' : Int} (hk : 3 ≤ o.kind ∧ o.kind ≤ 17) (ha : XEg g g' a a') (hb : XEg g g' b b') (hp : g' p' = g p) : XEg g g' (two o a b p) (two o a' b' p') := by
  obtain ⟨ha, ga⟩ := ha
  obtain ⟨hb, gb⟩ := hb
  unfold two
  split
  · refine ⟨?_, gE_mk (by omega) hk.2 (by omega) (Or.inl (by omega)) (by decide) (by rw [gL_cons, gL_cons, gL_nil, ga, gb]; rfl)⟩
    rw [eg_eq, eg_eq, egL_cons, egL_cons, egL_cons, egL_cons, egL_nil, egL_nil, ha, hb, hp]
  · refine ⟨?_, gE_mk (by omega) hk.2 (by omega) (Or.inl (by omega)) (by decide) (by rw [gL_cons, gL_cons, gL_nil, ga, gb]; rfl)⟩
    rw [eg_eq, eg_eq, egL_cons, egL_cons, egL_cons, egL_cons, egL_nil, egL_nil, ha, hb, hp]

set_option maxHeartbeats 2000000 in
theorem like {g g' : Int → Int} {l l' : List Tk} (H : Tw g g' l l') : ∀ f : Nat,
    (∀ i, i < l.length → LkO g g' l.length (XEg g g') (unaryP l f i) (unaryP l' f i)) ∧
    (∀ i, i < l.length → LkO g g' l.length (XEg g g') (atomP l f i) (atomP l' f i)) ∧
    (∀ m i, 1 ≤ m → i < l.length → LkO g g' l.length (XEg g g') (joinedP l f m i) (joinedP l' f m i)) ∧
    (∀ m k x x' i, 1 ≤ m → i < l.length → XEg g g' x x' → LkO g g' l.length (XEg g g') (loopP l f m k x i) (loopP l' f m k x' i)) := by
  intro f
  induction f with
  | zero =>
    refine ⟨fun i _ => ?_, fun i _ => ?_, fun m i _ _ => ?_, fun m k x x' i _ _ _ => ?_⟩
    · unfold unaryP; exact trivial
    · unfold atomP; exact trivial
    · unfold joinedP; exact trivial
    · unfold loopP; exact trivial
  | succ f ih =>
    obtain ⟨hU, hA, hJ, hL⟩ := ih
    refine ⟨fun i hi => ?_, fun i hi => ?_, fun m i hm hi => ?_, fun m k x x' i hm hi hx => ?_⟩
    · unfold unaryP
      rw [H.tx]
      by_cases h1 : tx l i = ⟨#[45]⟩
      · rw [if_pos h1, if_pos h1]
        have q := hU (i + 1) (H.nxt (by rw [h1]; decide))
        revert q
        generalize unaryP l f (i + 1) = r
        generalize unaryP l' f (i + 1) = r'
        intro q
        rcases r with _ | ⟨⟨e, j⟩ | p⟩ <;> rcases r' with _ | ⟨⟨e', j'⟩ | p'⟩ <;> first | exact q.elim | exact q | skip
        obtain ⟨rfl, q1, q2⟩ := q
        refine ⟨rfl, q1, ?_, gE_mk (by omega) (by omega) (by omega) (Or.inl (by omega)) (by decide) (by rw [gL_cons, gL_nil, q2.2]; rfl)⟩
        rw [eg_eq, eg_eq, egL_cons, egL_cons, egL_nil, egL_nil, q2.1, H.ps i hi]
      · rw [if_neg h1, if_neg h1]
        by_cases h2 : tx l i = ⟨#[33]⟩
        · rw [if_pos h2, if_pos h2]
          have q := hU (i + 1) (H.nxt (by rw [h2]; decide))
          revert q
          generalize unaryP l f (i + 1) = r
          generalize unaryP l' f (i + 1) = r'
          intro q
          rcases r with _ | ⟨⟨e, j⟩ | p⟩ <;> rcases r' with _ | ⟨⟨e', j'⟩ | p'⟩ <;> first | exact q.elim | exact q | skip
          obtain ⟨rfl, q1, q2⟩ := q
          refine ⟨rfl, q1, ?_, gE_mk (by omega) (by omega) (by omega) (Or.inl (by omega)) (by decide) (by rw [gL_cons, gL_nil, q2.2]; rfl)⟩
          rw [eg_eq, eg_eq, egL_cons, egL_cons, egL_nil, egL_nil, q2.1, H.ps i hi]
        · rw [if_neg h2, if_neg h2]
          exact hA i hi
    · unfold atomP
      rw [H.tx, H.kd]
      by_cases h0 : kd l i = 2
      · rw [if_pos h0, if_pos h0]
        have q := numR_nn H hi h0
        revert q
        generalize numR l i ⟨#[]⟩ = r
        generalize numR l' i ⟨#[]⟩ = r'
        intro q
        rcases r with ⟨e, j⟩ | p <;> rcases r' with ⟨e', j'⟩ | p' <;> first | exact q.elim | exact q | skip
        obtain ⟨rfl, q1, rfl, q3⟩ := q
        exact ⟨rfl, q1, by rw [eg_eq, eg_eq, egL_nil, egL_nil, H.ps i hi], gE_mk (by omega) (by omega) q3 (Or.inr rfl) (by decide) gL_nil⟩
      · rw [if_neg h0, if_neg h0]
        by_cases h1 : tx l i = ⟨#[116, 114, 117, 101]⟩
        · rw [if_pos h1, if_pos h1]
          exact ⟨rfl, H.nxt (by rw [h1]; decide), by rw [eg_eq, eg_eq, egL_nil, egL_nil, H.ps i hi], gE_mk (by omega) (by omega) (by omega) (Or.inr rfl) (by decide) gL_nil⟩
        · rw [if_neg h1, if_neg h1]
          by_cases h2 : tx l i = ⟨#[102, 97, 108, 115, 101]⟩
          · rw [if_pos h2, if_pos h2]
            exact ⟨rfl, H.nxt (by rw [h2]; decide), by rw [eg_eq, eg_eq, egL_nil, egL_nil, H.ps i hi], gE_mk (by omega) (by omega) (by omega) (Or.inr rfl) (by decide) gL_nil⟩
          · rw [if_neg h2, if_neg h2]
            by_cases h3 : tx l i = ⟨#[40]⟩
            · rw [if_pos h3, if_pos h3]
              have q := hJ 1 (i + 1) (by omega) (H.nxt (by rw [h3]; decide))
              revert q
              generalize joinedP l f 1 (i + 1) = r
              generalize joinedP l' f 1 (i + 1) = r'
              intro q
              rcases r with _ | ⟨⟨e, j⟩ | p⟩ <;> rcases r' with _ | ⟨⟨e', j'⟩ | p'⟩ <;> first | exact q.elim | exact q | skip
              obtain ⟨rfl, q1, q2⟩ := q
              simp only [H.tx]
              refine lk_if (fun h => ⟨rfl, H.nxt (by rw [h]; decide), q2⟩) (fun _ => H.ps _ q1)
            · rw [if_neg h3, if_neg h3]
              have q := nameR_lk H hi
              revert q
              generalize nameR l i = r
              generalize nameR l' i = r'
              intro q
              rcases r with ⟨e, j⟩ | p <;> rcases r' with ⟨e', j'⟩ | p' <;> first | exact q.elim | exact q | skip
              obtain ⟨rfl, q1, rfl, q32⟩ := q
              simp only [H.tx]
              by_cases h4 : tx l j' = ⟨#[91]⟩
              · rw [if_pos h4, if_pos h4]
                have q := hJ 1 (j' + 1) (by omega) (H.nxt (by rw [h4]; decide))
                revert q
                generalize joinedP l f 1 (j' + 1) = r
                generalize joinedP l' f 1 (j' + 1) = r'
                intro q
                rcases r with _ | ⟨⟨e2, j⟩ | p⟩ <;> rcases r' with _ | ⟨⟨e2', j2'⟩ | p'⟩ <;> first | exact q.elim | exact q | skip
                obtain ⟨rfl, q3, q4⟩ := q
                refine lk_if (fun h => ⟨rfl, H.nxt (by rw [h]; decide), ?_, gE_mk (by omega) (by omega) (by omega) (Or.inl (by omega)) q32 (by rw [gL_cons, gL_nil, q4.2]; rfl)⟩) (fun _ => H.ps _ q3)
                rw [eg_eq, eg_eq, egL_cons, egL_cons, egL_nil, egL_nil, q4.1, H.ps i hi]
              · rw [if_neg h4, if_neg h4]
                exact ⟨rfl, q1, by rw [eg_eq, eg_eq, egL_nil, egL_nil, H.ps i hi], gE_mk (by omega) (by omega) (by omega) (Or.inr rfl) q32 gL_nil⟩
    · unfold joinedP
      have q := hU i hi
      revert q
      generalize unaryP l f i = r
      generalize unaryP l' f i = r'
      intro q
      rcases r with _ | ⟨⟨e, j⟩ | p⟩ <;> rcases r' with _ | ⟨⟨e', j'⟩ | p'⟩ <;> first | exact q.elim | exact q | skip
      obtain ⟨rfl, q1, q2⟩ := q
      exact hL m 5 e e' j' hm q1 q2
    · unfold loopP
      rw [H.tx]
      by_cases h1 : (opr (tx l i)).binds < m ∨ k < (opr (tx l i)).binds
      · rw [if_pos h1, if_pos h1]
        exact ⟨rfl, hi, hx⟩
      · rw [if_neg h1, if_neg h1]
        have hb : 1 ≤ (opr (tx l i)).binds := by omega
        have hn : i + 1 < l.length := H.nxt (fun he => by rw [he, opr_none] at hb; omega)
        have q := hJ ((opr (tx l i)).binds + 1) (i + 1) (by omega) hn
        revert q
        generalize joinedP l f ((opr (tx l i)).binds + 1) (i + 1) = r
        generalize joinedP l' f ((opr (tx l i)).binds + 1) (i + 1) = r'
        intro q
        rcases r with _ | ⟨⟨e, j⟩ | p⟩ <;> rcases r' with _ | ⟨⟨e', j'⟩ | p'⟩ <;> first | exact q.elim | exact q | skip
        obtain ⟨rfl, q1, q2⟩ := q
        exact hL _ _ _ _ _ hm q1 (two_lk _ (opr_kind hb) hx q2 (H.ps i hi))
theorem exprR_lk {g g' : Int → Int} {l l' : List Tk} (H : Tw g g' l l') {i : Nat} (hi : i < l.length) : Lk g g' l.length (XEg g g') (exprR l i) (exprR l' i) := by
  have q := (like H (FU l)).2.2.1 1 i (by omega) hi
  have hf : FU l' = FU l := by unfold FU; rw [H.len]
  rw [exprR_some, ← hf, exprR_some] at q
  exact q
end Go.Proofs.YtfhmhplbkheojaaGreatDoor.Pa
