/- What is read is such that 'shape' answers: Kinds, numbers, how long a shape is; erasing keeps it. Conditions: none. · A class of worlds as a type of its own: all that a world has is as it was; the lexical walk of a region in any class. Conditions: none. -/
import Derived.Test.YtfhmhplbkheojaaGreatDoorGrAV
import Derived.Test.YtfhmhplbkheojaaGreatDoorGrAW
import Derived.Deep.Quiet
import Derived.Deep.QuietTactic
import Derived.Below
namespace Go.Proofs.YtfhmhplbkheojaaGreatDoor.Pa
open Go Go.RowKit
open Go.Proofs.YtfhmhplbkheojaaGreatDoor.Lx Go.Proofs.YtfhmhplbkheojaaGreatDoor.Tr

theorem gE_eq (k : Int) (nm : ByteArray) (n : Int) (a : Option Addr) (cap : Nat) (args : List Ex) (pos : Int) : gE (.mk k nm n a cap args pos) = (decide (1 ≤ k) && decide (k ≤ 17) && decide (0 ≤ n) && (decide (2 < k) || args.isEmpty) && decide (nm.size ≤ 32) && gL args) := by unfold gE; rfl
mutual
theorem gE_ok : ∀ e : Ex, gE e = true → shOk e = true
  | .mk k nm n a cap args pos, h => by
    rw [gE_eq] at h
    rw [shOk_eq]
    simp only [Bool.and_eq_true] at h ⊢
    exact ⟨h.1.1, gL_ok args h.2⟩
theorem gL_ok : ∀ l : List Ex, gL l = true → shOkL l = true
  | [], _ => by unfold shOkL; rfl
  | e :: r, h => by
    rw [gL_cons, Bool.and_eq_true] at h
    rw [shOkL_cons, gE_ok e h.1, gL_ok r h.2]; rfl
end
mutual
theorem gE_er : ∀ e : Ex, gE e.er = gE e
  | .mk k nm n a cap args pos => by
    rw [Ex.er_eq, gE_eq, gE_eq, gL_er args]
    cases args with
    | nil => rw [Ex.erL_nil]
    | cons e r => rw [Ex.erL_cons]; rfl
theorem gL_er : ∀ l : List Ex, gL (Ex.erL l) = gL l
  | [] => by rw [Ex.erL_nil]
  | e :: r => by rw [Ex.erL_cons, gL_cons, gL_cons, gE_er e, gL_er r]
end
mutual
theorem shp_er : ∀ e : Ex, shp e.er = shp e
  | .mk k nm n a cap [] pos => by rw [Ex.er_eq, Ex.erL_nil]; unfold shp; rfl
  | .mk k nm n a cap (e :: r) pos => by
    rw [Ex.er_eq, Ex.erL_cons]
    unfold shp
    simp only
    rw [shp_er e, shpL_er _ r]
theorem shpL_er : ∀ (o : ByteArray) (l : List Ex), shpL o (Ex.erL l) = shpL o l
  | o, [] => by rw [Ex.erL_nil]
  | o, e :: r => by rw [Ex.erL_cons, shpL_cons, shpL_cons, shp_er e, shpL_er _ r]
end
mutual
theorem gS_er : ∀ e : St, gS e.er = gS e
  | .mk k nm to new x xc e b bc body y yc els pos => by rw [St.er_eq, gS_eq, gS_eq, gL_er, gSL_er body, gSL_er els]
theorem gSL_er : ∀ l : List St, gSL (St.erL l) = gSL l
  | [] => by rw [St.erL_nil]
  | e :: r => by rw [St.erL_cons, gSL_cons, gSL_cons, gS_er e, gSL_er r]
end
theorem shNm_3 (k : Int) : (shNm k).size ≤ 3 := by
  have h : ∀ l : List ByteArray, (∀ x ∈ l, x.size ≤ 3) → ∀ i, (l.getD i ⟨#[]⟩).size ≤ 3 := fun l hl i => by
    rw [List.getD_eq_getElem?_getD]
    cases hi : l[i]? with
    | none => decide
    | some x => exact hl x (List.mem_of_getElem? hi)
  unfold shNm
  exact h _ (by decide) _
mutual
theorem shp_le : ∀ e : Ex, gE e = true → (shp e).size + 1 ≤ 40 * e.sz
  | .mk k nm n a cap [] pos, h => by
    rw [gE_eq] at h
    simp only [Bool.and_eq_true, decide_eq_true_eq] at h
    have hn := h.1.2
    have h3 := shNm_3 k
    rw [szE_mk, szEL_nil]
    unfold shp
    split
    · rw [ByteArray.size_append, ByteArray.size_append]
      have : (digB n).size = 1 := rfl
      omega
    · simp only
      rw [ByteArray.size_append]
      omega
  | .mk k nm n a cap (e :: r) pos, h => by
    rw [gE_eq] at h
    simp only [Bool.and_eq_true, decide_eq_true_eq] at h
    have hn := h.1.2
    have h3 := shNm_3 k
    have hl := h.2
    rw [gL_cons, Bool.and_eq_true] at hl
    have ih := shp_le e hl.1
    have ihr := shpL_le2 (shNm k ++ nm ++ ⟨#[40]⟩ ++ shp e) r hl.2
    rw [szE_mk, szEL_cons]
    unfold shp
    split
    · rw [ByteArray.size_append, ByteArray.size_append]
      have : (digB n).size = 1 := rfl
      omega
    · simp only
      rw [ByteArray.size_append]
      rw [ByteArray.size_append, ByteArray.size_append, ByteArray.size_append] at ihr
      have e1 : (⟨#[40]⟩ : ByteArray).size = 1 := rfl
      have e2 : (⟨#[41]⟩ : ByteArray).size = 1 := rfl
      omega
theorem shpL_le2 : ∀ (o : ByteArray) (l : List Ex), gL l = true → (shpL o l).size ≤ o.size + 40 * Ex.szL l
  | o, [], _ => by rw [shpL_nil]; omega
  | o, e :: r, h => by
    rw [gL_cons, Bool.and_eq_true] at h
    have ih := shp_le e h.1
    have ihr := shpL_le2 (o ++ ⟨#[32]⟩ ++ shp e) r h.2
    rw [shpL_cons, szEL_cons]
    rw [ByteArray.size_append, ByteArray.size_append] at ihr
    have e1 : (⟨#[32]⟩ : ByteArray).size = 1 := rfl
    omega
end
/-- what is read has at most as many parts as there are tokens -/
theorem parseP_sz {s : ByteArray} {ds : List De} {p e : Int} (h : parseP s = (ds, p, e)) : De.szL ds ≤ s.size + 1 := by
  unfold parseP at h
  split at h
  · rename_i h0
    obtain ⟨ts, q, en, hres⟩ : ∃ ts q en, res s.data.toList = (ts, q, en) := ⟨_, _, _, rfl⟩
    rw [hres] at h h0
    simp only at h h0
    have h0' : en = 0 := by simpa using h0
    subst h0'
    obtain ⟨_, _, hlen, _⟩ := Pa.res_ok hres
    have hsz : s.size = s.data.toList.length := Lib.size_eq s
    have hl : (toks ts s.size).length = ts.length + 1 := by unfold toks; simp
    split at h
    · cases h; rw [szD_nil]; omega
    · rename_i us j hr
      split at h
      · cases h
        unfold readR at hr
        have hj : j ≤ (toks ts s.size).length := by
          have H : Tw (fun _ => 0) (fun _ => 0) (toks ts s.size) (toks ts s.size) := toks_tw (res_good hres) rfl rfl rfl
          have q := declsR_lk H ((toks ts s.size).length + 1) [] [] 0 (by omega) (by omega) ⟨rfl, fun x hx => by cases hx⟩
          rw [hr] at q
          have := q.2.1
          omega
        have := declsR_sz _ _ _ (Nat.zero_le _) hr
        rw [szD_nil] at this
        omega
      · cases h; rw [szD_nil]; omega
  · cases h; rw [szD_nil]; omega
end Go.Proofs.YtfhmhplbkheojaaGreatDoor.Pa

namespace Go.Proofs.YtfhmhplbkheojaaGreatDoor.Pa
open Go Go.RowKit
/-- the worlds in which all that a world has is as it was -/
structure UpW (w : World) where
  val : World
  ok : Below w.heap.size w val
instance (w : World) : Inhabited (UpW w) := ⟨⟨w, Below.refl _ _⟩⟩
/-- the lexical walk of a region in any class of worlds, its operations written out -/
theorem quiet_lit {P : Program} {id : Nat} {Q : Exit → Act → World → Prop} {a : Act} {w : World} {l : List Oper} {C : World → Prop} (hm : P.follows .mixedOrders = true) (hB : Region.lexB .any l.toArray = true) (hC : C w.drew)
    (h : wpQuiet P l.toArray C (fun a' => ∀ w', C w' → Q .normal a' w') l a) : (Code.region id l.toArray true).wp P Q a w :=
  wp_region_quiet (C := C) hm hB hC (by simpa using h)
end Go.Proofs.YtfhmhplbkheojaaGreatDoor.Pa
