/- The operators two by two: what is read of a op b op c, and of it with brackets, by evaluation. Conditions: none. -/
import Derived.Test.YtfhmhplbkheojaaGreatDoorBrO
import Derived.Test.YtfhmhplbkheojaaGreatDoorGrBA
namespace Go.Proofs.YtfhmhplbkheojaaGreatDoor.Pa
open Go Go.RowKit
open Go.Proofs.YtfhmhplbkheojaaGreatDoor.Lx Go.Proofs.YtfhmhplbkheojaaGreatDoor.Tr

def opL : List ByteArray := [⟨#[124, 124]⟩, ⟨#[38, 38]⟩, ⟨#[43]⟩, ⟨#[45]⟩, ⟨#[42]⟩, ⟨#[47]⟩, ⟨#[37]⟩]
def opB (i : Nat) : ByteArray := opL.getD i ⟨#[]⟩
def stL : List Int := [1, 2, 4, 4, 5, 5, 5]
def stB (i : Nat) : Int := stL.getD i 0
def flatB (p q : Nat) : ByteArray := ⟨#[116, 104, 114, 101, 97, 100, 32, 116, 123, 112, 114, 105, 110, 116, 32, 97]⟩ ++ opB p ++ ⟨#[98]⟩ ++ opB q ++ ⟨#[99, 59, 125]⟩
def leftB (p q : Nat) : ByteArray := ⟨#[116, 104, 114, 101, 97, 100, 32, 116, 123, 112, 114, 105, 110, 116, 32, 40, 97]⟩ ++ opB p ++ ⟨#[98, 41]⟩ ++ opB q ++ ⟨#[99, 59, 125]⟩
def rightB (p q : Nat) : ByteArray := ⟨#[116, 104, 114, 101, 97, 100, 32, 116, 123, 112, 114, 105, 110, 116, 32, 97]⟩ ++ opB p ++ ⟨#[40, 98]⟩ ++ opB q ++ ⟨#[99, 41, 59, 125]⟩
/-- one thread that prints one expression: Kind and place of the expression -/
def exOf : List De → Option (Int × Int)
  | [⟨5, nm, 0, none, 0, [], none, 0, [.mk 7 snm sto false none 0 [.mk ek enm 0 none 0 _ ep] none 0 [] none 0 [] sp], dp⟩] => if nm = ⟨#[116]⟩ ∧ snm = ⟨#[]⟩ ∧ sto = ⟨#[]⟩ ∧ enm = ⟨#[]⟩ ∧ sp = 9 ∧ dp = 0 then some (ek, ep) else none
  | _ => none
def apartE (l r : List De) : Bool := match exOf l, exOf r with
  | some (k, p), some (k', p') => decide (k ≠ k') || decide (p ≠ p')
  | _, _ => false
def brRow (p q : Nat) : Bool := match parseP (flatB p q), parseP (leftB p q), parseP (rightB p q) with
  | (m, _, e1), (l, _, e2), (r, _, e3) => decide (e1 = 0) && decide (e2 = 0) && decide (e3 = 0) && (if stB p < stB q then sameDL m r && !sameDL m l else sameDL m l && !sameDL m r && apartE l r)
set_option maxRecDepth 100000 in
theorem br_all : (List.range 7).all (fun p => (List.range 7).all fun q => brRow p q) = true := by kernel_rfl
theorem br_row (p q : Nat) (hp : p < 7) (hq : q < 7) : brRow p q = true := by
  have h := List.all_eq_true.1 br_all p (List.mem_range.2 hp)
  exact List.all_eq_true.1 h q (List.mem_range.2 hq)
theorem opB_sz (i : Nat) (h : i < 7) : (opB i).size ≤ 2 := by
  have : ∀ x ∈ List.range 7, (opB x).size ≤ 2 := by decide
  exact this i (List.mem_range.2 h)
theorem opL_at (i : Nat) (h : i < 7) : (opL.map Value.string)[i]? = some (.string (opB i)) := by
  have hl : ∀ l : List ByteArray, i < l.length → (l.map Value.string)[i]? = some (.string (l.getD i ⟨#[]⟩)) := fun l hl => by
    rw [List.getElem?_map, List.getD_eq_getElem?_getD, List.getElem?_eq_getElem hl]
    rfl
  exact hl opL h
theorem stL_at (i : Nat) (h : i < 7) : (stL.map (Value.int .i64))[i]? = some (.int .i64 (stB i)) := by
  have hl : ∀ l : List Int, i < l.length → (l.map (Value.int .i64))[i]? = some (.int .i64 (l.getD i 0)) := fun l hl => by
    rw [List.getElem?_map, List.getD_eq_getElem?_getD, List.getElem?_eq_getElem hl]
    rfl
  exact hl stL h
/-- trees in memory are the same just if what they say is -/
theorem same_da (l l' : List De) : sameDL (l.map da) (l'.map da) = sameDL l l' := by
  have h : ∀ l : List De, De.erL (l.map da) = De.erL l := fun l => by
    unfold De.erL
    rw [List.map_map]
    exact List.map_congr_left fun d _ => de_da d
  rw [Bool.eq_iff_iff, sameDL_er, sameDL_er, h, h]
/-- what stands in memory where such is read -/
theorem exOf_mem {l : List De} {k p : Int} (h : exOf (l.map da) = some (k, p)) :
    ∃ (pa ba ea xa ba2 la2 : Option Addr) (pc bc ec xc bc2 lc2 : Nat) (args : List Ex), l = [⟨5, ⟨#[116]⟩, 0, pa, pc, [], ba, bc, [.mk 7 ⟨#[]⟩ ⟨#[]⟩ false ea ec [.mk k ⟨#[]⟩ 0 xa xc args p] ba2 bc2 [] la2 lc2 [] 9], 0⟩] := by
  unfold exOf at h
  split at h
  · rename_i nm snm sto ek enm z ep sp dp hl
    split at h
    · rename_i hc
      obtain ⟨rfl, rfl, rfl, rfl, rfl, rfl⟩ := hc
      cases h
      cases l with
      | nil => simp at hl
      | cons d r =>
        cases r with
        | cons d2 r2 => simp at hl
        | nil =>
          simp only [List.map_cons, List.map_nil, List.cons.injEq, and_true] at hl
          obtain ⟨dk, dn, dv, pa, pc, ps, ba, bc, bd, dp⟩ := d
          unfold da at hl
          simp only [De.mk.injEq, true_and] at hl
          obtain ⟨rfl, rfl, rfl, rfl, hb, rfl⟩ := hl
          cases bd with
          | nil => rw [saL_nil] at hb; cases hb
          | cons s rs =>
            rw [saL_cons] at hb
            simp only [List.cons.injEq] at hb
            obtain ⟨hs, hrs⟩ := hb
            have hrs' : rs = [] := by rw [saL_map] at hrs; simpa using hrs
            subst hrs'
            obtain ⟨k2, n2, t2, nw2, ea, ec, xe, ba2, bc2, b2, la2, lc2, l2, q2⟩ := s
            rw [sa_eq] at hs
            simp only [St.mk.injEq, true_and] at hs
            obtain ⟨rfl, rfl, rfl, rfl, hxe, hb2, hl2, rfl⟩ := hs
            have hb2' : b2 = [] := by rw [saL_map] at hb2; simpa using hb2
            have hl2' : l2 = [] := by rw [saL_map] at hl2; simpa using hl2
            subst hb2' hl2'
            cases xe with
            | nil => rw [eaL_nil] at hxe; cases hxe
            | cons x rx =>
              rw [eaL_cons] at hxe
              simp only [List.cons.injEq] at hxe
              obtain ⟨hx, hrx⟩ := hxe
              have hrx' : rx = [] := by rw [eaL_map] at hrx; simpa using hrx
              subst hrx'
              obtain ⟨k3, n3, v3, xa, xc, args, p3⟩ := x
              rw [ea_eq] at hx
              simp only [Ex.mk.injEq, true_and] at hx
              obtain ⟨rfl, rfl, rfl, _, rfl⟩ := hx
              exact ⟨pa, ba, ea, xa, ba2, la2, pc, bc, ec, xc, bc2, lc2, args, rfl⟩
    · cases h
  · cases h
end Go.Proofs.YtfhmhplbkheojaaGreatDoor.Pa
