/- What is said of declarations: names, bodies, circles; plain. Conditions: none. -/
import Derived.Test.YtpcdlneompnhlaaGreatDoorTyE
import Derived.Test.YtpcdlneompnhlaaGreatDoorTrK
namespace Go.Proofs.YtpcdlneompnhlaaGreatDoor.Ty
open Go Go.RowKit
open Go.Proofs.YtpcdlneompnhlaaGreatDoor.Lx Go.Proofs.YtpcdlneompnhlaaGreatDoor.Tr

/-- the declarations' names, from the i-th on -/
def namesK : List De → Nat → List (ByteArray × Nat) → Except (Int × Int) (List (ByteArray × Nat))
  | [], _, D => .ok D
  | d :: r, i, D => if (findA D d.name).isSome = true then .error (d.pos, 64) else namesK r (i + 1) (putA D d.name i)
def paramsK (D : List (ByteArray × Nat)) (at_ : Int) : List ByteArray → PS → Except (Int × Int) PS
  | [], p => .ok p
  | x :: r, p => match declK D p x 1 at_ with
    | .error q => .error q
    | .ok p1 => paramsK D at_ r p1
/-- a declaration's parameters and Body -/
def bodyK (ds : List De) (D : List (ByteArray × Nat)) (i : Nat) (calls : List (List Nat)) (d : De) : Except (Int × Int) PS :=
  match paramsK D d.pos d.params ⟨[], [], calls⟩ with
  | .error q => .error q
  | .ok p => listK ds D i (decide (d.kind = 4)) p d.body
def bodiesK (ds : List De) (D : List (ByteArray × Nat)) : List De → Nat → List (List Nat) → Except (Int × Int) (List (List Nat))
  | [], _, c => .ok c
  | d :: r, i, c => match bodyK ds D i c d with
    | .error q => .error q
    | .ok p => bodiesK ds D r (i + 1) p.calls
/-- of a row of callees: none: it leads back; else which were met, and what is left -/
def rowK (start : Nat) : List Nat → List Nat → List Nat → Option (List Nat × List Nat)
  | [], met, left => some (met, left)
  | t :: r, met, left => if t = start then none else if t ∈ met then rowK start r met left else rowK start r (t :: met) (left ++ [t])
def dfsK (calls : List (List Nat)) (start : Nat) : Nat → List Nat → List Nat → Bool
  | 0, _, _ => false
  | f + 1, met, left => match left.getLast? with
    | none => false
    | some t => match rowK start (calls.getD t []) met left.dropLast with
      | none => true
      | some (m, l) => dfsK calls start f m l
def backK (calls : List (List Nat)) (start : Nat) : Bool := dfsK calls start (2 * calls.length + 2) [] [start]
def circK (calls : List (List Nat)) : List De → Nat → Except (Int × Int) Unit
  | [], _ => .ok ()
  | d :: r, i => if backK calls i = true then .error (d.pos, 67) else circK calls r (i + 1)
def lookK (ds : List De) : Except (Int × Int) Unit :=
  match namesK ds 0 [] with
  | .error q => .error q
  | .ok D => match bodiesK ds D ds 0 (ds.map fun _ => []) with
    | .error q => .error q
    | .ok calls => circK calls ds 0
def threadsK (ds : List De) : Nat := ds.countP fun d => decide (d.kind = 5)
def checkK (ds : List De) : Int × Int :=
  if mayP ds = true then
    if 16 < threadsK ds then (0, 40)
    else match lookK ds with
      | .error q => q
      | .ok _ => (0, 0)
  else (0, 4)
end Go.Proofs.YtpcdlneompnhlaaGreatDoor.Ty
