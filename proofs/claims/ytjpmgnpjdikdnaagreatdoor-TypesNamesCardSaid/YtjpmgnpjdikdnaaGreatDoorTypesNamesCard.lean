/- THE STATEMENT TypesNames: the function TypesNames returns true; its row of texts, each parsed and checked, gives the faults that the row says. Conditions: none beyond the statement's own. -/
import Derived.Test.YtjpmgnpjdikdnaaGreatDoorTyP1
import Derived.Test.YtjpmgnpjdikdnaaGreatDoorTyBv
import Derived.Test.YtjpmgnpjdikdnaaGreatDoorGrAH
import Derived.Test.YtjpmgnpjdikdnaaGreatDoorDcN
import Derived.Test.YtjpmgnpjdikdnaaGreatDoorTyBu
import Derived.Test.YtjpmgnpjdikdnaaGreatDoorTyR
import Derived.Test.YtjpmgnpjdikdnaaGreatDoorGrAI
import Derived.Test.YtjpmgnpjdikdnaaGreatDoorGrAT
import Derived.Laws.Concat
import Derived.Test.YtjpmgnpjdikdnaaGreatDoorLdB
namespace Go.Proofs.YtjpmgnpjdikdnaaGreatDoor.Ty
open Go Go.RowKit
open Go.Proofs.YtjpmgnpjdikdnaaGreatDoor.Lx Go.Proofs.YtjpmgnpjdikdnaaGreatDoor.Tr Go.Proofs.YtjpmgnpjdikdnaaGreatDoor.Pa

theorem findK_ext {ds ds' : List De} {D : List (ByteArray × Nat)} {K : List (ByteArray × Int)} {nm : ByteArray} {kind at_ : Int} (h : ∀ i : Nat, ds'[i]?.map De.kind = ds[i]?.map De.kind) : findK ds' D K nm kind at_ = findK ds D K nm kind at_ := by
  unfold findK
  cases findA D nm with
  | none => rfl
  | some i =>
    simp only
    have := h i
    cases h1 : ds[i]? with
    | none =>
      cases h2 : ds'[i]? with
      | none => rfl
      | some d' => rw [h1, h2] at this; cases this
    | some d =>
      cases h2 : ds'[i]? with
      | none => rw [h1, h2] at this; cases this
      | some d' =>
        rw [h1, h2] at this
        simp only [Option.map_some, Option.some.injEq] at this
        simp only [this]
theorem varK_ext {ds ds' : List De} {D : List (ByteArray × Nat)} {K : List (ByteArray × Int)} {nm : ByteArray} {at_ : Int} (h : ∀ i : Nat, ds'[i]?.map De.kind = ds[i]?.map De.kind) : varK ds' D K nm at_ = varK ds D K nm at_ := by
  unfold varK
  rw [findK_ext h]
theorem posE_ea (e : Ex) : posE (ea e) = posE e := by
  obtain ⟨k, nm, n, a, cap, args, pos⟩ := e
  rw [ea_eq]; rfl
mutual
theorem exK_ea {ds ds' : List De} {D : List (ByteArray × Nat)} {K : List (ByteArray × Int)} (h : ∀ i : Nat, ds'[i]?.map De.kind = ds[i]?.map De.kind) : ∀ e, exK ds' D K (ea e) = exK ds D K e
  | .mk k nm n a cap args pos => by
    rw [ea_eq, exK_eq, exK_eq, varK_ext h, findK_ext h, wantK_ea h 1 args, wantK_ea h 2 args]
theorem wantK_ea {ds ds' : List De} {D : List (ByteArray × Nat)} {K : List (ByteArray × Int)} (h : ∀ i : Nat, ds'[i]?.map De.kind = ds[i]?.map De.kind) (t : Int) : ∀ l, wantK ds' D K t (eaL l) = wantK ds D K t l
  | [] => by rw [eaL_nil, wantK_nil, wantK_nil]
  | e :: r => by rw [eaL_cons, wantK_cons, wantK_cons, exK_ea h e, wantK_ea h t r, posE_ea]
end
theorem callK_ea {ds ds' : List De} {D : List (ByteArray × Nat)} (h : ∀ i : Nat, ds'[i]?.map De.kind = ds[i]?.map De.kind) (h2 : ∀ i : Nat, ds'[i]?.map (fun d : De => d.params.length) = ds[i]?.map (fun d : De => d.params.length)) (pos : Nat) (p : PS) (nm to : ByteArray) (new : Bool) (e : List Ex) (at_ : Int) : callK ds' D pos p nm to new (eaL e) at_ = callK ds D pos p nm to new e at_ := by
  unfold callK
  rw [findK_ext h, wantK_ea h 1 e]
  have hl : (eaL e).length = e.length := by rw [eaL_map]; simp
  rw [hl]
  cases findK ds D p.kn nm 4 at_ with
  | error q => rfl
  | ok i =>
    simp only
    have := h2 i
    cases h1 : ds[i]? with
    | none =>
      cases h3 : ds'[i]? with
      | none => rfl
      | some d' => rw [h1, h3] at this; cases this
    | some d =>
      cases h3 : ds'[i]? with
      | none => rw [h1, h3] at this; cases this
      | some d' =>
        rw [h1, h3] at this
        simp only [Option.map_some, Option.some.injEq] at this
        simp only [this]
mutual
theorem stK_sa {ds ds' : List De} {D : List (ByteArray × Nat)} (h : ∀ i : Nat, ds'[i]?.map De.kind = ds[i]?.map De.kind) (h2 : ∀ i : Nat, ds'[i]?.map (fun d : De => d.params.length) = ds[i]?.map (fun d : De => d.params.length)) (pos : Nat) (last : Bool) (p : PS) : ∀ x, stK ds' D pos last p (sa x) = stK ds D pos last p x
  | .mk k nm to new ea_ ec e ba bc body la lc els at_ => by
    have hb := fun p => listK_sa (D := D) h h2 pos false p body
    have hl := fun p => listK_sa (D := D) h h2 pos false p els
    have hbb : ∀ p, blockK ds' D pos p (saL body) = blockK ds D pos p body := fun p => by unfold blockK; rw [hb]
    have hll : ∀ p, blockK ds' D pos p (saL els) = blockK ds D pos p els := fun p => by unfold blockK; rw [hl]
    rw [sa_eq, stK_eq, stK_eq, callK_ea h h2, varK_ext h, findK_ext h, findK_ext h, hbb, wantK_ea h 1 e, wantK_ea h 2 e]
    have hw := fun t => wantK_ea (K := p.kn) (D := D) h t e
    simp only [hll, hw]
    cases e with
    | nil => rw [eaL_nil]
    | cons x r => rw [eaL_cons]; simp only [exK_ea h x]
theorem listK_sa {ds ds' : List De} {D : List (ByteArray × Nat)} (h : ∀ i : Nat, ds'[i]?.map De.kind = ds[i]?.map De.kind) (h2 : ∀ i : Nat, ds'[i]?.map (fun d : De => d.params.length) = ds[i]?.map (fun d : De => d.params.length)) (pos : Nat) (whole : Bool) (p : PS) : ∀ l, listK ds' D pos whole p (saL l) = listK ds D pos whole p l
  | [] => by rw [saL_nil, listK_nil, listK_nil]
  | x :: r => by
    rw [saL_cons, listK_cons, listK_cons, stK_sa h h2]
    have he : (saL r).isEmpty = r.isEmpty := by rw [saL_map]; simp
    rw [he]
    cases stK ds D pos (whole && r.isEmpty) p x with
    | error q => rfl
    | ok p1 => exact listK_sa h h2 pos whole p1 r
end
theorem namesK_da : ∀ (l : List De) (i : Nat) (D : List (ByteArray × Nat)), namesK (l.map da) i D = namesK l i D
  | [], _, _ => rfl
  | d :: r, i, D => by
    rw [List.map_cons]
    unfold namesK
    rw [namesK_da r (i + 1)]
    rfl
theorem bodyK_da {ds ds' : List De} {D : List (ByteArray × Nat)} (h : ∀ i : Nat, ds'[i]?.map De.kind = ds[i]?.map De.kind) (h2 : ∀ i : Nat, ds'[i]?.map (fun d : De => d.params.length) = ds[i]?.map (fun d : De => d.params.length)) (i : Nat) (c : List (List Nat)) (d : De) : bodyK ds' D i c (da d) = bodyK ds D i c d := by
  unfold bodyK
  have e : paramsK D (da d).pos (da d).params ⟨[], [], c⟩ = paramsK D d.pos d.params ⟨[], [], c⟩ := rfl
  rw [e]
  cases paramsK D d.pos d.params ⟨[], [], c⟩ with
  | error q => rfl
  | ok p => exact listK_sa h h2 i _ p d.body
theorem bodiesK_da {ds ds' : List De} {D : List (ByteArray × Nat)} (h : ∀ i : Nat, ds'[i]?.map De.kind = ds[i]?.map De.kind) (h2 : ∀ i : Nat, ds'[i]?.map (fun d : De => d.params.length) = ds[i]?.map (fun d : De => d.params.length)) : ∀ (l : List De) (i : Nat) (c : List (List Nat)), bodiesK ds' D (l.map da) i c = bodiesK ds D l i c
  | [], _, _ => rfl
  | d :: r, i, c => by
    rw [List.map_cons]
    unfold bodiesK
    rw [bodyK_da h h2]
    cases bodyK ds D i c d with
    | error q => rfl
    | ok p => exact bodiesK_da h h2 r _ _
theorem circK_da (calls : List (List Nat)) : ∀ (l : List De) (i : Nat), circK calls (l.map da) i = circK calls l i
  | [], _ => rfl
  | d :: r, i => by
    rw [List.map_cons]
    unfold circK
    rw [circK_da calls r]
    rfl
theorem lookK_da (ds : List De) : lookK (ds.map da) = lookK ds := by
  unfold lookK
  rw [namesK_da]
  cases namesK ds 0 [] with
  | error q => rfl
  | ok D =>
    simp only
    rw [bodiesK_da (ds := ds) (fun i => by rw [List.getElem?_map]; cases ds[i]? <;> rfl) (fun i => by rw [List.getElem?_map]; cases ds[i]? <;> rfl)]
    have : ((ds.map da).map fun _ => ([] : List Nat)) = ds.map fun _ => [] := by simp
    rw [this]
    cases bodiesK ds D ds 0 (ds.map fun _ => []) with
    | error q => rfl
    | ok c => exact circK_da c ds 0
theorem checkK_da (ds : List De) : checkK (ds.map da) = checkK ds := by
  unfold checkK
  rw [lookK_da]
  have h1 : mayP (ds.map da) = mayP ds := mayP_of_er (by
    unfold De.erL
    rw [List.map_map]
    exact List.map_congr_left fun d _ => de_da d)
  have h2 : threadsK (ds.map da) = threadsK ds := by
    unfold threadsK
    rw [List.countP_map]
    rfl
  rw [h1, h2]
end Go.Proofs.YtjpmgnpjdikdnaaGreatDoor.Ty

namespace Go.Proofs.YtjpmgnpjdikdnaaGreatDoor.Ty
open Go Go.RowKit
open Go.Proofs.YtjpmgnpjdikdnaaGreatDoor.Lx Go.Proofs.YtjpmgnpjdikdnaaGreatDoor.Tr

theorem checkK_eq (ds : List De) : checkK ds = if mayP ds = true then (if 16 < threadsK ds then (0, 40) else resK (lookK ds)) else (0, 4) := by
  unfold checkK
  cases lookK ds <;> rfl
set_option maxHeartbeats 4000000 in
set_option maxRecDepth 100000 in
theorem check_c {w : World} {S : Nat → Prop} {a : Option Addr} {cap : Nat} {ds : List De} (hrow : RowAt w S a cap ds.length (deCells ds)) (hin : De.InL w S ds) (hsz : De.szL ds ≤ 4194304) (ht : TabsD w) :
    Calls Tryz.prog 26 #[.slice a ds.length cap] w fun e w' => Below w.heap.size w w' ∧ e = .returned (.tuple #[.int .i64 (checkK ds).1, .int .i64 (checkK ds).2]) := by
  have hmay := Lib.hid (mayP_any ds a cap w (hrow.mono fun _ _ => trivial) (De.InL.mono (fun _ _ => trivial) hin) hsz ht)
  have hck := checkK_eq ds
  generalize hc : checkK ds = c at hck
  have hthr := Lib.hid (fun (V : World) (hb : Below w.heap.size w V) => threads_c (hrow.below (Kps.of_below hb)))
  have hlook := Lib.hid (fun (V : World) (hb : Below w.heap.size w V) (h : mayP ds = true) => look_c (w := V) (((hrow.bds).below (Kps.of_below hb)).mono fun b h => Nat.lt_of_lt_of_le h.2 hb.size) (De.InL.mono (fun b h => Nat.lt_of_lt_of_le h.2 hb.size) (De.InL.below (Kps.of_below hb) (fun d hd => (hin d hd).bds))) h)
  generalize hm : mayP ds = m at hmay hck hlook
  replace hck := Lib.hid hck
  clear hrow hin hc hm hsz ht
  go_enter Tryz.func26, Tryz.ntmps26
  go_wp2_with fail
  refine hmay.out.mono ?_
  rintro e w1 ⟨rfl, hb1⟩
  have hck' := hck.out
  cases m with
  | false =>
    rw [if_neg (by decide)] at hck'
    subst hck'
    replace hb1 := Lib.hid hb1
    clear hthr hlook hmay hck
    go_wp2_with fail
    go_ret2
    exact ⟨hb1.out, rfl⟩
  | true =>
    rw [if_pos rfl] at hck'
    have ht1 := Lib.hid (hthr.out w1 hb1)
    have hl1 := Lib.hid (fun V (hV : Below w1.heap.size w1 V) => hlook.out V (hb1.trans (hV.mono hb1.size)) rfl)
    replace hb1 := Lib.hid hb1
    replace hck' := Lib.hid hck'
    clear hthr hlook hmay hck
    go_wp2_with fail
    refine ht1.out.mono ?_
    rintro e w2 ⟨rfl, hb2⟩
    have hb3 := Lib.hid (hb1.out.trans (hb2.mono hb1.out.size))
    have hl2 := Lib.hid (hl1.out w2 hb2)
    have hk := hck'.out
    generalize threadsK ds = t at hk ⊢
    clear ht1 hl1 hck' hb1
    by_cases h16 : 16 < t
    · rw [if_pos h16] at hk
      subst hk
      have h16' : (16 : Int) < (t : Int) := by omega
      clear hb2 hl2
      go_wp2_with fail
      go_ret2
      exact ⟨hb3.out, rfl⟩
    · rw [if_neg h16] at hk
      subst hk
      have h16' : ¬ (16 : Int) < (t : Int) := by omega
      have hlw := Lib.hid hb3.out.size
      replace hb2 := Lib.hid hb2
      go_wp2_with fail
      refine hl2.out.mono ?_
      rintro e w4 ⟨hb4, rfl⟩
      have hb5 := Lib.hid (hb3.out.trans (hb4.mono hlw.out))
      clear hb4 hl2 hb3
      go_wp2_with fail
      go_ret2
      exact ⟨hb5.out, rfl⟩
end Go.Proofs.YtjpmgnpjdikdnaaGreatDoor.Ty

namespace Go.Proofs.YtjpmgnpjdikdnaaGreatDoor.Ty
open Go Go.RowKit
open Go.Proofs.YtjpmgnpjdikdnaaGreatDoor.Lx Go.Proofs.YtjpmgnpjdikdnaaGreatDoor.Tr Go.Proofs.YtjpmgnpjdikdnaaGreatDoor.Pa

def saysB (s : ByteArray) (at_ e : Int) : Bool := match parseP s with
  | (ds, _, en) => decide (en = 0) && decide (checkK ds = (at_, e)) && decide (De.szL ds ≤ 4194304)
theorem saysB_eq {s : ByteArray} {at_ e : Int} (h : saysB s at_ e = true) : (parseP s).2.2 = 0 ∧ checkK (parseP s).1 = (at_, e) ∧ De.szL (parseP s).1 ≤ 4194304 := by
  unfold saysB at h
  generalize parseP s = r at h ⊢
  obtain ⟨ds, p, en⟩ := r
  simp only [Bool.and_eq_true, decide_eq_true_eq] at h
  exact ⟨h.1.1, h.1.2, h.2⟩
set_option maxHeartbeats 4000000 in
set_option maxRecDepth 100000 in
theorem says_yes (s : ByteArray) (at_ e : Int) (w : World) (hs : s.size ≤ maxLen) (hw : All w) (hp : saysB s at_ e = true) :
    Calls Tryz.prog 22 #[.string s, .int .i64 at_, .int .i64 e] w fun x w' => x = .returned (.bool true) ∧ Below w.heap.size w w' := by
  obtain ⟨h1, h2, h3⟩ := saysB_eq hp
  have hP := parse_c s w hs hw.tb hw.ht
  generalize (parseP s).1 = ds at hP h2 h3
  generalize (parseP s).2.1 = p at hP
  rw [h1] at hP
  have hC := Lib.hid (fun (V : World) (hb : Below w.heap.size w V) (l : List De) (a : Option Addr) (cap : Nat) (hr : RowAt V (fun b => w.heap.size ≤ b) a cap l.length (deCells l)) (hi : De.InL V (fun b => w.heap.size ≤ b) l) (he : l.map da = ds) => by
    have := check_c hr hi (by rw [← sz_da, he]; exact h3) (hw.ht.below hb)
    rw [← checkK_da l, he, h2] at this
    exact (this : Calls Tryz.prog 26 #[.slice a l.length cap] V fun e' w' => Below V.heap.size V w' ∧ e' = .returned (.tuple #[.int .i64 at_, .int .i64 e])))
  replace hP := Lib.hid hP
  clear hp hs h1 h2 h3 hw
  go_enter Tryz.func22, Tryz.ntmps22
  go_wp2_with fail
  refine hP.out.mono ?_
  rintro x w1 ⟨hb1, v, rfl, l, a, cap, rfl, hr, hi, he⟩
  have hc := Lib.hid (hC.out w1 hb1 l a cap hr hi he)
  replace hb1 := Lib.hid hb1
  clear hP hC hr hi he
  go_wp2_with fail
  refine hc.out.mono ?_
  rintro x w2 ⟨hb2, rfl⟩
  have hb3 := Lib.hid (hb1.out.trans (hb2.mono hb1.out.size))
  clear hb2 hb1 hc
  go_wp2_with fail
  go_ret
  exact ⟨rfl, hb3.out⟩
end Go.Proofs.YtjpmgnpjdikdnaaGreatDoor.Ty

namespace Go.Proofs.YtjpmgnpjdikdnaaGreatDoor.Ty
open Go Go.RowKit
open Go.Proofs.YtjpmgnpjdikdnaaGreatDoor.Lx Go.Proofs.YtjpmgnpjdikdnaaGreatDoor.Tr Go.Proofs.YtjpmgnpjdikdnaaGreatDoor.Pa

set_option maxHeartbeats 8000000 in
set_option maxRecDepth 100000 in
theorem works5_c (w : World) (hw : All w) : Calls Tryz.prog 21 #[] w fun x w' => x = .returned (.bool true) ∧ Below w.heap.size w w' := by
  have hall := Lib.hid (fun (V : World) (hb : Below w.heap.size w V) => hw.below hb)
  have hb0 : Hid (Below w.heap.size w w) := Lib.hid (Below.refl _ _)
  clear hw
  go_enter Tryz.func21, Tryz.ntmps21
  go_wp2_with fail
  refine (says_yes _ _ _ _ (by unfold maxLen; decide) (hall.out _ hb0.out) (by kernel_rfl)).mono ?_
  rintro e0 w1 ⟨rfl, hk0⟩
  have hb1 := Lib.hid (hb0.out.trans (hk0.mono hb0.out.size))
  clear hb0 hk0
  go_wp2_with fail
  refine (says_yes _ _ _ _ (by unfold maxLen; decide) (hall.out _ hb1.out) (by kernel_rfl)).mono ?_
  rintro e1 w2 ⟨rfl, hk1⟩
  have hb2 := Lib.hid (hb1.out.trans (hk1.mono hb1.out.size))
  clear hb1 hk1
  go_wp2_with fail
  refine (says_yes _ _ _ _ (by unfold maxLen; decide) (hall.out _ hb2.out) (by kernel_rfl)).mono ?_
  rintro e2 w3 ⟨rfl, hk2⟩
  have hb3 := Lib.hid (hb2.out.trans (hk2.mono hb2.out.size))
  clear hb2 hk2
  go_wp2_with fail
  refine (says_yes _ _ _ _ (by unfold maxLen; decide) (hall.out _ hb3.out) (by kernel_rfl)).mono ?_
  rintro e3 w4 ⟨rfl, hk3⟩
  have hb4 := Lib.hid (hb3.out.trans (hk3.mono hb3.out.size))
  clear hb3 hk3
  go_wp2_with fail
  refine (says_yes _ _ _ _ (by unfold maxLen; decide) (hall.out _ hb4.out) (by kernel_rfl)).mono ?_
  rintro e4 w5 ⟨rfl, hk4⟩
  have hb5 := Lib.hid (hb4.out.trans (hk4.mono hb4.out.size))
  clear hb4 hk4
  go_wp2_with fail
  refine (says_yes _ _ _ _ (by unfold maxLen; decide) (hall.out _ hb5.out) (by kernel_rfl)).mono ?_
  rintro e5 w6 ⟨rfl, hk5⟩
  have hb6 := Lib.hid (hb5.out.trans (hk5.mono hb5.out.size))
  clear hb5 hk5
  go_wp2_with fail
  refine (says_yes _ _ _ _ (by unfold maxLen; decide) (hall.out _ hb6.out) (by kernel_rfl)).mono ?_
  rintro e6 w7 ⟨rfl, hk6⟩
  have hb7 := Lib.hid (hb6.out.trans (hk6.mono hb6.out.size))
  clear hb6 hk6
  go_wp2_with fail
  go_ret
  exact ⟨rfl, hb7.out⟩
set_option maxHeartbeats 8000000 in
set_option maxRecDepth 100000 in
theorem loops5_c (w : World) (hw : All w) : Calls Tryz.prog 24 #[] w fun x w' => x = .returned (.bool true) ∧ Below w.heap.size w w' := by
  have hall := Lib.hid (fun (V : World) (hb : Below w.heap.size w V) => hw.below hb)
  have hb0 : Hid (Below w.heap.size w w) := Lib.hid (Below.refl _ _)
  clear hw
  go_enter Tryz.func24, Tryz.ntmps24
  go_wp2_with fail
  refine (says_yes _ _ _ _ (by unfold maxLen; decide) (hall.out _ hb0.out) (by kernel_rfl)).mono ?_
  rintro e0 w1 ⟨rfl, hk0⟩
  have hb1 := Lib.hid (hb0.out.trans (hk0.mono hb0.out.size))
  clear hb0 hk0
  go_wp2_with fail
  refine (says_yes _ _ _ _ (by unfold maxLen; decide) (hall.out _ hb1.out) (by kernel_rfl)).mono ?_
  rintro e1 w2 ⟨rfl, hk1⟩
  have hb2 := Lib.hid (hb1.out.trans (hk1.mono hb1.out.size))
  clear hb1 hk1
  go_wp2_with fail
  refine (says_yes _ _ _ _ (by unfold maxLen; decide) (hall.out _ hb2.out) (by kernel_rfl)).mono ?_
  rintro e2 w3 ⟨rfl, hk2⟩
  have hb3 := Lib.hid (hb2.out.trans (hk2.mono hb2.out.size))
  clear hb2 hk2
  go_wp2_with fail
  refine (says_yes _ _ _ _ (by unfold maxLen; decide) (hall.out _ hb3.out) (by kernel_rfl)).mono ?_
  rintro e3 w4 ⟨rfl, hk3⟩
  have hb4 := Lib.hid (hb3.out.trans (hk3.mono hb3.out.size))
  clear hb3 hk3
  go_wp2_with fail
  refine (says_yes _ _ _ _ (by unfold maxLen; decide) (hall.out _ hb4.out) (by kernel_rfl)).mono ?_
  rintro e4 w5 ⟨rfl, hk4⟩
  have hb5 := Lib.hid (hb4.out.trans (hk4.mono hb4.out.size))
  clear hb4 hk4
  go_wp2_with fail
  go_ret
  exact ⟨rfl, hb5.out⟩
end Go.Proofs.YtjpmgnpjdikdnaaGreatDoor.Ty

namespace Go.Proofs.YtjpmgnpjdikdnaaGreatDoor.Ty
open Go Go.RowKit
open Go.Proofs.YtjpmgnpjdikdnaaGreatDoor.Lx Go.Proofs.YtjpmgnpjdikdnaaGreatDoor.Tr Go.Proofs.YtjpmgnpjdikdnaaGreatDoor.Pa

theorem row_new {w : World} {S : Nat → Prop} (vs : List Value) (T : TypeId) (n : Nat) (hn : n ≤ 100000) (hS : S w.heap.size) : RowAt (w.alloc (.cells ⟨vs⟩ T)) S (some ⟨w.heap.size, 0, none⟩) n n vs := by
  refine ⟨Nat.le_refl _, by unfold maxLen; omega, fun h => (by cases h), fun j u hu => ⟨w.heap.size, 0, rfl, hS, ?_⟩⟩
  have h : (w.alloc (.cells ⟨vs⟩ T)).heap[w.heap.size]? = some (.cells ⟨vs⟩ T (0, 0)) := World.alloc_heap_new w _
  simp only [World.cell?, h]
  rw [Nat.zero_add]
  simpa using hu
theorem row_no {w : World} {S : Nat → Prop} : RowAt w S none 0 0 [] := ⟨Nat.le_refl _, Nat.zero_le _, fun _ => rfl, fun j u hu => by simp at hu⟩
theorem chr_bytes (W : World) (d : Nat) (hd : d < 100) : (convert 93 9 (.slice (some ⟨W.heap.size, 0, none⟩) 1 1)).run Tryz.prog (W.alloc (.cells #[.int .u8 ((97 + d : Nat) : Int)] 5)) = .ok (.string ⟨#[UInt8.ofNat (97 + d)]⟩) (W.alloc (.cells #[.int .u8 ((97 + d : Nat) : Int)] 5)) := by
  exact run_convert_bytes_back (P := Tryz.prog) _ 93 9 5 ⟨W.heap.size, 0, none⟩ 1 [UInt8.ofNat (97 + d)] Tryz.underlying93 Tryz.underlying5 Tryz.underlying9
    (fun j hj => cells_new W #[.int .u8 ((97 + d : Nat) : Int)] 5 j _ (by
      have : j = 0 := by simp at hj; exact hj
      subst this
      have h1 : (UInt8.ofNat (97 + d)).toNat = 97 + d := by simp; omega
      simp only [List.getElem_cons_zero, h1]
      rfl))
def exQ : Ex := .mk 3 ⟨#[113]⟩ 0 none 0 [] 9
def thr (nm : ByteArray) : De := ⟨5, nm, 0, none, 0, [], none, 0, [.mk 7 ⟨#[]⟩ ⟨#[]⟩ false none 0 [exQ] none 0 [] none 0 [] 8], 0⟩
def thrN (i : Nat) : ByteArray := ⟨#[116, UInt8.ofNat (97 + i)]⟩
def manyD (i : Nat) : List De := (List.range i).map fun j => thr (thrN j)
theorem many17 : checkK (manyD 17) = (0, 40) := by kernel_rfl
theorem many16 : checkK (manyD 16) = (9, 64) := by kernel_rfl
theorem many_sz17 : De.szL (manyD 17) ≤ 4194304 := by decide
theorem many_sz16 : De.szL (manyD 16) ≤ 4194304 := by decide
theorem manyD_succ (i : Nat) : manyD (i + 1) = manyD i ++ [thr (thrN i)] := by
  unfold manyD
  rw [List.range_succ, List.map_append]
  rfl
/-- the thread as it is made in memory -/
def thrA (nm : ByteArray) (e s : Nat) : De := ⟨5, nm, 0, none, 0, [], some ⟨s, 0, none⟩, 1, [.mk 7 ⟨#[]⟩ ⟨#[]⟩ false (some ⟨e, 0, none⟩) 1 [exQ] none 0 [] none 0 [] 8], 0⟩
theorem thrA_da (nm : ByteArray) (e s : Nat) : da (thrA nm e s) = thr nm := by
  unfold thrA thr da
  simp only
  rw [saL_cons, saL_nil, sa_eq, eaL_cons, eaL_nil, saL_nil]
  unfold exQ
  rw [ea_eq, eaL_nil]
theorem thrA_in (W : World) (nm : ByteArray) (hn : nm.size ≤ maxLen) : De.In ((W.alloc (.cells ⟨exCells [exQ]⟩ 73)).alloc (.cells ⟨stCells [.mk 7 ⟨#[]⟩ ⟨#[]⟩ false (some ⟨W.heap.size, 0, none⟩) 1 [exQ] none 0 [] none 0 [] 8]⟩ 75)) (fun b => W.heap.size ≤ b) (thrA nm W.heap.size (W.heap.size + 1)) := by
  have hs : (W.alloc (.cells ⟨exCells [exQ]⟩ 73)).heap.size = W.heap.size + 1 := by simp
  have r1 : RowAt (W.alloc (.cells ⟨exCells [exQ]⟩ 73)) (fun b => W.heap.size ≤ b) (some ⟨W.heap.size, 0, none⟩) 1 1 (exCells [exQ]) := row_new _ _ 1 (by omega) (Nat.le_refl _)
  have r2 := row_new (w := W.alloc (.cells ⟨exCells [exQ]⟩ 73)) (S := fun b => W.heap.size ≤ b) (stCells [.mk 7 ⟨#[]⟩ ⟨#[]⟩ false (some ⟨W.heap.size, 0, none⟩) 1 [exQ] none 0 [] none 0 [] 8]) 75 1 (by omega) (by rw [hs]; omega)
  rw [hs] at r2
  have hE : ∀ V, Ex.InL V (fun b => W.heap.size ≤ b) [exQ] := fun V => by
    unfold Ex.InL Ex.InL exQ Ex.In
    refine ⟨⟨by unfold U8; omega, by unfold maxLen; decide, by unfold I64; omega, by unfold I64; omega, row_no, ?_⟩, trivial⟩
    unfold Ex.InL; trivial
  refine ⟨by unfold U8 thrA; simp, hn, by unfold I64 thrA; simp, by unfold I64 thrA; simp, row_no, (fun p hp => by cases hp), r2, ?_⟩
  unfold thrA
  simp only
  unfold St.InL St.InL St.In
  refine ⟨⟨by unfold U8; omega, by unfold maxLen; decide, by unfold maxLen; decide, by unfold I64; omega, r1.below (Kps.of_below ((Below.refl _ _).alloc (Nat.le_refl _) _)), hE _, row_no, ?_, row_no, ?_⟩, trivial⟩
  · unfold St.InL; trivial
  · unfold St.InL; trivial
set_option maxHeartbeats 8000000 in
set_option maxRecDepth 100000 in
theorem decls5_c (w : World) (hw : All w) : Calls Tryz.prog 23 #[] w fun x w' => x = .returned (.bool true) ∧ Below w.heap.size w w' := by
  have hall := Lib.hid (fun (V : World) (hb : Below w.heap.size w V) => hw.below hb)
  have hb0 : Hid (Below w.heap.size w w) := Lib.hid (Below.refl _ _)
  obtain ⟨i0, hi0, hz0, hz1, hz2⟩ := info_parts info_de
  clear hw
  have hc99 := Lib.hid (check_c (ds := [⟨99, ⟨#[]⟩, 0, none, 0, [], none, 0, [], 0⟩]) (row_new (w := w) (S := fun _ => True) (deCells [⟨99, ⟨#[]⟩, 0, none, 0, [], none, 0, [], 0⟩]) 31 1 (by omega) trivial) (by
    intro d hd
    rw [List.mem_singleton.1 hd]
    refine ⟨by unfold U8; simp, by unfold maxLen; decide, by unfold I64; simp, by unfold I64; simp, row_no, (fun p hp => by cases hp), row_no, ?_⟩
    unfold St.InL; trivial) (by decide) ((hall.out _ ((Below.refl _ _).alloc (Nat.le_refl _) _)).ht))
  have hchk := Lib.hid (fun (V : World) (hb : Below w.heap.size w V) (l : List De) (a : Option Addr) (cap : Nat) (hr : RowAt V (fun _ => True) a cap l.length (deCells l)) (hi : De.InL V (fun _ => True) l) (m : List De) (he : l.map da = m) (hs : De.szL m ≤ 4194304) (x y : Int) (hm : checkK m = (x, y)) => by
    have := check_c hr hi (by rw [← sz_da, he]; exact hs) (hall.out V hb).ht
    rw [← checkK_da l, he, hm] at this
    exact (this : Calls Tryz.prog 26 #[.slice a l.length cap] V fun e' w' => Below V.heap.size V w' ∧ e' = .returned (.tuple #[.int .i64 x, .int .i64 y])))
  go_enter Tryz.func23, Tryz.ntmps23
  go_wp2_with fail
  refine hc99.out.mono ?_
  rintro e1 w1 ⟨hk1, rfl⟩
  have hb1 : Hid (Below w.heap.size w w1) := Lib.hid (((Below.refl _ _).alloc (Nat.le_refl _) _).trans (hk1.mono (by simp)))
  rw [show checkK [⟨99, ⟨#[]⟩, 0, none, 0, [], none, 0, [], 0⟩] = (0, 4) by kernel_rfl]
  clear hk1 hc99 hb0
  go_wp2_with fail
  go_loopw [3, 4] (fun v iv wr => ∃ (i : Nat) (acc : List De), iv = .int .i64 i ∧ i ≤ 17 ∧ Hid (Acc KDe 31 w.heap.size wr v acc) ∧ Hid (acc.map da = manyD i) ∧ Hid (Below w.heap.size w wr)) (fun _ iv _ => 17 - (intOf iv).toNat)
  case atStart => exact ⟨0, [], rfl, by omega, Lib.hid (Acc.nil _ _ _ _), Lib.hid rfl, hb1⟩
  case round =>
    obtain ⟨i, acc, rfl, hi, hacc, hm, hbr⟩ := hrel
    clear hb1
    by_cases hlt : i < 17
    · have hi1 : (i : Int) < 17 := by omega
      obtain ⟨cb, hcb⟩ : ∃ cb, UInt8.ofNat (97 + i) = cb := ⟨_, rfl⟩
      have hcv : (convert 93 9 (.slice (some ⟨wr.heap.size, 0, none⟩) 1 1)).run Tryz.prog (wr.alloc (.cells #[.int .u8 (97 + (i : Int))] 5)) = .ok (.string ⟨#[cb]⟩) (wr.alloc (.cells #[.int .u8 (97 + (i : Int))] 5)) := by rw [← hcb]; exact chr_bytes wr i (by omega)
      have hsa : ∀ V : World, (Op.stringOp .add ⟨#[116]⟩ ⟨#[cb]⟩).run Tryz.prog V = .ok (.string ⟨#[116, cb]⟩) V := fun V => by
        have h1 : (⟨#[116]⟩ ++ ⟨#[cb]⟩ : ByteArray) = ⟨#[116, cb]⟩ := by apply ByteArray.ext; simp
        rw [← h1]
        exact run_string_add V _ _ (by show ((1 : Nat) : Int) ≤ 8388608; decide) (by show ((1 : Nat) : Int) ≤ 8388608; decide)
      obtain ⟨W1, hW1⟩ : ∃ V, wr.alloc (.cells #[.int .u8 (97 + (i : Int))] 5) = V := ⟨_, rfl⟩
      have hs1 : W1.heap.size = wr.heap.size + 1 := by rw [← hW1]; simp
      rw [hW1] at hcv
      have hb1 : Below wr.heap.size wr W1 := by rw [← hW1]; exact (Below.refl _ _).alloc (Nat.le_refl _) _
      have hin := thrA_in W1 ⟨#[116, cb]⟩ (by unfold maxLen; show 2 ≤ _; decide)
      obtain ⟨W3, hW3⟩ : ∃ V, (W1.alloc (.cells ⟨exCells [exQ]⟩ 73)).alloc (.cells ⟨stCells [.mk 7 ⟨#[]⟩ ⟨#[]⟩ false (some ⟨W1.heap.size, 0, none⟩) 1 [exQ] none 0 [] none 0 [] 8]⟩ 75) = V := ⟨_, rfl⟩
      have hb3 : Below wr.heap.size wr W3 := by rw [← hW3]; exact (hb1.alloc (by omega) _).alloc (by simp; omega) _
      rw [hW3] at hin
      have hs3 : W3.heap.size = wr.heap.size + 1 + 1 + 1 := by rw [← hW3]; simp; exact hs1
      have hacc3 := hacc.out.below hb3
      have hel := Acc.fresh (K := KDe) hacc.out hbr.out.size (KDe.mono (fun b (hb : W1.heap.size ≤ b) => (by omega : wr.heap.size ≤ b)) hin)
      have hbw3 : Below w.heap.size w W3 := hbr.out.trans (hb3.mono hbr.out.size)
      have hda : Hid ((acc ++ [thrA ⟨#[116, cb]⟩ W1.heap.size (W1.heap.size + 1)]).map da = manyD (i + 1)) := Lib.hid (by
        rw [List.map_append, hm.out, manyD_succ]
        show _ ++ [da (thrA _ _ _)] = _
        rw [thrA_da]
        unfold thrN
        rw [hcb])
      have hlen : Hid (acc.length = i) := Lib.hid (by
        have := congrArg List.length hm.out
        unfold manyD at this
        simpa using this)
      have hwl := Lib.hid hbr.out.size
      have hrw3 : (W1.alloc (.cells #[.int .u8 3, .string ⟨#[113]⟩, .int .i64 0, .slice none 0 0, .int .i64 9] 73)).alloc (.cells #[.int .u8 7, .string ⟨#[]⟩, .string ⟨#[]⟩, .bool false, .slice (some ⟨wr.heap.size + 1, 0, none⟩) 1 1, .slice none 0 0, .slice none 0 0, .int .i64 8] 75) = W3 := by rw [← hW3, hs1]; rfl
      rw [hs1] at hda hel
      replace hacc3 := Lib.hid hacc3
      replace hel := Lib.hid hel
      replace hbw3 := Lib.hid hbw3
      clear hin hb1 hb3 hacc hm hcb hbr hW3
      go_wp2_with (at_builtin; refine wpList_append_K KDe rfl (.tmp 19) (.tmp 31) (.tmp 30) 22 rfl 31 i0 _ 6 88 Tryz.underlying22 hi0 hz0 hz1 hz2 rfl (by decide) rfl De.vals_one w.heap.size _ acc (thrA ⟨#[116, cb]⟩ (wr.heap.size + 1) (wr.heap.size + 1 + 1)) rfl (hacc3.out.alloc _) (KDe.below (Kps.alloc _ _) hel.out) (wr.heap.size + 1 + 1 + 1) rfl rfl (0, 0) (Tr.blk_new _ _ hs3) ?c1 ?c2 ?c3 ?_)
      case c1 => have := hlen.out; unfold maxLen; omega
      case c2 => have := hlen.out; omega
      case c3 => have := hbw3.out.size; simp; omega
      intro v5 w5 hacc5 hg5
      have hb5 := Lib.hid (Acc.belowA hacc3.out hbw3.out (Nat.le_refl _) hbw3.out.size hg5)
      replace hacc5 := Lib.hid hacc5
      clear hg5 hacc3 hel hbw3 hcv hsa hW1 hrw3 hs1 hs3
      go_wp2_with fail
      go_roundw
      case rel => exact ⟨i + 1, _, by go_num, by omega, hacc5, hda, hb5⟩
      case measure => simp [intOf]; omega
    · have hge : ¬ (i : Int) < 17 := by omega
      obtain ⟨av, cv, hv, hrow, hin⟩ := hacc.out.out
      have hi17 : i = 17 := by omega
      have hlen : acc.length = 17 := by
        have := congrArg List.length hm.out
        unfold manyD at this
        rw [hi17] at this
        simpa using this
      have hm17 : acc.map da = manyD 17 := by rw [hm.out, hi17]
      have hm16 : (acc.take 16).map da = manyD 16 := by
        rw [List.map_take, hm17]
        rfl
      have hrow16 : ∀ V, Below wr.heap.size wr V → RowAt V (fun _ => True) av cv (acc.take 16).length (deCells (acc.take 16)) := fun V hV => by
        refine ⟨by have := hrow.le; simp; omega, hrow.lim, hrow.nil, fun j u hj => ?_⟩
        obtain ⟨b, off, h1, h2, h3⟩ := (hrow.below (Kps.of_below hV)).at_ j u (by
          have hsp : acc = acc.take 16 ++ acc.drop 16 := (List.take_append_drop 16 acc).symm
          rw [hsp]
          unfold deCells at hj
          show (List.flatMap De.vals _)[j]? = _
          rw [List.flatMap_append, List.getElem?_append_left (List.getElem?_eq_some_iff.1 hj).1]
          exact hj)
        exact ⟨b, off, h1, trivial, h3⟩
      have hc17 := Lib.hid (fun V (hV : Below wr.heap.size wr V) => hchk.out V (hbr.out.trans (hV.mono hbr.out.size)) acc av cv (((hrow.below (Kps.of_below hV))).mono fun _ _ => trivial) (De.InL.mono (fun _ _ => trivial) (De.InL.below (Kps.of_below hV) hin)) _ hm17 many_sz17 0 40 many17)
      have hc16 := Lib.hid (fun V (hV : Below wr.heap.size wr V) => hchk.out V (hbr.out.trans (hV.mono hbr.out.size)) (acc.take 16) av cv (hrow16 V hV) (fun d hd => (hin d (List.mem_of_mem_take hd)).below (Kps.of_below hV) |>.mono fun _ _ => trivial) _ hm16 many_sz16 9 64 many16)
      have hcv16 : 17 ≤ cv := by have := hrow.le; omega
      have hcvl : cv ≤ 9223372036854775807 := by have := hrow.lim; unfold maxLen at this; exact this
      rw [hlen] at hv hc17
      have hl16 : (acc.take 16).length = 16 := by simp; omega
      rw [hl16] at hc16
      obtain ⟨g, hg⟩ : ∃ g, av = some ⟨g, 0, none⟩ := by
        obtain ⟨_, ⟨_, h0⟩ | ⟨g, cap, cur, hv', _⟩⟩ := hacc.out.own
        · omega
        · rw [hv] at hv'
          simp at hv'
          exact ⟨g, hv'.1⟩
      subst hg
      subst hv
      have hbw := Lib.hid hbr.out
      have hwl := Lib.hid hbr.out.size
      have hcv0 : (16 : Int) ≤ (cv : Int) := by omega
      clear hacc hm hrow hin hm17 hm16 hrow16 hlen hl16 hi17 hbr hchk hlt
      go_wp2_with fail
      refine (hc17.out _ (Below.refl _ _)).mono ?_
      rintro e2 w2 ⟨hk2, rfl⟩
      have hc2 := Lib.hid (hc16.out w2 hk2)
      have hb2 := Lib.hid (hbw.out.trans (hk2.mono hwl.out))
      clear hk2 hc17 hc16
      go_wp2_with fail
      refine hc2.out.mono ?_
      rintro e3 w3 ⟨hk3, rfl⟩
      have hb0 := Lib.hid (hb2.out.trans (hk3.mono hb2.out.size))
      clear hk3 hc2 hbw hb2
      go_wp2_with fail
      refine (says_yes _ _ _ _ (by unfold maxLen; decide) (hall.out _ hb0.out) (by kernel_rfl)).mono ?_
      rintro e0 w1 ⟨rfl, hk0⟩
      have hb1 := Lib.hid (hb0.out.trans (hk0.mono hb0.out.size))
      clear hb0 hk0
      go_wp2_with fail
      refine (says_yes _ _ _ _ (by unfold maxLen; decide) (hall.out _ hb1.out) (by kernel_rfl)).mono ?_
      rintro e1 w2 ⟨rfl, hk1⟩
      have hb2 := Lib.hid (hb1.out.trans (hk1.mono hb1.out.size))
      clear hb1 hk1
      go_wp2_with fail
      refine (says_yes _ _ _ _ (by unfold maxLen; decide) (hall.out _ hb2.out) (by kernel_rfl)).mono ?_
      rintro e2 w3 ⟨rfl, hk2⟩
      have hb3 := Lib.hid (hb2.out.trans (hk2.mono hb2.out.size))
      clear hb2 hk2
      go_wp2_with fail
      refine (says_yes _ _ _ _ (by unfold maxLen; decide) (hall.out _ hb3.out) (by kernel_rfl)).mono ?_
      rintro e3 w4 ⟨rfl, hk3⟩
      have hb4 := Lib.hid (hb3.out.trans (hk3.mono hb3.out.size))
      clear hb3 hk3
      go_wp2_with fail
      refine (says_yes _ _ _ _ (by unfold maxLen; decide) (hall.out _ hb4.out) (by kernel_rfl)).mono ?_
      rintro e4 w5 ⟨rfl, hk4⟩
      have hb5 := Lib.hid (hb4.out.trans (hk4.mono hb4.out.size))
      clear hb4 hk4
      go_wp2_with fail
      refine (says_yes _ _ _ _ (by unfold maxLen; decide) (hall.out _ hb5.out) (by kernel_rfl)).mono ?_
      rintro e5 w6 ⟨rfl, hk5⟩
      have hb6 := Lib.hid (hb5.out.trans (hk5.mono hb5.out.size))
      clear hb5 hk5
      go_wp2_with fail
      refine (says_yes _ _ _ _ (by unfold maxLen; decide) (hall.out _ hb6.out) (by kernel_rfl)).mono ?_
      rintro e6 w7 ⟨rfl, hk6⟩
      have hb7 := Lib.hid (hb6.out.trans (hk6.mono hb6.out.size))
      clear hb6 hk6
      go_wp2_with fail
      refine (says_yes _ _ _ _ (by unfold maxLen; decide) (hall.out _ hb7.out) (by kernel_rfl)).mono ?_
      rintro e7 w8 ⟨rfl, hk7⟩
      have hb8 := Lib.hid (hb7.out.trans (hk7.mono hb7.out.size))
      clear hb7 hk7
      go_wp2_with fail
      refine (says_yes _ _ _ _ (by unfold maxLen; decide) (hall.out _ hb8.out) (by kernel_rfl)).mono ?_
      rintro e8 w9 ⟨rfl, hk8⟩
      have hb9 := Lib.hid (hb8.out.trans (hk8.mono hb8.out.size))
      clear hb8 hk8
      go_wp2_with fail
      refine (says_yes _ _ _ _ (by unfold maxLen; decide) (hall.out _ hb9.out) (by kernel_rfl)).mono ?_
      rintro e9 w10 ⟨rfl, hk9⟩
      have hb10 := Lib.hid (hb9.out.trans (hk9.mono hb9.out.size))
      clear hb9 hk9
      go_wp2_with fail
      refine (says_yes _ _ _ _ (by unfold maxLen; decide) (hall.out _ hb10.out) (by kernel_rfl)).mono ?_
      rintro e10 w11 ⟨rfl, hk10⟩
      have hb11 := Lib.hid (hb10.out.trans (hk10.mono hb10.out.size))
      clear hb10 hk10
      go_wp2_with fail
      refine (says_yes _ _ _ _ (by unfold maxLen; decide) (hall.out _ hb11.out) (by kernel_rfl)).mono ?_
      rintro e11 w12 ⟨rfl, hk11⟩
      have hb12 := Lib.hid (hb11.out.trans (hk11.mono hb11.out.size))
      clear hb11 hk11
      go_wp2_with fail
      refine (says_yes _ _ _ _ (by unfold maxLen; decide) (hall.out _ hb12.out) (by kernel_rfl)).mono ?_
      rintro e12 w13 ⟨rfl, hk12⟩
      have hb13 := Lib.hid (hb12.out.trans (hk12.mono hb12.out.size))
      clear hb12 hk12
      go_wp2_with fail
      refine (says_yes _ _ _ _ (by unfold maxLen; decide) (hall.out _ hb13.out) (by kernel_rfl)).mono ?_
      rintro e13 w14 ⟨rfl, hk13⟩
      have hb14 := Lib.hid (hb13.out.trans (hk13.mono hb13.out.size))
      clear hb13 hk13
      go_wp2_with fail
      refine (says_yes _ _ _ _ (by unfold maxLen; decide) (hall.out _ hb14.out) (by kernel_rfl)).mono ?_
      rintro e14 w15 ⟨rfl, hk14⟩
      have hb15 := Lib.hid (hb14.out.trans (hk14.mono hb14.out.size))
      clear hb14 hk14
      go_wp2_with fail
      go_ret
      exact ⟨rfl, hb15.out⟩
end Go.Proofs.YtjpmgnpjdikdnaaGreatDoor.Ty

namespace Go.Proofs.YtjpmgnpjdikdnaaGreatDoor.Ty
open Go Go.RowKit
open Go.Proofs.YtjpmgnpjdikdnaaGreatDoor.Lx Go.Proofs.YtjpmgnpjdikdnaaGreatDoor.Tr Go.Proofs.YtjpmgnpjdikdnaaGreatDoor.Pa

def tyTab : List (ByteArray × Int × Int) := [(⟨#[112, 114, 105, 110, 116, 32, 103, 59]⟩, 0, 0), (⟨#[112, 114, 105, 110, 116, 32, 109, 91, 103, 93, 59]⟩, 0, 0), (⟨#[103, 32, 61, 32, 109, 91, 49, 93, 32, 42, 32, 50, 59]⟩, 0, 0), (⟨#[118, 97, 114, 32, 120, 32, 61, 32, 49, 32, 60, 32, 50, 59, 32, 105, 102, 32, 120, 32, 38, 38, 32, 33, 120, 32, 124, 124, 32, 116, 114, 117, 101, 32, 123, 32, 125]⟩, 0, 0), (⟨#[118, 97, 114, 32, 120, 32, 61, 32, 99, 97, 108, 108, 32, 102, 40, 49, 44, 32, 103, 41, 59, 32, 112, 114, 105, 110, 116, 32, 120, 59]⟩, 0, 0), (⟨#[118, 97, 114, 32, 120, 32, 61, 32, 49, 59, 32, 120, 32, 61, 32, 99, 97, 108, 108, 32, 102, 40, 120, 44, 32, 120, 41, 59]⟩, 0, 0), (⟨#[119, 105, 116, 104, 32, 108, 32, 123, 32, 118, 97, 114, 32, 120, 32, 61, 32, 49, 59, 32, 125, 32, 119, 105, 116, 104, 32, 108, 32, 123, 32, 125]⟩, 0, 0), (⟨#[119, 104, 105, 108, 101, 32, 103, 32, 60, 32, 51, 32, 123, 32, 103, 32, 61, 32, 103, 32, 43, 32, 49, 59, 32, 125]⟩, 0, 0), (⟨#[118, 97, 114, 32, 120, 32, 61, 32, 116, 114, 117, 101, 59, 32, 120, 32, 61, 32, 102, 97, 108, 115, 101, 59, 32, 120, 32, 61, 32, 49, 32, 61, 61, 32, 50, 59]⟩, 0, 0), (⟨#[99, 97, 108, 108, 32, 102, 40, 49, 44, 32, 50, 41, 59]⟩, 0, 0), (⟨#[109, 91, 109, 91, 48, 93, 93, 32, 61, 32, 45, 103, 59]⟩, 0, 0), (⟨#[112, 114, 105, 110, 116, 32, 109, 59]⟩, 6, 65), (⟨#[112, 114, 105, 110, 116, 32, 108, 59]⟩, 6, 65), (⟨#[112, 114, 105, 110, 116, 32, 102, 59]⟩, 6, 65), (⟨#[112, 114, 105, 110, 116, 32, 116, 59]⟩, 6, 65), (⟨#[112, 114, 105, 110, 116, 32, 113, 59]⟩, 6, 64), (⟨#[112, 114, 105, 110, 116, 32, 103, 91, 49, 93, 59]⟩, 6, 65), (⟨#[112, 114, 105, 110, 116, 32, 113, 91, 49, 93, 59]⟩, 6, 64), (⟨#[118, 97, 114, 32, 120, 32, 61, 32, 49, 59, 32, 112, 114, 105, 110, 116, 32, 120, 91, 49, 93, 59]⟩, 17, 65), (⟨#[112, 114, 105, 110, 116, 32, 109, 91, 116, 114, 117, 101, 93, 59]⟩, 8, 65), (⟨#[112, 114, 105, 110, 116, 32, 116, 114, 117, 101, 59]⟩, 6, 65), (⟨#[112, 114, 105, 110, 116, 32, 49, 32, 43, 32, 116, 114, 117, 101, 59]⟩, 10, 65), (⟨#[112, 114, 105, 110, 116, 32, 116, 114, 117, 101, 32, 43, 32, 113, 59]⟩, 6, 65), (⟨#[112, 114, 105, 110, 116, 32, 45, 116, 114, 117, 101, 59]⟩, 7, 65), (⟨#[105, 102, 32, 33, 49, 32, 123, 32, 125]⟩, 4, 65), (⟨#[105, 102, 32, 49, 32, 38, 38, 32, 116, 114, 117, 101, 32, 123, 32, 125]⟩, 3, 65), (⟨#[105, 102, 32, 116, 114, 117, 101, 32, 124, 124, 32, 50, 32, 123, 32, 125]⟩, 11, 65), (⟨#[105, 102, 32, 116, 114, 117, 101, 32, 60, 32, 49, 32, 123, 32, 125]⟩, 3, 65), (⟨#[105, 102, 32, 103, 32, 123, 32, 125]⟩, 3, 65), (⟨#[119, 104, 105, 108, 101, 32, 49, 32, 43, 32, 50, 32, 123, 32, 125]⟩, 8, 65), (⟨#[103, 32, 61, 32, 116, 114, 117, 101, 59]⟩, 4, 65), (⟨#[109, 32, 61, 32, 49, 59]⟩, 0, 65), (⟨#[113, 32, 61, 32, 49, 59]⟩, 0, 64), (⟨#[108, 32, 61, 32, 49, 59]⟩, 0, 65), (⟨#[103, 91, 49, 93, 32, 61, 32, 50, 59]⟩, 0, 65), (⟨#[113, 91, 49, 93, 32, 61, 32, 50, 59]⟩, 0, 64), (⟨#[109, 91, 116, 114, 117, 101, 93, 32, 61, 32, 113, 59]⟩, 2, 65), (⟨#[109, 91, 49, 93, 32, 61, 32, 116, 114, 117, 101, 59]⟩, 7, 65), (⟨#[118, 97, 114, 32, 120, 32, 61, 32, 116, 114, 117, 101, 59, 32, 120, 32, 61, 32, 49, 59]⟩, 18, 65), (⟨#[118, 97, 114, 32, 120, 32, 61, 32, 120, 59]⟩, 8, 64), (⟨#[118, 97, 114, 32, 102, 32, 61, 32, 49, 59]⟩, 0, 64), (⟨#[118, 97, 114, 32, 120, 32, 61, 32, 49, 59, 32, 118, 97, 114, 32, 120, 32, 61, 32, 50, 59]⟩, 11, 64), (⟨#[105, 102, 32, 116, 114, 117, 101, 32, 123, 32, 118, 97, 114, 32, 120, 32, 61, 32, 49, 59, 32, 125, 32, 101, 108, 115, 101, 32, 123, 32, 118, 97, 114, 32, 120, 32, 61, 32, 50, 59, 32, 125]⟩, 30, 64), (⟨#[120, 32, 61, 32, 49, 59, 32, 118, 97, 114, 32, 120, 32, 61, 32, 50, 59]⟩, 0, 64), (⟨#[119, 105, 116, 104, 32, 113, 32, 123, 32, 125]⟩, 0, 64), (⟨#[119, 105, 116, 104, 32, 103, 32, 123, 32, 125]⟩, 0, 65), (⟨#[118, 97, 114, 32, 120, 32, 61, 32, 49, 59, 32, 119, 105, 116, 104, 32, 120, 32, 123, 32, 125]⟩, 11, 65), (⟨#[119, 105, 116, 104, 32, 108, 32, 123, 32, 112, 114, 105, 110, 116, 32, 113, 59, 32, 125]⟩, 15, 64), (⟨#[99, 97, 108, 108, 32, 113, 40, 41, 59]⟩, 0, 64), (⟨#[99, 97, 108, 108, 32, 116, 40, 41, 59]⟩, 0, 65), (⟨#[99, 97, 108, 108, 32, 103, 40, 41, 59]⟩, 0, 65), (⟨#[99, 97, 108, 108, 32, 102, 40, 49, 41, 59]⟩, 0, 65), (⟨#[99, 97, 108, 108, 32, 102, 40, 49, 44, 32, 50, 44, 32, 51, 41, 59]⟩, 0, 65), (⟨#[99, 97, 108, 108, 32, 102, 40, 116, 114, 117, 101, 44, 32, 113, 41, 59]⟩, 7, 65), (⟨#[113, 32, 61, 32, 99, 97, 108, 108, 32, 102, 40, 49, 44, 32, 50, 41, 59]⟩, 0, 64), (⟨#[103, 32, 61, 32, 99, 97, 108, 108, 32, 102, 40, 49, 44, 32, 50, 41, 59]⟩, 0, 65), (⟨#[118, 97, 114, 32, 120, 32, 61, 32, 116, 114, 117, 101, 59, 32, 120, 32, 61, 32, 99, 97, 108, 108, 32, 102, 40, 49, 44, 32, 50, 41, 59]⟩, 14, 65), (⟨#[118, 97, 114, 32, 103, 32, 61, 32, 99, 97, 108, 108, 32, 102, 40, 49, 44, 32, 50, 41, 59]⟩, 0, 64), (⟨#[118, 97, 114, 32, 120, 32, 61, 32, 99, 97, 108, 108, 32, 102, 40, 120, 44, 32, 49, 41, 59]⟩, 15, 64), (⟨#[114, 101, 116, 117, 114, 110, 32, 49, 59]⟩, 0, 65), (⟨#[105, 102, 32, 116, 114, 117, 101, 32, 123, 32, 118, 97, 114, 32, 120, 32, 61, 32, 49, 59, 32, 120, 32, 61, 32, 50, 59, 32, 112, 114, 105, 110, 116, 32, 120, 59, 32, 125, 32, 112, 114, 105, 110, 116, 32, 120, 59]⟩, 45, 64), (⟨#[119, 104, 105, 108, 101, 32, 116, 114, 117, 101, 32, 123, 32, 118, 97, 114, 32, 120, 32, 61, 32, 49, 59, 32, 125, 32, 120, 32, 61, 32, 49, 59]⟩, 26, 64), (⟨#[112, 114, 105, 110, 116, 32, 49, 32, 60, 32, 50, 59]⟩, 8, 65), (⟨#[112, 114, 105, 110, 116, 32, 113, 32, 43, 32, 114, 59]⟩, 6, 64)]
def headB : List UInt8 := [103, 108, 111, 98, 97, 108, 32, 103, 32, 61, 32, 49, 59, 32, 97, 114, 114, 97, 121, 32, 109, 91, 52, 93, 59, 32, 108, 111, 99, 107, 32, 108, 59, 32, 102, 117, 110, 99, 32, 102, 40, 97, 44, 32, 98, 41, 32, 123, 32, 114, 101, 116, 117, 114, 110, 32, 97, 32, 43, 32, 98, 59, 32, 125, 32]
def thrB : List UInt8 := [116, 104, 114, 101, 97, 100, 32, 116, 32, 123, 32]
def endB : List UInt8 := [32, 125]
def tyTxt (s : ByteArray) : ByteArray := ⟨⟨headB ++ (thrB ++ (s.data.toList ++ endB))⟩⟩
def tyOk (x : ByteArray × Int × Int) : Bool := saysB (tyTxt x.1) (if x.2.2 = 0 then x.2.1 else x.2.1 + 65 + 11) x.2.2
set_option maxRecDepth 100000 in
theorem ty_all : tyTab.all tyOk = true := by kernel_rfl
theorem ty_sz : tyTab.all (fun x => decide (x.1.size ≤ 1000) && decide (0 ≤ x.2.1) && decide (x.2.1 ≤ 1000)) = true := by kernel_rfl
theorem ty_len : tyTab.length = 64 := by kernel_rfl
def tyCells : List Value := tyTab.flatMap fun x => [.string x.1, .int .i64 x.2.1, .int .i64 x.2.2]
theorem ty_cell (i : Nat) (x : ByteArray × Int × Int) (h : tyTab[i]? = some x) : tyCells[i * 3 + 0]? = some (.string x.1) ∧ tyCells[i * 3 + 1]? = some (.int .i64 x.2.1) ∧ tyCells[i * 3 + 2]? = some (.int .i64 x.2.2) :=
  ⟨flat_at (fun x : ByteArray × Int × Int => [Value.string x.1, .int .i64 x.2.1, .int .i64 x.2.2]) 3 (fun _ => rfl) tyTab i 0 x h (by decide), flat_at (fun x : ByteArray × Int × Int => [Value.string x.1, .int .i64 x.2.1, .int .i64 x.2.2]) 3 (fun _ => rfl) tyTab i 1 x h (by decide), flat_at (fun x : ByteArray × Int × Int => [Value.string x.1, .int .i64 x.2.1, .int .i64 x.2.2]) 3 (fun _ => rfl) tyTab i 2 x h (by decide)⟩
def tyQs : Array (Nat × Value) := ⟨tyTab.zipIdx.map fun x => (x.2, .agg #[.string x.1.1, .int .i64 x.1.2.1, .int .i64 x.1.2.2])⟩
theorem ty_build (w : World) : (Instr.buildSlice 42 64 tyQs).run Tryz.prog w = .ok (.slice (some ⟨w.heap.size, 0, none⟩) 64 64) (w.alloc (.cells ⟨tyCells⟩ 41)) := by kernel_rfl
end Go.Proofs.YtjpmgnpjdikdnaaGreatDoor.Ty

namespace Go.Proofs.YtjpmgnpjdikdnaaGreatDoor.Ty
open Go Go.RowKit
open Go.Proofs.YtjpmgnpjdikdnaaGreatDoor.Lx Go.Proofs.YtjpmgnpjdikdnaaGreatDoor.Tr Go.Proofs.YtjpmgnpjdikdnaaGreatDoor.Pa

theorem wp_bs {P : Program} {o : Oper} {a : Act} {w w' : World} {K : Act → World → Prop} {Q : Exit → Act → World → Prop} (t n : Nat) (ps : Array (Nat × Operand)) (qs : Array (Nat × Value)) (v : Value) (ho : o.op = .buildSlice t n ps) (hp : ps.map (fun p => (p.1, a.eval p.2)) = qs) (hr : (Instr.buildSlice t n qs).run P w = .ok v w') (h : K (a.put o.dst v) w') : Oper.wp P o a w K Q := by
  subst hp
  unfold Oper.wp execOp
  simp only [ho]
  simp [hr]
  exact h
set_option maxHeartbeats 8000000 in
set_option maxRecDepth 100000 in
theorem typesNames_c (w : World) (hw : All w) : Calls Tryz.prog 5 #[] w fun x w' => x = .returned (.bool true) ∧ Below w.heap.size w w' := by
  have hall := Lib.hid (fun (V : World) (hb : Below w.heap.size w V) => hw.below hb)
  have hwk := Lib.hid (works5_c w hw)
  clear hw
  go_enter Tryz.func5, Tryz.ntmps5
  go_wp2_with fail
  refine hwk.out.mono ?_
  rintro e1 w1 ⟨rfl, hk1⟩
  have hb1 := Lib.hid hk1
  clear hk1 hwk
  obtain ⟨P1, hP1'⟩ : ∃ P : ByteArray, ⟨⟨headB ++ thrB⟩⟩ = P := ⟨_, rfl⟩
  have hA1 : ∀ V : World, (Op.stringOp .add ⟨#[103, 108, 111, 98, 97, 108, 32, 103, 32, 61, 32, 49, 59, 32, 97, 114, 114, 97, 121, 32, 109, 91, 52, 93, 59, 32, 108, 111, 99, 107, 32, 108, 59, 32, 102, 117, 110, 99, 32, 102, 40, 97, 44, 32, 98, 41, 32, 123, 32, 114, 101, 116, 117, 114, 110, 32, 97, 32, 43, 32, 98, 59, 32, 125, 32]⟩ ⟨#[116, 104, 114, 101, 97, 100, 32, 116, 32, 123, 32]⟩).run Tryz.prog V = .ok (.string P1) V := fun V => by
    have h1 : (⟨#[103, 108, 111, 98, 97, 108, 32, 103, 32, 61, 32, 49, 59, 32, 97, 114, 114, 97, 121, 32, 109, 91, 52, 93, 59, 32, 108, 111, 99, 107, 32, 108, 59, 32, 102, 117, 110, 99, 32, 102, 40, 97, 44, 32, 98, 41, 32, 123, 32, 114, 101, 116, 117, 114, 110, 32, 97, 32, 43, 32, 98, 59, 32, 125, 32]⟩ ++ ⟨#[116, 104, 114, 101, 97, 100, 32, 116, 32, 123, 32]⟩ : ByteArray) = P1 := by rw [← hP1']; rfl
    rw [← h1]
    exact run_string_add V _ _ (by show ((65 : Nat) : Int) ≤ 8388608; decide) (by show ((11 : Nat) : Int) ≤ 8388608; decide)
  have hP1 := Lib.hid hP1'
  clear hP1'
  obtain ⟨W2, hW2⟩ : ∃ V, w1.alloc (.cells ⟨tyCells⟩ 41) = V := ⟨_, rfl⟩
  have hb2 : Hid (Below w.heap.size w W2) := Lib.hid (by rw [← hW2]; exact hb1.out.alloc hb1.out.size _)
  have hr2 : Hid (W2.heap[w1.heap.size]? = some (.cells ⟨tyCells⟩ 41 (0, 0))) := Lib.hid (by rw [← hW2]; exact World.alloc_heap_new w1 _)
  have hs2 : w1.heap.size < W2.heap.size := by rw [← hW2]; simp
  go_wp2_with fail
  refine wp_bs _ _ _ tyQs _ rfl (by kernel_rfl) (ty_build w1) ?_
  go_wp2_with fail
  try simp only [hW2]
  clear hW2
  go_loopw [86] (fun iv wr => ∃ i : Nat, iv = .int .i64 i ∧ i ≤ 64 ∧ Hid (Below W2.heap.size W2 wr)) (fun iv _ => 64 - (intOf iv).toNat)
  case atStart => exact ⟨0, rfl, by omega, Lib.hid (Below.refl _ _)⟩
  case round =>
    obtain ⟨i, rfl, hi, hbr⟩ := hrel
    have hrr := (hbr.out.block _ hs2).trans hr2.out
    have hbw := hb2.out.trans (hbr.out.mono hb2.out.size)
    by_cases hlt : i < 64
    · obtain ⟨x, hx⟩ : ∃ x, tyTab[i]? = some x := ⟨_, List.getElem?_eq_getElem (by rw [ty_len]; exact hlt)⟩
      obtain ⟨c0, c1, c2⟩ := ty_cell i x hx
      have d0 : wr.cell? ⟨w1.heap.size, i * 3, none⟩ = some (.string x.1) := blk_cell hrr (by simpa using c0)
      have d1 : wr.cell? ⟨w1.heap.size, i * 3 + 1, none⟩ = some (.int .i64 x.2.1) := blk_cell hrr (by simpa using c1)
      have d2 : wr.cell? ⟨w1.heap.size, i * 3 + 2, none⟩ = some (.int .i64 x.2.2) := blk_cell hrr (by simpa using c2)
      have hok := List.all_eq_true.1 ty_all x (List.mem_of_getElem? hx)
      have hsz := List.all_eq_true.1 ty_sz x (List.mem_of_getElem? hx)
      obtain ⟨s, at_, e⟩ := x
      simp only [Bool.and_eq_true, decide_eq_true_eq] at hsz d0 d1 d2
      unfold tyOk at hok
      simp only at hok
      obtain ⟨P2, hP2⟩ : ∃ P : ByteArray, ⟨⟨headB ++ (thrB ++ s.data.toList)⟩⟩ = P := ⟨_, rfl⟩
      obtain ⟨P3, hP3⟩ : ∃ P : ByteArray, tyTxt s = P := ⟨_, rfl⟩
      have hA2 : ∀ V : World, (Op.stringOp .add P1 s).run Tryz.prog V = .ok (.string P2) V := fun V => by
        have h1 : P1 ++ s = P2 := by rw [← hP1.out, ← hP2]; apply ByteArray.ext; simp
        rw [← h1]
        exact run_string_add V _ _ (by rw [← hP1.out]; show (((headB ++ thrB).length : Nat) : Int) ≤ 8388608; decide) (by omega)
      have hA3 : ∀ V : World, (Op.stringOp .add P2 ⟨#[32, 125]⟩).run Tryz.prog V = .ok (.string P3) V := fun V => by
        have h1 : P2 ++ ⟨#[32, 125]⟩ = P3 := by rw [← hP2, ← hP3]; unfold tyTxt endB; apply ByteArray.ext; simp
        rw [← h1]
        exact run_string_add V _ _ (by
          rw [← hP2]
          show (((headB ++ (thrB ++ s.data.toList)).length : Nat) : Int) ≤ 8388608
          rw [List.length_append, List.length_append]
          have h2 : s.data.toList.length = s.size := (Lib.size_eq s).symm
          have h3 : headB.length = 65 := rfl
          have h4 : thrB.length = 11 := rfl
          omega) (by show ((2 : Nat) : Int) ≤ 8388608; decide)
      have hP3s : P3.size ≤ maxLen := by
        rw [← hP3]
        show (headB ++ (thrB ++ (s.data.toList ++ endB))).length ≤ maxLen
        rw [List.length_append, List.length_append, List.length_append]
        have h2 : s.data.toList.length = s.size := (Lib.size_eq s).symm
        have h3 : headB.length = 65 := rfl
        have h4 : thrB.length = 11 := rfl
        have h5 : endB.length = 2 := rfl
        unfold maxLen
        omega
      rw [hP3] at hok
      have hi0 : (0 : Int) ≤ (i : Int) := by omega
      have hi1 : (i : Int) < 64 := by omega
      have ha0 : 0 ≤ at_ := hsz.1.2
      have ha1 : at_ ≤ 1000 := hsz.2
      have hsay := Lib.hid (fun (V : World) (hV : Below w.heap.size w V) => says_yes P3 (if e = 0 then at_ else at_ + 65 + 11) e V hP3s (hall.out V hV) hok)
      have hbo := Lib.hid (hbw.alloc hbw.size (.cells #[.string s, .int .i64 at_, .int .i64 e] 41))
      have hlo := Lib.hid hbw.size
      clear hP2 hP3 hok hsz c0 c1 c2 hx hrr hP3s
      replace hbw := Lib.hid hbw
      by_cases he : e = 0
      · rw [if_pos he] at hsay
        subst he
        go_wp2_with fail
        refine (hsay.out _ hbo.out).mono ?_
        rintro e2 w3 ⟨rfl, hb3⟩
        have hb4 := Lib.hid ((hbr.out.alloc hbr.out.size (.cells #[.string s, .int .i64 at_, .int .i64 0] 41)).trans (hb3.mono (by have := hbr.out.size; simp; omega)))
        clear hb3 hbo hsay
        go_wp2_with fail
        go_roundw
        case rel => exact ⟨i + 1, by go_num, by omega, hb4⟩
        case measure => simp [intOf]; omega
      · rw [if_neg he] at hsay
        have he0 : (e == 0) = false := by rw [beq_eq_false_iff_ne]; exact he
        clear he
        go_wp2_with fail
        refine (hsay.out _ hbo.out).mono ?_
        rintro e2 w3 ⟨rfl, hb3⟩
        have hb4 := Lib.hid ((hbr.out.alloc hbr.out.size (.cells #[.string s, .int .i64 at_, .int .i64 e] 41)).trans (hb3.mono (by have := hbr.out.size; simp; omega)))
        clear hb3 hbo hsay
        go_wp2_with fail
        go_roundw
        case rel => exact ⟨i + 1, by go_num, by omega, hb4⟩
        case measure => simp [intOf]; omega
    · have hge : ¬ (i : Int) < 64 := by omega
      have hd := Lib.hid (decls5_c wr (hall.out wr hbw))
      have hl := Lib.hid (fun V (hV : Below wr.heap.size wr V) => loops5_c V (hall.out V (hbw.trans (hV.mono hbw.size))))
      have hlo := Lib.hid hbw.size
      replace hbw := Lib.hid hbw
      clear hrr hbr hA1 hlt
      go_wp2_with fail
      refine hd.out.mono ?_
      rintro e2 w3 ⟨rfl, hb3⟩
      have hl3 := Lib.hid (hl.out w3 hb3)
      have hb4 := Lib.hid (hbw.out.trans (hb3.mono hlo.out))
      have hlo4 := Lib.hid hb4.out.size
      clear hb3 hbw hd hl
      go_wp2_with fail
      refine hl3.out.mono ?_
      rintro e3 w4 ⟨rfl, hb5⟩
      have hb6 := Lib.hid (hb4.out.trans (hb5.mono hlo4.out))
      clear hb5 hb4 hl3
      go_wp2_with fail
      go_ret
      exact ⟨rfl, hb6.out⟩
end Go.Proofs.YtjpmgnpjdikdnaaGreatDoor.Ty

namespace Go.Proofs.YtjpmgnpjdikdnaaGreatDoor.TypesNames
open Go Go.RowKit Go.ChangeShapes Go.WideShapes Go.ChangeAt Go.ChangeMaps
open Go.Proofs.YtjpmgnpjdikdnaaGreatDoor.Lx Go.Proofs.YtjpmgnpjdikdnaaGreatDoor.Tr Go.Proofs.YtjpmgnpjdikdnaaGreatDoor.Pa

theorem laidOut : laidOutB Tryz.prog = true := by kernel_rfl

section
variable {H : Type} {enc : TypeId × Value → H} {P : Program}

/-- Arguments without places, results without places, nothing old turned: the specification's post holds. -/
theorem post_new {f : Func} {s : ChangeSpec} {apart fresh handsOn again : Bool} {W W' : World} {args : Array Value} {v : Value} {ds : List (DataW H)}
    (hW : DataW.Whole enc P f.params.toList s.vars apart W args.toList ds [] [])
    (hres : ∀ (b : Nat) (sp : Nat → Bool) (hd : Bool), DataW.TrodAll enc P W' b sp hd f.resultTypes.toList (v.resultList f.resultTypes.size) (s.fn H (ds ++ [])).results [])
    (hargs : ∀ sp : Nat → Bool, DataW.TrodAll enc P W' 0 sp true f.params.toList args.toList (s.fn H (ds ++ [])).args [])
    (hvars : ∀ sp : Nat → Bool, DataW.TrodVars enc P W' sp s.vars (s.fn H (ds ++ [])).vars [])
    (hb : Below W.heap.size W W')
    (hok : ∀ (j : Nat) (t : TypeId) (r : Value), f.resultTypes[j]? = some t → (v.resultList f.resultTypes.size)[j]? = some r → Value.okWide P W' .any 0 t r) :
    s.post enc P f apart fresh handsOn again W args v W' := by
  refine ⟨ds, [], [], [], [], [], hW, hres _ _ _, hargs _, hvars _, ?_, fun _ => ⟨hok, _, _, [], ⟨[], [], trodAll_append (hargs _) (hres _ _ _), hvars _, rfl, ?_, ?_⟩, ?_⟩⟩
  · exact World.keptBut_mono (fun p hp => absurd hp (by simp)) (hb.frame (· ∈ ([] : List MemPlace)))
  · intro b off hp; exact absurd hp (by simp)
  · intro _; simp
  · intro p hp _; exact absurd hp (by simp)
end

set_option maxHeartbeats 1000000 in
set_option maxRecDepth 100000 in
theorem contract (H : Type) (enc : TypeId × Value → H) (W : World) (base : Nat) (args : Array Value) (ds gs : List (DataW H)) (before : List MemPlace)
    (hval : ∀ (j : Nat) t v, Tryz.f5.params[j]? = some t → args[j]? = some v → Value.okWide Tryz.prog W .any base t v)
    (hW : DataW.Whole enc Tryz.prog Tryz.f5.params.toList Rows.typesNamesSpec.vars false W args.toList ds gs before) (hL : laidMetH Tryz.prog Rows.typesNamesRow.laid W) :
    Calls Tryz.prog 5 args W fun e W' => ∃ v, e = .returned v ∧ Rows.typesNamesSpec.post enc Tryz.prog Tryz.f5 false true false false W args v W' := by
  have hW' := hW
  have hAll : All W := all_of_laid hL
  obtain ⟨p, q, hA0, hV, rfl, hfz, hnd⟩ := hW
  have hA : DataW.TrodAll enc Tryz.prog W 0 (fun _ => true) true Tryz.f5.params.toList args.toList ds p := hA0
  rw [Tryz.params5] at hA hval
  obtain ⟨hargs, rfl, rfl⟩ := trodAll_nil hA
  obtain rfl : args = #[] := by cases args; simp_all
  obtain ⟨rfl, rfl⟩ := trodVars_none hV
  clear hA0
  simp only [List.append_nil] at hW'
  refine (Ty.typesNames_c W hAll).mono fun x W' ⟨hx, hg⟩ => ?_
  subst hx
  exact ⟨_, rfl, post_new hW' (fun _ _ _ => trodAll_cons_mk (shut_bool Tryz.underlying4 _) trodAll_mk0)
    (fun _ => trodAll_mk0) (fun _ => rfl) hg
    (ok_one (by kernel_rfl) rfl (okWide_bool_mk Tryz.underlying4 _))⟩

def args0 : Array Value := #[]
theorem reads (os : Os) {H : Type} (enc : TypeId × Value → H) : ∃ places, DataW.whole enc Tryz.prog ((laidWorld os).forCall (fun _ _ => 0) ⟨#[], args0, []⟩).memory Tryz.f5.params.toList Rows.typesNamesSpec.vars false args0.toList 8 = some ([], [], places) :=
  ⟨[], by kernel_rfl⟩

set_option maxRecDepth 100000 in
theorem lifted (os : Os) (started : os.Started) (H : Type) (enc : TypeId × Value → H) (F : Stop.Interp) :
    ReturnsInHanded {} Tryz.checked os 5 .any ((OpenSpec.ofChange Rows.typesNamesSpec).preRow enc Tryz.prog Tryz.f5 Rows.typesNamesRow.domain false Rows.typesNamesRow.laid) (((OpenSpec.ofChange Rows.typesNamesSpec).at F).post enc Tryz.prog Tryz.f5 false true false false) := by
  obtain ⟨places, hx⟩ := reads os enc
  refine returnsInHanded_of_row (C := Tryz.checked) (s := OpenSpec.ofChange Rows.typesNamesSpec) own started (by kernel_rfl) Tryz.func5
    (witness_row_at (enc := enc) (C := Tryz.checked) false (laidWorld os) args0 rfl (by kernel_rfl) (by kernel_rfl) (by kernel_rfl)
      (OpenSpec.preRow_of_cond 8 hx (by kernel_rfl) (fun k hk => by cases hk) (by kernel_rfl) (laid_met os _))) ?_
  intro W base args ds gs before hval hW _ _ _ hL _ _
  exact contract H enc W base args ds gs before hval hW hL

theorem said : Rows.TypesNamesSaid :=
  OpenClaim.holds_of_cond 5 Tryz.f5 rfl rfl rfl rfl rfl rfl rfl ⟨rfl, rfl, rfl, rfl, rfl⟩ rfl rfl rfl rfl rfl (by kernel_rfl) Tryz.func5 (by kernel_rfl)
    (of_decide_eq_true (by kernel_rfl)) (by unfold Func.isWrapper; first | (rw [if_pos (by decide +kernel)]; kernel_rfl) | (rw [if_neg (by decide +kernel)]; exact ⟨rfl, rfl⟩))
    (fun os started H enc _ F => by rw [OpenClaim.pre_eq_preRow]; exact lifted os started H enc F)

theorem plain (f : FuncId) (fn : Func) (hf : Tryz.pinned.checked.prog.funcNamed "bobbin/bobbinlaw05.TypesNames" = some f) (hfn : Tryz.pinned.checked.prog.funcs[f]? = some fn) :
    true = Tryz.pinned.checked.prog.looks [] ∧ ∀ (j : Nat) t, fn.params[j]? = some t → Tryz.pinned.checked.prog.wantsStandIn t = false := by
  obtain rfl : f = 5 := Option.some.inj ((show Tryz.prog.funcNamed "bobbin/bobbinlaw05.TypesNames" = some 5 by kernel_rfl).symm.trans hf) |>.symm
  obtain rfl : fn = Tryz.f5 := (Option.some.inj (Tryz.func5.symm.trans hfn)).symm
  refine ⟨by kernel_rfl, fun j t ht => ?_⟩
  rw [Tryz.params5] at ht
  simp at ht
theorem card : Rows.TypesNamesCardSaid :=
  Claim7.holds_tied_plain_at .later [] _ _ _ _ said (fun _ h => by cases h) (by kernel_rfl) (fun _ h => by cases h) typesNames_row_tie rfl ⟨rfl, rfl⟩ (by kernel_rfl) rfl plain (by kernel_rfl)
end Go.Proofs.YtjpmgnpjdikdnaaGreatDoor.TypesNames
