/- Walks of tree.May. Conditions: the package's tables hold their lists. -/
import Derived.Test.YtpcdlneompnhlaaGreatDoorGrAE
namespace Go.Proofs.YtpcdlneompnhlaaGreatDoor.Tr
open Go Go.RowKit Go.Shelf
open Go.Proofs.YtpcdlneompnhlaaGreatDoor.Lx Go.Proofs.YtpcdlneompnhlaaGreatDoor.Rg

/-- the tables lie in the world -/
structure TabsD (w : World) : Prop extends Tabs w where
  de : DeTab w
theorem TabsD.below {w w' : World} (h : TabsD w) (hb : Below w.heap.size w w') : TabsD w' := ⟨h.toTabs.below hb, h.de.below hb⟩

def holdPt (p : Pt) : Bool := decide (p.d ≤ 60) && fitPt p
theorem holdPt_no (p : Pt) (h : 60 < p.d) : holdPt p = false := by unfold holdPt; rw [decide_eq_false (by omega)]; rfl
theorem holdPt_yes (p : Pt) (h : p.d ≤ 60) : holdPt p = fitPt p := by unfold holdPt; rw [decide_eq_true h]; rfl

set_option maxHeartbeats 800000 in
theorem hold_any (x : Pt) (w : World) (hx : x.In w (fun _ => True)) (ht : Tabs w) :
    Calls Tryz.prog 63 #[x.val] w fun e' w' => e' = .returned (.bool (holdPt x)) ∧ Below w.heap.size w w' := by
  obtain ⟨p1, p2, hv⟩ := x.val_eq
  have hc := fun W hb => fitPt_any x _ W (hx.keep (Kps.of_below hb)) (ht.below hb)
  have hno := Lib.hid (holdPt_no x)
  have hyes := Lib.hid (holdPt_yes x)
  rw [hv] at hc ⊢
  replace hc := Lib.hid hc
  clear hx ht hv
  generalize x.d = d at *
  by_cases hd : 60 < d
  · go_enter Tryz.func63, Tryz.ntmps63
    go_wp2_with fail
    go_ret
    exact ⟨ret_bool (hno.out hd).symm, (Below.refl _ _).alloc (Nat.le_refl _) _⟩
  · go_enter Tryz.func63, Tryz.ntmps63
    go_wp2_with fail
    refine (hc.out _ ((Below.refl _ _).alloc (Nat.le_refl _) _)).mono ?_
    rintro e' w' ⟨rfl, hb⟩
    go_wp2_with fail
    go_ret
    exact ⟨ret_bool (hyes.out (by omega)).symm, ((Below.refl _ _).alloc (Nat.le_refl _) _).trans (hb.mono (by simp))⟩

theorem decls_any (ds : List De) (a : Option Addr) (cap : Nat) (V : World) (hrow : RowAt V (fun _ => True) a cap ds.length (deCells ds)) (hin : De.InL V (fun _ => True) ds) (ht : TabsD V) :
    Calls Tryz.prog 65 #[.func (.func 109) #[] #[.pointer (some ⟨V.heap.size, 0, none⟩)], .func (.func 67) #[] #[]] (V.alloc (.cells #[.slice a ds.length cap] 22)) fun e w' =>
      e = .returned (.bool (ds.all fitD)) ∧ Below V.heap.size V w' := by
  obtain ⟨W0, hW0⟩ : ∃ W0, V.alloc (.cells #[.slice a ds.length cap] 22) = W0 := ⟨_, rfl⟩
  have hb0 : Below V.heap.size V W0 := by rw [← hW0]; exact (Below.refl _ _).alloc (Nat.le_refl _) _
  have hs0 : W0.heap.size = V.heap.size + 1 := by rw [← hW0]; simp
  have hc0 : Cel V V.heap.size (.slice a ds.length cap) W0 := by rw [← hW0]; exact Cel.new V V _ _
  rw [hW0]
  refine (callsIn_wide.1 (all_de 1 109 67 #[.pointer (some ⟨V.heap.size, 0, none⟩)] (enters_of Tryz.func109 (by kernel_rfl) rfl) (enters_of Tryz.func67 (by kernel_rfl) rfl) W0 ds fitD
    (fun l J Jx W hb hsW hY hJa hJ0 => values1_de_in l (1 - 1) V.heap.size ds.length ds a cap J Jx W (hc0.below hb).cell (hrow.below (Kps.of_below (hb0.trans (hb.mono (by omega))))) (De.InL.below (Kps.of_below (hb0.trans (hb.mono (by omega)))) hin) (Nat.le_refl _) hY hJa hJ0)
    (fun x W hb hx => have ht' := ht.below (hb0.trans (hb.mono (by omega))); fitD_any x W hx ht'.sg ht'.de))).mono ?_
  rintro e w' ⟨rfl, hb⟩
  exact ⟨rfl, hb0.trans (hb.mono (by omega))⟩

theorem holds_any (ds : List De) (a : Option Addr) (cap : Nat) (V : World) (hrow : RowAt V (fun _ => True) a cap ds.length (deCells ds)) (hin : De.InL V (fun _ => True) ds) (hsz : De.szL ds ≤ 4194304) (ht : Tabs V) :
    Calls Tryz.prog 68 #[.func (.func 113) #[] #[.pointer (some ⟨V.heap.size, 0, none⟩)], .func (.func 63) #[] #[]] (V.alloc (.cells #[.slice a ds.length cap] 22)) fun e w' =>
      e = .returned (.bool ((ptsD ds).all holdPt)) ∧ Below V.heap.size V w' := by
  obtain ⟨W0, hW0⟩ : ∃ W0, V.alloc (.cells #[.slice a ds.length cap] 22) = W0 := ⟨_, rfl⟩
  have hb0 : Below V.heap.size V W0 := by rw [← hW0]; exact (Below.refl _ _).alloc (Nat.le_refl _) _
  have hs0 : W0.heap.size = V.heap.size + 1 := by rw [← hW0]; simp
  have hc0 : Cel V V.heap.size (.slice a ds.length cap) W0 := by rw [← hW0]; exact Cel.new V V _ _
  rw [hW0]
  refine (callsIn_wide.1 (all_part 1 113 63 #[.pointer (some ⟨V.heap.size, 0, none⟩)] (enters_of Tryz.func113 (by kernel_rfl) rfl) (enters_of Tryz.func63 (by kernel_rfl) rfl) W0 (ptsD ds) holdPt
    (fun l J Jx W hb hsW hY hJa hJ0 => parts1_in l (1 - 1) V.heap.size (ptsD ds).length (fun _ => True) ds a cap J Jx W (hc0.below hb).cell trivial (hrow.below (Kps.of_below (hb0.trans (hb.mono (by omega))))) (De.InL.below (Kps.of_below (hb0.trans (hb.mono (by omega)))) hin) hsz (Nat.le_refl _) hY hJ0)
    (fun x W hb hx => hold_any x W hx (ht.below (hb0.trans (hb.mono (by omega))))))).mono ?_
  rintro e w' ⟨rfl, hb⟩
  exact ⟨rfl, hb0.trans (hb.mono (by omega))⟩

/-- may a program be? -/
def mayP (ds : List De) : Bool := decide (ds.length ≤ 256) && ds.all fitD && (ptsD ds).all holdPt
set_option maxHeartbeats 1600000 in
set_option maxRecDepth 100000 in
theorem mayP_any (ds : List De) (a : Option Addr) (cap : Nat) (w : World) (hrow : RowAt w (fun _ => True) a cap ds.length (deCells ds)) (hin : De.InL w (fun _ => True) ds) (hsz : De.szL ds ≤ 4194304) (ht : TabsD w) :
    Calls Tryz.prog 30 #[.slice a ds.length cap] w fun e' w' => e' = .returned (.bool (mayP ds)) ∧ Below w.heap.size w w' := by
  have hll : ds.length ≤ 9223372036854775807 := by have := hrow.le; have := hrow.lim; unfold maxLen at this; omega
  have hD := fun V (h : Below w.heap.size w V) => decls_any ds a cap V (hrow.below (Kps.of_below h)) (De.InL.below (Kps.of_below h) hin) (ht.below h)
  have hP := fun V (h : Below w.heap.size w V) => holds_any ds a cap V (hrow.below (Kps.of_below h)) (De.InL.below (Kps.of_below h) hin) hsz (ht.below h).toTabs
  have hM : mayP ds = (decide (ds.length ≤ 256) && ds.all fitD && (ptsD ds).all holdPt) := rfl
  generalize ds.all fitD = f1 at *
  generalize (ptsD ds).all holdPt = f2 at *
  replace hD := Lib.hid hD
  replace hP := Lib.hid hP
  replace hM := Lib.hid hM
  clear hrow hin ht hsz
  by_cases h256 : ds.length ≤ 256
  · cases f1
    · have hF : Hid (mayP ds = false) := Lib.hid (by rw [hM.out, decide_eq_true h256]; rfl)
      go_enter Tryz.func30, Tryz.ntmps30
      go_wp2_with (first
        | (go_at_call 66; refine (values_de_any _ _ _ _).mono ?_; rintro e w2 ⟨rfl, rfl⟩)
        | (go_at_call 65; refine (hD.out _ (Below.refl _ _)).mono ?_; rintro e w3 ⟨rfl, hb3⟩))
      go_ret
      exact ⟨ret_bool hF.out.symm, hb3⟩
    · have hF : Hid (mayP ds = f2) := Lib.hid (by rw [hM.out, decide_eq_true h256]; rfl)
      go_enter Tryz.func30, Tryz.ntmps30
      go_wp2_with (first
        | (go_at_call 66; refine (values_de_any _ _ _ _).mono ?_; rintro e w2 ⟨rfl, rfl⟩)
        | (go_at_call 65; refine (hD.out _ (Below.refl _ _)).mono ?_; rintro e w3 ⟨rfl, hb3⟩; replace hb3 := Lib.hid hb3)
        | (go_at_call 69; refine (parts_any _ _ _ _).mono ?_; rintro e w4 ⟨rfl, rfl⟩)
        | (go_at_call 68; refine (hP.out _ hb3.out).mono ?_; rintro e w5 ⟨rfl, hb5⟩))
      go_ret
      exact ⟨ret_bool hF.out.symm, hb3.out.trans (hb5.mono hb3.out.size)⟩
  · have hF : Hid (mayP ds = false) := Lib.hid (by rw [hM.out, decide_eq_false h256]; rfl)
    go_enter Tryz.func30, Tryz.ntmps30
    go_wp2_with fail
    go_ret
    exact ⟨ret_bool hF.out.symm, Below.refl _ _⟩
end Go.Proofs.YtpcdlneompnhlaaGreatDoor.Tr
