/- Walk of the function within TreeNames: is a thread of one statement a program? Conditions: the package's tables hold their lists. -/
import Derived.Test.YtolmhcdcfnoicaaDoorTrR
import Derived.Test.YtolmhcdcfnoicaaDoorTrY
import Derived.Test.YtolmhcdcfnoicaaDoorVp
import Derived.Outline
namespace Go.Proofs.YtolmhcdcfnoicaaDoor.Tr
open Go Go.RowKit
open Go.Proofs.YtolmhcdcfnoicaaDoor.Lx
open Go.Proofs.YtolmhcdcfnoicaaDoor.Qg
open Go.Proofs.YtolmhcdcfnoicaaDoor.Qr

theorem mayE_er (e : Ex) : mayE e = mayE e.er := by
  unfold mayE
  exact fit_key _ _ (ptsE_key e 0 0 1)
def okS (x : St) : Bool := mayP [⟨5, ⟨#[116]⟩, 0, none, 0, [], none, 0, [x], 0⟩]
theorem okS_eq (s : St) (a : Option Addr) (c : Nat) : mayP [⟨5, ⟨#[116]⟩, 0, none, 0, [], a, c, [s], 0⟩] = okS s.er := by
  rw [← mayP_er]
  unfold okS De.erL De.er
  simp only [List.map_cons, List.map_nil, St.erL_cons, St.erL_nil]

theorem ok_core (s : St) (W : World) (hin : St.In W (fun _ => True) s) (hsz : s.sz ≤ 4194304) (ht : TabsD W) (b1 b2 : Nat) (e1 : W.heap.size = b1) (e2 : b1 + 1 = b2) :
    Calls Tryd.prog 11 #[.slice (some ⟨b2, 0, none⟩) 1 1] ((W.alloc (.cells ⟨stCells [s]⟩ 38)).alloc (.cells ⟨deCells [⟨5, ⟨#[116]⟩, 0, none, 0, [], some ⟨b1, 0, none⟩, 1, [s], 0⟩]⟩ 40)) fun x w' =>
      x = .returned (.bool (okS s.er)) ∧ Below W.heap.size W w' := by
  subst e1
  obtain ⟨W1, hW1⟩ : ∃ V, W.alloc (.cells ⟨stCells [s]⟩ 38) = V := ⟨_, rfl⟩
  have hs1 : W1.heap.size = b2 := by rw [← hW1, ← e2]; simp
  have hb1 : Ext W W1 := by rw [← hW1]; exact Ext.al _ _
  have r1 : RowAt W1 (fun _ => True) (some ⟨W.heap.size, 0, none⟩) 1 1 (stCells [s]) := by rw [← hW1]; exact row_new _ _ 1 (by omega) trivial
  have i1 : St.InL W1 (fun _ => True) [s] := isL_cons (St.In.below (Kps.of_below hb1) _ hin) isL_nil
  rw [hW1]
  have hd : De.In W1 (fun _ => True) ⟨5, ⟨#[116]⟩, 0, none, 0, [], some ⟨W.heap.size, 0, none⟩, 1, [s], 0⟩ :=
    ⟨by unfold U8; simp only; omega, by unfold maxLen; simp only; decide, by unfold I64; simp only; omega, by unfold I64; simp only; omega, ⟨Nat.le_refl _, Nat.zero_le _, fun _ => rfl, fun j u hu => by simp [strCells] at hu⟩, (fun p h => by cases h), r1, i1⟩
  obtain ⟨W2, hW2⟩ : ∃ V, W1.alloc (.cells ⟨deCells [⟨5, ⟨#[116]⟩, 0, none, 0, [], some ⟨W.heap.size, 0, none⟩, 1, [s], 0⟩]⟩ 40) = V := ⟨_, rfl⟩
  have hb2 : Ext W1 W2 := by rw [← hW2]; exact Ext.al _ _
  have r2 : RowAt W2 (fun _ => True) (some ⟨b2, 0, none⟩) 1 1 (deCells [⟨5, ⟨#[116]⟩, 0, none, 0, [], some ⟨W.heap.size, 0, none⟩, 1, [s], 0⟩]) := by rw [← hW2, ← hs1]; exact row_new _ _ 1 (by omega) trivial
  rw [hW2]
  have hb : Ext W W2 := hb1.trans (hb2.mono hb1.size)
  refine (mayP_any [⟨5, ⟨#[116]⟩, 0, none, 0, [], some ⟨W.heap.size, 0, none⟩, 1, [s], 0⟩] (some ⟨b2, 0, none⟩) 1 W2 r2 (idL_cons (De.In.below (Kps.of_below hb2) hd) idL_nil) ?_ (ht.below hb)).mono fun x w' h => ⟨by rw [h.1, okS_eq], hb.trans (h.2.mono hb.size)⟩
  have h1 : De.szL [⟨5, ⟨#[116]⟩, 0, none, 0, [], some ⟨W.heap.size, 0, none⟩, 1, [s], 0⟩] = s.sz := by
    unfold De.szL De.szL
    unfold St.szL St.szL
    simp
  rw [h1]
  exact hsz

set_option maxHeartbeats 4000000 in
set_option maxRecDepth 100000 in
theorem ok_any (s : St) (w : World) (hin : St.In w (fun _ => True) s) (hsz : s.sz ≤ 4194304) (ht : TabsD w) :
    Calls Tryd.prog 25 #[.agg ⟨s.vals⟩] w fun x w' => x = .returned (.bool (okS s.er)) ∧ Below w.heap.size w w' := by
  obtain ⟨k, nm, tt, nw, ea, ec, e, ba, bc, b, la, lc, l, pos⟩ := s
  show Calls Tryd.prog 25 #[.agg #[.int .u8 k, .string nm, .string tt, .bool nw, .slice ea e.length ec, .slice ba b.length bc, .slice la l.length lc, .int .i64 pos]] w _
  have hin' := Lib.hid hin
  have hsz' := Lib.hid hsz
  have ht' := Lib.hid ht
  clear hin hsz ht
  go_enter Tryd.func25, Tryd.ntmps25
  go_wp2_with fail
  have e1 : (w.alloc (.cells #[.int .u8 k, .string nm, .string tt, .bool nw, .slice ea e.length ec, .slice ba b.length bc, .slice la l.length lc, .int .i64 pos] 38)).heap.size = w.heap.size + 1 := by simp
  have hc := ok_core (.mk k nm tt nw ea ec e ba bc b la lc l pos) (w.alloc (.cells #[.int .u8 k, .string nm, .string tt, .bool nw, .slice ea e.length ec, .slice ba b.length bc, .slice la l.length lc, .int .i64 pos] 38)) (St.In.below (Kps.of_below (Ext.al _ _)) _ hin'.out) hsz'.out (ht'.out.below (Ext.al _ _)) _ _ e1 rfl
  refine hc.mono ?_
  rintro x w' ⟨rfl, hb⟩
  go_wp2_with fail
  go_ret
  exact ⟨rfl, (Ext.al w _).trans (hb.mono (by simp))⟩
end Go.Proofs.YtolmhcdcfnoicaaDoor.Tr
