/- Walks of the document's own answers: stmts, stmt whole; Depth, Size. Conditions: none. -/
import Derived.Test.YtolmhcdcfnoicaaDoorRfL
import Derived.Test.YtolmhcdcfnoicaaDoorRfM
import Derived.Test.YtolmhcdcfnoicaaDoorRfN
import Derived.Test.YtolmhcdcfnoicaaDoorRfJ
namespace Go.Proofs.YtolmhcdcfnoicaaDoor.Tr
open Go Go.RowKit
open Go.Proofs.YtolmhcdcfnoicaaDoor.Lx

set_option maxHeartbeats 4000000 in
set_option maxRecDepth 100000 in
theorem refstmts_step (l : List St) (a : Option Addr) (cap : Nat) (w : World) (hrow : RowAt w (fun _ => True) a cap l.length (stCells l))
    (hcall : ∀ (k : Nat) (e : St) (W : World), l[k]? = some e → Below w.heap.size w W → Calls Tryd.prog 69 #[.agg ⟨e.vals⟩] W fun x W' => x = .returned (.bool (mayS e)) ∧ Below W.heap.size W W') :
    Calls Tryd.prog 56 #[.slice a l.length cap] w fun x w' => x = .returned (.bool (l.all mayS)) ∧ Below w.heap.size w w' := by
  have hll : l.length ≤ 9223372036854775807 := by have := hrow.le; have := hrow.lim; unfold maxLen at this; omega
  replace hcall := Lib.hid hcall
  go_enter Tryd.func56, Tryd.ntmps56
  go_wp2_with fail
  go_loopw [3] (fun i wr => ∃ k : Nat, k ≤ l.length ∧ i = .int .i64 k ∧ Hid ((l.take k).all mayS = true) ∧ Below w.heap.size w wr) (fun i _ => l.length - (intOf i).toNat)
  case atStart => exact ⟨0, Nat.zero_le _, rfl, Lib.hid (by simp), Below.refl _ _⟩
  case round =>
    obtain ⟨k, hk, rfl, hok, hbr⟩ := hrel
    by_cases hlt : k < l.length
    · obtain ⟨e, he⟩ : ∃ e, l[k]? = some e := ⟨l[k], by simp [hlt]⟩
      obtain ⟨b, off, rfl, _, hcell⟩ := st_row hrow k e he
      have hc := hcall.out k e wr he hbr
      have hnx := all_next mayS l k e he
      have hno := all_no mayS l k e he
      obtain ⟨xk, xnm, xto, xnw, ea, ecap, xe, ba, bcap, xbody, la, lcap, xels, xpos⟩ := e
      simp only [← Nat.add_assoc] at hcell
      have d0 := below_in hbr (hcell 0 _ rfl)
      have d1 := below_in hbr (hcell 1 _ rfl)
      have d2 := below_in hbr (hcell 2 _ rfl)
      have d3 := below_in hbr (hcell 3 _ rfl)
      have d4 := below_in hbr (hcell 4 _ rfl)
      have d5 := below_in hbr (hcell 5 _ rfl)
      have d6 := below_in hbr (hcell 6 _ rfl)
      have d7 := below_in hbr (hcell 7 _ rfl)
      simp only [Nat.add_zero] at d0
      generalize mayS (.mk xk xnm xto xnw ea ecap xe ba bcap xbody la lcap xels xpos) = v at *
      replace hc := Lib.hid hc
      replace hnx := Lib.hid hnx
      replace hno := Lib.hid hno
      replace he := Lib.hid he
      clear hcell
      cases v
      · go_wp2_with fail
        refine hc.out.mono ?_
        rintro x W3 ⟨rfl, hb3⟩
        go_wp2_with fail
        go_ret
        exact ⟨ret_bool (hno.out trivial).symm, hbr.trans (hb3.mono hbr.size)⟩
      · go_wp2_with fail
        refine hc.out.mono ?_
        rintro x W3 ⟨rfl, hb3⟩
        replace hb3 := Lib.hid hb3
        go_wp2_with fail
        go_roundw
        case rel => exact ⟨k + 1, by omega, by go_num, Lib.hid (by rw [hnx.out, hok.out]; rfl), hbr.trans (hb3.out.mono hbr.size)⟩
        case measure => simp [intOf]; omega
    · have hall : Hid (l.all mayS = true) := Lib.hid (by have := hok.out; rwa [List.take_of_length_le (by omega)] at this)
      go_wp2_with fail
      go_ret
      exact ⟨ret_bool hall.out.symm, hbr⟩

set_option maxHeartbeats 8000000 in
theorem refstmt_none (k : Int) (hk : k = 0 ∨ (9 < k ∧ k ≤ 255)) (nm t2 : ByteArray) (nw : Bool) (ea : Option Addr) (ecap : Nat) (e : List Ex) (ba : Option Addr) (bcap : Nat) (body : List St) (la : Option Addr) (lcap : Nat) (els : List St) (pos : Int) (w : World) :
    Calls Tryd.prog 69 #[.agg #[.int .u8 k, .string nm, .string t2, .bool nw, .slice ea e.length ecap, .slice ba body.length bcap, .slice la els.length lcap, .int .i64 pos]] w fun x w' => x = .returned (.bool (mayS (.mk k nm t2 nw ea ecap e ba bcap body la lcap els pos))) ∧ Below w.heap.size w w' := by
  have hno := @mayS_no k nm t2 nw ea ecap e ba bcap body la lcap els pos (fun h => by omega)
  replace hno := Lib.hid hno
  have h1 : (k == 1) = false := ib_f (by omega)
  have h2 : (k == 2) = false := ib_f (by omega)
  have h3 : (k == 3) = false := ib_f (by omega)
  have h4 : (k == 4) = false := ib_f (by omega)
  have h5 : (k == 5) = false := ib_f (by omega)
  have h6 : (k == 6) = false := ib_f (by omega)
  have h7 : (k == 7) = false := ib_f (by omega)
  have h8 : (k == 8) = false := ib_f (by omega)
  have h9 : (k == 9) = false := ib_f (by omega)
  have hk0 : 0 ≤ k ∧ k ≤ 255 := by omega
  clear hk
  go_enter Tryd.func69, Tryd.ntmps69
  go_wp2_with fail
  go_ret
  exact ⟨ret_bool hno.out.symm, (Below.refl _ _).alloc (Nat.le_refl _) _⟩

theorem refstmt_any : ∀ (s : Nat) (x : St) (w : World), x.sz ≤ s → s ≤ 4194304 → St.In w (fun _ => True) x →
    Calls Tryd.prog 69 #[.agg ⟨x.vals⟩] w fun y w' => y = .returned (.bool (mayS x)) ∧ Below w.heap.size w w' := by
  intro s
  induction s using Nat.strongRecOn with
  | _ s ih =>
    intro x w hs hs4 hin
    obtain ⟨k, nm, t2, nw, ea, ecap, e, ba, bcap, body, la, lcap, els, pos⟩ := x
    have hsz : Ex.szL e + St.szL body + St.szL els < s := by unfold St.sz at hs; omega
    unfold St.In at hin
    obtain ⟨hk8, hnm, ht2, _, hre, hie, hrb, hib, hrl, hil⟩ := hin
    have hel : e.length ≤ 4194304 := by have := Ex.szL_len e; omega
    have hbl : body.length ≤ 4194304 := by have := St.szL_len body; omega
    have hll : els.length ≤ 4194304 := by have := St.szL_len els; omega
    have cE : ∀ V, Below w.heap.size w V → Calls Tryd.prog 43 #[.slice ea e.length ecap] V fun x w' => x = .returned (.bool (e.all mayE)) ∧ Below V.heap.size V w' := fun V hb => refexprs_any e ea ecap V (hre.below (Kps.of_below hb)) (Ex.InL.below (Kps.of_below hb) _ hie)
    have cS : ∀ (l : List St) (a : Option Addr) (cap : Nat), St.szL l < s → RowAt w (fun _ => True) a cap l.length (stCells l) → St.InL w (fun _ => True) l → ∀ V, Below w.heap.size w V → Calls Tryd.prog 56 #[.slice a l.length cap] V fun x w' => x = .returned (.bool (l.all mayS)) ∧ Below V.heap.size V w' := fun l a cap hl hr hi V hb =>
      refstmts_step l a cap V (hr.below (Kps.of_below hb)) fun _ e W he hb2 => ih (St.szL l) hl e W (St.sz_get he) (by omega) (St.In.below (Kps.of_below (hb.trans (hb2.mono hb.size))) _ (hi.get he))
    have cB := cS body ba bcap (by omega) hrb hib
    have cL := cS els la lcap (by omega) hrl hil
    unfold U8 at hk8
    have hc : k = 0 ∨ k = 1 ∨ k = 2 ∨ k = 3 ∨ k = 4 ∨ k = 5 ∨ k = 6 ∨ k = 7 ∨ k = 8 ∨ k = 9 ∨ (9 < k ∧ k ≤ 255) := by omega
    rcases hc with h | rfl | rfl | rfl | rfl | rfl | rfl | rfl | rfl | rfl | h
    · exact refstmt_none k (.inl h) nm t2 nw ea ecap e ba bcap body la lcap els pos w
    · exact refstmt_let nm t2 nw ea ecap e ba bcap body la lcap els pos w hnm ht2 hel hbl hll cE cB cL
    · exact refstmt_set nm t2 nw ea ecap e ba bcap body la lcap els pos w hnm ht2 hel hbl hll cE cB cL
    · exact refstmt_put nm t2 nw ea ecap e ba bcap body la lcap els pos w hnm ht2 hel hbl hll cE cB cL
    · exact refstmt_if nm t2 nw ea ecap e ba bcap body la lcap els pos w hnm ht2 hel hbl hll cE cB cL
    · exact refstmt_while nm t2 nw ea ecap e ba bcap body la lcap els pos w hnm ht2 hel hbl hll cE cB cL
    · exact refstmt_with nm t2 nw ea ecap e ba bcap body la lcap els pos w hnm ht2 hel hbl hll cE cB cL
    · exact refstmt_print nm t2 nw ea ecap e ba bcap body la lcap els pos w hnm ht2 hel hbl hll cE cB cL
    · exact refstmt_call nm t2 nw ea ecap e ba bcap body la lcap els pos w hnm ht2 hel hbl hll cE cB cL
    · exact refstmt_return nm t2 nw ea ecap e ba bcap body la lcap els pos w hnm ht2 hel hbl hll cE cB cL
    · exact refstmt_none k (.inr h) nm t2 nw ea ecap e ba bcap body la lcap els pos w
theorem refstmts_any (l : List St) (a : Option Addr) (cap : Nat) (w : World) (hsz : St.szL l ≤ 4194304) (hrow : RowAt w (fun _ => True) a cap l.length (stCells l)) (hin : St.InL w (fun _ => True) l) :
    Calls Tryd.prog 56 #[.slice a l.length cap] w fun x w' => x = .returned (.bool (l.all mayS)) ∧ Below w.heap.size w w' :=
  refstmts_step l a cap w hrow fun _ e W he hb => refstmt_any e.sz e W (Nat.le_refl _) (by have := St.sz_get he; omega) (St.In.below (Kps.of_below hb) _ (hin.get he))
end Go.Proofs.YtolmhcdcfnoicaaDoor.Tr
