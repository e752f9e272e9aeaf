/- Walks of the document's own answers: expr, deepest, ExprSize. Conditions: none. -/
import Derived.Test.YtolmhcdcfnoicaaDoorTrPa
import Derived.Test.YtolmhcdcfnoicaaDoorTrZ
import Derived.IntWalk
namespace Go.Proofs.YtolmhcdcfnoicaaDoor.Tr
open Go Go.RowKit
open Go.Proofs.YtolmhcdcfnoicaaDoor.Lx

def depE (e : Ex) : Int := deepest (ptsE 0 0 1 e)
def depL (l : List Ex) : Int := deepest (ptsL 0 0 1 l)
theorem deepest_nil : deepest [] = 0 := rfl
theorem up_le (l : List Pt) (c B : Int) : (∀ p ∈ l.map (Pt.up c), p.d ≤ B) ↔ ∀ p ∈ l, p.d + c ≤ B := by
  constructor
  · intro h p hp; exact h _ (List.mem_map_of_mem hp)
  · intro h p hp
    obtain ⟨q, hq, rfl⟩ := List.mem_map.1 hp
    exact h q hq
/-- a part, and what is in it, one deeper -/
theorem deepest_in (p : Pt) (hp : p.d = 1) (l : List Pt) : deepest (p :: l.map (Pt.up 1)) = 1 + deepest l := by
  refine eq_of_le _ _ fun B => ?_
  rw [deepest_le]
  have h2 := deepest_le l (B - 1)
  have h3 := up_le l 1 B
  constructor
  · rintro ⟨h0, h⟩
    have hb := h p (List.mem_cons_self ..)
    have := h2.2 ⟨by omega, fun q hq => by have := h3.1 (fun r hr => h r (List.mem_cons_of_mem _ hr)) q hq; omega⟩
    omega
  · intro h
    obtain ⟨h0, h4⟩ := h2.1 (by omega)
    refine ⟨by omega, fun q hq => ?_⟩
    rcases List.mem_cons.1 hq with rfl | hq
    · omega
    · exact h3.2 (fun r hr => by have := h4 r hr; omega) q hq
theorem deepest_pos (l : List Pt) : 0 ≤ deepest l := ((deepest_le l (deepest l)).1 (Int.le_refl _)).1
theorem depE_eq (k : Int) (nm : ByteArray) (n : Int) (a : Option Addr) (cap : Nat) (args : List Ex) (pos : Int) : depE (.mk k nm n a cap args pos) = 1 + depL args := by
  unfold depE depL
  rw [ptsE_eq, show (1 : Int) + 1 = 1 + 1 from rfl, ptsL_up 1 _ _ 1, deepest_in _ rfl, deepest_key _ _ (ptsL_at args (adB a) (adO a) 0 0 1)]
theorem depL_cons (e : Ex) (r : List Ex) : depL (e :: r) = max (depE e) (depL r) := by
  unfold depL depE
  have : ptsL 0 0 1 (e :: r) = ptsE 0 0 1 e ++ ptsL 0 (0 + 5) 1 r := by rw [ptsL]
  rw [this, deepest_app, deepest_key _ _ (ptsL_at r 0 (0 + 5) 0 0 1)]
theorem depL_nil : depL [] = 0 := by unfold depL ptsL; rfl
theorem depL_take (l : List Ex) (k : Nat) (x : Ex) (h : l[k]? = some x) : depL (l.take (k + 1)) = max (depL (l.take k)) (depE x) := by
  induction l generalizing k with
  | nil => simp at h
  | cons y r ih =>
    cases k with
    | zero =>
      simp at h; subst h
      rw [List.take_succ_cons, List.take_zero, List.take_zero, depL_cons, depL_nil, Int.max_comm]
    | succ k =>
      rw [List.take_succ_cons, List.take_succ_cons, depL_cons, depL_cons, ih k (by simpa using h), Int.max_assoc]
mutual
theorem depE_le : ∀ e : Ex, depE e ≤ e.sz
  | .mk k nm n a cap args pos => by
    have := depL_le args
    rw [depE_eq]; unfold Ex.sz; omega
theorem depL_le : ∀ l : List Ex, depL l ≤ Ex.szL l
  | [] => by rw [depL_nil]; omega
  | e :: r => by
    have := depL_le r
    have := depE_le e
    rw [depL_cons]; unfold Ex.szL; omega
end
theorem depL_pos (l : List Ex) : 0 ≤ depL l := deepest_pos _
theorem depE_pos (e : Ex) : 0 ≤ depE e := deepest_pos _

set_option maxHeartbeats 4000000 in
set_option maxRecDepth 100000 in
theorem refdeepest_step (l : List Ex) (a : Option Addr) (cap : Nat) (w : World) (hrow : RowAt w (fun _ => True) a cap l.length (exCells l))
    (hcall : ∀ (k : Nat) (e : Ex) (W : World), l[k]? = some e → Below w.heap.size w W → Calls Tryd.prog 70 #[.agg ⟨e.vals⟩] W fun x W' => x = .returned (.int .i64 (depE e)) ∧ Below W.heap.size W W') :
    Calls Tryd.prog 57 #[.slice a l.length cap] w fun x w' => x = .returned (.int .i64 (depL l)) ∧ Below w.heap.size w w' := by
  have hll : l.length ≤ 9223372036854775807 := by have := hrow.le; have := hrow.lim; unfold maxLen at this; omega
  replace hcall := Lib.hid hcall
  go_enter Tryd.func57, Tryd.ntmps57
  go_wp2_with fail
  go_loopw [3, 4] (fun n i wr => ∃ (k : Nat) (v : Int), k ≤ l.length ∧ n = .int .i64 v ∧ i = .int .i64 k ∧ Hid (depL (l.take k) = v) ∧ Below w.heap.size w wr) (fun _ i _ => l.length - (intOf i).toNat)
  case atStart => exact ⟨0, 0, Nat.zero_le _, rfl, rfl, Lib.hid (by rw [List.take_zero, depL_nil]), Below.refl _ _⟩
  case round =>
    obtain ⟨k, v, hk, rfl, rfl, hok, hbr⟩ := hrel
    by_cases hlt : k < l.length
    · obtain ⟨e, he⟩ : ∃ e, l[k]? = some e := ⟨l[k], by simp [hlt]⟩
      obtain ⟨b, off, rfl, _, hcell⟩ := ex_row hrow k e he
      have hc := hcall.out k e wr he hbr
      have hnx := depL_take l k e he
      obtain ⟨ek, enm, en, ea, ecap, eargs, epos⟩ := e
      simp only [← Nat.add_assoc] at hcell
      have d0 := below_in hbr (hcell 0 _ rfl)
      have d1 := below_in hbr (hcell 1 _ rfl)
      have d2 := below_in hbr (hcell 2 _ rfl)
      have d3 := below_in hbr (hcell 3 _ rfl)
      have d4 := below_in hbr (hcell 4 _ rfl)
      simp only [Nat.add_zero] at d0 d1 d2 d3 d4
      generalize depE (.mk ek enm en ea ecap eargs epos) = u at *
      replace hc := Lib.hid hc
      replace hnx := Lib.hid hnx
      replace he := Lib.hid he
      clear hcell
      go_wp2_with fail
      refine hc.out.mono ?_
      rintro x W3 ⟨rfl, hb3⟩
      replace hb3 := Lib.hid hb3
      go_wp2_with fail
      go_roundw
      case rel => exact ⟨k + 1, max v u, by omega, rfl, by go_num, Lib.hid (by rw [hnx.out, hok.out]), hbr.trans (hb3.out.mono hbr.size)⟩
      case measure => simp [intOf]; omega
    · have hall : Hid (v = depL l) := Lib.hid (by have := hok.out; rw [List.take_of_length_le (by omega)] at this; exact this.symm)
      go_wp2_with fail
      go_ret
      exact ⟨ret_int hall.out, hbr⟩
theorem refexpr_any : ∀ (s : Nat) (e : Ex) (w : World), e.sz ≤ s → s ≤ 4194304 → Ex.In w (fun _ => True) e →
    Calls Tryd.prog 70 #[.agg ⟨e.vals⟩] w fun x w' => x = .returned (.int .i64 (depE e)) ∧ Below w.heap.size w w' := by
  intro s
  induction s using Nat.strongRecOn with
  | _ s ih =>
    intro e w hs hs4 hin
    obtain ⟨k, nm, n, a, cap, args, pos⟩ := e
    have hsz : Ex.szL args < s := by unfold Ex.sz at hs; omega
    unfold Ex.In at hin
    obtain ⟨_, hnm, _, _, hrow, hia⟩ := hin
    have hc := fun V (hb : Below w.heap.size w V) => refdeepest_step args a cap V (hrow.below (Kps.of_below hb)) fun k e W he hb2 => ih (Ex.szL args) hsz e W (Ex.sz_get he) (by omega) (Ex.In.below (Kps.of_below (hb.trans (hb2.mono hb.size))) _ (hia.get he))
    have h0 := depL_pos args
    have h1 := depL_le args
    rw [depE_eq]
    generalize depL args = u at *
    replace hc := Lib.hid hc
    show Calls Tryd.prog 70 #[.agg #[.int .u8 k, .string nm, .int .i64 n, .slice a args.length cap, .int .i64 pos]] w _
    have hu : 0 ≤ u ∧ u ≤ 4194304 := by omega
    obtain ⟨hu0, hu1⟩ := hu
    clear ih hs h1 hsz hrow hia hnm
    go_enter Tryd.func70, Tryd.ntmps70
    go_wp2_with fail
    refine (hc.out _ ((Below.refl _ _).alloc (Nat.le_refl _) _)).mono ?_
    rintro x W3 ⟨rfl, hb3⟩
    go_wp2_with fail
    go_ret
    exact ⟨rfl, ((Below.refl _ _).alloc (Nat.le_refl _) _).trans (hb3.mono (by simp))⟩
theorem refdeepest_any (l : List Ex) (a : Option Addr) (cap : Nat) (w : World) (hsz : Ex.szL l ≤ 4194304) (hrow : RowAt w (fun _ => True) a cap l.length (exCells l)) (hin : Ex.InL w (fun _ => True) l) :
    Calls Tryd.prog 57 #[.slice a l.length cap] w fun x w' => x = .returned (.int .i64 (depL l)) ∧ Below w.heap.size w w' :=
  refdeepest_step l a cap w hrow fun _ e W he hb => refexpr_any e.sz e W (Nat.le_refl _) (by have := Ex.sz_get he; omega) (Ex.In.below (Kps.of_below hb) _ (hin.get he))

set_option maxHeartbeats 4000000 in
set_option maxRecDepth 100000 in
theorem refExprSize_any : ∀ (s : Nat) (l : List Ex) (a : Option Addr) (cap : Nat) (w : World), Ex.szL l ≤ s → s ≤ 4194304 → RowAt w (fun _ => True) a cap l.length (exCells l) → Ex.InL w (fun _ => True) l →
    Calls Tryd.prog 58 #[.slice a l.length cap] w fun x w' => x = .returned (.int .i64 (Ex.szL l : Int)) ∧ Below w.heap.size w w' := by
  intro s
  induction s using Nat.strongRecOn with
  | _ s ih =>
    intro l a cap w hs hs4 hrow hin
    have hlen : l.length ≤ 4194304 := by have := Ex.szL_len l; omega
    have hcx := fun (k : Nat) (x : Ex) (W : World) (hx : l[k]? = some x) (hb : Below w.heap.size w W) => And.intro (Ex.In.below (Kps.of_below (S := fun _ => True) hb) _ (hin.get hx)) (ih (x.sz - 1) (by have := Ex.sz_get hx; have := Ex.sz_pos x; omega))
    replace hcx := Lib.hid hcx
    clear ih hin
    go_enter Tryd.func58, Tryd.ntmps58
    go_wp2_with fail
    go_loopw [3, 4] (fun n i wr => ∃ (k : Nat) (v : Int), k ≤ l.length ∧ n = .int .i64 v ∧ i = .int .i64 k ∧ 0 ≤ v ∧ v ≤ 8388608 ∧ Hid (v + k = l.length + Ex.szL (l.take k)) ∧ Below w.heap.size w wr) (fun _ i _ => l.length - (intOf i).toNat)
    case atStart => exact ⟨0, l.length, Nat.zero_le _, rfl, rfl, by omega, by omega, Lib.hid (by simp [Ex.szL]), Below.refl _ _⟩
    case round =>
      obtain ⟨k, v, hk, rfl, rfl, hv0, hv1, hv, hbr⟩ := hrel
      by_cases hlt : k < l.length
      · obtain ⟨x, hx⟩ : ∃ e, l[k]? = some e := ⟨l[k], by simp [hlt]⟩
        obtain ⟨b, off, rfl, _, hcell⟩ := ex_row hrow k x hx
        obtain ⟨hxin, hc⟩ := hcx.out k x wr hx hbr
        have hst := Ex.szL_take l k x hx
        have hxs := Ex.szL_take_le l (k + 1)
        obtain ⟨fk, fnm, fn', fa, fcap, fargs, fpos⟩ := x
        have hsz : Ex.sz (.mk fk fnm fn' fa fcap fargs fpos) = 1 + Ex.szL fargs := by unfold Ex.sz; rfl
        rw [hsz] at hst hc
        unfold Ex.In at hxin
        have hcc := hc fargs fa fcap wr (by omega) (by omega) hxin.2.2.2.2.1 hxin.2.2.2.2.2
        simp only [← Nat.add_assoc] at hcell
        have d3 := below_in hbr (hcell 3 _ rfl)
        have hu : Ex.szL fargs ≤ 4194304 := by omega
        have hvn := hv.out
        have hsum : 0 ≤ v + (Ex.szL fargs : Int) ∧ v + (Ex.szL fargs : Int) ≤ 8388608 := by omega
        have hsum2 : (v + (Ex.szL fargs : Int)) + ((k + 1 : Nat) : Int) = l.length + Ex.szL (l.take (k + 1)) := by omega
        replace hsum2 := Lib.hid hsum2
        obtain ⟨hsa, hsb⟩ := hsum
        generalize Ex.szL fargs = u at *
        replace hcc := Lib.hid hcc
        clear hcell hx hst hxs hsz hxin hc hvn hv
        go_wp2_with fail
        refine hcc.out.mono ?_
        rintro x W3 ⟨rfl, hb3⟩
        replace hb3 := Lib.hid hb3
        go_wp2_with fail
        go_roundw
        case rel => exact ⟨k + 1, v + u, by omega, rfl, by go_num, hsa, hsb, hsum2, hbr.trans (hb3.out.mono hbr.size)⟩
        case measure => simp [intOf]; omega
      · have hfin : Hid (v = (Ex.szL l : Int)) := Lib.hid (by have := hv.out; rw [List.take_of_length_le (by omega)] at this; omega)
        go_wp2_with fail
        go_ret
        exact ⟨ret_int hfin.out, hbr⟩
end Go.Proofs.YtolmhcdcfnoicaaDoor.Tr
