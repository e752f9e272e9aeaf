/- Walks of the document's own answers: deep, StmtSize. Conditions: none. -/
import Derived.Test.YtolmhcdcfnoicaaDoorRfG
import Derived.Deep.RegionHeld3
import Derived.Deep.DrawnRows
import Derived.Outline
namespace Go.Proofs.YtolmhcdcfnoicaaDoor.Tr
open Go Go.RowKit
open Go.Proofs.YtolmhcdcfnoicaaDoor.Lx

def depS (e : St) : Int := deepest (ptsS 0 0 1 e)
def depSL (l : List St) : Int := deepest (ptsSL 0 0 1 l)
theorem depS_eq (k : Int) (nm t2 : ByteArray) (nw : Bool) (ea : Option Addr) (ecap : Nat) (e : List Ex) (ba : Option Addr) (bcap : Nat) (body : List St) (la : Option Addr) (lcap : Nat) (els : List St) (pos : Int) :
    depS (.mk k nm t2 nw ea ecap e ba bcap body la lcap els pos) = 1 + max (max (depL e) (depSL body)) (depSL els) := by
  unfold depS depL depSL
  unfold ptsS
  rw [ptsL_up 1 _ _ 1, ptsSL_up 1 _ _ 1, ptsSL_up 1 _ _ 1, ← List.map_append, ← List.map_append, deepest_in _ rfl, deepest_app, deepest_app, deepest_key _ _ (ptsL_at e (adB ea) (adO ea) 0 0 1), deepest_key _ _ (ptsSL_at body (adB ba) (adO ba) 0 0 1), deepest_key _ _ (ptsSL_at els (adB la) (adO la) 0 0 1), Int.max_assoc]
theorem depSL_nil : depSL [] = 0 := by unfold depSL ptsSL; rfl
theorem depSL_cons (e : St) (r : List St) : depSL (e :: r) = max (depS e) (depSL r) := by
  unfold depSL depS
  have : ptsSL 0 0 1 (e :: r) = ptsS 0 0 1 e ++ ptsSL 0 (0 + 8) 1 r := by rw [ptsSL]
  rw [this, deepest_app, deepest_key _ _ (ptsSL_at r 0 (0 + 8) 0 0 1)]
theorem depSL_take (l : List St) (k : Nat) (x : St) (h : l[k]? = some x) : depSL (l.take (k + 1)) = max (depSL (l.take k)) (depS x) := by
  induction l generalizing k with
  | nil => simp at h
  | cons y r ih =>
    cases k with
    | zero =>
      simp at h; subst h
      rw [List.take_succ_cons, List.take_zero, List.take_zero, depSL_cons, depSL_nil, Int.max_comm]
    | succ k =>
      rw [List.take_succ_cons, List.take_succ_cons, depSL_cons, depSL_cons, ih k (by simpa using h), Int.max_assoc]
mutual
theorem depS_le : ∀ e : St, depS e ≤ e.sz
  | .mk k nm t2 nw ea ecap e ba bcap body la lcap els pos => by
    have := depL_le e
    have := depSL_le body
    have := depSL_le els
    rw [depS_eq]; unfold St.sz; omega
theorem depSL_le : ∀ l : List St, depSL l ≤ St.szL l
  | [] => by rw [depSL_nil]; omega
  | e :: r => by
    have := depSL_le r
    have := depS_le e
    rw [depSL_cons]; unfold St.szL; omega
end
theorem depSL_pos (l : List St) : 0 ≤ depSL l := deepest_pos _
theorem depS_pos (e : St) : 0 ≤ depS e := deepest_pos _

set_option maxHeartbeats 8000000 in
set_option maxRecDepth 100000 in
theorem refdeep_any : ∀ (s : Nat) (l : List St) (a : Option Addr) (cap : Nat) (w : World), St.szL l ≤ s → s ≤ 4194304 → RowAt w (fun _ => True) a cap l.length (stCells l) → St.InL w (fun _ => True) l →
    Calls Tryd.prog 37 #[.slice a l.length cap] w fun x w' => x = .returned (.int .i64 (depSL l)) ∧ Below w.heap.size w w' := by
  intro s
  induction s using Nat.strongRecOn with
  | _ s ih =>
    intro l a cap w hs hs4 hrow hin
    have hlen : l.length ≤ 4194304 := by have := St.szL_len l; omega
    have hcx := fun (k : Nat) (x : St) (W : World) (hx : l[k]? = some x) (hb : Below w.heap.size w W) => And.intro (St.In.below (Kps.of_below (S := fun _ => True) hb) _ (hin.get hx)) (ih (x.sz - 1) (by have := St.sz_get hx; have := St.sz_pos x; omega))
    replace hcx := Lib.hid hcx
    clear ih hin
    go_enter Tryd.func37, Tryd.ntmps37
    go_wp2_with fail
    go_loopw [3, 4] (fun n i wr => ∃ (k : Nat) (v : Int), k ≤ l.length ∧ n = .int .i64 v ∧ i = .int .i64 k ∧ Hid (depSL (l.take k) = v) ∧ Below w.heap.size w wr) (fun _ i _ => l.length - (intOf i).toNat)
    case atStart => exact ⟨0, 0, Nat.zero_le _, rfl, rfl, Lib.hid (by rw [List.take_zero, depSL_nil]), Below.refl _ _⟩
    case round =>
      obtain ⟨k, v, hk, rfl, rfl, hok, hbr⟩ := hrel
      by_cases hlt : k < l.length
      · obtain ⟨x, hx⟩ : ∃ e, l[k]? = some e := ⟨l[k], by simp [hlt]⟩
        obtain ⟨b, off, rfl, _, hcell⟩ := st_row hrow k x hx
        obtain ⟨hxin, hrec⟩ := hcx.out k x wr hx hbr
        have hxs := St.sz_get hx
        have hnx := depSL_take l k x hx
        obtain ⟨xk, xnm, xto, xnw, ea, ecap, xe, ba, bcap, xbody, la, lcap, xels, xpos⟩ := x
        have hsz : St.sz (.mk xk xnm xto xnw ea ecap xe ba bcap xbody la lcap xels xpos) = 1 + Ex.szL xe + St.szL xbody + St.szL xels := by unfold St.sz; rfl
        rw [hsz] at hrec hxs
        rw [depS_eq] at hnx
        unfold St.In at hxin
        obtain ⟨_, _, _, _, re1, ie1, rb1, ib1, rl1, il1⟩ := hxin
        have cE := fun V (h : Below wr.heap.size wr V) => refdeepest_any xe ea ecap V (by omega) (re1.below (Kps.of_below h)) (Ex.InL.below (Kps.of_below h) _ ie1)
        have cB := fun V (h : Below wr.heap.size wr V) => hrec xbody ba bcap V (by omega) (by omega) (rb1.below (Kps.of_below h)) (St.InL.below (Kps.of_below h) _ ib1)
        have cL := fun V (h : Below wr.heap.size wr V) => hrec xels la lcap V (by omega) (by omega) (rl1.below (Kps.of_below h)) (St.InL.below (Kps.of_below h) _ il1)
        have hE0 := depL_pos xe
        have hE1 := depL_le xe
        have hB0 := depSL_pos xbody
        have hB1 := depSL_le xbody
        have hL0 := depSL_pos xels
        have hL1 := depSL_le xels
        have hE2 : depL xe ≤ 4194304 := by omega
        have hB2 : depSL xbody ≤ 4194304 := by omega
        have hL2 : depSL xels ≤ 4194304 := by omega
        generalize depL xe = vE at *
        generalize depSL xbody = vB at *
        generalize depSL xels = vL at *
        simp only [← Nat.add_assoc] at hcell
        have d4 := below_in hbr (hcell 4 _ rfl)
        have d5 := below_in hbr (hcell 5 _ rfl)
        have d6 := below_in hbr (hcell 6 _ rfl)
        have hif : (if (if vE < vB then vB else vE) < vL then vL else if vE < vB then vB else vE) = max (max vE vB) vL := by
          split <;> split <;> omega
        have hmx : Hid (Value.int IntKind.i64 (max v (IntKind.i64.wrap (1 + if (if vE < vB then vB else vE) < vL then vL else if vE < vB then vB else vE))) = Value.int .i64 (max v (1 + max (max vE vB) vL))) := Lib.hid (by
          rw [hif, IntWalk.i64_in (1 + max (max vE vB) vL) (by omega)])
        clear hif
        have mk : ∀ {c : FuncId} {args : Array Value} {u : Int} (hc : ∀ V, Below wr.heap.size wr V → Calls Tryd.prog c args V fun x w' => x = .returned (.int .i64 u) ∧ Below V.heap.size V w'), Hid (∀ V, (Below wr.heap.size wr V ∧ V.cell? ⟨b, off + k * 8 + 4, none⟩ = some (.slice ea xe.length ecap) ∧ V.cell? ⟨b, off + k * 8 + 5, none⟩ = some (.slice ba xbody.length bcap) ∧ V.cell? ⟨b, off + k * 8 + 6, none⟩ = some (.slice la xels.length lcap)) → Calls Tryd.prog c args V fun x w' => x = .returned (.int .i64 u) ∧ (Below wr.heap.size wr w' ∧ w'.cell? ⟨b, off + k * 8 + 4, none⟩ = some (.slice ea xe.length ecap) ∧ w'.cell? ⟨b, off + k * 8 + 5, none⟩ = some (.slice ba xbody.length bcap) ∧ w'.cell? ⟨b, off + k * 8 + 6, none⟩ = some (.slice la xels.length lcap))) := fun hc => Lib.hid fun V h => (hc V h.1).mono fun x w' h2 => ⟨h2.1, h.1.trans (h2.2.mono h.1.size), below_in h2.2 h.2.1, below_in h2.2 h.2.2.1, below_in h2.2 h.2.2.2⟩
        have cE' := mk cE
        have cB' := mk cB
        have cL' := mk cL
        have hS : Below wr.heap.size wr wr.drew ∧ wr.drew.cell? ⟨b, off + k * 8 + 4, none⟩ = some (.slice ea xe.length ecap) ∧ wr.drew.cell? ⟨b, off + k * 8 + 5, none⟩ = some (.slice ba xbody.length bcap) ∧ wr.drew.cell? ⟨b, off + k * 8 + 6, none⟩ = some (.slice la xels.length lcap) := ⟨(Below.refl _ _).drew, d4, d5, d6⟩
        replace hnx := Lib.hid hnx
        replace hbr := Lib.hid hbr
        clear hcell hx hsz hrec mk cE cB cL re1 ie1 rb1 ib1 rl1 il1 hE1 hB1 hL1
        go_wp2_with fail
        go_region_held3 (fun V => Below wr.heap.size wr V ∧ V.cell? ⟨b, off + k * 8 + 4, none⟩ = some (.slice ea xe.length ecap) ∧ V.cell? ⟨b, off + k * 8 + 5, none⟩ = some (.slice ba xbody.length bcap) ∧ V.cell? ⟨b, off + k * 8 + 6, none⟩ = some (.slice la xels.length lcap)) (first | exact hS | assumption) (first | (go_at_call 57; (with_reducible refine (cE'.out _ hS).mono ?_); (rintro x W1 ⟨rfl, hS⟩)) | (go_at_call 37; (with_reducible refine (cB'.out _ hS).mono ?_); (rintro x W2 ⟨rfl, hS⟩)) | (go_at_call 37; (with_reducible refine (cL'.out _ hS).mono ?_); (rintro x W3 ⟨rfl, hS⟩)))
        all_goals
          go_wp2_with fail
          go_roundw
          case rel => exact ⟨k + 1, max v (1 + max (max vE vB) vL), by omega, hmx.out, by go_num, Lib.hid (by rw [hnx.out, hok.out]), hbr.out.trans (hS.1.mono hbr.out.size)⟩
          case measure => simp [intOf]; omega
      · have hall : Hid (v = depSL l) := Lib.hid (by have := hok.out; rw [List.take_of_length_le (by omega)] at this; exact this.symm)
        go_wp2_with fail
        go_ret
        exact ⟨ret_int hall.out, hbr⟩

set_option maxHeartbeats 8000000 in
set_option maxRecDepth 100000 in
theorem refStmtSize_any : ∀ (s : Nat) (l : List St) (a : Option Addr) (cap : Nat) (w : World), St.szL l ≤ s → s ≤ 4194304 → RowAt w (fun _ => True) a cap l.length (stCells l) → St.InL w (fun _ => True) l →
    Calls Tryd.prog 38 #[.slice a l.length cap] w fun x w' => x = .returned (.int .i64 (St.szL l : Int)) ∧ Below w.heap.size w w' := by
  intro s
  induction s using Nat.strongRecOn with
  | _ s ih =>
    intro l a cap w hs hs4 hrow hin
    have hlen : l.length ≤ 4194304 := by have := St.szL_len l; omega
    have hcx := fun (k : Nat) (x : St) (W : World) (hx : l[k]? = some x) (hb : Below w.heap.size w W) => And.intro (St.In.below (Kps.of_below (S := fun _ => True) hb) _ (hin.get hx)) (ih (x.sz - 1) (by have := St.sz_get hx; have := St.sz_pos x; omega))
    replace hcx := Lib.hid hcx
    clear ih hin
    go_enter Tryd.func38, Tryd.ntmps38
    go_wp2_with fail
    go_loopw [3, 4] (fun n i wr => ∃ (k : Nat) (v : Int), k ≤ l.length ∧ n = .int .i64 v ∧ i = .int .i64 k ∧ 0 ≤ v ∧ v ≤ 8388608 ∧ Hid (v + k = l.length + St.szL (l.take k)) ∧ Below w.heap.size w wr) (fun _ i _ => l.length - (intOf i).toNat)
    case atStart => exact ⟨0, l.length, Nat.zero_le _, rfl, rfl, by omega, by omega, Lib.hid (by simp [St.szL]), Below.refl _ _⟩
    case round =>
      obtain ⟨k, v, hk, rfl, rfl, hv0, hv1, hv, hbr⟩ := hrel
      by_cases hlt : k < l.length
      · obtain ⟨x, hx⟩ : ∃ e, l[k]? = some e := ⟨l[k], by simp [hlt]⟩
        obtain ⟨b, off, rfl, _, hcell⟩ := st_row hrow k x hx
        obtain ⟨hxin, hrec⟩ := hcx.out k x wr hx hbr
        have hst := St.szL_take l k x hx
        have hxs := St.szL_take_le l (k + 1) (by omega)
        obtain ⟨xk, xnm, xto, xnw, ea, ecap, xe, ba, bcap, xbody, la, lcap, xels, xpos⟩ := x
        have hsz : St.sz (.mk xk xnm xto xnw ea ecap xe ba bcap xbody la lcap xels xpos) = 1 + Ex.szL xe + St.szL xbody + St.szL xels := by unfold St.sz; rfl
        rw [hsz] at hrec hst
        unfold St.In at hxin
        obtain ⟨_, _, _, _, re1, ie1, rb1, ib1, rl1, il1⟩ := hxin
        have cE := fun V (h : Below wr.heap.size wr V) => refExprSize_any (Ex.szL xe) xe ea ecap V (Nat.le_refl _) (by omega) (re1.below (Kps.of_below h)) (Ex.InL.below (Kps.of_below h) _ ie1)
        have cB := fun V (h : Below wr.heap.size wr V) => hrec xbody ba bcap V (by omega) (by omega) (rb1.below (Kps.of_below h)) (St.InL.below (Kps.of_below h) _ ib1)
        have cL := fun V (h : Below wr.heap.size wr V) => hrec xels la lcap V (by omega) (by omega) (rl1.below (Kps.of_below h)) (St.InL.below (Kps.of_below h) _ il1)
        have hvn := hv.out
        have hall : (Ex.szL xe : Int) + St.szL xbody + St.szL xels ≤ 4194304 := by omega
        have hsum : v + (Ex.szL xe : Int) + St.szL xbody + St.szL xels ≤ 8388608 := by omega
        have hsum2 : (v + (Ex.szL xe : Int) + St.szL xbody + St.szL xels) + ((k + 1 : Nat) : Int) = l.length + St.szL (l.take (k + 1)) := by omega
        replace hsum2 := Lib.hid hsum2
        have hE0 : (0 : Int) ≤ (Ex.szL xe : Int) := by omega
        have hB0 : (0 : Int) ≤ (St.szL xbody : Int) := by omega
        have hL0 : (0 : Int) ≤ (St.szL xels : Int) := by omega
        obtain ⟨vE, hvE⟩ : ∃ u : Int, u = (Ex.szL xe : Int) := ⟨_, rfl⟩
        obtain ⟨vB, hvB⟩ : ∃ u : Int, u = (St.szL xbody : Int) := ⟨_, rfl⟩
        obtain ⟨vL, hvL⟩ : ∃ u : Int, u = (St.szL xels : Int) := ⟨_, rfl⟩
        simp only [← hvE, ← hvB, ← hvL] at cE cB cL hall hsum hsum2 hE0 hB0 hL0
        replace hvE := Lib.hid hvE
        replace hvB := Lib.hid hvB
        replace hvL := Lib.hid hvL
        simp only [← Nat.add_assoc] at hcell
        have d4 := below_in hbr (hcell 4 _ rfl)
        have d5 := below_in hbr (hcell 5 _ rfl)
        have d6 := below_in hbr (hcell 6 _ rfl)
        have w1 : IntKind.i64.wrap (v + vE) = v + vE := IntWalk.i64_in _ (by omega)
        have w2 : IntKind.i64.wrap (v + vE + vB) = v + vE + vB := IntWalk.i64_in _ (by omega)
        have w3 : IntKind.i64.wrap (v + vE + vB + vL) = v + vE + vB + vL := IntWalk.i64_in _ (by omega)
        have mk : ∀ {c : FuncId} {args : Array Value} {u : Int} (hc : ∀ V, Below wr.heap.size wr V → Calls Tryd.prog c args V fun x w' => x = .returned (.int .i64 u) ∧ Below V.heap.size V w'), Hid (∀ V, (Below wr.heap.size wr V ∧ V.cell? ⟨b, off + k * 8 + 4, none⟩ = some (.slice ea xe.length ecap) ∧ V.cell? ⟨b, off + k * 8 + 5, none⟩ = some (.slice ba xbody.length bcap) ∧ V.cell? ⟨b, off + k * 8 + 6, none⟩ = some (.slice la xels.length lcap)) → Calls Tryd.prog c args V fun x w' => x = .returned (.int .i64 u) ∧ (Below wr.heap.size wr w' ∧ w'.cell? ⟨b, off + k * 8 + 4, none⟩ = some (.slice ea xe.length ecap) ∧ w'.cell? ⟨b, off + k * 8 + 5, none⟩ = some (.slice ba xbody.length bcap) ∧ w'.cell? ⟨b, off + k * 8 + 6, none⟩ = some (.slice la xels.length lcap))) := fun hc => Lib.hid fun V h => (hc V h.1).mono fun x w' h2 => ⟨h2.1, h.1.trans (h2.2.mono h.1.size), below_in h2.2 h.2.1, below_in h2.2 h.2.2.1, below_in h2.2 h.2.2.2⟩
        have cE' := mk cE
        have cB' := mk cB
        have cL' := mk cL
        have hS : Below wr.heap.size wr wr.drew ∧ wr.drew.cell? ⟨b, off + k * 8 + 4, none⟩ = some (.slice ea xe.length ecap) ∧ wr.drew.cell? ⟨b, off + k * 8 + 5, none⟩ = some (.slice ba xbody.length bcap) ∧ wr.drew.cell? ⟨b, off + k * 8 + 6, none⟩ = some (.slice la xels.length lcap) := ⟨(Below.refl _ _).drew, d4, d5, d6⟩
        replace hbr := Lib.hid hbr
        clear hcell hx hsz hrec mk cE cB cL re1 ie1 rb1 ib1 rl1 il1 hst hxs hvn hv
        go_wp2_with fail
        go_region_held3 (fun V => Below wr.heap.size wr V ∧ V.cell? ⟨b, off + k * 8 + 4, none⟩ = some (.slice ea xe.length ecap) ∧ V.cell? ⟨b, off + k * 8 + 5, none⟩ = some (.slice ba xbody.length bcap) ∧ V.cell? ⟨b, off + k * 8 + 6, none⟩ = some (.slice la xels.length lcap)) (first | exact hS | assumption) (first | (go_at_call 58; (with_reducible refine (cE'.out _ hS).mono ?_); (rintro x W1 ⟨rfl, hS⟩)) | (go_at_call 38; (with_reducible refine (cB'.out _ hS).mono ?_); (rintro x W2 ⟨rfl, hS⟩)) | (go_at_call 38; (with_reducible refine (cL'.out _ hS).mono ?_); (rintro x W3 ⟨rfl, hS⟩)))
        all_goals
          go_wp2_with fail
          go_roundw
          case rel => exact ⟨k + 1, v + vE + vB + vL, by omega, rfl, by go_num, by omega, hsum, hsum2, hbr.out.trans (hS.1.mono hbr.out.size)⟩
          case measure => simp [intOf]; omega
      · have hfin : Hid (v = (St.szL l : Int)) := Lib.hid (by have := hv.out; rw [List.take_of_length_le (by omega)] at this; omega)
        go_wp2_with fail
        go_ret
        exact ⟨ret_int hfin.out, hbr⟩
end Go.Proofs.YtolmhcdcfnoicaaDoor.Tr
