/- Size of a program. Conditions: the program lies in memory, its size is at most 4194304. · The names that are new in statements, as types.appendNew adds them to a list of its caller's. Conditions: the statements lie in memory below the list's own block; at most 1048576 names. · What types.Locals answers: the parameters, and the names that are new in the statements. Conditions: the declaration lies in memory; at most 1048576 names. · append of a whole list to a list that the call builds. Conditions: none. · What bobbinlaw05.turned answers: the declarations in another order. What types.Locals answers of what is no func and no thread. Conditions: the declarations lie in memory. · Plain facts on programs that Check finds sound: their local names; what is left when a thread or a func that nobody calls goes. Locals' answer as one row. Conditions: none. · Walk of named: does some Call name it? Conditions: the statements lie in memory. · Walk of types.Check. Conditions: the program lies in memory, the tables hold their lists. · What is said of declarations hangs not on addresses; plain. Conditions: none. · Walk of says: what is told of a text's program. Conditions: the variables that the packages read hold what they were laid with. · Walks of works, loops: what is told of texts. Conditions: the variables that the packages read hold what they were laid with. -/
import Derived.Test.YtpcdlneompnhlaaGreatDoorGrAF
import Derived.Test.YtpcdlneompnhlaaGreatDoorGrAD
import Derived.Test.YtpcdlneompnhlaaGreatDoorPaV
import Derived.IntWalk
import Derived.Deep.RegionHeld3
import Derived.Deep.DrawnRows
import Derived.Outline
import Derived.Test.YtpcdlneompnhlaaGreatDoorTyBv
import Derived.Test.YtpcdlneompnhlaaGreatDoorTyN
import Derived.Test.YtpcdlneompnhlaaGreatDoorGrAI
import Derived.Test.YtpcdlneompnhlaaGreatDoorShelf
import Derived.Deep.RegionHeld
import Derived.Laws.AppendOwnNone
import Derived.Test.YtpcdlneompnhlaaGreatDoorTyR
import Derived.Laws.OwnMore
import Derived.Test.YtpcdlneompnhlaaGreatDoorTyR1
import Derived.Test.YtpcdlneompnhlaaGreatDoorTyBu
import Derived.Test.YtpcdlneompnhlaaGreatDoorTyP1
import Derived.Test.YtpcdlneompnhlaaGreatDoorGrAH
import Derived.Test.YtpcdlneompnhlaaGreatDoorGrAS
import Derived.Test.YtpcdlneompnhlaaGreatDoorGrAT
namespace Go.Proofs.YtpcdlneompnhlaaGreatDoor.Tr
open Go Go.RowKit
open Go.Proofs.YtpcdlneompnhlaaGreatDoor.Lx

theorem Ex.szL_take (l : List Ex) (k : Nat) (e : Ex) (h : l[k]? = some e) : Ex.szL (l.take (k + 1)) = Ex.szL (l.take k) + e.sz := by
  induction l generalizing k with
  | nil => simp at h
  | cons x r ih =>
    cases k with
    | zero =>
      simp at h; subst h
      simp [Ex.szL]
    | succ k =>
      have := ih k (by simpa using h)
      simp only [List.take_succ_cons, Ex.szL]
      omega
theorem Ex.szL_take_le (l : List Ex) (k : Nat) : Ex.szL (l.take k) ≤ Ex.szL l := by
  induction l generalizing k with
  | nil => simp
  | cons x r ih =>
    cases k with
    | zero => simp [Ex.szL]
    | succ k =>
      have := ih k
      simp only [List.take_succ_cons, Ex.szL]
      omega
theorem Ex.sz_pos (e : Ex) : 1 ≤ e.sz := by obtain ⟨k, nm, n, a, cap, args, pos⟩ := e; unfold Ex.sz; omega
theorem Ex.szL_len (l : List Ex) : l.length ≤ Ex.szL l := by
  induction l with
  | nil => simp
  | cons x r ih =>
    have := Ex.sz_pos x
    unfold Ex.szL
    simp only [List.length_cons]
    omega
theorem St.sz_pos (e : St) : 1 ≤ e.sz := by obtain ⟨k, nm, to, nw, ea, ecap, e, ba, bcap, body, la, lcap, els, pos⟩ := e; unfold St.sz; omega
theorem St.szL_take (l : List St) (k : Nat) (e : St) (h : l[k]? = some e) : St.szL (l.take (k + 1)) = St.szL (l.take k) + e.sz := by
  induction l generalizing k with
  | nil => simp at h
  | cons x r ih =>
    cases k with
    | zero =>
      simp at h; subst h
      simp [St.szL]
    | succ k =>
      have := ih k (by simpa using h)
      simp only [List.take_succ_cons, St.szL]
      omega
theorem St.szL_len (l : List St) : l.length ≤ St.szL l := by
  induction l with
  | nil => simp
  | cons x r ih =>
    have := St.sz_pos x
    unfold St.szL
    simp only [List.length_cons]
    omega
theorem St.szL_take_le (l : List St) (k : Nat) (hk : k ≤ l.length) : St.szL (l.take k) + (l.length - k) ≤ St.szL l := by
  induction l generalizing k with
  | nil => simp
  | cons x r ih =>
    cases k with
    | zero => have := St.szL_len (x :: r); simp [St.szL] at this ⊢; omega
    | succ k =>
      have := ih k (by simpa using hk)
      simp only [List.take_succ_cons, St.szL, List.length_cons]
      omega
theorem De.szL_take (l : List De) (k : Nat) (e : De) (h : l[k]? = some e) : De.szL (l.take (k + 1)) = De.szL (l.take k) + St.szL e.body := by
  induction l generalizing k with
  | nil => simp at h
  | cons x r ih =>
    cases k with
    | zero =>
      simp at h; subst h
      simp [De.szL]
    | succ k =>
      have := ih k (by simpa using h)
      simp only [List.take_succ_cons, De.szL]
      omega
theorem De.szL_take_le (l : List De) (k : Nat) : De.szL (l.take k) ≤ De.szL l := by
  induction l generalizing k with
  | nil => simp
  | cons x r ih =>
    cases k with
    | zero => simp [De.szL]
    | succ k =>
      have := ih k
      simp only [List.take_succ_cons, De.szL]
      omega
set_option maxHeartbeats 8000000 in
set_option maxRecDepth 100000 in
theorem refExprSize_any : ∀ (s : Nat) (l : List Ex) (a : Option Addr) (cap : Nat) (w : World), Ex.szL l ≤ s → s ≤ 4194304 → RowAt w (fun _ => True) a cap l.length (exCells l) → Ex.InL w (fun _ => True) l →
    Calls Tryz.prog 84 #[.slice a l.length cap] w fun x w' => x = .returned (.int .i64 (Ex.szL l : Int)) ∧ Below w.heap.size w w' := by
  intro s
  induction s using Nat.strongRecOn with
  | _ s ih =>
    intro l a cap w hs hs4 hrow hin
    have hlen : l.length ≤ 4194304 := by have := Ex.szL_len l; omega
    have hcx := fun (k : Nat) (x : Ex) (W : World) (hx : l[k]? = some x) (hb : Below w.heap.size w W) => And.intro (Ex.In.below (Kps.of_below (S := fun _ => True) hb) _ (hin.get hx)) (ih (x.sz - 1) (by have := Ex.sz_get hx; have := Ex.sz_pos x; omega))
    replace hcx := Lib.hid hcx
    clear ih hin
    go_enter Tryz.func84, Tryz.ntmps84
    go_wp2_with fail
    go_loopw [3, 4] (fun n i wr => ∃ (k : Nat) (v : Int), k ≤ l.length ∧ n = .int .i64 v ∧ i = .int .i64 k ∧ 0 ≤ v ∧ v ≤ 8388608 ∧ Hid (v + k = l.length + Ex.szL (l.take k)) ∧ Below w.heap.size w wr) (fun _ i _ => l.length - (intOf i).toNat)
    case atStart => exact ⟨0, l.length, Nat.zero_le _, rfl, rfl, by omega, by omega, Lib.hid (by simp [Ex.szL]), Below.refl _ _⟩
    case round =>
      obtain ⟨k, v, hk, rfl, rfl, hv0, hv1, hv, hbr⟩ := hrel
      by_cases hlt : k < l.length
      · obtain ⟨x, hx⟩ : ∃ e, l[k]? = some e := ⟨l[k], by simp [hlt]⟩
        obtain ⟨b, off, rfl, _, hcell⟩ := ex_row hrow k x hx
        obtain ⟨hxin, hc⟩ := hcx.out k x wr hx hbr
        have hst := Ex.szL_take l k x hx
        have hxs := Ex.szL_take_le l (k + 1)
        obtain ⟨fk, fnm, fn', fa, fcap, fargs, fpos⟩ := x
        have hsz : Ex.sz (.mk fk fnm fn' fa fcap fargs fpos) = 1 + Ex.szL fargs := by unfold Ex.sz; rfl
        rw [hsz] at hst hc
        unfold Ex.In at hxin
        have hcc := hc fargs fa fcap wr (by omega) (by omega) hxin.2.2.2.2.1 hxin.2.2.2.2.2
        simp only [← Nat.add_assoc] at hcell
        have d3 := below_in hbr (hcell 3 _ rfl)
        have hu : Ex.szL fargs ≤ 4194304 := by omega
        have hvn := hv.out
        have hsum : 0 ≤ v + (Ex.szL fargs : Int) ∧ v + (Ex.szL fargs : Int) ≤ 8388608 := by omega
        have hsum2 : (v + (Ex.szL fargs : Int)) + ((k + 1 : Nat) : Int) = l.length + Ex.szL (l.take (k + 1)) := by omega
        replace hsum2 := Lib.hid hsum2
        obtain ⟨hsa, hsb⟩ := hsum
        generalize Ex.szL fargs = u at *
        replace hcc := Lib.hid hcc
        clear hcell hx hst hxs hsz hxin hc hvn hv
        go_wp2_with fail
        refine hcc.out.mono ?_
        rintro x W3 ⟨rfl, hb3⟩
        replace hb3 := Lib.hid hb3
        go_wp2_with fail
        go_roundw
        case rel => exact ⟨k + 1, v + u, by omega, rfl, by go_num, hsa, hsb, hsum2, hbr.trans (hb3.out.mono hbr.size)⟩
        case measure => simp [intOf]; omega
      · have hfin : Hid (v = (Ex.szL l : Int)) := Lib.hid (by have := hv.out; rw [List.take_of_length_le (by omega)] at this; omega)
        go_wp2_with fail
        go_ret
        exact ⟨ret_int hfin.out, hbr⟩
set_option maxHeartbeats 8000000 in
set_option maxRecDepth 100000 in
theorem refStmtSize_any : ∀ (s : Nat) (l : List St) (a : Option Addr) (cap : Nat) (w : World), St.szL l ≤ s → s ≤ 4194304 → RowAt w (fun _ => True) a cap l.length (stCells l) → St.InL w (fun _ => True) l →
    Calls Tryz.prog 42 #[.slice a l.length cap] w fun x w' => x = .returned (.int .i64 (St.szL l : Int)) ∧ Below w.heap.size w w' := by
  intro s
  induction s using Nat.strongRecOn with
  | _ s ih =>
    intro l a cap w hs hs4 hrow hin
    have hlen : l.length ≤ 4194304 := by have := St.szL_len l; omega
    have hcx := fun (k : Nat) (x : St) (W : World) (hx : l[k]? = some x) (hb : Below w.heap.size w W) => And.intro (St.In.below (Kps.of_below (S := fun _ => True) hb) _ (hin.get hx)) (ih (x.sz - 1) (by have := St.sz_get hx; have := St.sz_pos x; omega))
    replace hcx := Lib.hid hcx
    clear ih hin
    go_enter Tryz.func42, Tryz.ntmps42
    go_wp2_with fail
    go_loopw [3, 4] (fun n i wr => ∃ (k : Nat) (v : Int), k ≤ l.length ∧ n = .int .i64 v ∧ i = .int .i64 k ∧ 0 ≤ v ∧ v ≤ 8388608 ∧ Hid (v + k = l.length + St.szL (l.take k)) ∧ Below w.heap.size w wr) (fun _ i _ => l.length - (intOf i).toNat)
    case atStart => exact ⟨0, l.length, Nat.zero_le _, rfl, rfl, by omega, by omega, Lib.hid (by simp [St.szL]), Below.refl _ _⟩
    case round =>
      obtain ⟨k, v, hk, rfl, rfl, hv0, hv1, hv, hbr⟩ := hrel
      by_cases hlt : k < l.length
      · obtain ⟨x, hx⟩ : ∃ e, l[k]? = some e := ⟨l[k], by simp [hlt]⟩
        obtain ⟨b, off, rfl, _, hcell⟩ := st_row hrow k x hx
        obtain ⟨hxin, hrec⟩ := hcx.out k x wr hx hbr
        have hst := St.szL_take l k x hx
        have hxs := St.szL_take_le l (k + 1) (by omega)
        obtain ⟨xk, xnm, xto, xnw, ea, ecap, xe, ba, bcap, xbody, la, lcap, xels, xpos⟩ := x
        have hsz : St.sz (.mk xk xnm xto xnw ea ecap xe ba bcap xbody la lcap xels xpos) = 1 + Ex.szL xe + St.szL xbody + St.szL xels := by unfold St.sz; rfl
        rw [hsz] at hrec hst
        unfold St.In at hxin
        obtain ⟨_, _, _, _, re1, ie1, rb1, ib1, rl1, il1⟩ := hxin
        have cE := fun V (h : Below wr.heap.size wr V) => refExprSize_any (Ex.szL xe) xe ea ecap V (Nat.le_refl _) (by omega) (re1.below (Kps.of_below h)) (Ex.InL.below (Kps.of_below h) _ ie1)
        have cB := fun V (h : Below wr.heap.size wr V) => hrec xbody ba bcap V (by omega) (by omega) (rb1.below (Kps.of_below h)) (St.InL.below (Kps.of_below h) _ ib1)
        have cL := fun V (h : Below wr.heap.size wr V) => hrec xels la lcap V (by omega) (by omega) (rl1.below (Kps.of_below h)) (St.InL.below (Kps.of_below h) _ il1)
        have hvn := hv.out
        have hall : (Ex.szL xe : Int) + St.szL xbody + St.szL xels ≤ 4194304 := by omega
        have hsum : v + (Ex.szL xe : Int) + St.szL xbody + St.szL xels ≤ 8388608 := by omega
        have hsum2 : (v + (Ex.szL xe : Int) + St.szL xbody + St.szL xels) + ((k + 1 : Nat) : Int) = l.length + St.szL (l.take (k + 1)) := by omega
        replace hsum2 := Lib.hid hsum2
        have hE0 : (0 : Int) ≤ (Ex.szL xe : Int) := by omega
        have hB0 : (0 : Int) ≤ (St.szL xbody : Int) := by omega
        have hL0 : (0 : Int) ≤ (St.szL xels : Int) := by omega
        obtain ⟨vE, hvE⟩ : ∃ u : Int, u = (Ex.szL xe : Int) := ⟨_, rfl⟩
        obtain ⟨vB, hvB⟩ : ∃ u : Int, u = (St.szL xbody : Int) := ⟨_, rfl⟩
        obtain ⟨vL, hvL⟩ : ∃ u : Int, u = (St.szL xels : Int) := ⟨_, rfl⟩
        simp only [← hvE, ← hvB, ← hvL] at cE cB cL hall hsum hsum2 hE0 hB0 hL0
        replace hvE := Lib.hid hvE
        replace hvB := Lib.hid hvB
        replace hvL := Lib.hid hvL
        simp only [← Nat.add_assoc] at hcell
        have d4 := below_in hbr (hcell 4 _ rfl)
        have d5 := below_in hbr (hcell 5 _ rfl)
        have d6 := below_in hbr (hcell 6 _ rfl)
        have w1 : IntKind.i64.wrap (v + vE) = v + vE := IntWalk.i64_in _ (by omega)
        have w2 : IntKind.i64.wrap (v + vE + vB) = v + vE + vB := IntWalk.i64_in _ (by omega)
        have w3 : IntKind.i64.wrap (v + vE + vB + vL) = v + vE + vB + vL := IntWalk.i64_in _ (by omega)
        have mk : ∀ {c : FuncId} {args : Array Value} {u : Int} (hc : ∀ V, Below wr.heap.size wr V → Calls Tryz.prog c args V fun x w' => x = .returned (.int .i64 u) ∧ Below V.heap.size V w'), Hid (∀ V, (Below wr.heap.size wr V ∧ V.cell? ⟨b, off + k * 8 + 4, none⟩ = some (.slice ea xe.length ecap) ∧ V.cell? ⟨b, off + k * 8 + 5, none⟩ = some (.slice ba xbody.length bcap) ∧ V.cell? ⟨b, off + k * 8 + 6, none⟩ = some (.slice la xels.length lcap)) → Calls Tryz.prog c args V fun x w' => x = .returned (.int .i64 u) ∧ (Below wr.heap.size wr w' ∧ w'.cell? ⟨b, off + k * 8 + 4, none⟩ = some (.slice ea xe.length ecap) ∧ w'.cell? ⟨b, off + k * 8 + 5, none⟩ = some (.slice ba xbody.length bcap) ∧ w'.cell? ⟨b, off + k * 8 + 6, none⟩ = some (.slice la xels.length lcap))) := fun hc => Lib.hid fun V h => (hc V h.1).mono fun x w' h2 => ⟨h2.1, h.1.trans (h2.2.mono h.1.size), below_in h2.2 h.2.1, below_in h2.2 h.2.2.1, below_in h2.2 h.2.2.2⟩
        have cE' := mk cE
        have cB' := mk cB
        have cL' := mk cL
        have hS : Below wr.heap.size wr wr.drew ∧ wr.drew.cell? ⟨b, off + k * 8 + 4, none⟩ = some (.slice ea xe.length ecap) ∧ wr.drew.cell? ⟨b, off + k * 8 + 5, none⟩ = some (.slice ba xbody.length bcap) ∧ wr.drew.cell? ⟨b, off + k * 8 + 6, none⟩ = some (.slice la xels.length lcap) := ⟨(Below.refl _ _).drew, d4, d5, d6⟩
        replace hbr := Lib.hid hbr
        clear hcell hx hsz hrec mk cE cB cL re1 ie1 rb1 ib1 rl1 il1 hst hxs hvn hv
        go_wp2_with fail
        go_region_held3 (fun V => Below wr.heap.size wr V ∧ V.cell? ⟨b, off + k * 8 + 4, none⟩ = some (.slice ea xe.length ecap) ∧ V.cell? ⟨b, off + k * 8 + 5, none⟩ = some (.slice ba xbody.length bcap) ∧ V.cell? ⟨b, off + k * 8 + 6, none⟩ = some (.slice la xels.length lcap)) (first | exact hS | assumption) (first | (go_at_call 84; (with_reducible refine (cE'.out _ hS).mono ?_); (rintro x W1 ⟨rfl, hS⟩)) | (go_at_call 42; (with_reducible refine (cB'.out _ hS).mono ?_); (rintro x W2 ⟨rfl, hS⟩)) | (go_at_call 42; (with_reducible refine (cL'.out _ hS).mono ?_); (rintro x W3 ⟨rfl, hS⟩)))
        all_goals
          go_wp2_with fail
          go_roundw
          case rel => exact ⟨k + 1, v + vE + vB + vL, by omega, rfl, by go_num, by omega, hsum, hsum2, hbr.out.trans (hS.1.mono hbr.out.size)⟩
          case measure => simp [intOf]; omega
      · have hfin : Hid (v = (St.szL l : Int)) := Lib.hid (by have := hv.out; rw [List.take_of_length_le (by omega)] at this; omega)
        go_wp2_with fail
        go_ret
        exact ⟨ret_int hfin.out, hbr⟩
set_option maxHeartbeats 8000000 in
set_option maxRecDepth 100000 in
theorem refSize_any (l : List De) (a : Option Addr) (cap : Nat) (w : World) (hsz : De.szL l ≤ 4194304) (hlen : l.length ≤ 4194304) (hrow : RowAt w (fun _ => True) a cap l.length (deCells l)) (hin : De.InL w (fun _ => True) l) :
    Calls Tryz.prog 21 #[.slice a l.length cap] w fun x w' => x = .returned (.int .i64 ((l.length : Int) + De.szL l)) ∧ Below w.heap.size w w' := by
  have hcx := fun (k : Nat) (x : De) (W : World) (hx : l[k]? = some x) (hb : Below w.heap.size w W) => De.In.below (Kps.of_below (S := fun _ => True) hb) (hin x (List.mem_of_getElem? hx))
  replace hcx := Lib.hid hcx
  clear hin
  go_enter Tryz.func21, Tryz.ntmps21
  go_wp2_with fail
  go_loopw [3, 4] (fun n i wr => ∃ (k : Nat) (v : Int), k ≤ l.length ∧ n = .int .i64 v ∧ i = .int .i64 k ∧ 0 ≤ v ∧ v ≤ 8388608 ∧ Hid (v = l.length + De.szL (l.take k)) ∧ Below w.heap.size w wr) (fun _ i _ => l.length - (intOf i).toNat)
  case atStart => exact ⟨0, l.length, Nat.zero_le _, rfl, rfl, by omega, by omega, Lib.hid (by simp [De.szL]), Below.refl _ _⟩
  case round =>
    obtain ⟨k, v, hk, rfl, rfl, hv0, hv1, hv, hbr⟩ := hrel
    by_cases hlt : k < l.length
    · obtain ⟨x, hx⟩ : ∃ e, l[k]? = some e := ⟨l[k], by simp [hlt]⟩
      obtain ⟨b, off, rfl, _, hcell⟩ := de_row hrow k x hx
      have hxin := hcx.out k x wr hx hbr
      have hst := De.szL_take l k x hx
      have hst2 := De.szL_take_le l (k + 1)
      obtain ⟨xk, xnm, xn, pa, pcap, xp, ba, bcap, xbody, xpos⟩ := x
      replace hst : De.szL (l.take (k + 1)) = De.szL (l.take k) + St.szL xbody := hst
      obtain ⟨_, _, _, _, _, _, hrb, hib⟩ := hxin
      have hc := refStmtSize_any (St.szL xbody) xbody ba bcap wr (Nat.le_refl _) (by omega) hrb hib
      have hvn := hv.out
      have hsum : 0 ≤ v + (St.szL xbody : Int) ∧ v + (St.szL xbody : Int) ≤ 8388608 := by omega
      have hsum2 : Hid (v + (St.szL xbody : Int) = l.length + De.szL (l.take (k + 1))) := Lib.hid (by omega)
      simp only [← Nat.add_assoc] at hcell
      have d4 := below_in hbr (hcell 4 _ rfl)
      obtain ⟨hsa, hsb⟩ := hsum
      generalize St.szL xbody = u at *
      replace hc := Lib.hid hc
      clear hcell hrb hib hst hst2 hvn hv hx
      go_wp2_with fail
      refine hc.out.mono ?_
      rintro x W3 ⟨rfl, hb3⟩
      replace hb3 := Lib.hid hb3
      go_wp2_with fail
      go_roundw
      case rel => exact ⟨k + 1, v + u, by omega, rfl, by go_num, hsa, hsb, hsum2, hbr.trans (hb3.out.mono hbr.size)⟩
      case measure => simp [intOf]; omega
    · have hfin : Hid (v = (l.length : Int) + De.szL l) := Lib.hid (by have := hv.out; rw [List.take_of_length_le (by omega)] at this; exact this)
      go_wp2_with fail
      go_ret
      exact ⟨ret_int hfin.out, hbr⟩
end Go.Proofs.YtpcdlneompnhlaaGreatDoor.Tr

namespace Go.Proofs.YtpcdlneompnhlaaGreatDoor.Ty
open Go Go.RowKit
open Go.Proofs.YtpcdlneompnhlaaGreatDoor.Lx Go.Proofs.YtpcdlneompnhlaaGreatDoor.Tr Go.Proofs.YtpcdlneompnhlaaGreatDoor.Pa

theorem newNL_take : ∀ {l : List St} {k : Nat} {x : St}, l[k]? = some x → newNL (l.take (k + 1)) = newNL (l.take k) ++ newN x
  | y :: r, 0, x, h => by
    simp at h; subst h
    simp [newNL_cons, newNL_nil]
  | y :: r, k + 1, x, h => by
    simp only [List.take_succ_cons, newNL_cons, List.append_assoc]
    rw [newNL_take (by simpa using h)]
mutual
theorem newN_sz : ∀ x : St, (newN x).length ≤ St.sz x
  | .mk k nm to new ea ec e ba bc body la lc els pos => by
    have h1 := newNL_sz body
    have h2 := newNL_sz els
    have h3 : St.sz (.mk k nm to new ea ec e ba bc body la lc els pos) = 1 + Ex.szL e + St.szL body + St.szL els := by unfold St.sz; rfl
    rw [newN_eq, h3]
    simp only [List.length_append]
    have : (if k = 1 then [nm] else if k = 8 ∧ new = true then [to] else []).length ≤ 1 := by
      split
      · simp
      · split <;> simp
    omega
theorem newNL_sz : ∀ l : List St, (newNL l).length ≤ St.szL l
  | [] => by rw [newNL_nil]; simp
  | x :: r => by
    have h1 := newN_sz x
    have h2 := newNL_sz r
    rw [newNL_cons, List.length_append]; unfold St.szL; omega
end

/-- from one world and list to another by appends to the list's own row, and new memory -/
def Gr (w : World) (v : Value) (w' : World) (v' : Value) : Prop := w.grownBy w' v.ownBlock ∧ ∀ k, v'.ownBlock = some k → v.ownBlock = some k ∨ w.heap.size ≤ k
theorem Gr.refl (w : World) (v : Value) : Gr w v w v := ⟨⟨rfl, rfl, rfl, Nat.le_refl _, fun _ _ _ => rfl⟩, fun _ h => .inl h⟩
theorem Gr.trans {w w1 w2 : World} {v v1 v2 : Value} (h : Gr w v w1 v1) (k : Gr w1 v1 w2 v2) : Gr w v w2 v2 :=
  ⟨⟨k.1.os.trans h.1.os, k.1.tape.trans h.1.tape, k.1.output.trans h.1.output, Nat.le_trans h.1.size k.1.size, fun b hb hn =>
    (k.1.block b (Nat.lt_of_lt_of_le hb h.1.size) (fun e => by
      rcases h.2 b e.symm with h2 | h2
      · exact hn h2.symm
      · omega)).trans (h.1.block b hb hn)⟩,
   fun b hb => by
    rcases k.2 b hb with h2 | h2
    · exact h.2 b h2
    · exact .inr (Nat.le_trans h.1.size h2)⟩
theorem Gr.of_below {w w' : World} {v : Value} (h : Below w.heap.size w w') : Gr w v w' v := ⟨⟨h.os, h.tape, h.output, h.size, fun b hb _ => h.block b hb⟩, fun _ h => .inl h⟩
theorem Gr.alloc (w : World) (v : Value) (o : Obj) : Gr w v (w.alloc o) v := .of_below ((Below.refl _ _).alloc (Nat.le_refl _) _)
/-- the list so far: what it holds, and how it came there -/
structure Ap (B : Nat) (w : World) (v : Value) (w' : World) (v' : Value) (ns : List ByteArray) : Prop where
  acc : Acc KN 9 B w' v' ns
  gr : Gr w v w' v'
theorem Ap.start {B : Nat} {w : World} {v : Value} {ns : List ByteArray} (h : Acc KN 9 B w v ns) : Ap B w v w v ns := ⟨h, .refl _ _⟩
theorem Ap.trans {B : Nat} {w w1 w2 : World} {v v1 v2 : Value} {ns ns2 : List ByteArray} (h : Ap B w v w1 v1 ns) (k : Ap B w1 v1 w2 v2 ns2) : Ap B w v w2 v2 ns2 := ⟨k.acc, h.gr.trans k.gr⟩
theorem Ap.alloc {B : Nat} {w w1 : World} {v v1 : Value} {ns : List ByteArray} (h : Ap B w v w1 v1 ns) (o : Obj) : Ap B w v (w1.alloc o) v1 ns := ⟨h.acc.alloc o, h.gr.trans (.alloc _ _ _)⟩
theorem Gr.low {B : Nat} {w w' : World} {v v' : Value} (h : Gr w v w' v') (hB : B ≤ w.heap.size) (hv : ∀ k, v.ownBlock = some k → B ≤ k) : Below B w w' := Below.grown (Below.refl _ _) h.1 hB hv
theorem Gr.keep {w w' : World} {v v' : Value} (h : Gr w v w' v') {nb : Nat} {o : Obj} (hb : w.heap[nb]? = some o) (hne : v.ownBlock ≠ some nb) : w'.heap[nb]? = some o ∧ v'.ownBlock ≠ some nb := by
  have hlt := (Array.getElem?_eq_some_iff.1 hb).1
  refine ⟨(h.1.block nb hlt (fun e => hne e.symm)).trans hb, fun e => ?_⟩
  rcases h.2 nb e with h2 | h2
  · exact hne h2
  · omega
theorem kps_low {B : Nat} {w w' : World} (h : Below B w w') : Kps (fun b => b < B) w w' := fun b o _ hb hc => (h.cell (p := ⟨b, o, none⟩) hb).trans hc
/-- append of one name -/
theorem wpList_append_N {P : Program} {ops : Array Oper} {rest : List Oper} {o : Oper} {a : Act} {W : World} {Q : Exit → Act → World → Prop}
    (hg : o.guard = none) (s x : Operand) (t : TypeId) (hop : o.op = Op.call { callee := Callee.builtin Builtin.append, args := #[s, x], argTypes := #[t, t] })
    (i : TypeInfo) (z : Value) (h1 : P.underlying t = some (.slice 9)) (h2 : P.info? 9 = some i) (h3 : i.zero = some z) (h4 : i.size = 1) (h5 : i.bytes = 16) (h6 : z.cells.size = 1)
    {B : Nat} {v u : Value} {w : World} {ns : List ByteArray} (el : ByteArray) (hs : a.eval s = u) (hap : Ap B w v W u ns) (hel : el.size ≤ maxLen) (b : Nat) (hx : a.eval x = .slice (some ⟨b, 0, none⟩) 1 1)
    (hc : W.heap[b]? = some (.cells #[.string el] 9 (0, 0))) (hn : ns.length + 1 ≤ 1048576) (hbase : B ≤ W.heap.size)
    (hK : ∀ v' w', Ap B w v w' v' (ns ++ [el]) → Gr W u w' v' → wpList P ops Q rest (a.put o.dst v') w') :
    wpList P ops Q (o :: rest) a W := by
  refine wpList_append_own_at W hg s x t hop B 9 i z 1 16 h1 h2 h3 h4 h5 h6 (by decide) u ns.length (ns.flatMap KN.vals) hs hap.acc.own ⟨b, 0, none⟩ 1 1 (KN.vals el) hx rfl (fun j y hu => by
      have hadd : (⟨b, 0, none⟩ : Addr).add j = ⟨b, j, none⟩ := by
        unfold Addr.add
        by_cases h : j = 0
        · rw [if_pos h, h]
        · rw [if_neg h, Nat.zero_add]
      rw [hadd]; exact Pa.blk_cell hc (by simpa [KN] using hu)) (KN.one el) (by unfold maxLen; omega) (by omega) hbase
    (fun v' w' r1 r2 _ r3 => ?_)
  have hG : Gr W u w' v' := ⟨r2, fun k hk => by
    rcases r3 with h | h
    · exact .inl (h.symm.trans hk)
    · have := Option.some.inj (h.symm.trans hk); exact .inr (by omega)⟩
  exact hK v' w' ⟨hap.acc.snoc (x := el) hel r1 r2 r3, hap.gr.trans hG⟩ hG

set_option maxHeartbeats 8000000 in
set_option maxRecDepth 100000 in
theorem appendNew_any (B : Nat) : ∀ (s : Nat) (l : List St) (a : Option Addr) (cap : Nat) (v : Value) (ns : List ByteArray) (w : World), St.szL l ≤ s → ns.length + St.szL l ≤ 1048576 → RowAt w (fun b => b < B) a cap l.length (stCells l) → St.InL w (fun b => b < B) l → Acc KN 9 B w v ns → B ≤ w.heap.size →
    Calls Tryz.prog 45 #[v, .slice a l.length cap] w fun x w' => ∃ v', x = .returned v' ∧ Ap B w v w' v' (ns ++ newNL l) := by
  intro s
  induction s using Nat.strongRecOn with
  | _ s ih =>
    intro l a cap v ns w hs hn hrow hin hacc hB
    obtain ⟨i0, hi0, hz0, hz1, hz2⟩ := info_parts info_str
    have hlen : l.length ≤ 1048576 := by have := St.szL_len l; omega
    have hrec := Lib.hid (fun (x : St) (i : Nat) (hx : l[i]? = some x) => ih (x.sz - 1) (by have := St.sz_get hx; have := St.sz_pos x; omega))
    clear ih
    have hst : Hid (Ap B w v w v (ns ++ newNL (l.take 0))) := Lib.hid (by simpa [newNL_nil] using Ap.start hacc)
    have hown := Lib.hid (fun k (hk : v.ownBlock = some k) => (hacc.block k hk).1)
    clear hacc
    replace hrow := Lib.hid hrow
    replace hin := Lib.hid hin
    go_enter Tryz.func45, Tryz.ntmps45
    go_wp2_with fail
    go_loopw [0, 9] (fun u iv wr => ∃ i : Nat, iv = .int .i64 i ∧ i ≤ l.length ∧ Hid (Ap B w v wr u (ns ++ newNL (l.take i)))) (fun _ iv _ => l.length - (intOf iv).toNat)
    case atStart => exact ⟨0, rfl, Nat.zero_le _, hst⟩
    case round =>
      obtain ⟨i, rfl, hi, hA⟩ := hrel
      clear hst
      by_cases hlt : i < l.length
      · obtain ⟨x, hx⟩ : ∃ x, l[i]? = some x := ⟨_, List.getElem?_eq_getElem hlt⟩
        have htk := newNL_take hx
        have hszt := St.szL_take l i _ hx
        have hszl := St.szL_take_le l (i + 1) (by omega)
        have hnl := newNL_sz (l.take i)
        have hinx := St.InL.get hin.out hx
        have hrx := hrec.out x i hx
        obtain ⟨k, nm, to, new, ea, ec, e, ba, bc, body, la, lc, els, pos⟩ := x
        have h3 : St.sz (.mk k nm to new ea ec e ba bc body la lc els pos) = 1 + Ex.szL e + St.szL body + St.szL els := by unfold St.sz; rfl
        rw [h3] at hrx hszt
        rw [newN_eq] at htk
        unfold St.In at hinx
        obtain ⟨_, hnm, hto, _, _, _, rb1, ib1, rl1, il1⟩ := hinx
        have hlow := hA.out.gr.low hB hown.out
        obtain ⟨b, off, ha, hb, e0, e1, e2, e3, e4, e5, e6, e7⟩ := st_cells (hrow.out.below (kps_low hlow)) i k nm to new ea ec e ba bc body la lc els pos hx
        subst ha
        have hBr : Hid (B ≤ wr.heap.size) := Lib.hid (Nat.le_trans hB hlow.size)
        have hcb := Lib.hid (fun (V : World) (y : Value) (ms : List ByteArray) (hV : Ap B w v V y ms) (hm : ms.length + St.szL body ≤ 1048576) =>
          hrx body ba bc y ms V (by omega) hm (rb1.below (kps_low (hV.gr.low hB hown.out))) (St.InL.below (kps_low (hV.gr.low hB hown.out)) _ ib1) hV.acc (Nat.le_trans hB hV.gr.1.size))
        have hcl := Lib.hid (fun (V : World) (y : Value) (ms : List ByteArray) (hV : Ap B w v V y ms) (hm : ms.length + St.szL els ≤ 1048576) =>
          hrx els la lc y ms V (by omega) hm (rl1.below (kps_low (hV.gr.low hB hown.out))) (St.InL.below (kps_low (hV.gr.low hB hown.out)) _ il1) hV.acc (Nat.le_trans hB hV.gr.1.size))
        have hne : Hid (u0.ownBlock ≠ some wr.heap.size) := Lib.hid (fun h => by have := (hA.out.acc.block _ h).2; omega)
        have hl0 : Hid ((ns ++ newNL (l.take i)).length + 1 + St.szL body + St.szL els ≤ 1048576) := Lib.hid (by rw [List.length_append]; omega)
        have hbl := Lib.hid (newNL_sz body)
        have hi1 : (i : Int) < (l.length : Int) := by omega
        have hi0' : (0 : Int) ≤ (i : Int) := by omega
        obtain ⟨C, hC⟩ : ∃ C, Obj.cells #[.int .u8 k, .string nm, .string to, .bool new, .slice ea e.length ec, .slice ba body.length bc, .slice la els.length lc, .int .i64 pos] 60 (0, 0) = C := ⟨_, rfl⟩
        have hA1 := Lib.hid (hA.out.alloc C)
        have hG1 := Lib.hid (Gr.alloc wr u0 C)
        have hblk : Hid ((wr.alloc C).heap[wr.heap.size]? = some C) := Lib.hid (World.alloc_heap_new wr _)
        replace htk : ns ++ newNL (l.take (i + 1)) = (ns ++ newNL (l.take i)) ++ ((if k = 1 then [nm] else if k = 8 ∧ new = true then [to] else []) ++ (newNL body ++ newNL els)) := by rw [htk, List.append_assoc]
        generalize ns ++ newNL (l.take i) = ms at hA hA1 hl0 htk
        subst hC
        replace htk := Lib.hid htk
        clear hrx rb1 ib1 rl1 il1 hrec hx h3 hszt hszl hnl hA hlow hb hrow hin
        by_cases hk1 : k = 1
        · subst hk1
          go_wp2_with (at_builtin; refine wpList_append_N rfl (.tmp 17) (.tmp 20) 28 rfl i0 _ Tryz.underlying28 hi0 hz0 hz1 hz2 rfl (B := B) nm rfl (hA1.out.alloc _) hnm _ rfl (Tr.blk_new _ _ (by first | rfl | simp)) ?c2 ?c3 ?_)
          case c2 => have := hl0.out; omega
          case c3 => have := hBr.out; simp; omega
          intro v5 w5 hA5 hG5
          have hK5 := ((Gr.alloc _ u0 _).trans hG5).keep hblk.out hne.out
          clear hG5 hA1 hG1 hblk hne
          have d5 := (Tr.blk_cell hK5.1 (j := 5) (u := .slice ba body.length bc) rfl)
          have d6 := (Tr.blk_cell hK5.1 (j := 6) (u := .slice la els.length lc) rfl)
          have hl5 : (ms ++ [nm]).length + St.szL body ≤ 1048576 := by have := hl0.out; simp only [List.length_append, List.length_singleton]; omega
          have hl6 : (ms ++ [nm] ++ newNL body).length + St.szL els ≤ 1048576 := by have := hl0.out; have := hbl.out; simp only [List.length_append, List.length_singleton]; omega
          replace hA5 := Lib.hid hA5
          replace hK5 := Lib.hid hK5
          go_wp2_with fail
          refine (hcb.out _ _ _ hA5.out hl5).mono ?_
          rintro x6 w6 ⟨v6, rfl, hA6⟩
          have hK6 := hA6.gr.keep hK5.out.1 hK5.out.2
          have q6 := (Tr.blk_cell hK6.1 (j := 6) (u := .slice la els.length lc) rfl)
          replace hA6 := Lib.hid (hA5.out.trans hA6)
          clear hK6 hK5 hA5 hcb d5 d6
          go_wp2_with fail
          refine (hcl.out _ _ _ hA6.out hl6).mono ?_
          rintro x7 w7 ⟨v7, rfl, hA7⟩
          have hfin : Hid (Ap B w v w7 v7 (ns ++ newNL (l.take (i + 1)))) := Lib.hid (by rw [htk.out]; simpa [List.append_assoc] using hA6.out.trans hA7)
          clear hA7 hA6 hcl htk q6
          go_wp2_with fail
          go_roundw
          case rel => exact ⟨i + 1, by go_num, by omega, hfin⟩
          case measure => simp [intOf]; omega
        · by_cases hk8 : k = 8
          · subst hk8
            cases new
            case true =>
              go_wp2_with (at_builtin; refine wpList_append_N rfl (.tmp 30) (.tmp 33) 28 rfl i0 _ Tryz.underlying28 hi0 hz0 hz1 hz2 rfl (B := B) to rfl (hA1.out.alloc _) hto _ rfl (Tr.blk_new _ _ (by first | rfl | simp)) ?c2 ?c3 ?_)
              case c2 => have := hl0.out; omega
              case c3 => have := hBr.out; simp; omega
              intro v5 w5 hA5 hG5
              have hK5 := ((Gr.alloc _ u0 _).trans hG5).keep hblk.out hne.out
              clear hG5 hA1 hG1 hblk hne
              have d5 := (Tr.blk_cell hK5.1 (j := 5) (u := .slice ba body.length bc) rfl)
              have d6 := (Tr.blk_cell hK5.1 (j := 6) (u := .slice la els.length lc) rfl)
              have hl5 : (ms ++ [to]).length + St.szL body ≤ 1048576 := by have := hl0.out; simp only [List.length_append, List.length_singleton]; omega
              have hl6 : (ms ++ [to] ++ newNL body).length + St.szL els ≤ 1048576 := by have := hl0.out; have := hbl.out; simp only [List.length_append, List.length_singleton]; omega
              replace hA5 := Lib.hid hA5
              replace hK5 := Lib.hid hK5
              go_wp2_with fail
              refine (hcb.out _ _ _ hA5.out hl5).mono ?_
              rintro x6 w6 ⟨v6, rfl, hA6⟩
              have hK6 := hA6.gr.keep hK5.out.1 hK5.out.2
              have q6 := (Tr.blk_cell hK6.1 (j := 6) (u := .slice la els.length lc) rfl)
              replace hA6 := Lib.hid (hA5.out.trans hA6)
              clear hK6 hK5 hA5 hcb d5 d6
              go_wp2_with fail
              refine (hcl.out _ _ _ hA6.out hl6).mono ?_
              rintro x7 w7 ⟨v7, rfl, hA7⟩
              have hfin : Hid (Ap B w v w7 v7 (ns ++ newNL (l.take (i + 1)))) := Lib.hid (by rw [htk.out]; simpa [List.append_assoc] using hA6.out.trans hA7)
              clear hA7 hA6 hcl htk q6
              go_wp2_with fail
              go_roundw
              case rel => exact ⟨i + 1, by go_num, by omega, hfin⟩
              case measure => simp [intOf]; omega
            case false =>
              have hA5 := hA1.out
              have hK5 := And.intro hblk.out hne.out
              clear hA1 hG1 hblk hne
              have d5 := (Tr.blk_cell hK5.1 (j := 5) (u := .slice ba body.length bc) rfl)
              have d6 := (Tr.blk_cell hK5.1 (j := 6) (u := .slice la els.length lc) rfl)
              have hl5 : ms.length + St.szL body ≤ 1048576 := by have := hl0.out; omega
              have hl6 : (ms ++ newNL body).length + St.szL els ≤ 1048576 := by have := hl0.out; have := hbl.out; simp only [List.length_append]; omega
              replace hA5 := Lib.hid hA5
              replace hK5 := Lib.hid hK5
              go_wp2_with fail
              refine (hcb.out _ _ _ hA5.out hl5).mono ?_
              rintro x6 w6 ⟨v6, rfl, hA6⟩
              have hK6 := hA6.gr.keep hK5.out.1 hK5.out.2
              have q6 := (Tr.blk_cell hK6.1 (j := 6) (u := .slice la els.length lc) rfl)
              replace hA6 := Lib.hid (hA5.out.trans hA6)
              clear hK6 hK5 hA5 hcb d5 d6
              go_wp2_with fail
              refine (hcl.out _ _ _ hA6.out hl6).mono ?_
              rintro x7 w7 ⟨v7, rfl, hA7⟩
              have hfin : Hid (Ap B w v w7 v7 (ns ++ newNL (l.take (i + 1)))) := Lib.hid (by rw [htk.out]; simpa [List.append_assoc] using hA6.out.trans hA7)
              clear hA7 hA6 hcl htk q6
              go_wp2_with fail
              go_roundw
              case rel => exact ⟨i + 1, by go_num, by omega, hfin⟩
              case measure => simp [intOf]; omega
          · skip
            have hA5 := hA1.out
            have hK5 := And.intro hblk.out hne.out
            clear hA1 hG1 hblk hne
            have d5 := (Tr.blk_cell hK5.1 (j := 5) (u := .slice ba body.length bc) rfl)
            have d6 := (Tr.blk_cell hK5.1 (j := 6) (u := .slice la els.length lc) rfl)
            have hl5 : ms.length + St.szL body ≤ 1048576 := by have := hl0.out; omega
            have hl6 : (ms ++ newNL body).length + St.szL els ≤ 1048576 := by have := hl0.out; have := hbl.out; simp only [List.length_append]; omega
            replace hA5 := Lib.hid hA5
            replace hK5 := Lib.hid hK5
            go_wp2_with fail
            refine (hcb.out _ _ _ hA5.out hl5).mono ?_
            rintro x6 w6 ⟨v6, rfl, hA6⟩
            have hK6 := hA6.gr.keep hK5.out.1 hK5.out.2
            have q6 := (Tr.blk_cell hK6.1 (j := 6) (u := .slice la els.length lc) rfl)
            replace hA6 := Lib.hid (hA5.out.trans hA6)
            clear hK6 hK5 hA5 hcb d5 d6
            go_wp2_with fail
            refine (hcl.out _ _ _ hA6.out hl6).mono ?_
            rintro x7 w7 ⟨v7, rfl, hA7⟩
            have hfin : Hid (Ap B w v w7 v7 (ns ++ newNL (l.take (i + 1)))) := Lib.hid (by rw [htk.out]; simpa [List.append_assoc, hk1, hk8] using hA6.out.trans hA7)
            clear hA7 hA6 hcl htk q6
            go_wp2_with fail
            go_roundw
            case rel => exact ⟨i + 1, by go_num, by omega, hfin⟩
            case measure => simp [intOf]; omega
      · have hall : l.take i = l := List.take_of_length_le (by omega)
        rw [hall] at hA
        have hge : ¬ (i : Int) < (l.length : Int) := by omega
        go_wp2_with fail
        go_ret
        exact ⟨_, rfl, hA.out⟩
end Go.Proofs.YtpcdlneompnhlaaGreatDoor.Ty

namespace Go.Proofs.YtpcdlneompnhlaaGreatDoor.Ty
open Go Go.RowKit
open Go.Proofs.YtpcdlneompnhlaaGreatDoor.Lx Go.Proofs.YtpcdlneompnhlaaGreatDoor.Tr Go.Proofs.YtpcdlneompnhlaaGreatDoor.Pa

theorem ownsRow_low {w : World} {B B' : Nat} {e : TypeId} {k : Nat} {v : Value} {n : Nat} {xs : List Value} (hB : B' ≤ B) (h : w.ownsRow B e k v n xs) : w.ownsRow B' e k v n xs :=
  ⟨h.1, h.2.imp id fun ⟨g, cap, cur, hv, hg, r⟩ => ⟨g, cap, cur, hv, Nat.le_trans hB hg, r⟩⟩
/-- slices.Clone, of a row of texts -/
theorem cloneN_c {w : World} {S : Nat → Prop} {a : Option Addr} {cap : Nat} {ps : List ByteArray} (h : RowAt w S a cap ps.length (strCells ps)) (hp : ∀ p ∈ ps, p.size ≤ maxLen) (hl : ps.length ≤ 1048576) {V : World} {B : Nat} (hb : Below w.heap.size w V) (hB : B ≤ V.heap.size) :
    Calls Tryz.prog 46 #[.slice a ps.length cap] V fun e w' => ∃ v', e = .returned v' ∧ Acc KN 9 B w' v' ps ∧ Below V.heap.size V w' := by
  have key : ∀ (w' : World) (v' : Value), w'.ownsRow V.heap.size 9 1 v' ps.length (ps.map Value.string) → Acc KN 9 B w' v' ps := fun w' v' ho => ⟨ownsRow_low hB (by rw [flat_str]; exact ho), fun x hx => hp x hx⟩
  cases ps with
  | nil =>
    cases a with
    | none =>
      refine (Tryz.slices_Clone_string_nil 0 cap V).mono ?_
      rintro e w' ⟨rfl, rfl⟩
      exact ⟨_, rfl, Acc.nil _ _ _ _, Below.refl _ _⟩
    | some a =>
      refine (Tryz.slices_Clone_string_zero a cap V).mono ?_
      rintro e w' ⟨v', rfl, ho, _, hw⟩
      exact ⟨v', rfl, key _ _ ho, hw⟩
  | cons p r =>
    obtain ⟨b, off, rfl, _, _⟩ := h.at_ 0 (.string p) rfl
    refine (Tryz.slices_Clone_string b off (p :: r).length cap (p :: r) V (Nat.le_refl _) (by omega) (fun j hj => ?_)).mono ?_
    · obtain ⟨b', off', he, _, hc⟩ := h.at_ j (.string ((p :: r).getD j ByteArray.empty)) (by
        unfold strCells
        rw [List.getElem?_map, List.getD_eq_getElem?_getD, List.getElem?_eq_getElem hj]; rfl)
      cases he
      exact below_in hb hc
    · rintro e w' ⟨v', rfl, ho, _, hw⟩
      rw [List.take_length] at ho
      exact ⟨v', rfl, key _ _ ho, hw⟩

set_option maxHeartbeats 8000000 in
set_option maxRecDepth 100000 in
theorem locals_c {w : World} {S : Nat → Prop} {d : De} (hd : De.In w S d) (hk : d.kind = 4 ∨ d.kind = 5) (hn : d.params.length + St.szL d.body ≤ 1048576) :
    Calls Tryz.prog 24 #[.agg ⟨d.vals⟩] w fun x w' => ∃ v', x = .returned v' ∧ Acc KN 9 w.heap.size w' v' (d.params ++ newNL d.body) ∧ Below w.heap.size w w' := by
  obtain ⟨k, nm, n, pa, pc, ps, ba, bc, body, pos⟩ := d
  have hdb := hd.bds
  obtain ⟨h1, h2, h3, h4, hr, hp, hrb, hib⟩ := hdb
  simp only at hk hn hr hp hrb hib
  obtain ⟨C, hC⟩ : ∃ C, Obj.cells #[.int .u8 k, .string nm, .int .i64 n, .slice pa ps.length pc, .slice ba body.length bc, .int .i64 pos] 31 (0, 0) = C := ⟨_, rfl⟩
  have hbx : Below w.heap.size w (w.alloc C).drew := ((Below.refl _ _).alloc (Nat.le_refl _) _).drew
  have hblk : ((w.alloc C).drew).heap[w.heap.size]? = some C := World.alloc_heap_new w _
  have hcl := Lib.hid (cloneN_c hr hp (by omega) (B := w.heap.size + 1) hbx (by rw [show ((w.alloc C).drew).heap.size = (w.alloc C).heap.size from rfl]; simp))
  have hap := Lib.hid (fun (V : World) (v' : Value) (hV : Below w.heap.size w V) (ha : Acc KN 9 (w.heap.size + 1) V v' ps) (hs : w.heap.size + 1 ≤ V.heap.size) =>
    appendNew_any (w.heap.size + 1) (St.szL body) body ba bc v' ps V (Nat.le_refl _) hn ((hrb.mono (fun b hb => (by omega : b < w.heap.size))).below (kps_low hV) |>.mono (fun b hb => (by omega : b < w.heap.size + 1))) (St.InL.mono (fun b (hb : b < w.heap.size) => (by omega : b < w.heap.size + 1)) _ (St.InL.below (kps_low hV) _ (St.InL.mono (fun b hb => (by omega : b < w.heap.size)) _ hib))) ha hs)
  clear hd hr hp hrb hib h1 h2 h3 h4
  subst hC
  replace hblk := Lib.hid hblk
  replace hbx := Lib.hid hbx
  have d3 := Tr.blk_cell hblk.out (j := 3) (u := .slice pa ps.length pc) rfl
  have d4 := Tr.blk_cell hblk.out (j := 4) (u := .slice ba body.length bc) rfl
  have hk4 : (decide (k = 4) || decide (k = 5)) = true := by simpa using hk
  have hS : (fun X : World => X.cell? ⟨w.heap.size, 3, none⟩ = some (.slice pa ps.length pc) ∧ X.cell? ⟨w.heap.size, 4, none⟩ = some (.slice ba body.length bc)) (w.alloc (Obj.cells #[.int .u8 k, .string nm, .int .i64 n, .slice pa ps.length pc, .slice ba body.length bc, .int .i64 pos] 31)).drew := ⟨d3, d4⟩
  have hv : (⟨De.vals ⟨k, nm, n, pa, pc, ps, ba, bc, body, pos⟩⟩ : Array Value) = #[.int .u8 k, .string nm, .int .i64 n, .slice pa ps.length pc, .slice ba body.length bc, .int .i64 pos] := rfl
  rw [hv]
  clear hv
  go_enter Tryz.func24, Tryz.ntmps24
  rcases hk with rfl | rfl
  · go_upto_region 3 with fail
    refine wp_region_noPanic ?_
    refine wp_region_held_drew (S := (fun X : World => X.cell? ⟨w.heap.size, 3, none⟩ = some (.slice pa ps.length pc) ∧ X.cell? ⟨w.heap.size, 4, none⟩ = some (.slice ba body.length bc))) (by kernel_rfl) hS (fun hHeld => ?_)
    refine' wpAnyH_take (i := 0) (oi := _) (v := _) rfl (by kernel_rfl) (by kernel_rfl) (by kernel_rfl) (fun _ _ _ h => h) (Or.inl ⟨by rfl, ?hyap0⟩) (by assumption) ?restap0
    case hyap0 => (intro w hSw; obtain ⟨s3, s4⟩ := hSw; go_simp; all_goals (with_reducible rfl))
    try simp only [Act.put, List.getElem_toArray, List.getElem_cons_zero, List.setIfInBounds_toArray, List.set_cons_zero, List.set_cons_succ]
    refine' wpAnyH_take (i := 1) (oi := _) (v := _) rfl (by kernel_rfl) (by kernel_rfl) (by kernel_rfl) (fun _ _ _ h => h) (Or.inl ⟨by rfl, ?hyap1⟩) (by assumption) ?restap1
    case hyap1 => (intro w hSw; obtain ⟨s3, s4⟩ := hSw; go_simp; all_goals (with_reducible rfl))
    try simp only [Act.put, List.getElem_toArray, List.getElem_cons_zero, List.getElem_cons_succ, List.setIfInBounds_toArray, List.set_cons_zero, List.set_cons_succ]
    refine' wpAnyH_take (i := 3) (oi := _) (v := _) rfl (by kernel_rfl) (by kernel_rfl) (by kernel_rfl) (fun _ _ _ h => h) (Or.inl ⟨by rfl, ?hyap3⟩) (by assumption) ?restap3
    case hyap3 => (intro w hSw; obtain ⟨s3, s4⟩ := hSw; go_simp; all_goals (with_reducible rfl))
    try simp only [Act.put, List.getElem_toArray, List.getElem_cons_zero, List.getElem_cons_succ, List.setIfInBounds_toArray, List.set_cons_zero, List.set_cons_succ]
    refine' wpAnyH_take (i := 4) (oi := _) (v := _) rfl (by kernel_rfl) (by kernel_rfl) (by kernel_rfl) (fun _ _ _ h => h) (Or.inl ⟨by rfl, ?hyap4⟩) (by assumption) ?restap4
    case hyap4 => (intro w hSw; obtain ⟨s3, s4⟩ := hSw; go_simp; all_goals (with_reducible rfl))
    try simp only [Act.put, List.getElem_toArray, List.getElem_cons_zero, List.getElem_cons_succ, List.setIfInBounds_toArray, List.set_cons_zero, List.set_cons_succ]
    refine wpAnyH_ready (rs := [2]) (by kernel_rfl) (by simp) ?_
    refine AllReadyH.cons (o := _) rfl (fun K hK => ?_) AllReadyH.nil
    go_simp
    go_at_call 46
    refine hcl.out.mono ?_
    rintro e w7 ⟨v, rfl, hA, hb7⟩
    have hbw7 := hbx.out.trans (hb7.mono (by simp))
    have hS7 : (fun X : World => X.cell? ⟨w.heap.size, 3, none⟩ = some (.slice pa ps.length pc) ∧ X.cell? ⟨w.heap.size, 4, none⟩ = some (.slice ba body.length bc)) w7 := ⟨below_in hb7 hS.1, below_in hb7 hS.2⟩
    have hs7 : w.heap.size + 1 ≤ w7.heap.size := by have := hb7.size; simpa using this
    refine hK.out _ _ hS7 (fun hHeld => ?_)
    clear hK K
    try simp only [Act.put, List.getElem_toArray, List.getElem_cons_zero, List.getElem_cons_succ, List.setIfInBounds_toArray, List.set_cons_zero, List.set_cons_succ]
    refine wpAnyH_ready (rs := [5]) (by kernel_rfl) (by simp) ?_
    refine AllReadyH.cons (o := _) rfl (fun K hK => ?_) AllReadyH.nil
    go_simp
    go_at_call 45
    refine (hap.out _ _ hbw7 hA hs7).mono ?_
    rintro e w8 ⟨v8, rfl, hA8⟩
    have hb8 := hA8.gr.low hs7 (fun k hk => (hA.block k hk).1)
    have hS8 : (fun X : World => X.cell? ⟨w.heap.size, 3, none⟩ = some (.slice pa ps.length pc) ∧ X.cell? ⟨w.heap.size, 4, none⟩ = some (.slice ba body.length bc)) w8 := ⟨(hb8.cell (p := ⟨w.heap.size, 3, none⟩) (Nat.lt_succ_self _)).trans hS7.1, (hb8.cell (p := ⟨w.heap.size, 4, none⟩) (Nat.lt_succ_self _)).trans hS7.2⟩
    have hbw8 := Lib.hid (hbw7.trans (hb8.mono (Nat.le_succ _)))
    have hA9 : Hid (Acc KN 9 w.heap.size w8 v8 (ps ++ newNL body)) := Lib.hid ⟨ownsRow_low (Nat.le_succ _) hA8.acc.own, fun x hx => hA8.acc.inn x hx⟩
    refine hK.out _ _ hS8 (fun hHeld => ?_)
    clear hK K
    try simp only [Act.put, List.getElem_toArray, List.getElem_cons_zero, List.getElem_cons_succ, List.setIfInBounds_toArray, List.set_cons_zero, List.set_cons_succ]
    clear hA hA8 hb8 hb7 hbw7 hap hcl
    refine wpAnyH_ready (rs := [6]) (by kernel_rfl) (by simp) ?_
    refine AllReadyH.cons (o := _) rfl (fun K hK => ?_) AllReadyH.nil
    go_simp
    refine hK.out _ _ hS8 (fun hHeld => ?_)
    clear hK K
    refine wpAnyH_done (by kernel_rfl) ?_ _
    refine NoPanic.normal ?_
    go_wp2_with fail
    go_ret
    exact ⟨_, rfl, hA9.out, hbw8.out⟩
  · go_upto_region 3 with fail
    refine wp_region_noPanic ?_
    refine wp_region_held_drew (S := (fun X : World => X.cell? ⟨w.heap.size, 3, none⟩ = some (.slice pa ps.length pc) ∧ X.cell? ⟨w.heap.size, 4, none⟩ = some (.slice ba body.length bc))) (by kernel_rfl) hS (fun hHeld => ?_)
    refine' wpAnyH_take (i := 0) (oi := _) (v := _) rfl (by kernel_rfl) (by kernel_rfl) (by kernel_rfl) (fun _ _ _ h => h) (Or.inl ⟨by rfl, ?hyaq0⟩) (by assumption) ?restaq0
    case hyaq0 => (intro w hSw; obtain ⟨s3, s4⟩ := hSw; go_simp; all_goals (with_reducible rfl))
    try simp only [Act.put, List.getElem_toArray, List.getElem_cons_zero, List.setIfInBounds_toArray, List.set_cons_zero, List.set_cons_succ]
    refine' wpAnyH_take (i := 1) (oi := _) (v := _) rfl (by kernel_rfl) (by kernel_rfl) (by kernel_rfl) (fun _ _ _ h => h) (Or.inl ⟨by rfl, ?hyaq1⟩) (by assumption) ?restaq1
    case hyaq1 => (intro w hSw; obtain ⟨s3, s4⟩ := hSw; go_simp; all_goals (with_reducible rfl))
    try simp only [Act.put, List.getElem_toArray, List.getElem_cons_zero, List.getElem_cons_succ, List.setIfInBounds_toArray, List.set_cons_zero, List.set_cons_succ]
    refine' wpAnyH_take (i := 3) (oi := _) (v := _) rfl (by kernel_rfl) (by kernel_rfl) (by kernel_rfl) (fun _ _ _ h => h) (Or.inl ⟨by rfl, ?hyaq3⟩) (by assumption) ?restaq3
    case hyaq3 => (intro w hSw; obtain ⟨s3, s4⟩ := hSw; go_simp; all_goals (with_reducible rfl))
    try simp only [Act.put, List.getElem_toArray, List.getElem_cons_zero, List.getElem_cons_succ, List.setIfInBounds_toArray, List.set_cons_zero, List.set_cons_succ]
    refine' wpAnyH_take (i := 4) (oi := _) (v := _) rfl (by kernel_rfl) (by kernel_rfl) (by kernel_rfl) (fun _ _ _ h => h) (Or.inl ⟨by rfl, ?hyaq4⟩) (by assumption) ?restaq4
    case hyaq4 => (intro w hSw; obtain ⟨s3, s4⟩ := hSw; go_simp; all_goals (with_reducible rfl))
    try simp only [Act.put, List.getElem_toArray, List.getElem_cons_zero, List.getElem_cons_succ, List.setIfInBounds_toArray, List.set_cons_zero, List.set_cons_succ]
    refine wpAnyH_ready (rs := [2]) (by kernel_rfl) (by simp) ?_
    refine AllReadyH.cons (o := _) rfl (fun K hK => ?_) AllReadyH.nil
    go_simp
    go_at_call 46
    refine hcl.out.mono ?_
    rintro e w7 ⟨v, rfl, hA, hb7⟩
    have hbw7 := hbx.out.trans (hb7.mono (by simp))
    have hS7 : (fun X : World => X.cell? ⟨w.heap.size, 3, none⟩ = some (.slice pa ps.length pc) ∧ X.cell? ⟨w.heap.size, 4, none⟩ = some (.slice ba body.length bc)) w7 := ⟨below_in hb7 hS.1, below_in hb7 hS.2⟩
    have hs7 : w.heap.size + 1 ≤ w7.heap.size := by have := hb7.size; simpa using this
    refine hK.out _ _ hS7 (fun hHeld => ?_)
    clear hK K
    try simp only [Act.put, List.getElem_toArray, List.getElem_cons_zero, List.getElem_cons_succ, List.setIfInBounds_toArray, List.set_cons_zero, List.set_cons_succ]
    refine wpAnyH_ready (rs := [5]) (by kernel_rfl) (by simp) ?_
    refine AllReadyH.cons (o := _) rfl (fun K hK => ?_) AllReadyH.nil
    go_simp
    go_at_call 45
    refine (hap.out _ _ hbw7 hA hs7).mono ?_
    rintro e w8 ⟨v8, rfl, hA8⟩
    have hb8 := hA8.gr.low hs7 (fun k hk => (hA.block k hk).1)
    have hS8 : (fun X : World => X.cell? ⟨w.heap.size, 3, none⟩ = some (.slice pa ps.length pc) ∧ X.cell? ⟨w.heap.size, 4, none⟩ = some (.slice ba body.length bc)) w8 := ⟨(hb8.cell (p := ⟨w.heap.size, 3, none⟩) (Nat.lt_succ_self _)).trans hS7.1, (hb8.cell (p := ⟨w.heap.size, 4, none⟩) (Nat.lt_succ_self _)).trans hS7.2⟩
    have hbw8 := Lib.hid (hbw7.trans (hb8.mono (Nat.le_succ _)))
    have hA9 : Hid (Acc KN 9 w.heap.size w8 v8 (ps ++ newNL body)) := Lib.hid ⟨ownsRow_low (Nat.le_succ _) hA8.acc.own, fun x hx => hA8.acc.inn x hx⟩
    refine hK.out _ _ hS8 (fun hHeld => ?_)
    clear hK K
    try simp only [Act.put, List.getElem_toArray, List.getElem_cons_zero, List.getElem_cons_succ, List.setIfInBounds_toArray, List.set_cons_zero, List.set_cons_succ]
    clear hA hA8 hb8 hb7 hbw7 hap hcl
    refine wpAnyH_ready (rs := [6]) (by kernel_rfl) (by simp) ?_
    refine AllReadyH.cons (o := _) rfl (fun K hK => ?_) AllReadyH.nil
    go_simp
    refine hK.out _ _ hS8 (fun hHeld => ?_)
    clear hK K
    refine wpAnyH_done (by kernel_rfl) ?_ _
    refine NoPanic.normal ?_
    go_wp2_with fail
    go_ret
    exact ⟨_, rfl, hA9.out, hbw8.out⟩
end Go.Proofs.YtpcdlneompnhlaaGreatDoor.Ty

namespace Go.Proofs.YtpcdlneompnhlaaGreatDoor.Tr
open Go Go.RowKit
open Go.Proofs.YtpcdlneompnhlaaGreatDoor.Lx
section
variable {α : Type} {K : Kd α} {e : TypeId} {B : Nat} {W W' : World} {v : Value} {l : List α}
theorem AccS.app {xs : List α} {v' : Value} (h : AccS K e B W v l) (hx : ∀ x ∈ xs, K.In W (fun b => v.ownBlock ≠ some b) x) (hown : W'.ownsRow B e K.c v' (l.length + xs.length) (l.flatMap K.vals ++ xs.flatMap K.vals)) (hg : W.grownBy W' v.ownBlock)
    (ho : v'.ownBlock = v.ownBlock ∨ v'.ownBlock = some W.heap.size) : AccS K e B W' v' (l ++ xs) := by
  have key : ∀ y, K.In W (fun b => v.ownBlock ≠ some b) y → K.In W' (fun b => v'.ownBlock ≠ some b) y := fun y hy =>
    K.mono (fun b (hb : v.ownBlock ≠ some b ∧ b < W.heap.size) => fun hv => by
      rcases ho with ho | ho
      · exact hb.1 (ho.symm.trans hv)
      · have := Option.some.inj (ho.symm.trans hv); omega) (K.below (S := fun b => v.ownBlock ≠ some b ∧ b < W.heap.size) (fun b o u hb hc => (World.cell?_of_block (hg.block b hb.2 (fun hh => hb.1 hh.symm))).trans hc) (K.bds hy))
  refine ⟨?_, fun y hy => ?_⟩
  · rw [List.length_append, List.flatMap_append]
    exact hown
  · rcases List.mem_append.1 hy with hy | hy
    · exact key y (h.inn y hy)
    · exact key y (hx y hy)
theorem flat_length (K : Kd α) : ∀ l : List α, (l.flatMap K.vals).length = l.length * K.c
  | [] => by simp
  | e :: r => by rw [List.flatMap_cons, List.length_append, K.len, flat_length K r, List.length_cons, Nat.succ_mul, Nat.add_comm]
end
theorem wpList_append_L {P : Program} {ops : Array Oper} {rest : List Oper} {o : Oper} {a : Act} {w : World} {Q : Exit → Act → World → Prop} {α : Type} (D : Kd α)
    (hg : o.guard = none) (s x : Operand) (t : TypeId) (hop : o.op = Op.call { callee := Callee.builtin Builtin.append, args := #[s, x], argTypes := #[t, t] })
    (e : TypeId) (i : TypeInfo) (z : Value) (size bytes : Nat) (h1 : P.underlying t = some (.slice e)) (h2 : P.info? e = some i) (h3 : i.zero = some z) (h4 : i.size = size) (h5 : i.bytes = bytes) (h6 : z.cells.size = size) (h7 : 0 < size) (hD : D.c = size) (h1c : ∀ x, ∀ u ∈ D.vals x, u.oneCell' = true)
    (base : Nat) (v : Value) (l : List α) (hs : a.eval s = v) (hacc : AccS D e base w v l) (xs : List α) (ao : Option Addr) (c : Nat) (hx : a.eval x = .slice ao xs.length c) (hrow : RowAt w (fun _ => True) ao c xs.length (xs.flatMap D.vals)) (hel : ∀ y ∈ xs, D.In w (fun b => v.ownBlock ≠ some b) y)
    (hn : l.length + xs.length ≤ maxLen) (hby : (l.length + xs.length) * bytes ≤ 140737488355328) (hbase : base ≤ w.heap.size)
    (hK : ∀ v' w', AccS D e base w' v' (l ++ xs) → w.grownBy w' v.ownBlock → wpList P ops Q rest (a.put o.dst v') w') :
    wpList P ops Q (o :: rest) a w := by
  subst hD
  cases ao with
  | none =>
    have hc0 := hrow.nil rfl
    have hl0 : xs.length = 0 := by have := hrow.le; omega
    obtain rfl := List.eq_nil_of_length_eq_zero hl0
    subst hc0
    refine wpList_append_own_none hg s x t hop base e i D.c h1 h2 v l.length (l.flatMap D.vals) hs hacc.own hx (hK v w ?_ ⟨rfl, rfl, rfl, Nat.le_refl _, fun _ _ _ => rfl⟩)
    rw [List.append_nil]
    exact hacc
  | some ad =>
    refine wpList_append_own_at w hg s x t hop base e i z D.c bytes h1 h2 h3 h4 h5 h6 h7 v l.length (l.flatMap D.vals) hs hacc.own ad xs.length c (xs.flatMap D.vals) hx (flat_length D xs) (fun j u hu => ?_) (fun u hu => ?_) hn hby hbase
      (fun v' w' r1 r2 _ r3 => hK v' w' (hacc.app hel r1 r2 r3) r2)
    · obtain ⟨b, off, ha, _, hcell⟩ := hrow.at_ j u hu
      obtain rfl := Option.some.inj ha
      rw [Go.WideShapes.add_plain]
      exact hcell
    · obtain ⟨y, _, hy⟩ := List.mem_flatMap.1 hu
      exact h1c y u hy
end Go.Proofs.YtpcdlneompnhlaaGreatDoor.Tr

namespace Go.Proofs.YtpcdlneompnhlaaGreatDoor.Ty
open Go Go.RowKit
open Go.Proofs.YtpcdlneompnhlaaGreatDoor.Lx Go.Proofs.YtpcdlneompnhlaaGreatDoor.Tr Go.Proofs.YtpcdlneompnhlaaGreatDoor.Pa

set_option maxHeartbeats 8000000 in
set_option maxRecDepth 100000 in
theorem locals_no {w : World} {d : De} (hk4 : ¬ d.kind = 4) (hk5 : ¬ d.kind = 5) :
    Calls Tryz.prog 24 #[.agg ⟨d.vals⟩] w fun x w' => x = .returned (.slice none 0 0) ∧ Below w.heap.size w w' := by
  obtain ⟨k, nm, n, pa, pc, ps, ba, bc, body, pos⟩ := d
  simp only at hk4 hk5
  have hv : (⟨De.vals ⟨k, nm, n, pa, pc, ps, ba, bc, body, pos⟩⟩ : Array Value) = #[.int .u8 k, .string nm, .int .i64 n, .slice pa ps.length pc, .slice ba body.length bc, .int .i64 pos] := rfl
  rw [hv]
  clear hv
  have hb := Lib.hid (((Below.refl w.heap.size w).alloc (Nat.le_refl _) (Obj.cells #[.int .u8 k, .string nm, .int .i64 n, .slice pa ps.length pc, .slice ba body.length bc, .int .i64 pos] 31)))
  have hn4 : (k != 4) = true := by simpa using hk4
  have hn5 : (k != 5) = true := by simpa using hk5
  go_enter Tryz.func24, Tryz.ntmps24
  go_wp2_with fail
  go_ret
  exact ⟨rfl, hb.out⟩

set_option maxHeartbeats 8000000 in
set_option maxRecDepth 100000 in
theorem turned_c {w : World} {S : Nat → Prop} {l : List De} {a : Option Addr} {cap : Nat} (hrow : RowAt w S a cap l.length (deCells l)) (hin : De.InL w S l) (hlen : l.length ≤ 1048576) :
    Calls Tryz.prog 23 #[.slice a l.length cap] w fun x w' => ∃ a' cap' l', x = .returned (.slice a' l'.length cap') ∧ RowAt w' (fun _ => True) a' cap' l'.length (deCells l') ∧ De.InL w' (fun _ => True) l' ∧ l'.Perm l ∧ Below w.heap.size w w' := by
  obtain ⟨i0, hi0, hz0, hz1, hz2⟩ := info_parts info_de
  have hcx := Lib.hid (fun (k : Nat) (x : De) (W : World) (hx : l[k]? = some x) (hb : Below w.heap.size w W) => (De.In.below (kps_low hb) ((hin x (List.mem_of_getElem? hx)).bds.mono (fun b hb => hb.2)) : De.In W (fun b => b < w.heap.size) x))
  have hrw := Lib.hid hrow
  have hst : Hid (AccS KDe 31 w.heap.size w (.slice none 0 0) []) := Lib.hid (AccS.nil _ _ _ _)
  have hb0 : Hid (Below w.heap.size w w) := Lib.hid (Below.refl _ _)
  clear hin hrow
  have hw0 : IntKind.i64.wrap ((l.length : Int) - 1) = (l.length : Int) - 1 := IntWalk.i64_in _ (by omega)
  go_enter Tryz.func23, Tryz.ntmps23
  go_wp2_with fail
  go_loopw [3, 4] (fun v iv wr => ∃ (k : Nat) (acc : List De), k ≤ l.length ∧ iv = .int .i64 ((l.length : Int) - 1 - (k : Int)) ∧ Hid (AccS KDe 31 w.heap.size wr v acc) ∧ Hid (acc.Perm (l.drop (l.length - k))) ∧ Hid (Below w.heap.size w wr)) (fun _ iv _ => (intOf iv + 1).toNat)
  case atStart => exact ⟨0, [], Nat.zero_le _, by simp, hst, Lib.hid (by simp), hb0⟩
  case round =>
    obtain ⟨k, acc, hk, hu, hacc, hpm, hbr⟩ := hrel
    clear hst hb0 hw0
    have hbs := Lib.hid hbr.out.size
    have hal : Hid (acc.length = k) := Lib.hid (by have := hpm.out.length_eq; rw [List.length_drop] at this; omega)
    by_cases hlt : k < l.length
    · obtain ⟨j, hj⟩ : ∃ j, l.length = j + k + 1 := ⟨l.length - k - 1, by omega⟩
      have hiv : (l.length : Int) - 1 - (k : Int) = (j : Int) := by omega
      rw [hiv] at hu
      subst hu
      obtain ⟨x, hx⟩ : ∃ x, l[j]? = some x := ⟨_, List.getElem?_eq_getElem (by omega)⟩
      have hdr : l.drop (l.length - (k + 1)) = x :: l.drop (l.length - k) := by
        rw [show l.length - (k + 1) = j by omega, drop_cons hx, show j + 1 = l.length - k by omega]
      obtain ⟨b, off, rfl, _, e0, e1, e2, e3, e4, e5⟩ := de_at hrw.out hx
      replace e0 := below_in hbr.out e0
      replace e1 := below_in hbr.out e1
      replace e2 := below_in hbr.out e2
      replace e3 := below_in hbr.out e3
      replace e4 := below_in hbr.out e4
      replace e5 := below_in hbr.out e5
      have hxin := Lib.hid (hcx.out j x wr hx hbr.out)
      obtain ⟨xk, xnm, xn, pa, pc, ps, ba, bc, body, pos⟩ := x
      simp only at e0 e1 e2 e3 e4 e5
      have hj0 : (0 : Int) ≤ (j : Int) := by omega
      have hj1 : (j : Int) < (l.length : Int) := by omega
      have hjw : IntKind.i64.wrap ((j : Int) - 1) = (j : Int) - 1 := IntWalk.i64_in _ (by omega)
      have hnx : (j : Int) - 1 = (l.length : Int) - 1 - ((k + 1 : Nat) : Int) := by omega
      replace hnx := Lib.hid hnx
      replace hdr := Lib.hid hdr
      have hkk : k + 1 ≤ l.length := hlt
      clear hx hj hiv
      by_cases hev : j % 2 = 0
      · have hrem : (j : Int).tmod 2 = 0 := by rw [Int.tmod_eq_emod_of_nonneg hj0]; omega
        have hel : Hid (KDe.In wr (fun b => u3.ownBlock ≠ some b) (De.mk xk xnm xn pa pc ps ba bc body pos)) := Lib.hid (KDe.mono (fun b (hb : b < w.heap.size) hv => by have := (hacc.out.block b hv).1; omega) hxin.out)
        go_wp2_with (at_builtin; refine wpList_append_S KDe rfl (.tmp 15) (.tmp 20) (.tmp 19) 22 rfl 31 i0 _ 6 88 Tryz.underlying22 hi0 hz0 hz1 hz2 rfl (by decide) rfl De.vals_one w.heap.size _ acc (De.mk xk xnm xn pa pc ps ba bc body pos) rfl (hacc.out.alloc _) (KDe.below (Kps.alloc _ _) hel.out) _ rfl rfl (0, 0) (Tr.blk_new _ _ rfl) ?c1 ?c2 ?c3 ?_)
        case c1 => have := hal.out; unfold maxLen; omega
        case c2 => have := hal.out; omega
        case c3 => have := hbs.out; simp; omega
        intro v5 w5 hacc5 hg5
        have hb5 := Lib.hid (AccS.belowA hacc.out hbr.out (Nat.le_refl _) hbs.out hg5)
        replace hacc5 := Lib.hid hacc5
        have hpm5 : Hid ((acc ++ [De.mk xk xnm xn pa pc ps ba bc body pos]).Perm (l.drop (l.length - (k + 1)))) := Lib.hid (by rw [hdr.out]; exact (List.perm_append_singleton _ _).trans (hpm.out.cons _))
        clear hg5 hacc hel hpm hbr hdr e0 e1 e2 e3 e4 e5
        go_wp2_with fail
        go_roundw
        case rel => exact ⟨k + 1, _, hkk, by rw [← hnx.out], hacc5, hpm5, hb5⟩
        case measure => (simp [intOf]; try omega)
      · have hrem : (j : Int).tmod 2 = 1 := by rw [Int.tmod_eq_emod_of_nonneg hj0]; omega
        obtain ⟨ao, ac, hv3, hr, hi⟩ := hacc.out.out
        subst hv3
        have hnew : Hid (AccS KDe 31 w.heap.size (wr.alloc (.cells #[.int .u8 xk, .string xnm, .int .i64 xn, .slice pa ps.length pc, .slice ba body.length bc, .int .i64 pos] 31)) (.slice (some ⟨wr.heap.size, 0, none⟩) 1 1) [De.mk xk xnm xn pa pc ps ba bc body pos]) := Lib.hid ⟨World.ownsRow_lit wr _ 1 hbs.out (by unfold maxLen; omega) rfl, fun y hy => by
          rw [List.mem_singleton.1 hy]
          exact KDe.below (Kps.alloc _ _) (KDe.mono (fun b (hb : b < w.heap.size) hv => by have h1 : wr.heap.size = b := Option.some.inj hv; have := hbs.out; omega) hxin.out)⟩
        have hrow2 := Lib.hid (RowAt.below (S := fun _ => True) (w' := wr.alloc (.cells #[.int .u8 xk, .string xnm, .int .i64 xn, .slice pa ps.length pc, .slice ba body.length bc, .int .i64 pos] 31)) hr (Kps.alloc _ _))
        have hel2 : Hid (∀ y ∈ acc, KDe.In (wr.alloc (.cells #[.int .u8 xk, .string xnm, .int .i64 xn, .slice pa ps.length pc, .slice ba body.length bc, .int .i64 pos] 31)) (fun b => (Value.slice (some ⟨wr.heap.size, 0, none⟩) 1 1).ownBlock ≠ some b) y) := Lib.hid fun y hy =>
          KDe.below (Kps.alloc _ _) (KDe.mono (fun b hb hv => by have h1 : wr.heap.size = b := Option.some.inj hv; have := hb.2; omega) (KDe.bds (hi y hy)))
        clear hr hi
        go_wp2_with (at_builtin; refine Tr.wpList_append_L KDe rfl (.tmp 26) (.tmp 27) 22 rfl 31 i0 _ 6 88 Tryz.underlying22 hi0 hz0 hz1 hz2 rfl (by decide) rfl De.vals_one w.heap.size _ [De.mk xk xnm xn pa pc ps ba bc body pos] rfl hnew.out acc ao ac rfl hrow2.out hel2.out ?c1 ?c2 ?c3 ?_)
        case c1 => have := hal.out; unfold maxLen; simp only [List.length_singleton]; omega
        case c2 => have := hal.out; simp only [List.length_singleton]; omega
        case c3 => have := hbs.out; simp; omega
        intro v5 w5 hacc5 hg5
        have hb5 : Hid (Below w.heap.size w w5) := Lib.hid (Below.grown (hbr.out.alloc hbs.out _) hg5 (by have := hbs.out; simp; omega) (fun b hb => by have h1 : wr.heap.size = b := Option.some.inj hb; have := hbs.out; omega))
        replace hacc5 := Lib.hid hacc5
        have hpm5 : Hid (([De.mk xk xnm xn pa pc ps ba bc body pos] ++ acc).Perm (l.drop (l.length - (k + 1)))) := Lib.hid (by rw [hdr.out]; exact hpm.out.cons _)
        clear hg5 hacc hpm hbr hdr e0 e1 e2 e3 e4 e5 hnew hrow2 hel2
        go_wp2_with fail
        go_roundw
        case rel => exact ⟨k + 1, _, hkk, by rw [← hnx.out], hacc5, hpm5, hb5⟩
        case measure => (simp [intOf]; try omega)
    · have hk' : k = l.length := by omega
      have hm1 : (l.length : Int) - 1 - (k : Int) = -1 := by omega
      rw [hm1] at hu
      subst hu
      have hp : acc.Perm l := by have := hpm.out; rwa [show l.length - k = 0 by omega, List.drop_zero] at this
      obtain ⟨ao, ac, rfl, hr, hi⟩ := hacc.out.out
      have hfin := Lib.hid (And.intro hr (And.intro (show De.InL wr (fun _ => True) acc from fun d hd => hi d hd) (And.intro hp hbr.out)))
      clear hr hi hp hacc hpm hbr
      go_wp2_with fail
      go_ret
      exact ⟨ao, ac, acc, rfl, hfin.out⟩
end Go.Proofs.YtpcdlneompnhlaaGreatDoor.Ty

namespace Go.Proofs.YtpcdlneompnhlaaGreatDoor.Ty
open Go Go.RowKit
open Go.Proofs.YtpcdlneompnhlaaGreatDoor.Lx Go.Proofs.YtpcdlneompnhlaaGreatDoor.Tr Go.Proofs.YtpcdlneompnhlaaGreatDoor.Pa

mutual
theorem newN_nme (b o : Nat) (d : Int) : ∀ e : St, (ptsS b o d e).all holdPt = true → ∀ x ∈ newN e, nme x.data.toList = true
  | .mk k nm to new ea ec e ba bc body la lc els pos, h => by
    unfold ptsS at h
    rw [List.all_cons, Bool.and_eq_true] at h
    obtain ⟨h1, h2⟩ := h
    rw [List.all_append, Bool.and_eq_true, List.all_append, Bool.and_eq_true] at h2
    have h3 : fitS (.mk k nm to new ea ec e ba bc body la lc els pos) = true := hold_fit h1
    rw [fitS_eq] at h3
    simp only [Bool.and_eq_true] at h3
    have hn := h3.2.1.1.1.1.1
    have ht := h3.2.1.1.1.1.2
    intro x hx
    rw [newN_eq, List.mem_append, List.mem_append] at hx
    rcases hx with hx | hx | hx
    · by_cases hk : k = 1
      · rw [if_pos hk] at hx
        subst hk
        rw [List.mem_singleton.1 hx]
        exact hn
      · rw [if_neg hk] at hx
        by_cases h8 : k = 8 ∧ new = true
        · rw [if_pos h8] at hx
          obtain ⟨rfl, rfl⟩ := h8
          rw [List.mem_singleton.1 hx]
          unfold fitTo at ht
          by_cases he : to.data.toList.isEmpty = true
          · rw [if_pos he] at ht; cases ht
          · rw [if_neg he, Bool.and_eq_true] at ht; exact ht.2
        · rw [if_neg h8] at hx; cases hx
    · exact newNL_nme _ _ _ body h2.2.1 x hx
    · exact newNL_nme _ _ _ els h2.2.2 x hx
theorem newNL_nme (b o : Nat) (d : Int) : ∀ l : List St, (ptsSL b o d l).all holdPt = true → ∀ x ∈ newNL l, nme x.data.toList = true
  | [], _ => by rw [newNL_nil]; intro x hx; cases hx
  | e :: r, h => by
    unfold ptsSL at h
    rw [List.all_append, Bool.and_eq_true] at h
    rw [newNL_cons]
    intro x hx
    rcases List.mem_append.1 hx with hx | hx
    · exact newN_nme _ _ _ e h.1 x hx
    · exact newNL_nme _ _ _ r h.2 x hx
end
theorem may_names {ds : List De} (h : mayP ds = true) {d : De} (hd : d ∈ ds) : (∀ x ∈ d.params ++ newNL d.body, nme x.data.toList = true) ∧ d.params.length ≤ 1000 ∧ ds.length ≤ 256 := by
  unfold mayP at h
  simp only [Bool.and_eq_true, decide_eq_true_eq] at h
  have h1 := List.all_eq_true.1 h.1.2 d hd
  unfold fitD at h1
  simp only [Bool.and_eq_true, decide_eq_true_eq] at h1
  refine ⟨fun x hx => ?_, ?_, h.1.1⟩
  · rcases List.mem_append.1 hx with hx | hx
    · have := h1.2.1.2
      unfold nmes at this
      exact List.all_eq_true.1 this x hx
    · exact newNL_nme (adB d.ba) (adO d.ba) 1 d.body (by
        rw [List.all_eq_true]
        intro y hy
        exact List.all_eq_true.1 h.2 y (List.mem_flatMap.2 ⟨d, hd, hy⟩)) x hx
  · have h2 := h1.2.1.1.2
    unfold deParams at h2
    split at h2 <;> omega
/-- what Locals answers -/
def locK (d : De) : List ByteArray := if d.kind = 4 ∨ d.kind = 5 then d.params ++ newNL d.body else []
theorem loc_all {ds : List De} (h : (checkK ds).2 = 0) {d : De} (hd : d ∈ ds) : (∀ x ∈ locK d, nme x.data.toList = true) ∧ (locK d).Nodup ∧ ∀ x ∈ locK d, ∀ e ∈ ds, e.name ≠ x := by
  obtain ⟨h1, _, h3⟩ := check_ok.1 h
  obtain ⟨h4, h5⟩ := look_locals (may_okR h1) h3 d hd
  unfold locK
  split
  · exact ⟨(may_names h1 hd).1, h4, h5⟩
  · refine ⟨?_, List.nodup_nil, ?_⟩ <;> (intro x hx; cases hx)
theorem drop_ok {ds : List De} {k : Nat} {d : De} (h : (checkK ds).2 = 0) (hd : ds[k]? = some d) (hk : d.kind = 5 ∨ (d.kind = 4 ∧ ∀ e ∈ ds, d.name ∉ callNL e.body)) : (checkK (ds.take k ++ ds.drop (k + 1))).2 = 0 := by
  have hs : (ds.take k ++ ds.drop (k + 1)).Sublist ds := by
    conv => rhs; rw [← List.take_append_drop k ds]
    exact List.Sublist.append_left (List.drop_sublist_drop_left ds (Nat.le_succ k)) _
  refine check_sub h hs.length_le (hs.countP_le) (fun _ hx => hs.subset hx) ((hs.map De.name).nodup (check_names h)) (fun x hx => ?_)
  obtain ⟨i, hi⟩ := List.mem_iff_getElem?.1 hx
  by_cases hik : i = k
  · subst hik
    rw [hd] at hi
    obtain rfl := Option.some.inj hi
    rcases hk with h5 | ⟨h4, hc⟩
    · exact .inr (.inl h5)
    · exact .inr (.inr ⟨h4, fun e he => hc e (hs.subset he)⟩)
  · refine .inl (List.mem_append.2 ?_)
    by_cases hlt : i < k
    · exact .inl (List.mem_iff_getElem?.2 ⟨i, by rw [List.getElem?_take, if_pos hlt]; exact hi⟩)
    · exact .inr (List.mem_iff_getElem?.2 ⟨i - (k + 1), by rw [List.getElem?_drop, show k + 1 + (i - (k + 1)) = i by omega]; exact hi⟩)
theorem szL_perm {l l' : List De} (h : l'.Perm l) : De.szL l' = De.szL l := by
  induction h with
  | nil => rfl
  | cons x _ ih => simp only [De.szL]; omega
  | swap x y r => simp only [De.szL]; omega
  | trans _ _ h1 h2 => omega
theorem szL_sub {l l' : List De} (h : l'.Sublist l) : De.szL l' ≤ De.szL l := by
  induction h with
  | slnil => exact Nat.le_refl _
  | cons x _ ih => simp only [De.szL]; omega
  | cons_cons x _ ih => simp only [De.szL]; omega
theorem check_iff {ds ds' : List De} (hp : ds'.Perm ds) : (checkK ds').2 = 0 ↔ (checkK ds).2 = 0 := ⟨fun h => check_perm hp.symm h, fun h => check_perm hp h⟩
theorem drop_sub (ds : List De) (k : Nat) : (ds.take k ++ ds.drop (k + 1)).Sublist ds := by
  conv => rhs; rw [← List.take_append_drop k ds]
  exact List.Sublist.append_left (List.drop_sublist_drop_left ds (Nat.le_succ k)) _
mutual
theorem newN_in {w : World} {S : Nat → Prop} : ∀ e : St, St.In w S e → ∀ x ∈ newN e, x.size ≤ maxLen
  | .mk k nm to new ea ec e ba bc body la lc els pos, h => by
    unfold St.In at h
    obtain ⟨_, h1, h2, _, _, _, _, h3, _, h4⟩ := h
    intro x hx
    rw [newN_eq, List.mem_append, List.mem_append] at hx
    rcases hx with hx | hx | hx
    · by_cases hk : k = 1
      · rw [if_pos hk] at hx; rw [List.mem_singleton.1 hx]; exact h1
      · rw [if_neg hk] at hx
        by_cases h8 : k = 8 ∧ new = true
        · rw [if_pos h8] at hx; rw [List.mem_singleton.1 hx]; exact h2
        · rw [if_neg h8] at hx; cases hx
    · exact newNL_in body h3 x hx
    · exact newNL_in els h4 x hx
theorem newNL_in {w : World} {S : Nat → Prop} : ∀ l : List St, St.InL w S l → ∀ x ∈ newNL l, x.size ≤ maxLen
  | [], _ => by rw [newNL_nil]; intro x hx; cases hx
  | e :: r, h => by
    unfold St.InL at h
    rw [newNL_cons]
    intro x hx
    rcases List.mem_append.1 hx with hx | hx
    · exact newN_in e h.1 x hx
    · exact newNL_in r h.2 x hx
end
theorem loc_in {w : World} {S : Nat → Prop} {d : De} (h : De.In w S d) : ∀ x ∈ locK d, x.size ≤ maxLen := by
  unfold locK
  split
  · intro x hx
    rcases List.mem_append.1 hx with hx | hx
    · exact h.2.2.2.2.2.1 x hx
    · exact newNL_in _ h.2.2.2.2.2.2.2 x hx
  · intro x hx; cases hx
theorem locals_any {w : World} {S : Nat → Prop} {d : De} (hd : De.In w S d) (hn : d.params.length + St.szL d.body ≤ 1048576) :
    Calls Tryz.prog 24 #[.agg ⟨d.vals⟩] w fun x w' => ∃ a cap, x = .returned (.slice a (locK d).length cap) ∧ RowAt w' (fun b => w.heap.size ≤ b) a cap (locK d).length (strCells (locK d)) ∧ Below w.heap.size w w' := by
  by_cases hk : d.kind = 4 ∨ d.kind = 5
  · refine (locals_c hd hk hn).mono ?_
    rintro x w' ⟨v', rfl, hA, hb⟩
    obtain ⟨a, cap, rfl, hr, _⟩ := hA.out
    rw [flat_str] at hr
    unfold locK
    rw [if_pos hk]
    exact ⟨a, cap, rfl, hr, hb⟩
  · refine (locals_no (fun h => hk (.inl h)) (fun h => hk (.inr h))).mono ?_
    rintro x w' ⟨rfl, hb⟩
    unfold locK
    rw [if_neg hk]
    exact ⟨none, 0, rfl, ⟨Nat.le_refl _, by unfold maxLen; omega, fun _ => rfl, fun j u hj => by simp [strCells] at hj⟩, hb⟩
end Go.Proofs.YtpcdlneompnhlaaGreatDoor.Ty

namespace Go.Proofs.YtpcdlneompnhlaaGreatDoor.Ty
open Go Go.RowKit
open Go.Proofs.YtpcdlneompnhlaaGreatDoor.Lx Go.Proofs.YtpcdlneompnhlaaGreatDoor.Tr

def memB (nm : ByteArray) (l : List ByteArray) : Bool := l.any fun x => decide (x = nm)
theorem memB_app (nm : ByteArray) (l r : List ByteArray) : memB nm (l ++ r) = (memB nm l || memB nm r) := List.any_append
theorem memB_iff {nm : ByteArray} {l : List ByteArray} : memB nm l = true ↔ nm ∈ l := by
  unfold memB
  rw [List.any_eq_true]
  constructor
  · rintro ⟨x, hx, he⟩
    rw [← of_decide_eq_true he]; exact hx
  · exact fun h => ⟨nm, h, by simp⟩
theorem memB_nil (nm : ByteArray) : memB nm [] = false := rfl
theorem memB_one (nm : ByteArray) : memB nm [nm] = true := by simp [memB]
def ContN (n : Nat) : Prop := ∀ (l : List St) (a : Option Addr) (cap : Nat) (w : World) (nm : ByteArray), St.szL l ≤ n → RowAt w (fun _ => True) a cap l.length (stCells l) → St.InL w (fun _ => True) l →
  Calls Tryz.prog 26 #[.slice a l.length cap, .string nm] w fun e w' => e = .returned (.bool ((memB nm (callNL l)))) ∧ w' = w
set_option maxHeartbeats 8000000 in
set_option maxRecDepth 100000 in
theorem named_step (n : Nat) (hN : ∀ m, m < n → ContN m) : ContN n := by
  intro l a cap w nm hsz hrow hin
  have hll : l.length ≤ 9223372036854775807 := by have := hrow.le; have := hrow.lim; unfold maxLen at this; omega
  obtain ⟨r, hr⟩ : ∃ r, (memB nm (callNL l)) = r := ⟨_, rfl⟩
  rw [hr]
  have hr0 : Hid ((memB nm (callNL (l.drop 0))) = r) := Lib.hid hr
  replace hN := Lib.hid hN
  replace hrow := Lib.hid hrow
  replace hin := Lib.hid hin
  replace hsz := Lib.hid hsz
  clear hr
  go_enter Tryz.func26, Tryz.ntmps26
  go_wp2_with fail
  go_loopw [5] (fun iv wr => ∃ k : Nat, iv = .int .i64 k ∧ k ≤ l.length ∧ wr = w ∧ Hid ((memB nm (callNL (l.drop k))) = r)) (fun iv _ => l.length - (intOf iv).toNat)
  case atStart => exact ⟨0, rfl, Nat.zero_le _, rfl, hr0⟩
  case round =>
    obtain ⟨k, rfl, hk, rfl, hq⟩ := hrel
    clear hr0
    by_cases hlt : k < l.length
    · obtain ⟨x, hx⟩ : ∃ x, l[k]? = some x := ⟨_, List.getElem?_eq_getElem hlt⟩
      have hq' := hq.out
      rw [drop_c1 hx, callNL_cons] at hq'
      have hinx := St.InL.get hin.out hx
      have hxs : x.sz ≤ n := Nat.le_trans (St.sz_get hx) hsz.out
      obtain ⟨kn, nx, to, new, ea, ec, e, ba, bc, body, la, lc, els, pos⟩ := x
      obtain ⟨b, off, ha, _, e0, e1, _, _, _, e5, e6, _⟩ := st_cells hrow.out k kn nx to new ea ec e ba bc body la lc els pos hx
      subst ha
      rw [callN_eq] at hq'
      unfold St.In at hinx
      obtain ⟨_, _, _, _, _, _, hbr, hbi, hlr, hli⟩ := hinx
      have hxz : St.szL body < n ∧ St.szL els < n := by
        have : St.sz (.mk kn nx to new ea ec e ba bc body la lc els pos) = 1 + Ex.szL e + St.szL body + St.szL els := by conv => lhs; unfold St.sz
        omega
      have hb := Lib.hid (hN.out _ hxz.1 body ba bc wr nm (Nat.le_refl _) hbr hbi)
      have hl := Lib.hid (hN.out _ hxz.2 els la lc wr nm (Nat.le_refl _) hlr hli)
      have hk0 : (0 : Int) ≤ (k : Int) := by omega
      have hk1 : (k : Int) < (l.length : Int) := by omega
      clear hx hbr hbi hlr hli hxz hxs hq
      by_cases hcall : kn = 8 ∧ nx = nm
      · obtain ⟨rfl, rfl⟩ := hcall
        have hr1 : Hid (true = r) := Lib.hid (by rw [← hq', if_pos rfl, memB_app, memB_app, memB_one]; rfl)
        clear hq' hb hl
        go_wp2_with fail
        go_ret
        exact ⟨by rw [← hr1.out]; rfl, rfl⟩
      · have hne : memB nm (if kn = 8 then [nx] else []) = false := by
          cases h : memB nm (if kn = 8 then [nx] else []) with
          | false => rfl
          | true =>
            have hm := memB_iff.1 h
            split at hm
            · rename_i h8
              exact absurd ⟨h8, (List.mem_singleton.1 hm).symm⟩ hcall
            · cases hm
        rw [memB_app, memB_app, memB_app, hne, Bool.false_or] at hq'
        generalize (memB nm (callNL body)) = q1 at hb hq'
        generalize (memB nm (callNL els)) = q2 at hl hq'
        replace hq' := Lib.hid hq'
        clear hne
        by_cases h8 : kn = 8
        · subst h8
          have hnx : ¬ nx = nm := fun h => hcall ⟨rfl, h⟩
          have hnx1 := str_ne hnx
          clear hcall hnx
          go_wp2_with fail
          refine hb.out.mono ?_
          rintro e2 w2 ⟨rfl, rfl⟩
          cases q1 with
          | true =>
            have hr1 : Hid (true = r) := Lib.hid (by rw [← hq'.out]; simp)
            clear hq' hb hl
            go_wp2_with fail
            go_ret
            exact ⟨by rw [← hr1.out]; rfl, rfl⟩
          | false =>
            clear hb
            go_wp2_with fail
            refine hl.out.mono ?_
            rintro e3 w3 ⟨rfl, rfl⟩
            cases q2 with
            | true =>
              have hr1 : Hid (true = r) := Lib.hid (by rw [← hq'.out]; simp)
              clear hq' hl
              go_wp2_with fail
              go_ret
              exact ⟨by rw [← hr1.out]; rfl, rfl⟩
            | false =>
              have hr1 : Hid ((memB nm (callNL (l.drop (k + 1)))) = r) := Lib.hid (by rw [← hq'.out]; simp)
              clear hq' hl
              go_wp2_with fail
              go_roundw
              case rel => exact ⟨k + 1, by go_num, by omega, by trivial, hr1⟩
              case measure => simp [intOf]; omega
        · have h80 : (kn == 8) = false := by rw [beq_eq_false_iff_ne]; exact h8
          clear hcall h8
          go_wp2_with fail
          refine hb.out.mono ?_
          rintro e2 w2 ⟨rfl, rfl⟩
          cases q1 with
          | true =>
            have hr1 : Hid (true = r) := Lib.hid (by rw [← hq'.out]; simp)
            clear hq' hb hl
            go_wp2_with fail
            go_ret
            exact ⟨by rw [← hr1.out]; rfl, rfl⟩
          | false =>
            clear hb
            go_wp2_with fail
            refine hl.out.mono ?_
            rintro e3 w3 ⟨rfl, rfl⟩
            cases q2 with
            | true =>
              have hr1 : Hid (true = r) := Lib.hid (by rw [← hq'.out]; simp)
              clear hq' hl
              go_wp2_with fail
              go_ret
              exact ⟨by rw [← hr1.out]; rfl, rfl⟩
            | false =>
              have hr1 : Hid ((memB nm (callNL (l.drop (k + 1)))) = r) := Lib.hid (by rw [← hq'.out]; simp)
              clear hq' hl
              go_wp2_with fail
              go_roundw
              case rel => exact ⟨k + 1, by go_num, by omega, by trivial, hr1⟩
              case measure => simp [intOf]; omega
    · have hge : ¬ (k : Int) < (l.length : Int) := by omega
      have hr1 : Hid (false = r) := Lib.hid (by
        rw [← hq.out, List.drop_eq_nil_of_le (by omega), callNL_nil]
        rfl)
      clear hq hlt
      go_wp2_with fail
      go_ret
      exact ⟨by rw [← hr1.out]; rfl, rfl⟩
theorem contN : ∀ n, ContN n := fun n => by
  induction n using Nat.strongRecOn with
  | _ n ih => exact named_step n ih
theorem isNamed_c {w : World} {l : List St} {a : Option Addr} {cap : Nat} (nm : ByteArray) (hrow : RowAt w (fun _ => True) a cap l.length (stCells l)) (hin : St.InL w (fun _ => True) l) :
    Calls Tryz.prog 26 #[.slice a l.length cap, .string nm] w fun e w' => e = .returned (.bool ((memB nm (callNL l)))) ∧ w' = w := contN _ l a cap w nm (Nat.le_refl _) hrow hin
end Go.Proofs.YtpcdlneompnhlaaGreatDoor.Ty

namespace Go.Proofs.YtpcdlneompnhlaaGreatDoor.Ty
open Go Go.RowKit
open Go.Proofs.YtpcdlneompnhlaaGreatDoor.Lx Go.Proofs.YtpcdlneompnhlaaGreatDoor.Tr

theorem checkK_eq (ds : List De) : checkK ds = if mayP ds = true then (if 16 < threadsK ds then (0, 40) else resK (lookK ds)) else (0, 4) := by
  unfold checkK
  cases lookK ds <;> rfl
set_option maxHeartbeats 4000000 in
set_option maxRecDepth 100000 in
theorem check_c {w : World} {S : Nat → Prop} {a : Option Addr} {cap : Nat} {ds : List De} (hrow : RowAt w S a cap ds.length (deCells ds)) (hin : De.InL w S ds) (hsz : De.szL ds ≤ 4194304) (ht : TabsD w) :
    Calls Tryz.prog 22 #[.slice a ds.length cap] w fun e w' => Below w.heap.size w w' ∧ e = .returned (.tuple #[.int .i64 (checkK ds).1, .int .i64 (checkK ds).2]) := by
  have hmay := Lib.hid (mayP_any ds a cap w (hrow.mono fun _ _ => trivial) (De.InL.mono (fun _ _ => trivial) hin) hsz ht)
  have hck := checkK_eq ds
  generalize hc : checkK ds = c at hck
  have hthr := Lib.hid (fun (V : World) (hb : Below w.heap.size w V) => threads_c (hrow.below (Kps.of_below hb)))
  have hlook := Lib.hid (fun (V : World) (hb : Below w.heap.size w V) (h : mayP ds = true) => look_c (w := V) (((hrow.bds).below (Kps.of_below hb)).mono fun b h => Nat.lt_of_lt_of_le h.2 hb.size) (De.InL.mono (fun b h => Nat.lt_of_lt_of_le h.2 hb.size) (De.InL.below (Kps.of_below hb) (fun d hd => (hin d hd).bds))) h)
  generalize hm : mayP ds = m at hmay hck hlook
  replace hck := Lib.hid hck
  clear hrow hin hc hm hsz ht
  go_enter Tryz.func22, Tryz.ntmps22
  go_wp2_with fail
  refine hmay.out.mono ?_
  rintro e w1 ⟨rfl, hb1⟩
  have hck' := hck.out
  cases m with
  | false =>
    rw [if_neg (by decide)] at hck'
    subst hck'
    replace hb1 := Lib.hid hb1
    clear hthr hlook hmay hck
    go_wp2_with fail
    go_ret2
    exact ⟨hb1.out, rfl⟩
  | true =>
    rw [if_pos rfl] at hck'
    have ht1 := Lib.hid (hthr.out w1 hb1)
    have hl1 := Lib.hid (fun V (hV : Below w1.heap.size w1 V) => hlook.out V (hb1.trans (hV.mono hb1.size)) rfl)
    replace hb1 := Lib.hid hb1
    replace hck' := Lib.hid hck'
    clear hthr hlook hmay hck
    go_wp2_with fail
    refine ht1.out.mono ?_
    rintro e w2 ⟨rfl, hb2⟩
    have hb3 := Lib.hid (hb1.out.trans (hb2.mono hb1.out.size))
    have hl2 := Lib.hid (hl1.out w2 hb2)
    have hk := hck'.out
    generalize threadsK ds = t at hk ⊢
    clear ht1 hl1 hck' hb1
    by_cases h16 : 16 < t
    · rw [if_pos h16] at hk
      subst hk
      have h16' : (16 : Int) < (t : Int) := by omega
      clear hb2 hl2
      go_wp2_with fail
      go_ret2
      exact ⟨hb3.out, rfl⟩
    · rw [if_neg h16] at hk
      subst hk
      have h16' : ¬ (16 : Int) < (t : Int) := by omega
      have hlw := Lib.hid hb3.out.size
      replace hb2 := Lib.hid hb2
      go_wp2_with fail
      refine hl2.out.mono ?_
      rintro e w4 ⟨hb4, rfl⟩
      have hb5 := Lib.hid (hb3.out.trans (hb4.mono hlw.out))
      clear hb4 hl2 hb3
      go_wp2_with fail
      go_ret2
      exact ⟨hb5.out, rfl⟩
end Go.Proofs.YtpcdlneompnhlaaGreatDoor.Ty

namespace Go.Proofs.YtpcdlneompnhlaaGreatDoor.Ty
open Go Go.RowKit
open Go.Proofs.YtpcdlneompnhlaaGreatDoor.Lx Go.Proofs.YtpcdlneompnhlaaGreatDoor.Tr Go.Proofs.YtpcdlneompnhlaaGreatDoor.Pa

theorem findK_ext {ds ds' : List De} {D : List (ByteArray × Nat)} {K : List (ByteArray × Int)} {nm : ByteArray} {kind at_ : Int} (h : ∀ i : Nat, ds'[i]?.map De.kind = ds[i]?.map De.kind) : findK ds' D K nm kind at_ = findK ds D K nm kind at_ := by
  unfold findK
  cases findA D nm with
  | none => rfl
  | some i =>
    simp only
    have := h i
    cases h1 : ds[i]? with
    | none =>
      cases h2 : ds'[i]? with
      | none => rfl
      | some d' => rw [h1, h2] at this; cases this
    | some d =>
      cases h2 : ds'[i]? with
      | none => rw [h1, h2] at this; cases this
      | some d' =>
        rw [h1, h2] at this
        simp only [Option.map_some, Option.some.injEq] at this
        simp only [this]
theorem varK_ext {ds ds' : List De} {D : List (ByteArray × Nat)} {K : List (ByteArray × Int)} {nm : ByteArray} {at_ : Int} (h : ∀ i : Nat, ds'[i]?.map De.kind = ds[i]?.map De.kind) : varK ds' D K nm at_ = varK ds D K nm at_ := by
  unfold varK
  rw [findK_ext h]
theorem posE_ea (e : Ex) : posE (ea e) = posE e := by
  obtain ⟨k, nm, n, a, cap, args, pos⟩ := e
  rw [ea_eq]; rfl
mutual
theorem exK_ea {ds ds' : List De} {D : List (ByteArray × Nat)} {K : List (ByteArray × Int)} (h : ∀ i : Nat, ds'[i]?.map De.kind = ds[i]?.map De.kind) : ∀ e, exK ds' D K (ea e) = exK ds D K e
  | .mk k nm n a cap args pos => by
    rw [ea_eq, exK_eq, exK_eq, varK_ext h, findK_ext h, wantK_ea h 1 args, wantK_ea h 2 args]
theorem wantK_ea {ds ds' : List De} {D : List (ByteArray × Nat)} {K : List (ByteArray × Int)} (h : ∀ i : Nat, ds'[i]?.map De.kind = ds[i]?.map De.kind) (t : Int) : ∀ l, wantK ds' D K t (eaL l) = wantK ds D K t l
  | [] => by rw [eaL_nil, wantK_nil, wantK_nil]
  | e :: r => by rw [eaL_cons, wantK_cons, wantK_cons, exK_ea h e, wantK_ea h t r, posE_ea]
end
theorem callK_ea {ds ds' : List De} {D : List (ByteArray × Nat)} (h : ∀ i : Nat, ds'[i]?.map De.kind = ds[i]?.map De.kind) (h2 : ∀ i : Nat, ds'[i]?.map (fun d : De => d.params.length) = ds[i]?.map (fun d : De => d.params.length)) (pos : Nat) (p : PS) (nm to : ByteArray) (new : Bool) (e : List Ex) (at_ : Int) : callK ds' D pos p nm to new (eaL e) at_ = callK ds D pos p nm to new e at_ := by
  unfold callK
  rw [findK_ext h, wantK_ea h 1 e]
  have hl : (eaL e).length = e.length := by rw [eaL_map]; simp
  rw [hl]
  cases findK ds D p.kn nm 4 at_ with
  | error q => rfl
  | ok i =>
    simp only
    have := h2 i
    cases h1 : ds[i]? with
    | none =>
      cases h3 : ds'[i]? with
      | none => rfl
      | some d' => rw [h1, h3] at this; cases this
    | some d =>
      cases h3 : ds'[i]? with
      | none => rw [h1, h3] at this; cases this
      | some d' =>
        rw [h1, h3] at this
        simp only [Option.map_some, Option.some.injEq] at this
        simp only [this]
mutual
theorem stK_sa {ds ds' : List De} {D : List (ByteArray × Nat)} (h : ∀ i : Nat, ds'[i]?.map De.kind = ds[i]?.map De.kind) (h2 : ∀ i : Nat, ds'[i]?.map (fun d : De => d.params.length) = ds[i]?.map (fun d : De => d.params.length)) (pos : Nat) (last : Bool) (p : PS) : ∀ x, stK ds' D pos last p (sa x) = stK ds D pos last p x
  | .mk k nm to new ea_ ec e ba bc body la lc els at_ => by
    have hb := fun p => listK_sa (D := D) h h2 pos false p body
    have hl := fun p => listK_sa (D := D) h h2 pos false p els
    have hbb : ∀ p, blockK ds' D pos p (saL body) = blockK ds D pos p body := fun p => by unfold blockK; rw [hb]
    have hll : ∀ p, blockK ds' D pos p (saL els) = blockK ds D pos p els := fun p => by unfold blockK; rw [hl]
    rw [sa_eq, stK_eq, stK_eq, callK_ea h h2, varK_ext h, findK_ext h, findK_ext h, hbb, wantK_ea h 1 e, wantK_ea h 2 e]
    have hw := fun t => wantK_ea (K := p.kn) (D := D) h t e
    simp only [hll, hw]
    cases e with
    | nil => rw [eaL_nil]
    | cons x r => rw [eaL_cons]; simp only [exK_ea h x]
theorem listK_sa {ds ds' : List De} {D : List (ByteArray × Nat)} (h : ∀ i : Nat, ds'[i]?.map De.kind = ds[i]?.map De.kind) (h2 : ∀ i : Nat, ds'[i]?.map (fun d : De => d.params.length) = ds[i]?.map (fun d : De => d.params.length)) (pos : Nat) (whole : Bool) (p : PS) : ∀ l, listK ds' D pos whole p (saL l) = listK ds D pos whole p l
  | [] => by rw [saL_nil, listK_nil, listK_nil]
  | x :: r => by
    rw [saL_cons, listK_cons, listK_cons, stK_sa h h2]
    have he : (saL r).isEmpty = r.isEmpty := by rw [saL_map]; simp
    rw [he]
    cases stK ds D pos (whole && r.isEmpty) p x with
    | error q => rfl
    | ok p1 => exact listK_sa h h2 pos whole p1 r
end
theorem namesK_da : ∀ (l : List De) (i : Nat) (D : List (ByteArray × Nat)), namesK (l.map da) i D = namesK l i D
  | [], _, _ => rfl
  | d :: r, i, D => by
    rw [List.map_cons]
    unfold namesK
    rw [namesK_da r (i + 1)]
    rfl
theorem bodyK_da {ds ds' : List De} {D : List (ByteArray × Nat)} (h : ∀ i : Nat, ds'[i]?.map De.kind = ds[i]?.map De.kind) (h2 : ∀ i : Nat, ds'[i]?.map (fun d : De => d.params.length) = ds[i]?.map (fun d : De => d.params.length)) (i : Nat) (c : List (List Nat)) (d : De) : bodyK ds' D i c (da d) = bodyK ds D i c d := by
  unfold bodyK
  have e : paramsK D (da d).pos (da d).params ⟨[], [], c⟩ = paramsK D d.pos d.params ⟨[], [], c⟩ := rfl
  rw [e]
  cases paramsK D d.pos d.params ⟨[], [], c⟩ with
  | error q => rfl
  | ok p => exact listK_sa h h2 i _ p d.body
theorem bodiesK_da {ds ds' : List De} {D : List (ByteArray × Nat)} (h : ∀ i : Nat, ds'[i]?.map De.kind = ds[i]?.map De.kind) (h2 : ∀ i : Nat, ds'[i]?.map (fun d : De => d.params.length) = ds[i]?.map (fun d : De => d.params.length)) : ∀ (l : List De) (i : Nat) (c : List (List Nat)), bodiesK ds' D (l.map da) i c = bodiesK ds D l i c
  | [], _, _ => rfl
  | d :: r, i, c => by
    rw [List.map_cons]
    unfold bodiesK
    rw [bodyK_da h h2]
    cases bodyK ds D i c d with
    | error q => rfl
    | ok p => exact bodiesK_da h h2 r _ _
theorem circK_da (calls : List (List Nat)) : ∀ (l : List De) (i : Nat), circK calls (l.map da) i = circK calls l i
  | [], _ => rfl
  | d :: r, i => by
    rw [List.map_cons]
    unfold circK
    rw [circK_da calls r]
    rfl
theorem lookK_da (ds : List De) : lookK (ds.map da) = lookK ds := by
  unfold lookK
  rw [namesK_da]
  cases namesK ds 0 [] with
  | error q => rfl
  | ok D =>
    simp only
    rw [bodiesK_da (ds := ds) (fun i => by rw [List.getElem?_map]; cases ds[i]? <;> rfl) (fun i => by rw [List.getElem?_map]; cases ds[i]? <;> rfl)]
    have : ((ds.map da).map fun _ => ([] : List Nat)) = ds.map fun _ => [] := by simp
    rw [this]
    cases bodiesK ds D ds 0 (ds.map fun _ => []) with
    | error q => rfl
    | ok c => exact circK_da c ds 0
theorem checkK_da (ds : List De) : checkK (ds.map da) = checkK ds := by
  unfold checkK
  rw [lookK_da]
  have h1 : mayP (ds.map da) = mayP ds := mayP_of_er (by
    unfold De.erL
    rw [List.map_map]
    exact List.map_congr_left fun d _ => de_da d)
  have h2 : threadsK (ds.map da) = threadsK ds := by
    unfold threadsK
    rw [List.countP_map]
    rfl
  rw [h1, h2]
end Go.Proofs.YtpcdlneompnhlaaGreatDoor.Ty

namespace Go.Proofs.YtpcdlneompnhlaaGreatDoor.Ty
open Go Go.RowKit
open Go.Proofs.YtpcdlneompnhlaaGreatDoor.Lx Go.Proofs.YtpcdlneompnhlaaGreatDoor.Tr Go.Proofs.YtpcdlneompnhlaaGreatDoor.Pa

def saysB (s : ByteArray) (at_ e : Int) : Bool := match parseP s with
  | (ds, _, en) => decide (en = 0) && decide (checkK ds = (at_, e)) && decide (De.szL ds ≤ 4194304)
theorem saysB_eq {s : ByteArray} {at_ e : Int} (h : saysB s at_ e = true) : (parseP s).2.2 = 0 ∧ checkK (parseP s).1 = (at_, e) ∧ De.szL (parseP s).1 ≤ 4194304 := by
  unfold saysB at h
  generalize parseP s = r at h ⊢
  obtain ⟨ds, p, en⟩ := r
  simp only [Bool.and_eq_true, decide_eq_true_eq] at h
  exact ⟨h.1.1, h.1.2, h.2⟩
set_option maxHeartbeats 4000000 in
set_option maxRecDepth 100000 in
theorem says_yes (s : ByteArray) (at_ e : Int) (w : World) (hs : s.size ≤ maxLen) (hw : All w) (hp : saysB s at_ e = true) :
    Calls Tryz.prog 18 #[.string s, .int .i64 at_, .int .i64 e] w fun x w' => x = .returned (.bool true) ∧ Below w.heap.size w w' := by
  obtain ⟨h1, h2, h3⟩ := saysB_eq hp
  have hP := parse_c s w hs hw.tb hw.ht
  generalize (parseP s).1 = ds at hP h2 h3
  generalize (parseP s).2.1 = p at hP
  rw [h1] at hP
  have hC := Lib.hid (fun (V : World) (hb : Below w.heap.size w V) (l : List De) (a : Option Addr) (cap : Nat) (hr : RowAt V (fun b => w.heap.size ≤ b) a cap l.length (deCells l)) (hi : De.InL V (fun b => w.heap.size ≤ b) l) (he : l.map da = ds) => by
    have := check_c hr hi (by rw [← sz_da, he]; exact h3) (hw.ht.below hb)
    rw [← checkK_da l, he, h2] at this
    exact (this : Calls Tryz.prog 22 #[.slice a l.length cap] V fun e' w' => Below V.heap.size V w' ∧ e' = .returned (.tuple #[.int .i64 at_, .int .i64 e])))
  replace hP := Lib.hid hP
  clear hp hs h1 h2 h3 hw
  go_enter Tryz.func18, Tryz.ntmps18
  go_wp2_with fail
  refine hP.out.mono ?_
  rintro x w1 ⟨hb1, v, rfl, l, a, cap, rfl, hr, hi, he⟩
  have hc := Lib.hid (hC.out w1 hb1 l a cap hr hi he)
  replace hb1 := Lib.hid hb1
  clear hP hC hr hi he
  go_wp2_with fail
  refine hc.out.mono ?_
  rintro x w2 ⟨hb2, rfl⟩
  have hb3 := Lib.hid (hb1.out.trans (hb2.mono hb1.out.size))
  clear hb2 hb1 hc
  go_wp2_with fail
  go_ret
  exact ⟨rfl, hb3.out⟩
end Go.Proofs.YtpcdlneompnhlaaGreatDoor.Ty

namespace Go.Proofs.YtpcdlneompnhlaaGreatDoor.Ty
open Go Go.RowKit
open Go.Proofs.YtpcdlneompnhlaaGreatDoor.Lx Go.Proofs.YtpcdlneompnhlaaGreatDoor.Tr Go.Proofs.YtpcdlneompnhlaaGreatDoor.Pa

set_option maxHeartbeats 8000000 in
set_option maxRecDepth 100000 in
theorem works5_c (w : World) (hw : All w) : Calls Tryz.prog 17 #[] w fun x w' => x = .returned (.bool true) ∧ Below w.heap.size w w' := by
  have hall := Lib.hid (fun (V : World) (hb : Below w.heap.size w V) => hw.below hb)
  have hb0 : Hid (Below w.heap.size w w) := Lib.hid (Below.refl _ _)
  clear hw
  go_enter Tryz.func17, Tryz.ntmps17
  go_wp2_with fail
  refine (says_yes _ _ _ _ (by unfold maxLen; decide) (hall.out _ hb0.out) (by kernel_rfl)).mono ?_
  rintro e0 w1 ⟨rfl, hk0⟩
  have hb1 := Lib.hid (hb0.out.trans (hk0.mono hb0.out.size))
  clear hb0 hk0
  go_wp2_with fail
  refine (says_yes _ _ _ _ (by unfold maxLen; decide) (hall.out _ hb1.out) (by kernel_rfl)).mono ?_
  rintro e1 w2 ⟨rfl, hk1⟩
  have hb2 := Lib.hid (hb1.out.trans (hk1.mono hb1.out.size))
  clear hb1 hk1
  go_wp2_with fail
  refine (says_yes _ _ _ _ (by unfold maxLen; decide) (hall.out _ hb2.out) (by kernel_rfl)).mono ?_
  rintro e2 w3 ⟨rfl, hk2⟩
  have hb3 := Lib.hid (hb2.out.trans (hk2.mono hb2.out.size))
  clear hb2 hk2
  go_wp2_with fail
  refine (says_yes _ _ _ _ (by unfold maxLen; decide) (hall.out _ hb3.out) (by kernel_rfl)).mono ?_
  rintro e3 w4 ⟨rfl, hk3⟩
  have hb4 := Lib.hid (hb3.out.trans (hk3.mono hb3.out.size))
  clear hb3 hk3
  go_wp2_with fail
  refine (says_yes _ _ _ _ (by unfold maxLen; decide) (hall.out _ hb4.out) (by kernel_rfl)).mono ?_
  rintro e4 w5 ⟨rfl, hk4⟩
  have hb5 := Lib.hid (hb4.out.trans (hk4.mono hb4.out.size))
  clear hb4 hk4
  go_wp2_with fail
  refine (says_yes _ _ _ _ (by unfold maxLen; decide) (hall.out _ hb5.out) (by kernel_rfl)).mono ?_
  rintro e5 w6 ⟨rfl, hk5⟩
  have hb6 := Lib.hid (hb5.out.trans (hk5.mono hb5.out.size))
  clear hb5 hk5
  go_wp2_with fail
  refine (says_yes _ _ _ _ (by unfold maxLen; decide) (hall.out _ hb6.out) (by kernel_rfl)).mono ?_
  rintro e6 w7 ⟨rfl, hk6⟩
  have hb7 := Lib.hid (hb6.out.trans (hk6.mono hb6.out.size))
  clear hb6 hk6
  go_wp2_with fail
  go_ret
  exact ⟨rfl, hb7.out⟩
set_option maxHeartbeats 8000000 in
set_option maxRecDepth 100000 in
theorem loops5_c (w : World) (hw : All w) : Calls Tryz.prog 20 #[] w fun x w' => x = .returned (.bool true) ∧ Below w.heap.size w w' := by
  have hall := Lib.hid (fun (V : World) (hb : Below w.heap.size w V) => hw.below hb)
  have hb0 : Hid (Below w.heap.size w w) := Lib.hid (Below.refl _ _)
  clear hw
  go_enter Tryz.func20, Tryz.ntmps20
  go_wp2_with fail
  refine (says_yes _ _ _ _ (by unfold maxLen; decide) (hall.out _ hb0.out) (by kernel_rfl)).mono ?_
  rintro e0 w1 ⟨rfl, hk0⟩
  have hb1 := Lib.hid (hb0.out.trans (hk0.mono hb0.out.size))
  clear hb0 hk0
  go_wp2_with fail
  refine (says_yes _ _ _ _ (by unfold maxLen; decide) (hall.out _ hb1.out) (by kernel_rfl)).mono ?_
  rintro e1 w2 ⟨rfl, hk1⟩
  have hb2 := Lib.hid (hb1.out.trans (hk1.mono hb1.out.size))
  clear hb1 hk1
  go_wp2_with fail
  refine (says_yes _ _ _ _ (by unfold maxLen; decide) (hall.out _ hb2.out) (by kernel_rfl)).mono ?_
  rintro e2 w3 ⟨rfl, hk2⟩
  have hb3 := Lib.hid (hb2.out.trans (hk2.mono hb2.out.size))
  clear hb2 hk2
  go_wp2_with fail
  refine (says_yes _ _ _ _ (by unfold maxLen; decide) (hall.out _ hb3.out) (by kernel_rfl)).mono ?_
  rintro e3 w4 ⟨rfl, hk3⟩
  have hb4 := Lib.hid (hb3.out.trans (hk3.mono hb3.out.size))
  clear hb3 hk3
  go_wp2_with fail
  refine (says_yes _ _ _ _ (by unfold maxLen; decide) (hall.out _ hb4.out) (by kernel_rfl)).mono ?_
  rintro e4 w5 ⟨rfl, hk4⟩
  have hb5 := Lib.hid (hb4.out.trans (hk4.mono hb4.out.size))
  clear hb4 hk4
  go_wp2_with fail
  go_ret
  exact ⟨rfl, hb5.out⟩
end Go.Proofs.YtpcdlneompnhlaaGreatDoor.Ty
