/- Sameness of trees, as plain functions on trees; it is equality without addresses and places. Conditions: none. · Walks of the document's own answers: sameExprs, SameExpr. Conditions: none. -/
import Derived.Test.YtfhmhplbkheojaaGreatDoorGrAU
import Derived.Test.YtfhmhplbkheojaaGreatDoorGrAK
import Derived.Test.YtfhmhplbkheojaaGreatDoorGrAF
import Derived.Test.YtfhmhplbkheojaaGreatDoorGrAB
import Derived.Deep.RegionHeld3
import Derived.Deep.DrawnRows
import Derived.Deep.Cut
import Derived.Deep.Quiet
namespace Go.Proofs.YtfhmhplbkheojaaGreatDoor.Tr
open Go Go.RowKit
open Go.Proofs.YtfhmhplbkheojaaGreatDoor.Lx

mutual
/-- the same, but for where they stand? -/
def sameE : Ex → Ex → Bool
  | .mk k nm n _ _ args _, f => match f with
    | .mk k' nm' n' _ _ args' _ => decide (k = k') && decide (nm = nm') && decide (n = n') && sameEL args args'
def sameEL : List Ex → List Ex → Bool
  | [], l => l.isEmpty
  | e :: r, l => match l with
    | [] => false
    | e' :: r' => sameE e e' && sameEL r r'
end
theorem sameE_eq (k : Int) (nm : ByteArray) (n : Int) (a : Option Addr) (cap : Nat) (args : List Ex) (pos : Int) (k' : Int) (nm' : ByteArray) (n' : Int) (a' : Option Addr) (cap' : Nat) (args' : List Ex) (pos' : Int) :
    sameE (.mk k nm n a cap args pos) (.mk k' nm' n' a' cap' args' pos') = (decide (k = k') && decide (nm = nm') && decide (n = n') && sameEL args args') := by unfold sameE; rfl
theorem sameEL_len : ∀ l l', sameEL l l' = true → l.length = l'.length
  | [], l', h => by unfold sameEL at h; simp at h; rw [h]
  | e :: r, [], h => by unfold sameEL at h; cases h
  | e :: r, e' :: r', h => by
    unfold sameEL at h
    rw [Bool.and_eq_true] at h
    rw [List.length_cons, List.length_cons, sameEL_len r r' h.2]
/-- from a place on -/
theorem sameEL_drop : ∀ (l l' : List Ex) (k : Nat) (e e' : Ex), l[k]? = some e → l'[k]? = some e' → sameEL (l.drop k) (l'.drop k) = (sameE e e' && sameEL (l.drop (k + 1)) (l'.drop (k + 1)))
  | l, l', k, e, e', h, h' => by
    have h1 := (List.getElem?_eq_some_iff.1 h)
    have h2 := (List.getElem?_eq_some_iff.1 h')
    rw [List.drop_eq_getElem_cons h1.1, List.drop_eq_getElem_cons h2.1, h1.2, h2.2]
    rw [sameEL]

theorem Ex.mem_sz {l : List Ex} {e : Ex} (h : e ∈ l) : e.sz ≤ Ex.szL l := by
  obtain ⟨i, hi⟩ := List.getElem?_of_mem h
  exact Ex.sz_get hi
theorem Ex.mem_in {w : World} {S : Nat → Prop} {l : List Ex} {e : Ex} (hl : Ex.InL w S l) (h : e ∈ l) : Ex.In w S e := by
  obtain ⟨i, hi⟩ := List.getElem?_of_mem h
  exact hl.get hi
mutual
/-- the same statement, but for where it stands? -/
def sameS : St → St → Bool
  | .mk k nm to nw _ _ e _ _ body _ _ els _, f => match f with
    | .mk k' nm' to' nw' _ _ e' _ _ body' _ _ els' _ => decide (k = k') && decide (nm = nm') && decide (to = to') && decide (nw = nw') && sameEL e e' && sameSL body body' && sameSL els els'
def sameSL : List St → List St → Bool
  | [], l => l.isEmpty
  | e :: r, l => match l with
    | [] => false
    | e' :: r' => sameS e e' && sameSL r r'
end
theorem sameS_eq (k : Int) (nm to : ByteArray) (nw : Bool) (ea : Option Addr) (ecap : Nat) (e : List Ex) (ba : Option Addr) (bcap : Nat) (body : List St) (la : Option Addr) (lcap : Nat) (els : List St) (pos : Int)
    (k' : Int) (nm' to' : ByteArray) (nw' : Bool) (ea' : Option Addr) (ecap' : Nat) (e' : List Ex) (ba' : Option Addr) (bcap' : Nat) (body' : List St) (la' : Option Addr) (lcap' : Nat) (els' : List St) (pos' : Int) :
    sameS (.mk k nm to nw ea ecap e ba bcap body la lcap els pos) (.mk k' nm' to' nw' ea' ecap' e' ba' bcap' body' la' lcap' els' pos') =
      (decide (k = k') && decide (nm = nm') && decide (to = to') && decide (nw = nw') && sameEL e e' && sameSL body body' && sameSL els els') := by unfold sameS; rfl
theorem sameSL_len : ∀ l l', sameSL l l' = true → l.length = l'.length
  | [], l', h => by unfold sameSL at h; simp at h; rw [h]
  | e :: r, [], h => by unfold sameSL at h; cases h
  | e :: r, e' :: r', h => by
    unfold sameSL at h
    rw [Bool.and_eq_true] at h
    rw [List.length_cons, List.length_cons, sameSL_len r r' h.2]
theorem sameSL_drop : ∀ (l l' : List St) (k : Nat) (e e' : St), l[k]? = some e → l'[k]? = some e' → sameSL (l.drop k) (l'.drop k) = (sameS e e' && sameSL (l.drop (k + 1)) (l'.drop (k + 1)))
  | l, l', k, e, e', h, h' => by
    have h1 := (List.getElem?_eq_some_iff.1 h)
    have h2 := (List.getElem?_eq_some_iff.1 h')
    rw [List.drop_eq_getElem_cons h1.1, List.drop_eq_getElem_cons h2.1, h1.2, h2.2]
    rw [sameSL]
def sameD (d e : De) : Bool := decide (d.kind = e.kind) && decide (d.name = e.name) && decide (d.n = e.n) && decide (d.params = e.params) && sameSL d.body e.body
def sameDL : List De → List De → Bool
  | [], l => l.isEmpty
  | e :: r, l => match l with
    | [] => false
    | e' :: r' => sameD e e' && sameDL r r'
theorem sameDL_len : ∀ l l', sameDL l l' = true → l.length = l'.length
  | [], l', h => by unfold sameDL at h; simp at h; rw [h]
  | e :: r, [], h => by unfold sameDL at h; cases h
  | e :: r, e' :: r', h => by
    unfold sameDL at h
    rw [Bool.and_eq_true] at h
    rw [List.length_cons, List.length_cons, sameDL_len r r' h.2]
theorem sameDL_drop : ∀ (l l' : List De) (k : Nat) (e e' : De), l[k]? = some e → l'[k]? = some e' → sameDL (l.drop k) (l'.drop k) = (sameD e e' && sameDL (l.drop (k + 1)) (l'.drop (k + 1)))
  | l, l', k, e, e', h, h' => by
    have h1 := (List.getElem?_eq_some_iff.1 h)
    have h2 := (List.getElem?_eq_some_iff.1 h')
    rw [List.drop_eq_getElem_cons h1.1, List.drop_eq_getElem_cons h2.1, h1.2, h2.2]
    rw [sameDL]

theorem St.sz_pos (e : St) : 1 ≤ e.sz := by obtain ⟨k, nm, to, nw, ea, ecap, e, ba, bcap, body, la, lcap, els, pos⟩ := e; unfold St.sz; omega
theorem str_row {w : World} {S : Nat → Prop} {a : Option Addr} {cap : Nat} {l : List ByteArray} (h : RowAt w S a cap l.length (strCells l)) (i : Nat) (e : ByteArray) (he : l[i]? = some e) :
    ∃ b off, a = some ⟨b, off, none⟩ ∧ S b ∧ w.cell? ⟨b, off + i, none⟩ = some (.string e) := h.at_ i (.string e) (by rw [strCells, List.getElem?_map, he]; rfl)

mutual
theorem sameE_er : ∀ e f, sameE e f = true ↔ e.er = f.er
  | .mk k nm n a cap args pos, .mk k' nm' n' a' cap' args' pos' => by
    rw [sameE_eq, Ex.er_eq, Ex.er_eq]
    simp only [Bool.and_eq_true, decide_eq_true_eq, sameEL_er args args', Ex.mk.injEq, true_and, and_true, and_assoc]
theorem sameEL_er : ∀ l l', sameEL l l' = true ↔ Ex.erL l = Ex.erL l'
  | [], [] => by unfold sameEL; simp
  | [], f :: r' => by unfold sameEL; rw [Ex.erL_nil, Ex.erL_cons]; simp
  | e :: r, [] => by unfold sameEL; rw [Ex.erL_nil, Ex.erL_cons]; simp
  | e :: r, f :: r' => by
    unfold sameEL
    rw [Ex.erL_cons, Ex.erL_cons]
    simp only [Bool.and_eq_true, sameE_er e f, sameEL_er r r', List.cons.injEq]
end
mutual
theorem sameS_er : ∀ e f, sameS e f = true ↔ e.er = f.er
  | .mk k nm to nw ea ecap e ba bcap body la lcap els pos, .mk k' nm' to' nw' ea' ecap' e' ba' bcap' body' la' lcap' els' pos' => by
    rw [sameS_eq, St.er_eq, St.er_eq]
    simp only [Bool.and_eq_true, decide_eq_true_eq, sameEL_er e e', sameSL_er body body', sameSL_er els els', St.mk.injEq, true_and, and_true, and_assoc]
theorem sameSL_er : ∀ l l', sameSL l l' = true ↔ St.erL l = St.erL l'
  | [], [] => by unfold sameSL; simp
  | [], f :: r' => by unfold sameSL; rw [St.erL_nil, St.erL_cons]; simp
  | e :: r, [] => by unfold sameSL; rw [St.erL_nil, St.erL_cons]; simp
  | e :: r, f :: r' => by
    unfold sameSL
    rw [St.erL_cons, St.erL_cons]
    simp only [Bool.and_eq_true, sameS_er e f, sameSL_er r r', List.cons.injEq]
end
theorem sameD_er (d e : De) : sameD d e = true ↔ d.er = e.er := by
  unfold sameD De.er
  simp only [Bool.and_eq_true, decide_eq_true_eq, sameSL_er, De.mk.injEq, true_and, and_true, and_assoc]
theorem sameDL_er : ∀ l l', sameDL l l' = true ↔ De.erL l = De.erL l'
  | [], [] => by unfold sameDL; simp
  | [], f :: r' => by unfold sameDL; simp [De.erL]
  | e :: r, [] => by unfold sameDL; simp [De.erL]
  | e :: r, f :: r' => by
    unfold sameDL
    have := sameDL_er r r'
    simp only [De.erL] at this ⊢
    simp only [Bool.and_eq_true, sameD_er e f, this, List.map_cons, List.cons.injEq]
theorem sameDL_self (l : List De) : sameDL l l = true := (sameDL_er l l).2 rfl
theorem sameDL_symm (l l' : List De) : sameDL l l' = sameDL l' l := by
  rw [Bool.eq_iff_iff, sameDL_er, sameDL_er]
  exact eq_comm
theorem sameDL_of_er {l c : List De} (h : De.erL l = De.erL c) (b : List De) : sameDL l b = sameDL c b := by
  rw [Bool.eq_iff_iff, sameDL_er, sameDL_er, h]

end Go.Proofs.YtfhmhplbkheojaaGreatDoor.Tr
namespace Go.Proofs.YtfhmhplbkheojaaGreatDoor.Qg
open Go Go.RowKit
theorem en_bobbinref02_sameStmts (xs : Array Value) (w : World) : (callFunc 51 xs).run Tryz.prog w = .ok (.enter 51 xs) w := by kernel_rfl
theorem en_bobbinref02_sameExprs (xs : Array Value) (w : World) : (callFunc 94 xs).run Tryz.prog w = .ok (.enter 94 xs) w := by kernel_rfl
end Go.Proofs.YtfhmhplbkheojaaGreatDoor.Qg

namespace Go.Proofs.YtfhmhplbkheojaaGreatDoor.Tr
open Go Go.RowKit
open Go.Proofs.YtfhmhplbkheojaaGreatDoor.Lx

set_option maxHeartbeats 8000000 in
set_option maxRecDepth 100000 in
theorem refsameEs_step (l l' : List Ex) (a a' : Option Addr) (cap cap' : Nat) (w : World) (hrow : RowAt w (fun _ => True) a cap l.length (exCells l)) (hrow' : RowAt w (fun _ => True) a' cap' l'.length (exCells l'))
    (hcall : ∀ e e' W, e ∈ l → e' ∈ l' → Below w.heap.size w W → Calls Tryz.prog 131 #[.agg ⟨e.vals⟩, .agg ⟨e'.vals⟩] W fun x W' => x = .returned (.bool (sameE e e')) ∧ Below W.heap.size W W') :
    Calls Tryz.prog 94 #[.slice a l.length cap, .slice a' l'.length cap'] w fun x w' => x = .returned (.bool (sameEL l l')) ∧ Below w.heap.size w w' := by
  have hll : l.length ≤ 9223372036854775807 := by have := hrow.le; have := hrow.lim; unfold maxLen at this; omega
  have hll' : l'.length ≤ 9223372036854775807 := by have := hrow'.le; have := hrow'.lim; unfold maxLen at this; omega
  by_cases hle : l.length = l'.length
  · have hne : ((l.length : Int) != (l'.length : Int)) = false := by rw [hle]; simp
    have hle' := Lib.hid hle
    go_enter Tryz.func94, Tryz.ntmps94
    clear hle
    go_wp2_with fail
    go_loopw [5] (fun i wr => ∃ k : Nat, k ≤ l.length ∧ i = .int .i64 k ∧ Hid (sameEL l l' = sameEL (l.drop k) (l'.drop k)) ∧ Below w.heap.size w wr) (fun i _ => l.length - (intOf i).toNat)
    case atStart => exact ⟨0, Nat.zero_le _, rfl, Lib.hid rfl, Below.refl _ _⟩
    case round =>
      obtain ⟨k, hk, rfl, hsame, hbr⟩ := hrel
      by_cases hlt : k < l.length
      · have hlt' : k < l'.length := by rw [← hle'.out]; exact hlt
        obtain ⟨e, he⟩ : ∃ e, l[k]? = some e := ⟨l[k], by simp [hlt]⟩
        obtain ⟨e', he'⟩ : ∃ e, l'[k]? = some e := ⟨l'[k], by simp [hlt']⟩
        obtain ⟨b, off, rfl, _, hcell⟩ := ex_row hrow k e he
        obtain ⟨b', off', rfl, _, hcell'⟩ := ex_row hrow' k e' he'
        have hc := hcall e e' wr.drew (List.mem_of_getElem? he) (List.mem_of_getElem? he') hbr.drew
        have hdr := sameEL_drop l l' k e e' he he'
        have hsame1 := hsame.out
        rw [hdr] at hsame1
        obtain ⟨ek, enm, en, ea, ecap, eargs, epos⟩ := e
        obtain ⟨fk, fnm, fn', fa, fcap, fargs, fpos⟩ := e'
        have hc : Calls Tryz.prog 131 #[.agg #[.int .u8 ek, .string enm, .int .i64 en, .slice ea eargs.length ecap, .int .i64 epos], .agg #[.int .u8 fk, .string fnm, .int .i64 fn', .slice fa fargs.length fcap, .int .i64 fpos]] wr.drew _ := hc
        simp only [← Nat.add_assoc] at hcell hcell'
        have d0 := below_in hbr (hcell 0 _ rfl)
        have d1 := below_in hbr (hcell 1 _ rfl)
        have d2 := below_in hbr (hcell 2 _ rfl)
        have d3 := below_in hbr (hcell 3 _ rfl)
        have d4 := below_in hbr (hcell 4 _ rfl)
        have f0 := below_in hbr (hcell' 0 _ rfl)
        have f1 := below_in hbr (hcell' 1 _ rfl)
        have f2 := below_in hbr (hcell' 2 _ rfl)
        have f3 := below_in hbr (hcell' 3 _ rfl)
        have f4 := below_in hbr (hcell' 4 _ rfl)
        simp only [Nat.add_zero] at d0 d1 d2 d3 d4 f0 f1 f2 f3 f4
        clear hcell hcell' he he' hrow hrow' hcall hdr
        generalize sameE (.mk ek enm en ea ecap eargs epos) (.mk fk fnm fn' fa fcap fargs fpos) = sv at *
        replace hsame1 := Lib.hid hsame1
        have hcc := hc.mono (R' := fun x W' => x = .returned (.bool sv) ∧ (W'.cell? ⟨b, off + k * 5, none⟩ = some (.int .u8 ek) ∧ W'.cell? ⟨b, off + k * 5 + 1, none⟩ = some (.string enm) ∧ W'.cell? ⟨b, off + k * 5 + 2, none⟩ = some (.int .i64 en) ∧ W'.cell? ⟨b, off + k * 5 + 3, none⟩ = some (.slice ea eargs.length ecap) ∧ W'.cell? ⟨b, off + k * 5 + 4, none⟩ = some (.int .i64 epos) ∧ W'.cell? ⟨b', off' + k * 5, none⟩ = some (.int .u8 fk) ∧ W'.cell? ⟨b', off' + k * 5 + 1, none⟩ = some (.string fnm) ∧ W'.cell? ⟨b', off' + k * 5 + 2, none⟩ = some (.int .i64 fn') ∧ W'.cell? ⟨b', off' + k * 5 + 3, none⟩ = some (.slice fa fargs.length fcap) ∧ W'.cell? ⟨b', off' + k * 5 + 4, none⟩ = some (.int .i64 fpos)) ∧ Hid (Below w.heap.size w W')) fun x W' h => ⟨h.1, ⟨below_in h.2 d0, below_in h.2 d1, below_in h.2 d2, below_in h.2 d3, below_in h.2 d4, below_in h.2 f0, below_in h.2 f1, below_in h.2 f2, below_in h.2 f3, below_in h.2 f4⟩, Lib.hid (hbr.drew.trans (h.2.mono hbr.size))⟩
        replace hcc := Lib.hid hcc
        have hS : wr.drew.cell? ⟨b, off + k * 5, none⟩ = some (.int .u8 ek) ∧ wr.drew.cell? ⟨b, off + k * 5 + 1, none⟩ = some (.string enm) ∧ wr.drew.cell? ⟨b, off + k * 5 + 2, none⟩ = some (.int .i64 en) ∧ wr.drew.cell? ⟨b, off + k * 5 + 3, none⟩ = some (.slice ea eargs.length ecap) ∧ wr.drew.cell? ⟨b, off + k * 5 + 4, none⟩ = some (.int .i64 epos) ∧ wr.drew.cell? ⟨b', off' + k * 5, none⟩ = some (.int .u8 fk) ∧ wr.drew.cell? ⟨b', off' + k * 5 + 1, none⟩ = some (.string fnm) ∧ wr.drew.cell? ⟨b', off' + k * 5 + 2, none⟩ = some (.int .i64 fn') ∧ wr.drew.cell? ⟨b', off' + k * 5 + 3, none⟩ = some (.slice fa fargs.length fcap) ∧ wr.drew.cell? ⟨b', off' + k * 5 + 4, none⟩ = some (.int .i64 fpos) := ⟨d0, d1, d2, d3, d4, f0, f1, f2, f3, f4⟩
        clear hc
        go_wp2_with fail
        go_region_held3 (fun V => V.cell? ⟨b, off + k * 5, none⟩ = some (.int .u8 ek) ∧ V.cell? ⟨b, off + k * 5 + 1, none⟩ = some (.string enm) ∧ V.cell? ⟨b, off + k * 5 + 2, none⟩ = some (.int .i64 en) ∧ V.cell? ⟨b, off + k * 5 + 3, none⟩ = some (.slice ea eargs.length ecap) ∧ V.cell? ⟨b, off + k * 5 + 4, none⟩ = some (.int .i64 epos) ∧ V.cell? ⟨b', off' + k * 5, none⟩ = some (.int .u8 fk) ∧ V.cell? ⟨b', off' + k * 5 + 1, none⟩ = some (.string fnm) ∧ V.cell? ⟨b', off' + k * 5 + 2, none⟩ = some (.int .i64 fn') ∧ V.cell? ⟨b', off' + k * 5 + 3, none⟩ = some (.slice fa fargs.length fcap) ∧ V.cell? ⟨b', off' + k * 5 + 4, none⟩ = some (.int .i64 fpos)) (first | exact hS | assumption) (first | (go_at_call 131; (with_reducible refine hcc.out.mono ?_); (rintro x W3 ⟨rfl, hS, hb3⟩)))
        all_goals
          cases sv
          · have hF : Hid (sameEL l l' = false) := Lib.hid (by rw [hsame1.out]; rfl)
            go_wp2_with fail
            go_ret
            exact ⟨ret_bool hF.out.symm, hb3.out⟩
          · have hF : Hid (sameEL l l' = sameEL (l.drop (k + 1)) (l'.drop (k + 1))) := Lib.hid (by rw [hsame1.out]; rfl)
            go_wp2_with fail
            go_roundw
            case rel => exact ⟨k + 1, by omega, by go_num, hF, hb3.out⟩
            case measure => simp [intOf]; omega
      · have hF : Hid (sameEL l l' = true) := Lib.hid (by
          rw [hsame.out, List.drop_of_length_le (by omega), List.drop_of_length_le (by have := hle'.out; omega)]; rfl)
        clear hsame
        go_wp2_with fail
        go_ret
        exact ⟨ret_bool hF.out.symm, hbr⟩
  · have hne : ((l.length : Int) != (l'.length : Int)) = true := by simp; omega
    have hF : Hid (sameEL l l' = false) := Lib.hid (by rw [Bool.eq_false_iff]; intro h; exact hle (sameEL_len _ _ h))
    go_enter Tryz.func94, Tryz.ntmps94
    go_wp2_with fail
    go_ret
    exact ⟨ret_bool hF.out.symm, Below.refl _ _⟩
set_option maxHeartbeats 1600000 in
set_option maxRecDepth 100000 in
theorem refsameE_any : ∀ (s : Nat) (e e' : Ex) (w : World), e.sz ≤ s → Ex.In w (fun _ => True) e → Ex.In w (fun _ => True) e' →
    Calls Tryz.prog 131 #[.agg ⟨e.vals⟩, .agg ⟨e'.vals⟩] w fun x w' => x = .returned (.bool (sameE e e')) ∧ Below w.heap.size w w' := by
  intro s
  induction s using Nat.strongRecOn with
  | _ s ih =>
    intro e e' w hs hin hin'
    obtain ⟨ek, enm, en, ea, ecap, eargs, epos⟩ := e
    obtain ⟨fk, fnm, fn', fa, fcap, fargs, fpos⟩ := e'
    unfold Ex.In at hin hin'
    have hsz : Ex.szL eargs < s := by unfold Ex.sz at hs; omega
    have hE := sameE_eq ek enm en ea ecap eargs epos fk fnm fn' fa fcap fargs fpos
    have hc := fun W (hb : Below w.heap.size w W) => refsameEs_step eargs fargs ea fa ecap fcap W (hin.2.2.2.2.1.below (Kps.of_below hb)) (hin'.2.2.2.2.1.below (Kps.of_below hb))
      (fun e e' W2 he he' hb2 => ih (Ex.szL eargs) hsz e e' W2 (Ex.mem_sz he) (Ex.In.below (Kps.of_below (hb.trans (hb2.mono hb.size))) _ (Ex.mem_in hin.2.2.2.2.2 he)) (Ex.In.below (Kps.of_below (hb.trans (hb2.mono hb.size))) _ (Ex.mem_in hin'.2.2.2.2.2 he')))
    generalize sameE (.mk ek enm en ea ecap eargs epos) (.mk fk fnm fn' fa fcap fargs fpos) = sv at *
    generalize sameEL eargs fargs = sl at *
    show Calls Tryz.prog 131 #[.agg #[.int .u8 ek, .string enm, .int .i64 en, .slice ea eargs.length ecap, .int .i64 epos], .agg #[.int .u8 fk, .string fnm, .int .i64 fn', .slice fa fargs.length fcap, .int .i64 fpos]] w _
    replace hc := Lib.hid hc
    clear ih hin hin' hs
    have hb2 : Below w.heap.size w ((w.alloc (.cells #[.int .u8 ek, .string enm, .int .i64 en, .slice ea eargs.length ecap, .int .i64 epos] 67)).alloc (.cells #[.int .u8 fk, .string fnm, .int .i64 fn', .slice fa fargs.length fcap, .int .i64 fpos] 67)) := ((Below.refl _ _).alloc (Nat.le_refl _) _).alloc (by simp) _
    by_cases h1 : ek = fk
    · subst h1
      by_cases h2 : enm = fnm
      · subst h2
        by_cases h3 : en = fn'
        · subst h3
          have hF : Hid (sv = sl) := Lib.hid (by rw [hE]; simp)
          clear hE
          go_enter Tryz.func131, Tryz.ntmps131
          go_wp2_with fail
          refine (hc.out _ hb2).mono ?_
          rintro x w3 ⟨rfl, hb3⟩
          go_wp2_with fail
          go_ret
          exact ⟨ret_bool hF.out.symm, hb2.trans (hb3.mono (by simp; omega))⟩
        · have hF : Hid (sv = false) := Lib.hid (by rw [hE, decide_eq_false h3]; simp)
          have hx : (en == fn') = false := by simpa using h3
          clear hE h3
          go_enter Tryz.func131, Tryz.ntmps131
          go_wp2_with fail
          go_ret
          exact ⟨ret_bool hF.out.symm, hb2⟩
      · have hF : Hid (sv = false) := Lib.hid (by rw [hE, decide_eq_false h2]; simp)
        have hx := str_ne h2
        clear hE h2
        go_enter Tryz.func131, Tryz.ntmps131
        go_wp2_with fail
        go_ret
        exact ⟨ret_bool hF.out.symm, hb2⟩
    · have hF : Hid (sv = false) := Lib.hid (by rw [hE, decide_eq_false h1]; simp)
      have hx : (ek == fk) = false := by simpa using h1
      clear hE h1
      go_enter Tryz.func131, Tryz.ntmps131
      go_wp2_with fail
      go_ret
      exact ⟨ret_bool hF.out.symm, hb2⟩
theorem refsameEs_any (l l' : List Ex) (a a' : Option Addr) (cap cap' : Nat) (w : World) (hrow : RowAt w (fun _ => True) a cap l.length (exCells l)) (hrow' : RowAt w (fun _ => True) a' cap' l'.length (exCells l')) (hin : Ex.InL w (fun _ => True) l) (hin' : Ex.InL w (fun _ => True) l') :
    Calls Tryz.prog 94 #[.slice a l.length cap, .slice a' l'.length cap'] w fun x w' => x = .returned (.bool (sameEL l l')) ∧ Below w.heap.size w w' :=
  refsameEs_step l l' a a' cap cap' w hrow hrow' fun e e' W he he' hb => refsameE_any e.sz e e' W (Nat.le_refl _) (Ex.In.below (Kps.of_below hb) _ (Ex.mem_in hin he)) (Ex.In.below (Kps.of_below hb) _ (Ex.mem_in hin' he'))
end Go.Proofs.YtfhmhplbkheojaaGreatDoor.Tr
