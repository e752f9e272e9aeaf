/- Two texts that are not the same. Conditions: none. · Walks of the reader's methods refuse, passes, take. Conditions: the next token is there. · The parser as plain functions on tokens: expressions. What a value says with its places. Conditions: none. · Walk of the reader's method number. Conditions: the next token is there. · Walk of the reader's method operator. Conditions: the next token is there, the list of operators holds what it was laid with. -/
import Derived.Test.YtpcdlneompnhlaaGreatDoorGrAB
import Derived.Test.YtpcdlneompnhlaaGreatDoorGrAC
import Derived.Test.YtpcdlneompnhlaaGreatDoorTrK
import Derived.Lib.ParseIntB
import Derived.Test.YtpcdlneompnhlaaGreatDoorShelf
import Derived.Deep.RegionHeld3
import Derived.Lib.AtoiErrMem
import Derived.Laws.Rows
import Derived.Lib.LaidTab
namespace Go.Proofs.YtpcdlneompnhlaaGreatDoor.Tr
open Go Go.RowKit
theorem str_ne {a b : ByteArray} (h : ¬ a = b) : (a.toList == b.toList) = false := by
  rw [Bool.eq_false_iff]
  intro e
  rw [beq_iff_eq, Lib.toList_data, Lib.toList_data] at e
  apply h
  rw [← Lib.mk_data a, ← Lib.mk_data b, e]
theorem below_in {w W : World} (h : Below w.heap.size w W) {b o : Nat} {v : Value} (hc : w.cell? ⟨b, o, none⟩ = some v) : W.cell? ⟨b, o, none⟩ = some v := Kps.of_below (S := fun _ => True) h b o v trivial hc
end Go.Proofs.YtpcdlneompnhlaaGreatDoor.Tr

namespace Go.Proofs.YtpcdlneompnhlaaGreatDoor.Pa
open Go Go.RowKit
open Go.Proofs.YtpcdlneompnhlaaGreatDoor.Lx Go.Proofs.YtpcdlneompnhlaaGreatDoor.Tr

/-- all that stood is as it was, but for the reader's block -/
structure RE (rb : Nat) (w w' : World) : Prop where
  os : w'.os = w.os
  tape : w'.tape = w.tape
  output : w'.output = w.output
  size : w.heap.size ≤ w'.heap.size
  block : ∀ k, k < w.heap.size → k ≠ rb → w'.heap[k]? = w.heap[k]?
theorem RE.refl (rb : Nat) (w : World) : RE rb w w := ⟨rfl, rfl, rfl, Nat.le_refl _, fun _ _ _ => rfl⟩
theorem RE.trans {rb : Nat} {a b c : World} (h : RE rb a b) (k : RE rb b c) : RE rb a c :=
  ⟨k.os.trans h.os, k.tape.trans h.tape, k.output.trans h.output, Nat.le_trans h.size k.size, fun i hi hn => (k.block i (Nat.lt_of_lt_of_le hi h.size) hn).trans (h.block i hi hn)⟩
theorem RE.of_below {rb : Nat} {w w' : World} (h : Below w.heap.size w w') : RE rb w w' := ⟨h.os, h.tape, h.output, h.size, fun k hk _ => h.block k hk⟩
theorem RE.drewN {rb : Nat} (w : World) (n : Nat) : RE rb w (w.drewN n) := ⟨rfl, rfl, rfl, Nat.le_refl _, fun _ _ _ => rfl⟩
theorem RE.set {rb : Nat} (w : World) (j : Nat) (v : Value) : RE rb w (w.setCell ⟨rb, j, none⟩ v) := by
  refine ⟨rfl, rfl, rfl, by simp [World.setCell], fun k _ hn => ?_⟩
  unfold World.setCell
  show (w.heap.modify rb _)[k]? = _
  rw [Array.getElem?_modify, if_neg (fun e => hn e.symm)]
theorem RE.kps {rb : Nat} {w w' : World} (h : RE rb w w') : Kps (fun b => b ≠ rb) w w' := fun b o v hb hc => by
  have hl := World.block_lt_of_cell? _ _ hc
  unfold World.cell? at hc ⊢
  simp only at hc ⊢
  rw [h.block b hl hb]
  exact hc
theorem heap_set {w : World} {b : Nat} {vs : Array Value} {T : TypeId} {fr : Nat × Nat} (h : w.heap[b]? = some (.cells vs T fr)) (j : Nat) (v : Value) : (w.setCell ⟨b, j, none⟩ v).heap[b]? = some (.cells (vs.setIfInBounds j v) T fr) := by
  unfold World.setCell
  show (w.heap.modify b _)[b]? = _
  rw [Array.getElem?_modify, if_pos rfl, h]
  simp
theorem RE.cell {rb : Nat} {w w' : World} (h : RE rb w w') {b o : Nat} {v : Value} (hn : rb ≠ b) (hc : w.cell? ⟨b, o, none⟩ = some v) : w'.cell? ⟨b, o, none⟩ = some v := h.kps b o v (Ne.symm hn) hc
theorem RE.tb {rb : Nat} {w w' : World} (h : RE rb w w') (hn : ∀ g ∈ gls, rb ≠ g) (hs : TbP w) : TbP w' := by
  have n0 := hn _ (show 0 ∈ gls by unfold gls; simp)
  have n1 := hn _ (show 6 ∈ gls by unfold gls; simp)
  have n2 := hn _ (show 7 ∈ gls by unfold gls; simp)
  have n3 := hn _ (show 5 ∈ gls by unfold gls; simp)
  obtain ⟨⟨t, fr, hg⟩, ⟨ev, he, hev⟩, ⟨ew, hf, hew⟩, ⟨t', fr', ho⟩⟩ := hs
  exact ⟨⟨t, fr, (h.block _ (Array.getElem?_eq_some_iff.1 hg).1 (Ne.symm n0)).trans hg⟩, ⟨ev, h.cell n1 he, hev⟩, ⟨ew, h.cell n2 hf, hew⟩, ⟨t', fr', (h.block _ (Array.getElem?_eq_some_iff.1 ho).1 (Ne.symm n3)).trans ho⟩⟩
theorem Rd.drewN {c : Rc} {i : Nat} {w : World} (h : Rd c i w) (n : Nat) : Rd c i (w.drewN n) := ⟨h.blk, h.row.below (fun _ _ _ _ hc => hc), h.lt, h.lim, (RE.drewN (rb := c.rb) w n).tb h.ne h.tb, h.ne, h.txs, h.last⟩
theorem Rd.ext {c : Rc} {i : Nat} {w w' : World} (h : Rd c i w) (hb : Below w.heap.size w w') : Rd c i w' := ⟨(hb.block _ (Array.getElem?_eq_some_iff.1 h.blk).1).trans h.blk, h.row.below (Kps.of_below hb), h.lt, h.lim, (RE.of_below (rb := c.rb) hb).tb h.ne h.tb, h.ne, h.txs, h.last⟩
theorem Rd.set {c : Rc} {i j : Nat} {w : World} (h : Rd c i w) (hj : j < c.l.length) : Rd c j (w.setCell ⟨c.rb, 1, none⟩ (.int .i64 j)) :=
  ⟨heap_set h.blk 1 _, h.row.below (RE.set w 1 _).kps, hj, h.lim, (RE.set (rb := c.rb) w 1 _).tb h.ne h.tb, h.ne, h.txs, h.last⟩
/-- a token of some text is not the last one -/
theorem Rd.more {c : Rc} {i : Nat} {w : World} (h : Rd c i w) {t : Tk} (ht : c.l[i]? = some t) (hn : ¬ t.txt = ⟨#[]⟩) : i + 1 < c.l.length := by
  have h1 := h.lt
  by_cases he : i + 1 = c.l.length
  · exact absurd (h.last i t ht he).1 hn
  · omega

/-- what a method ends by: a value, the next token; or a fault, thrown at a place -/
inductive Res (α : Type) where
  | ok (x : α) (j : Nat)
  | bad (p : Int)
def badE (p : Int) : Ending := .panicked [{ v := .iface 85 (.agg #[.int .i64 p]), recovered := false }]
def Post {α : Type} (c : Rc) (V : α → Value → World → Prop) (w : World) (r : Res α) (e : Ending) (w' : World) : Prop :=
  match r with
  | .ok x j => ∃ v, e = .returned v ∧ V x v w' ∧ Rd c j w' ∧ RE c.rb w w'
  | .bad p => e = badE p ∧ RE c.rb w w'

set_option maxHeartbeats 1000000 in
theorem refuse_any (c : Rc) (i : Nat) (t : Tk) (w : World) (h : Rd c i w) (ht : c.l[i]? = some t) :
    Calls Tryz.prog 154 #[.pointer (some ⟨c.rb, 0, none⟩)] w fun e w' => e = badE t.pos ∧ ∃ n, w' = w.drewN n := by
  have hc := Lib.hid (at_any c i t w h ht)
  clear h ht
  go_enter Tryz.func154, Tryz.ntmps154
  go_wp2_with fail
  refine hc.out.mono ?_
  rintro e w' ⟨rfl, n, rfl⟩
  go_wp2_with fail
  exact ⟨rfl, rfl, n, rfl⟩

set_option maxHeartbeats 1000000 in
theorem passes_no (c : Rc) (i : Nat) (t : Tk) (s : ByteArray) (w : World) (h : Rd c i w) (ht : c.l[i]? = some t) (hs : ¬ t.txt = s) :
    Calls Tryz.prog 144 #[.pointer (some ⟨c.rb, 0, none⟩), .string s] w fun e w' => e = .returned (.bool false) ∧ ∃ n, w' = w.drewN n := by
  have hc := Lib.hid (text_any c i t w h ht)
  have hx := str_ne hs
  clear h ht hs
  go_enter Tryz.func144, Tryz.ntmps144
  go_wp2_with fail
  refine hc.out.mono ?_
  rintro e w' ⟨rfl, n, rfl⟩
  go_wp2_with fail
  go_ret
  exact ⟨rfl, n, rfl⟩
set_option maxHeartbeats 1000000 in
theorem passes_yes (c : Rc) (i : Nat) (t : Tk) (w : World) (h : Rd c i w) (ht : c.l[i]? = some t) (hi : i + 1 < c.l.length) :
    Calls Tryz.prog 144 #[.pointer (some ⟨c.rb, 0, none⟩), .string t.txt] w fun e w' => e = .returned (.bool true) ∧ Rd c (i + 1) w' ∧ RE c.rb w w' := by
  have hc := Lib.hid (text_any c i t w h ht)
  have hfin : Hid (∀ n, Rd c (i + 1) ((w.setCell ⟨c.rb, 1, none⟩ (.int .i64 ((i + 1 : Nat) : Int))).drewN n) ∧ RE c.rb w ((w.setCell ⟨c.rb, 1, none⟩ (.int .i64 ((i + 1 : Nat) : Int))).drewN n)) := Lib.hid fun n => ⟨(h.set hi).drewN n, (RE.set w 1 _).trans (RE.drewN _ n)⟩
  have c1 : w.cell? ⟨c.rb, 1, none⟩ = some (.int .i64 i) := blk_cell h.blk rfl
  have f1 : w.frozen? ⟨c.rb, 1, none⟩ = false := blk_free h.blk 1
  have hlim : i ≤ 100000 := by have := h.lim; omega
  clear h ht
  go_enter Tryz.func144, Tryz.ntmps144
  go_wp2_with fail
  refine hc.out.mono ?_
  rintro e w' ⟨rfl, n, rfl⟩
  go_wp2_with fail
  go_ret
  exact ⟨rfl, hfin.out n⟩
set_option maxHeartbeats 1000000 in
theorem take_yes (c : Rc) (i : Nat) (t : Tk) (w : World) (h : Rd c i w) (ht : c.l[i]? = some t) (hi : i + 1 < c.l.length) :
    Calls Tryz.prog 143 #[.pointer (some ⟨c.rb, 0, none⟩), .string t.txt] w fun e w' => e = .returned (.tuple #[]) ∧ Rd c (i + 1) w' ∧ RE c.rb w w' := by
  have hc := Lib.hid (passes_yes c i t w h ht hi)
  clear h ht hi
  go_enter Tryz.func143, Tryz.ntmps143
  go_wp2_with fail
  refine hc.out.mono ?_
  rintro e w' ⟨rfl, hR⟩
  replace hR := Lib.hid hR
  go_wp2_with fail
  exact ⟨rfl, .tuple #[], by simp [results, Tryz.results143, go_sem], rfl, hR.out⟩
set_option maxHeartbeats 1000000 in
theorem take_no (c : Rc) (i : Nat) (t : Tk) (s : ByteArray) (w : World) (h : Rd c i w) (ht : c.l[i]? = some t) (hs : ¬ t.txt = s) :
    Calls Tryz.prog 143 #[.pointer (some ⟨c.rb, 0, none⟩), .string s] w fun e w' => e = badE t.pos ∧ ∃ n, w' = w.drewN n := by
  have hc := Lib.hid (passes_no c i t s w h ht hs)
  have hr := Lib.hid (fun n => refuse_any c i t (w.drewN n) (h.drewN n) ht)
  clear h ht hs
  go_enter Tryz.func143, Tryz.ntmps143
  go_wp2_with fail
  refine hc.out.mono ?_
  rintro e w' ⟨rfl, n, rfl⟩
  go_wp2_with fail
  refine (hr.out n).mono ?_
  rintro e w' ⟨rfl, m, rfl⟩
  exact ⟨rfl, rfl, n + m, by rw [World.drewN_drewN]⟩
set_option maxHeartbeats 1000000 in
theorem name_yes (c : Rc) (i : Nat) (t : Tk) (w : World) (h : Rd c i w) (ht : c.l[i]? = some t) (hi : i + 1 < c.l.length) (hn : nme t.txt.data.toList = true) :
    Calls Tryz.prog 142 #[.pointer (some ⟨c.rb, 0, none⟩)] w fun e w' => e = .returned (.string t.txt) ∧ Rd c (i + 1) w' ∧ RE c.rb w w' := by
  have hc := Lib.hid (text_any c i t w h ht)
  have hcn := Lib.hid (fun n => (name_any t.txt (w.drewN n) (by have := (h.txs t (List.mem_of_getElem? ht)).1; unfold maxLen; omega) (h.drewN n).tb.sg).mono fun x w' h2 => (⟨by rw [h2.1, hn], h2.2⟩ : x = .returned (.bool true) ∧ Below (w.drewN n).heap.size (w.drewN n) w'))
  have hfin : Hid (∀ n w', Below (w.drewN n).heap.size (w.drewN n) w' → w'.cell? ⟨c.rb, 1, none⟩ = some (.int .i64 i) ∧ w'.frozen? ⟨c.rb, 1, none⟩ = false ∧ ∀ m, Rd c (i + 1) ((w'.setCell ⟨c.rb, 1, none⟩ (.int .i64 ((i + 1 : Nat) : Int))).drewN m) ∧ RE c.rb w ((w'.setCell ⟨c.rb, 1, none⟩ (.int .i64 ((i + 1 : Nat) : Int))).drewN m)) := Lib.hid fun n w' hb => by
    have h1 := (h.drewN n).ext hb
    exact ⟨blk_cell h1.blk rfl, blk_free h1.blk 1, fun m => ⟨(h1.set hi).drewN m, (((RE.drewN w n).trans (RE.of_below hb)).trans (RE.set w' 1 _)).trans (RE.drewN _ m)⟩⟩
  have hlim : i ≤ 100000 := by have := h.lim; omega
  clear h ht hn
  go_enter Tryz.func142, Tryz.ntmps142
  go_wp2_with fail
  refine hc.out.mono ?_
  rintro e w' ⟨rfl, n, rfl⟩
  go_wp2_with fail
  refine (hcn.out n).mono ?_
  rintro e w' ⟨rfl, hb⟩
  obtain ⟨c1, f1, hf⟩ := hfin.out n w' hb
  replace hf := Lib.hid hf
  clear hb
  go_wp2_with fail
  go_ret
  exact ⟨rfl, hf.out 0⟩
set_option maxHeartbeats 1000000 in
theorem name_no (c : Rc) (i : Nat) (t : Tk) (w : World) (h : Rd c i w) (ht : c.l[i]? = some t) (hn : nme t.txt.data.toList = false) :
    Calls Tryz.prog 142 #[.pointer (some ⟨c.rb, 0, none⟩)] w fun e w' => e = badE t.pos ∧ RE c.rb w w' := by
  have hc := Lib.hid (text_any c i t w h ht)
  have hcn := Lib.hid (fun n => (name_any t.txt (w.drewN n) (by have := (h.txs t (List.mem_of_getElem? ht)).1; unfold maxLen; omega) (h.drewN n).tb.sg).mono fun x w' h2 => (⟨by rw [h2.1, hn], h2.2⟩ : x = .returned (.bool false) ∧ Below (w.drewN n).heap.size (w.drewN n) w'))
  have hr := Lib.hid (fun n w' (hb : Below (w.drewN n).heap.size (w.drewN n) w') => refuse_any c i t w' ((h.drewN n).ext hb) ht)
  have hre : Hid (∀ n w' m, Below (w.drewN n).heap.size (w.drewN n) w' → RE c.rb w (w'.drewN m)) := Lib.hid fun n w' m hb => ((RE.drewN w n).trans (RE.of_below hb)).trans (RE.drewN _ m)
  clear h ht hn
  go_enter Tryz.func142, Tryz.ntmps142
  go_wp2_with fail
  refine hc.out.mono ?_
  rintro e w' ⟨rfl, n, rfl⟩
  go_wp2_with fail
  refine (hcn.out n).mono ?_
  rintro e w' ⟨rfl, hb⟩
  replace hb := Lib.hid hb
  go_wp2_with fail
  refine (hr.out n w' hb.out).mono ?_
  rintro e w2 ⟨rfl, m, rfl⟩
  exact ⟨rfl, rfl, hre.out n w' m hb.out⟩
end Go.Proofs.YtpcdlneompnhlaaGreatDoor.Pa

namespace Go.Proofs.YtpcdlneompnhlaaGreatDoor.Pa
open Go Go.RowKit
open Go.Proofs.YtpcdlneompnhlaaGreatDoor.Lx Go.Proofs.YtpcdlneompnhlaaGreatDoor.Tr

mutual
/-- an expression without its addresses, with its places -/
def ea : Ex → Ex
  | .mk k nm n _ _ args pos => .mk k nm n none 0 (eaL args) pos
def eaL : List Ex → List Ex
  | [] => []
  | e :: r => ea e :: eaL r
end
theorem ea_eq (k : Int) (nm : ByteArray) (n : Int) (a : Option Addr) (cap : Nat) (args : List Ex) (pos : Int) : ea (.mk k nm n a cap args pos) = .mk k nm n none 0 (eaL args) pos := by unfold ea; rfl
theorem eaL_cons (e : Ex) (r : List Ex) : eaL (e :: r) = ea e :: eaL r := by rw [eaL]
theorem eaL_nil : eaL [] = [] := by unfold eaL; rfl
theorem eaL_map (l : List Ex) : eaL l = l.map ea := by
  induction l with
  | nil => exact eaL_nil
  | cons e r ih => rw [eaL_cons, ih]; rfl

def VX (S : Nat → Prop) (x : Ex) (v : Value) (w : World) : Prop := ∃ e : Ex, v = .agg ⟨e.vals⟩ ∧ Ex.In w S e ∧ ea e = x
def VXs (S : Nat → Prop) (xs : List Ex) (v : Value) (w : World) : Prop := ∃ (l : List Ex) (a : Option Addr) (cap : Nat), v = .slice a l.length cap ∧ RowAt w S a cap l.length (exCells l) ∧ Ex.InL w S l ∧ eaL l = xs
theorem VX.kps {S : Nat → Prop} {x : Ex} {v : Value} {w w' : World} (h : VX S x v w) (hb : Kps S w w') : VX S x v w' := by
  obtain ⟨e, h1, h2, h3⟩ := h
  exact ⟨e, h1, Ex.In.below hb _ h2, h3⟩
theorem VXs.kps {S : Nat → Prop} {x : List Ex} {v : Value} {w w' : World} (h : VXs S x v w) (hb : Kps S w w') : VXs S x v w' := by
  obtain ⟨l, a, c, h1, h2, h3, h4⟩ := h
  exact ⟨l, a, c, h1, h2.below hb, Ex.InL.below hb _ h3, h4⟩

/-! ### tokens by their number -/
def tx (l : List Tk) (i : Nat) : ByteArray := ((l[i]?).map Tk.txt).getD ⟨#[]⟩
def ps (l : List Tk) (i : Nat) : Int := ((l[i]?).map Tk.pos).getD 0
def kd (l : List Tk) (i : Nat) : Int := ((l[i]?).map Tk.kind).getD 0
theorem tx_of {l : List Tk} {i : Nat} {t : Tk} (h : l[i]? = some t) : tx l i = t.txt := by unfold tx; rw [h]; rfl
theorem ps_of {l : List Tk} {i : Nat} {t : Tk} (h : l[i]? = some t) : ps l i = t.pos := by unfold ps; rw [h]; rfl
theorem kd_of {l : List Tk} {i : Nat} {t : Tk} (h : l[i]? = some t) : kd l i = t.kind := by unfold kd; rw [h]; rfl

def noOpr : Opr := ⟨⟨#[]⟩, 0, 0, false⟩
def oprIn : List Opr → ByteArray → Opr
  | [], _ => noOpr
  | o :: r, s => if s = o.sign then o else oprIn r s
def opr (s : ByteArray) : Opr := oprIn oprs s
def Opr.val (o : Opr) : Value := .agg ⟨o.cells⟩

/-- a number, of which the sign ahead was read -/
def numR (l : List Tk) (i : Nat) (sign : ByteArray) : Res Int :=
  match Lib.parseIntB 64 (sign.data.toList ++ (tx l i).data.toList) with
  | .ok n => if kd l i = 2 then .ok n (i + 1) else .bad (ps l i)
  | _ => .bad (ps l i)
def nameR (l : List Tk) (i : Nat) : Res ByteArray := if nme (tx l i).data.toList = true then .ok (tx l i) (i + 1) else .bad (ps l i)
def two (o : Opr) (a b : Ex) (p : Int) : Ex := if o.turns = true then .mk o.kind ⟨#[]⟩ 0 none 0 [b, a] p else .mk o.kind ⟨#[]⟩ 0 none 0 [a, b] p

/-! ### expressions, by so much fuel (none: it ran out) -/
mutual
def unaryP (l : List Tk) : Nat → Nat → Option (Res Ex)
  | 0, _ => none
  | f + 1, i =>
    if tx l i = ⟨#[45]⟩ then
      match unaryP l f (i + 1) with
      | some (.ok e j) => some (.ok (.mk 5 ⟨#[]⟩ 0 none 0 [e] (ps l i)) j)
      | r => r
    else if tx l i = ⟨#[33]⟩ then
      match unaryP l f (i + 1) with
      | some (.ok e j) => some (.ok (.mk 6 ⟨#[]⟩ 0 none 0 [e] (ps l i)) j)
      | r => r
    else atomP l f i
def atomP (l : List Tk) : Nat → Nat → Option (Res Ex)
  | 0, _ => none
  | f + 1, i =>
    if kd l i = 2 then
      match numR l i ⟨#[]⟩ with
      | .ok n j => some (.ok (.mk 1 ⟨#[]⟩ n none 0 [] (ps l i)) j)
      | .bad p => some (.bad p)
    else if tx l i = ⟨#[116, 114, 117, 101]⟩ then some (.ok (.mk 2 ⟨#[]⟩ 1 none 0 [] (ps l i)) (i + 1))
    else if tx l i = ⟨#[102, 97, 108, 115, 101]⟩ then some (.ok (.mk 2 ⟨#[]⟩ 0 none 0 [] (ps l i)) (i + 1))
    else if tx l i = ⟨#[40]⟩ then
      match joinedP l f 1 (i + 1) with
      | some (.ok e j) => some (if tx l j = ⟨#[41]⟩ then .ok e (j + 1) else .bad (ps l j))
      | r => r
    else match nameR l i with
      | .bad p => some (.bad p)
      | .ok s j =>
        if tx l j = ⟨#[91]⟩ then
          match joinedP l f 1 (j + 1) with
          | some (.ok e k) => some (if tx l k = ⟨#[93]⟩ then .ok (.mk 4 s 0 none 0 [e] (ps l i)) (k + 1) else .bad (ps l k))
          | r => r
        else some (.ok (.mk 3 s 0 none 0 [] (ps l i)) j)
def joinedP (l : List Tk) : Nat → Int → Nat → Option (Res Ex)
  | 0, _, _ => none
  | f + 1, least, i =>
    match unaryP l f i with
    | some (.ok e j) => loopP l f least 5 e j
    | r => r
def loopP (l : List Tk) : Nat → Int → Int → Ex → Nat → Option (Res Ex)
  | 0, _, _, _, _ => none
  | f + 1, least, most, left, i =>
    if (opr (tx l i)).binds < least ∨ most < (opr (tx l i)).binds then some (.ok left i)
    else match joinedP l f ((opr (tx l i)).binds + 1) (i + 1) with
      | some (.ok right j) => loopP l f least (if (opr (tx l i)).binds = 3 then 2 else (opr (tx l i)).binds) (two (opr (tx l i)) left right (ps l i)) j
      | r => r
end
end Go.Proofs.YtpcdlneompnhlaaGreatDoor.Pa

namespace Go.Proofs.YtpcdlneompnhlaaGreatDoor.Pa
open Go Go.RowKit
open Go.Proofs.YtpcdlneompnhlaaGreatDoor.Lx Go.Proofs.YtpcdlneompnhlaaGreatDoor.Tr

theorem parse_ok (s : ByteArray) (hs : s.size ≤ 1000000) (n : Int) (h : Lib.parseIntB 64 s.data.toList = .ok n) (V : World) :
    Calls Tryz.prog 169 #[.string s, .int .i64 10, .int .i64 64] V fun e w' => e = .returned (.tuple #[.int .i64 n, .nilIface]) ∧ Below V.heap.size V w' := by
  refine (Tryz.strconv_ParseInt_10_at64_ok s (by omega) n h V).mono ?_
  rintro e w' ⟨h1, rfl | ⟨t, rfl⟩⟩
  · exact ⟨h1, Below.refl _ _⟩
  · exact ⟨h1, Lib.bytesWorld_below _ _ _⟩
theorem parse_bad (s : ByteArray) (hs : s.size ≤ 1000000) (h : ∀ n, Lib.parseIntB 64 s.data.toList ≠ .ok n) (V : World) (tb : TbP V) :
    Calls Tryz.prog 169 #[.string s, .int .i64 10, .int .i64 64] V fun e w' => (∃ (x : Int) (N : Nat), e = .returned (.tuple #[.int .i64 x, .iface 203 (.pointer (some ⟨N, 0, none⟩))])) ∧ Below V.heap.size V w' := by
  obtain ⟨ev, he, hev⟩ := tb.es
  obtain ⟨ew, hf, hew⟩ := tb.er
  cases hp : Lib.parseIntB 64 s.data.toList
  case ok n => exact absurd hp (h n)
  case range =>
    refine (Tryz.strconv_ParseInt_10_at64_range s (by omega) hp ew V hf hew).mono ?_
    rintro e w' ⟨N, h1, _, _, h4⟩
    exact ⟨⟨_, N, h1⟩, h4⟩
  refine (Tryz.strconv_ParseInt_10_at64_syntax s (by omega) hp ev V he hev).mono ?_
  rintro e w' ⟨N, h1, _, _, h4⟩
  exact ⟨⟨_, N, h1⟩, h4⟩

set_option maxHeartbeats 4000000 in
set_option maxRecDepth 100000 in
theorem number_ok (c : Rc) (i : Nat) (t : Tk) (sign : ByteArray) (w : World) (h : Rd c i w) (ht : c.l[i]? = some t) (hs : sign.size ≤ 10) (hi : i + 1 < c.l.length) (hk : t.kind = 2) (n : Int) (hn : Lib.parseIntB 64 (sign ++ t.txt).data.toList = .ok n) :
    Calls Tryz.prog 145 #[.pointer (some ⟨c.rb, 0, none⟩), .string sign] w fun e w' => e = .returned (.int .i64 n) ∧ Rd c (i + 1) w' ∧ RE c.rb w w' := by
  obtain ⟨b, off, ha, hS, hcell⟩ := tk_row h.row i t ht
  have c0 : w.cell? ⟨c.rb, 0, none⟩ = some (.slice c.ta c.l.length c.cap) := blk_cell h.blk rfl
  have c1 : w.cell? ⟨c.rb, 1, none⟩ = some (.int .i64 i) := blk_cell h.blk rfl
  have t0 := hcell 0 _ rfl
  have t1 := hcell 1 _ rfl
  have t2 := hcell 2 _ rfl
  rw [← Nat.add_assoc] at t0 t1 t2
  rw [Nat.add_zero] at t0
  have hlt : (i : Int) < (c.l.length : Int) := by have := h.lt; omega
  have hlim : c.l.length ≤ 100000 := h.lim
  have h0 : (0 : Int) ≤ (i : Int) := by omega
  have hsz : t.txt.size ≤ 100000 := (h.txs t (List.mem_of_getElem? ht)).1
  rw [ha] at c0
  obtain ⟨tk, txt, pos⟩ := t
  simp only at hsz t0 t1 t2 hk
  have hsum : (sign ++ txt).size ≤ 1000000 := by rw [ByteArray.size_append]; omega
  have hR : Hid (∀ (w' : World), Below w.heap.size w w' → w'.cell? ⟨c.rb, 1, none⟩ = some (.int .i64 i) ∧ w'.frozen? ⟨c.rb, 1, none⟩ = false ∧ ∀ m, Rd c (i + 1) ((w'.setCell ⟨c.rb, 1, none⟩ (.int .i64 ((i + 1 : Nat) : Int))).drewN m) ∧ RE c.rb w ((w'.setCell ⟨c.rb, 1, none⟩ (.int .i64 ((i + 1 : Nat) : Int))).drewN m)) := Lib.hid fun w' hb => by
    have h1 := h.ext hb
    exact ⟨blk_cell h1.blk rfl, blk_free h1.blk 1, fun m => ⟨(h1.set hi).drewN m, ((RE.of_below hb).trans (RE.set w' 1 _)).trans (RE.drewN _ m)⟩⟩
  have hpi := Lib.hid (parse_ok (sign ++ txt) hsum n hn)
  replace hk := Lib.hid hk
  clear hn
  clear hcell ht h ha hS
  go_enter Tryz.func145, Tryz.ntmps145
  go_wp2_with fail
  go_region_held3 (fun V => V.cell? ⟨c.rb, 0, none⟩ = some (.slice (some ⟨b, off, none⟩) c.l.length c.cap) ∧ V.cell? ⟨c.rb, 1, none⟩ = some (.int .i64 i) ∧ V.cell? ⟨b, off + i * 3, none⟩ = some (.int .u8 tk) ∧ V.cell? ⟨b, off + i * 3 + 1, none⟩ = some (.string txt) ∧ V.cell? ⟨b, off + i * 3 + 2, none⟩ = some (.int .i64 pos)) (go_keep) (fail)
  go_wp2_with fail
  obtain ⟨V, hV⟩ : ∃ V, (w.alloc (Obj.cells #[Value.int IntKind.u8 tk, Value.string txt, Value.int IntKind.i64 pos] 69)).drew = V := ⟨_, rfl⟩
  have hbV : Below w.heap.size w V := by rw [← hV]; exact ((Below.refl _ _).alloc (Nat.le_refl _) _).drew
  have k0 : V.cell? ⟨w.heap.size, 0, none⟩ = some (.int .u8 tk) := by
    rw [← hV]
    exact blk_cell (W := w.alloc (Obj.cells #[Value.int IntKind.u8 tk, Value.string txt, Value.int IntKind.i64 pos] 69)) (World.alloc_heap_new w _) rfl
  rw [hV]
  clear hV
  refine (hpi.out V).mono ?_
  rintro e w' ⟨rfl, hb⟩
  obtain ⟨d1, f1, hf⟩ := hR.out w' (hbV.trans (hb.mono hbV.size))
  have k0' : w'.cell? ⟨w.heap.size, 0, none⟩ = some (.int .u8 2) := by rw [← hk.out]; exact below_in hb k0
  replace hf := Lib.hid hf
  have hk2 := hk.out
  subst hk2
  clear hb k0 hbV hpi hk
  go_wp2_with fail
  go_ret
  exact ⟨rfl, hf.out 0⟩

set_option maxHeartbeats 4000000 in
set_option maxRecDepth 100000 in
theorem number_kind (c : Rc) (i : Nat) (t : Tk) (sign : ByteArray) (w : World) (h : Rd c i w) (ht : c.l[i]? = some t) (hs : sign.size ≤ 10) (hk : ¬ t.kind = 2) (n : Int) (hn : Lib.parseIntB 64 (sign ++ t.txt).data.toList = .ok n) :
    Calls Tryz.prog 145 #[.pointer (some ⟨c.rb, 0, none⟩), .string sign] w fun e w' => e = badE t.pos ∧ RE c.rb w w' := by
  obtain ⟨b, off, ha, hS, hcell⟩ := tk_row h.row i t ht
  have c0 : w.cell? ⟨c.rb, 0, none⟩ = some (.slice c.ta c.l.length c.cap) := blk_cell h.blk rfl
  have c1 : w.cell? ⟨c.rb, 1, none⟩ = some (.int .i64 i) := blk_cell h.blk rfl
  have t0 := hcell 0 _ rfl
  have t1 := hcell 1 _ rfl
  have t2 := hcell 2 _ rfl
  rw [← Nat.add_assoc] at t0 t1 t2
  rw [Nat.add_zero] at t0
  have hlt : (i : Int) < (c.l.length : Int) := by have := h.lt; omega
  have hlim : c.l.length ≤ 100000 := h.lim
  have h0 : (0 : Int) ≤ (i : Int) := by omega
  have hsz : t.txt.size ≤ 100000 := (h.txs t (List.mem_of_getElem? ht)).1
  rw [ha] at c0
  obtain ⟨tk, txt, pos⟩ := t
  simp only at hsz t0 t1 t2 hk
  have hsum : (sign ++ txt).size ≤ 1000000 := by rw [ByteArray.size_append]; omega
  have hR : Hid (∀ (w' : World), Below w.heap.size w w' → w'.cell? ⟨c.rb, 1, none⟩ = some (.int .i64 i) ∧ w'.frozen? ⟨c.rb, 1, none⟩ = false ∧ Calls Tryz.prog 154 #[.pointer (some ⟨c.rb, 0, none⟩)] w' fun e w2 => e = badE pos ∧ RE c.rb w w2) := Lib.hid fun w' hb => by
    have h1 := h.ext hb
    exact ⟨blk_cell h1.blk rfl, blk_free h1.blk 1, (refuse_any c i _ w' h1 ht).mono fun e w2 h2 => ⟨h2.1, by obtain ⟨m, rfl⟩ := h2.2; exact (RE.of_below hb).trans (RE.drewN _ m)⟩⟩
  have hpi := Lib.hid (parse_ok (sign ++ txt) hsum n hn)
  replace hk := Lib.hid hk
  clear hn
  clear hcell ht h ha hS
  go_enter Tryz.func145, Tryz.ntmps145
  go_wp2_with fail
  go_region_held3 (fun V => V.cell? ⟨c.rb, 0, none⟩ = some (.slice (some ⟨b, off, none⟩) c.l.length c.cap) ∧ V.cell? ⟨c.rb, 1, none⟩ = some (.int .i64 i) ∧ V.cell? ⟨b, off + i * 3, none⟩ = some (.int .u8 tk) ∧ V.cell? ⟨b, off + i * 3 + 1, none⟩ = some (.string txt) ∧ V.cell? ⟨b, off + i * 3 + 2, none⟩ = some (.int .i64 pos)) (go_keep) (fail)
  go_wp2_with fail
  obtain ⟨V, hV⟩ : ∃ V, (w.alloc (Obj.cells #[Value.int IntKind.u8 tk, Value.string txt, Value.int IntKind.i64 pos] 69)).drew = V := ⟨_, rfl⟩
  have hbV : Below w.heap.size w V := by rw [← hV]; exact ((Below.refl _ _).alloc (Nat.le_refl _) _).drew
  have k0 : V.cell? ⟨w.heap.size, 0, none⟩ = some (.int .u8 tk) := by
    rw [← hV]
    exact blk_cell (W := w.alloc (Obj.cells #[Value.int IntKind.u8 tk, Value.string txt, Value.int IntKind.i64 pos] 69)) (World.alloc_heap_new w _) rfl
  rw [hV]
  clear hV
  refine (hpi.out V).mono ?_
  rintro e w' ⟨rfl, hb⟩
  have hb2 := hbV.trans (hb.mono hbV.size)
  obtain ⟨_, _, hf⟩ := hR.out w' hb2
  have k0' : w'.cell? ⟨w.heap.size, 0, none⟩ = some (.int .u8 tk) := below_in hb k0
  have kx : (tk != 2) = true := by simpa using hk.out
  have ky : (tk == 2) = false := by simpa using hk.out
  replace hf := Lib.hid hf
  clear hb hb2 k0 hbV hpi hk
  go_wp2_with fail
  refine (hf.out).mono ?_
  rintro e w2 ⟨rfl, m⟩
  exact ⟨rfl, rfl, m⟩

set_option maxHeartbeats 4000000 in
set_option maxRecDepth 100000 in
theorem number_bad (c : Rc) (i : Nat) (t : Tk) (sign : ByteArray) (w : World) (h : Rd c i w) (ht : c.l[i]? = some t) (hs : sign.size ≤ 10) (hn : ∀ n, Lib.parseIntB 64 (sign ++ t.txt).data.toList ≠ .ok n) :
    Calls Tryz.prog 145 #[.pointer (some ⟨c.rb, 0, none⟩), .string sign] w fun e w' => e = badE t.pos ∧ RE c.rb w w' := by
  obtain ⟨b, off, ha, hS, hcell⟩ := tk_row h.row i t ht
  have c0 : w.cell? ⟨c.rb, 0, none⟩ = some (.slice c.ta c.l.length c.cap) := blk_cell h.blk rfl
  have c1 : w.cell? ⟨c.rb, 1, none⟩ = some (.int .i64 i) := blk_cell h.blk rfl
  have t0 := hcell 0 _ rfl
  have t1 := hcell 1 _ rfl
  have t2 := hcell 2 _ rfl
  rw [← Nat.add_assoc] at t0 t1 t2
  rw [Nat.add_zero] at t0
  have hlt : (i : Int) < (c.l.length : Int) := by have := h.lt; omega
  have hlim : c.l.length ≤ 100000 := h.lim
  have h0 : (0 : Int) ≤ (i : Int) := by omega
  have hsz : t.txt.size ≤ 100000 := (h.txs t (List.mem_of_getElem? ht)).1
  rw [ha] at c0
  obtain ⟨tk, txt, pos⟩ := t
  simp only at hsz t0 t1 t2
  have hsum : (sign ++ txt).size ≤ 1000000 := by rw [ByteArray.size_append]; omega
  have hR : Hid (∀ (w' : World), Below w.heap.size w w' → w'.cell? ⟨c.rb, 1, none⟩ = some (.int .i64 i) ∧ w'.frozen? ⟨c.rb, 1, none⟩ = false ∧ Calls Tryz.prog 154 #[.pointer (some ⟨c.rb, 0, none⟩)] w' fun e w2 => e = badE pos ∧ RE c.rb w w2) := Lib.hid fun w' hb => by
    have h1 := h.ext hb
    exact ⟨blk_cell h1.blk rfl, blk_free h1.blk 1, (refuse_any c i _ w' h1 ht).mono fun e w2 h2 => ⟨h2.1, by obtain ⟨m, rfl⟩ := h2.2; exact (RE.of_below hb).trans (RE.drewN _ m)⟩⟩
  have hpi := Lib.hid fun (V : World) (hbV : Below w.heap.size w V) => parse_bad (sign ++ txt) hsum hn V ((h.ext hbV).tb)
  clear hn
  clear hcell ht h ha hS
  go_enter Tryz.func145, Tryz.ntmps145
  go_wp2_with fail
  go_region_held3 (fun V => V.cell? ⟨c.rb, 0, none⟩ = some (.slice (some ⟨b, off, none⟩) c.l.length c.cap) ∧ V.cell? ⟨c.rb, 1, none⟩ = some (.int .i64 i) ∧ V.cell? ⟨b, off + i * 3, none⟩ = some (.int .u8 tk) ∧ V.cell? ⟨b, off + i * 3 + 1, none⟩ = some (.string txt) ∧ V.cell? ⟨b, off + i * 3 + 2, none⟩ = some (.int .i64 pos)) (go_keep) (fail)
  go_wp2_with fail
  obtain ⟨V, hV⟩ : ∃ V, (w.alloc (Obj.cells #[Value.int IntKind.u8 tk, Value.string txt, Value.int IntKind.i64 pos] 69)).drew = V := ⟨_, rfl⟩
  have hbV : Below w.heap.size w V := by rw [← hV]; exact ((Below.refl _ _).alloc (Nat.le_refl _) _).drew
  have k0 : V.cell? ⟨w.heap.size, 0, none⟩ = some (.int .u8 tk) := by
    rw [← hV]
    exact blk_cell (W := w.alloc (Obj.cells #[Value.int IntKind.u8 tk, Value.string txt, Value.int IntKind.i64 pos] 69)) (World.alloc_heap_new w _) rfl
  rw [hV]
  clear hV
  refine (hpi.out V hbV).mono ?_
  rintro e w' ⟨⟨x, N, rfl⟩, hb⟩
  have hb2 := hbV.trans (hb.mono hbV.size)
  obtain ⟨_, _, hf⟩ := hR.out w' hb2
  have k0' : w'.cell? ⟨w.heap.size, 0, none⟩ = some (.int .u8 tk) := below_in hb k0
  replace hf := Lib.hid hf
  clear hb hb2 k0 hbV hpi
  by_cases hk : tk = 2
  · subst hk
    go_wp2_with fail
    refine (hf.out).mono ?_
    rintro e w2 ⟨rfl, m⟩
    exact ⟨rfl, rfl, m⟩
  · have kx : (tk != 2) = true := by simpa using hk
    have ky : (tk == 2) = false := by simpa using hk
    clear hk
    go_wp2_with fail
    refine (hf.out).mono ?_
    rintro e w2 ⟨rfl, m⟩
    exact ⟨rfl, rfl, m⟩

end Go.Proofs.YtpcdlneompnhlaaGreatDoor.Pa

namespace Go.Proofs.YtpcdlneompnhlaaGreatDoor.Pa
open Go Go.RowKit
open Go.Proofs.YtpcdlneompnhlaaGreatDoor.Lx Go.Proofs.YtpcdlneompnhlaaGreatDoor.Tr

def opAt (k : Nat) : Opr := oprs.getD k noOpr
theorem opVals_size : opVals.size = 52 := by decide
theorem opI0 (w : World) : (Instr.index 206 (.agg opVals) (.int .i64 ((0 : Nat) : Int))).run Tryz.prog w = .ok (.agg ⟨(opAt 0).cells⟩) w := by kernel_rfl
theorem opI1 (w : World) : (Instr.index 206 (.agg opVals) (.int .i64 ((1 : Nat) : Int))).run Tryz.prog w = .ok (.agg ⟨(opAt 1).cells⟩) w := by kernel_rfl
theorem opI2 (w : World) : (Instr.index 206 (.agg opVals) (.int .i64 ((2 : Nat) : Int))).run Tryz.prog w = .ok (.agg ⟨(opAt 2).cells⟩) w := by kernel_rfl
theorem opI3 (w : World) : (Instr.index 206 (.agg opVals) (.int .i64 ((3 : Nat) : Int))).run Tryz.prog w = .ok (.agg ⟨(opAt 3).cells⟩) w := by kernel_rfl
theorem opI4 (w : World) : (Instr.index 206 (.agg opVals) (.int .i64 ((4 : Nat) : Int))).run Tryz.prog w = .ok (.agg ⟨(opAt 4).cells⟩) w := by kernel_rfl
theorem opI5 (w : World) : (Instr.index 206 (.agg opVals) (.int .i64 ((5 : Nat) : Int))).run Tryz.prog w = .ok (.agg ⟨(opAt 5).cells⟩) w := by kernel_rfl
theorem opI6 (w : World) : (Instr.index 206 (.agg opVals) (.int .i64 ((6 : Nat) : Int))).run Tryz.prog w = .ok (.agg ⟨(opAt 6).cells⟩) w := by kernel_rfl
theorem opI7 (w : World) : (Instr.index 206 (.agg opVals) (.int .i64 ((7 : Nat) : Int))).run Tryz.prog w = .ok (.agg ⟨(opAt 7).cells⟩) w := by kernel_rfl
theorem opI8 (w : World) : (Instr.index 206 (.agg opVals) (.int .i64 ((8 : Nat) : Int))).run Tryz.prog w = .ok (.agg ⟨(opAt 8).cells⟩) w := by kernel_rfl
theorem opI9 (w : World) : (Instr.index 206 (.agg opVals) (.int .i64 ((9 : Nat) : Int))).run Tryz.prog w = .ok (.agg ⟨(opAt 9).cells⟩) w := by kernel_rfl
theorem opI10 (w : World) : (Instr.index 206 (.agg opVals) (.int .i64 ((10 : Nat) : Int))).run Tryz.prog w = .ok (.agg ⟨(opAt 10).cells⟩) w := by kernel_rfl
theorem opI11 (w : World) : (Instr.index 206 (.agg opVals) (.int .i64 ((11 : Nat) : Int))).run Tryz.prog w = .ok (.agg ⟨(opAt 11).cells⟩) w := by kernel_rfl
theorem opI12 (w : World) : (Instr.index 206 (.agg opVals) (.int .i64 ((12 : Nat) : Int))).run Tryz.prog w = .ok (.agg ⟨(opAt 12).cells⟩) w := by kernel_rfl
theorem opIndex (k : Nat) (h : k < 13) (w : World) : (Instr.index 206 (.agg opVals) (.int .i64 (k : Int))).run Tryz.prog w = .ok (.agg ⟨(opAt k).cells⟩) w := by
  have : k = 0 ∨ k = 1 ∨ k = 2 ∨ k = 3 ∨ k = 4 ∨ k = 5 ∨ k = 6 ∨ k = 7 ∨ k = 8 ∨ k = 9 ∨ k = 10 ∨ k = 11 ∨ k = 12 := by omega
  rcases this with rfl | rfl | rfl | rfl | rfl | rfl | rfl | rfl | rfl | rfl | rfl | rfl | rfl
  · exact opI0 w
  · exact opI1 w
  · exact opI2 w
  · exact opI3 w
  · exact opI4 w
  · exact opI5 w
  · exact opI6 w
  · exact opI7 w
  · exact opI8 w
  · exact opI9 w
  · exact opI10 w
  · exact opI11 w
  · exact opI12 w
theorem opr_hit (s : ByteArray) (k : Nat) (h : k < 13) (hI : opr s = oprIn (oprs.drop k) s) (hs : s = (opAt k).sign) : opr s = opAt k := by
  have hk : k < oprs.length := h
  rw [hI, List.drop_eq_getElem_cons hk]
  unfold oprIn
  have e : oprs[k] = opAt k := by unfold opAt; simp [hk]
  rw [e, if_pos hs]
theorem opr_miss (s : ByteArray) (k : Nat) (h : k < 13) (hI : opr s = oprIn (oprs.drop k) s) (hs : ¬ s = (opAt k).sign) : opr s = oprIn (oprs.drop (k + 1)) s := by
  have hk : k < oprs.length := h
  rw [hI, List.drop_eq_getElem_cons hk]
  have e : oprs[k] = opAt k := by unfold opAt; simp [hk]
  rw [oprIn, e, if_neg hs]
theorem heap_set4 {W : World} {g : Nat} {a0 b0 c0 d0 : Value} {T : TypeId} {fr : Nat × Nat} (h : W.heap[g]? = some (.cells #[a0, b0, c0, d0] T fr)) (a b c d : Value) :
    ((((W.setCell ⟨g, 0, none⟩ a).setCell ⟨g, 1, none⟩ b).setCell ⟨g, 2, none⟩ c).setCell ⟨g, 3, none⟩ d).heap[g]? = some (.cells #[a, b, c, d] T fr) := by
  have := heap_set (heap_set (heap_set (heap_set h 0 a) 1 b) 2 c) 3 d
  simpa using this
set_option maxHeartbeats 4000000 in
set_option maxRecDepth 100000 in
theorem operator_any (c : Rc) (i : Nat) (t : Tk) (w : World) (h : Rd c i w) (ht : c.l[i]? = some t) :
    Calls Tryz.prog 181 #[.pointer (some ⟨c.rb, 0, none⟩)] w fun e w' => e = .returned (opr t.txt).val ∧ Below w.heap.size w w' := by
  have hT := Lib.hid fun (V : World) (hb : Below w.heap.size w V) (n : Nat) => text_any c i t (V.drewN n) ((h.ext hb).drewN n) ht
  obtain ⟨ty, fr, hg⟩ := h.tb.op
  have hg1 : (w.alloc (.cells #[.string ⟨#[]⟩, .int .u8 0, .int .i64 0, .bool false] 196)).heap[5]? = some (.cells opVals ty fr) := by
    rw [heap_alloc_old _ _ (Array.getElem?_eq_some_iff.1 hg).1]; exact hg
  have hg1 := Lib.hid hg1
  clear hg h ht
  have hsz : (Tryz.prog.info? 206).map (·.size) = some opVals.size := by rw [opVals_size]; kernel_rfl
  have hsz := Lib.hid hsz
  go_enter Tryz.func181, Tryz.ntmps181
  go_wp2_with (with_reducible refine wpList_load_row rfl 206 (.global 5) rfl 5 rfl ty opVals fr _ hg1.out Tryz.underlying206 rfl hsz.out ?_)
  obtain ⟨w1, hw1⟩ : ∃ W, w.alloc (.cells #[.string ⟨#[]⟩, .int .u8 0, .int .i64 0, .bool false] 196) = W := ⟨_, rfl⟩
  have hb1 : Below w.heap.size w w1 := by rw [← hw1]; exact (Below.refl _ _).alloc (Nat.le_refl _) _
  have hr1 : w1.heap[w.heap.size]? = some (.cells #[.string ⟨#[]⟩, .int .u8 0, .int .i64 0, .bool false] 196 (0, 0)) := by rw [← hw1]; exact World.alloc_heap_new w _
  have hs1 : w.heap.size < w1.heap.size := by rw [← hw1]; simp
  rw [hw1]
  clear hw1 hg1 hsz
  have hb1' := Lib.hid hb1
  have hr1' := Lib.hid hr1
  clear hb1 hr1
  go_loopw [6] (fun v wr => ∃ k : Nat, k ≤ 13 ∧ v = .int .i64 k ∧ Hid (opr t.txt = oprIn (oprs.drop k) t.txt) ∧ Below w1.heap.size w1 wr) (fun v _ => 13 - (intOf v).toNat)
  case atStart => exact ⟨0, by omega, rfl, Lib.hid rfl, Below.refl _ _⟩
  case round =>
    obtain ⟨k, hk, rfl, hI, hbr⟩ := hrel
    have hrr := (hbr.block _ hs1).trans hr1'.out
    have r0 : wr.cell? ⟨w.heap.size, 0, none⟩ = some (.string ⟨#[]⟩) := blk_cell hrr rfl
    have r1 : wr.cell? ⟨w.heap.size, 1, none⟩ = some (.int .u8 0) := blk_cell hrr rfl
    have r2 : wr.cell? ⟨w.heap.size, 2, none⟩ = some (.int .i64 0) := blk_cell hrr rfl
    have r3 : wr.cell? ⟨w.heap.size, 3, none⟩ = some (.bool false) := blk_cell hrr rfl
    have f0 := blk_free hrr 0
    have f1 := blk_free hrr 1
    have f2 := blk_free hrr 2
    have f3 := blk_free hrr 3
    have hsr : w.heap.size < wr.heap.size := Nat.lt_of_lt_of_le hs1 hbr.size
    have hbw := hb1'.out.trans (hbr.mono (Nat.le_of_lt hs1))
    have hfin : Hid (∀ (o : Obj) (n : Nat), Below w.heap.size w ((wr.alloc o).drewN n)) := Lib.hid fun o n => by
      have h := hbw.alloc (by omega) o
      exact ⟨h.os, h.tape, h.output, h.size, h.block⟩
    have hfin2 : Hid (∀ (a b c d : Value), Below w.heap.size w ((((wr.setCell ⟨w.heap.size, 0, none⟩ a).setCell ⟨w.heap.size, 1, none⟩ b).setCell ⟨w.heap.size, 2, none⟩ c).setCell ⟨w.heap.size, 3, none⟩ d)) := Lib.hid fun a b c d =>
      (((hbw.setCell (Nat.le_refl _) a).setCell (Nat.le_refl _) b).setCell (Nat.le_refl _) c).setCell (Nat.le_refl _) d
    have hfin3 : Hid (∀ (o : Obj) (n : Nat) (a b c d : Value), Below w.heap.size w ((((((wr.alloc o).drewN n).setCell ⟨w.heap.size, 0, none⟩ a).setCell ⟨w.heap.size, 1, none⟩ b).setCell ⟨w.heap.size, 2, none⟩ c).setCell ⟨w.heap.size, 3, none⟩ d) ∧ ((((((wr.alloc o).drewN n).setCell ⟨w.heap.size, 0, none⟩ a).setCell ⟨w.heap.size, 1, none⟩ b).setCell ⟨w.heap.size, 2, none⟩ c).setCell ⟨w.heap.size, 3, none⟩ d).heap[w.heap.size]? = some (.cells #[a, b, c, d] 196 (0, 0))) := Lib.hid fun o n a b c d => by
      have h := (hfin.out o n)
      refine ⟨(((h.setCell (Nat.le_refl _) a).setCell (Nat.le_refl _) b).setCell (Nat.le_refl _) c).setCell (Nat.le_refl _) d, heap_set4 (W := (wr.alloc o).drewN n) ((heap_alloc_old wr o hsr).trans hrr) a b c d⟩
    have hend : Hid (∀ (a b c d : Value), ((((wr.setCell ⟨w.heap.size, 0, none⟩ a).setCell ⟨w.heap.size, 1, none⟩ b).setCell ⟨w.heap.size, 2, none⟩ c).setCell ⟨w.heap.size, 3, none⟩ d).heap[w.heap.size]? = some (.cells #[a, b, c, d] 196 (0, 0))) := Lib.hid fun a b c d => heap_set4 hrr a b c d
    have hloop : Hid (∀ (o : Obj) (n : Nat), Below w1.heap.size w1 ((wr.alloc o).drewN n)) := Lib.hid fun o n => by
      have h := hbr.alloc hbr.size o
      exact ⟨h.os, h.tape, h.output, h.size, h.block⟩
    have hTT : Hid (∀ (o : Obj) (n : Nat), Calls Tryz.prog 153 #[.pointer (some ⟨c.rb, 0, none⟩)] ((wr.alloc o).drewN n) fun e w' => e = .returned (.string t.txt) ∧ ∃ m, w' = ((wr.alloc o).drewN n).drewN m) := Lib.hid fun o n => hT.out _ (hbw.alloc (by omega) o) n
    clear hrr hbr hbw
    by_cases hlt : k < 13
    · have hix := fun W => opIndex k hlt W
      have Hhit := Lib.hid (opr_hit t.txt k hlt hI.out)
      have Hmiss := Lib.hid (opr_miss t.txt k hlt hI.out)
      clear hI
      obtain ⟨sg, kn, bn, tn, ho⟩ : ∃ a b c d, opAt k = ⟨a, b, c, d⟩ := ⟨_, _, _, _, rfl⟩
      rw [ho] at hix Hhit Hmiss
      have hix' : ∀ W : World, (Instr.index 206 (.agg opVals) (.int .i64 (k : Int))).run Tryz.prog W = .ok (.agg #[.string sg, .int .u8 kn, .int .i64 bn, .bool tn]) W := hix
      clear hix ho
      by_cases hs : t.txt = sg
      · have HF := Lib.hid (Hhit.out hs)
        subst hs
        clear Hhit Hmiss
        go_wp2_with fail
        go_quiet ((go_at_call 153; exact Calls.quiet_of (hTT.out _ _)))
        go_wp2_with fail
        obtain ⟨g1, g2⟩ := hfin3.out (.cells #[.string t.txt, .int .u8 kn, .int .i64 bn, .bool tn] 196) nq (.string t.txt) (.int .u8 kn) (.int .i64 bn) (.bool tn)
        refine bodyPost_ret (v := .agg #[.string t.txt, .int .u8 kn, .int .i64 bn, .bool tn]) (results_cell_row Tryz.results181 _ _ w.heap.size _ _ _ _ rfl g2 Tryz.underlying196 rfl (by kernel_rfl)) rfl ⟨by rw [HF.out]; rfl, g1⟩
      · have HF := Lib.hid (Hmiss.out hs)
        have hx := str_ne hs
        clear Hhit Hmiss hs
        go_wp2_with fail
        go_quiet ((go_at_call 153; exact Calls.quiet_of (hTT.out _ _)))
        go_wp2_with fail
        go_roundw
        case rel => exact ⟨k + 1, by omega, by go_num, HF, hloop.out _ _⟩
        case measure => simp [intOf]; omega
    · obtain rfl : k = 13 := by omega
      have HF : Hid (opr t.txt = noOpr) := Lib.hid (by rw [hI.out]; rfl)
      clear hI
      go_wp2_with fail
      have g1 := hfin2.out (.string ⟨#[]⟩) (.int .u8 0) (.int .i64 0) (.bool false)
      have g2 := hend.out (.string ⟨#[]⟩) (.int .u8 0) (.int .i64 0) (.bool false)
      refine bodyPost_ret (v := .agg #[.string ⟨#[]⟩, .int .u8 0, .int .i64 0, .bool false]) (results_cell_row Tryz.results181 _ _ w.heap.size _ _ _ _ rfl g2 Tryz.underlying196 rfl (by kernel_rfl)) rfl ⟨by rw [HF.out]; rfl, g1⟩
end Go.Proofs.YtpcdlneompnhlaaGreatDoor.Pa
