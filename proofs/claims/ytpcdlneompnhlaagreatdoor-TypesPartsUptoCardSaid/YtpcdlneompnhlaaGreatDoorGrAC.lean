/- The parser's reader in memory; walks of its smallest methods: at, text. Conditions: the next token is there. · Walks of tree.fitsName, fitsTo, fitsExpr. Conditions: the package's tables hold their lists. · A range over a function whose iterator tells the round, beside the value, what lies in memory when it yields. Conditions: none. · Walks of tree.part.fits, eachExpr: all parts of expressions, each ahead of what is in it. Conditions: the package's tables hold their lists. -/
import Derived.Test.YtpcdlneompnhlaaGreatDoorGrAB
import Derived.Deep.QuietTactic
import Derived.BigQuiet
import Derived.Deep.DrawnRows
import Derived.Outline
import Derived.RangeFuncNested
import Derived.RangeFuncBound
import Derived.RangeFuncCalls
import Derived.RangeFuncLeaves
import Derived.Below
import Derived.Shelf.Abstract
import Derived.Shelf.RegionOpen
import Derived.WalkKit
import Derived.OwnWalkIn
import Derived.TacticsInMore
import Derived.LoopNIn
import Derived.LoopIn
namespace Go.Proofs.YtpcdlneompnhlaaGreatDoor.Pa
open Go Go.RowKit
open Go.Proofs.YtpcdlneompnhlaaGreatDoor.Lx Go.Proofs.YtpcdlneompnhlaaGreatDoor.Tr

structure Tk where
  kind : Int
  txt : ByteArray
  pos : Int
def Tk.vals (t : Tk) : List Value := [.int .u8 t.kind, .string t.txt, .int .i64 t.pos]
theorem Tk.vals_len (t : Tk) : t.vals.length = 3 := rfl
def tkCells (l : List Tk) : List Value := l.flatMap Tk.vals
/-- the reader: its block, its tokens, its maps -/
structure Rc where
  rb : Nat
  ta : Option Addr
  cap : Nat
  l : List Tk
  dm : Nat
  sm : Nat
/-- an operator: its sign, the Kind, how strongly it binds, whether its sides change places -/
structure Opr where
  sign : ByteArray
  kind : Int
  binds : Int
  turns : Bool
def Opr.cells (o : Opr) : List Value := [.string o.sign, .int .u8 o.kind, .int .i64 o.binds, .bool o.turns]
def oprs : List Opr := [⟨⟨#[124, 124]⟩, 17, 1, false⟩, ⟨⟨#[38, 38]⟩, 16, 2, false⟩, ⟨⟨#[60]⟩, 12, 3, false⟩, ⟨⟨#[60, 61]⟩, 13, 3, false⟩, ⟨⟨#[61, 61]⟩, 14, 3, false⟩, ⟨⟨#[33, 61]⟩, 15, 3, false⟩, ⟨⟨#[62]⟩, 12, 3, true⟩, ⟨⟨#[62, 61]⟩, 13, 3, true⟩, ⟨⟨#[43]⟩, 7, 4, false⟩, ⟨⟨#[45]⟩, 8, 4, false⟩, ⟨⟨#[42]⟩, 9, 5, false⟩, ⟨⟨#[47]⟩, 10, 5, false⟩, ⟨⟨#[37]⟩, 11, 5, false⟩]
def opVals : Array Value := ⟨oprs.flatMap Opr.cells⟩
/-- the variables that the parser reads hold what they were laid with -/
def ErrAt (w : World) (g : Nat) : Prop := ∃ ev, w.cell? ⟨g, 0, none⟩ = some ev ∧ (ev = .nilIface ∨ ∃ te pe, ev = .iface te pe)
structure TbP (w : World) : Prop where
  sg : SignsIn w
  es : ErrAt w 6
  er : ErrAt w 7
  op : ∃ t fr, w.heap[5]? = some (.cells opVals t fr)
def gls : List Nat := [0, 6, 7, 5]
/-- the reader stands at a token -/
structure Rd (c : Rc) (i : Nat) (w : World) : Prop where
  blk : w.heap[c.rb]? = some (.cells #[.slice c.ta c.l.length c.cap, .int .i64 i, .map (some c.dm), .map (some c.sm)] 92 (0, 0))
  row : RowAt w (fun b => b ≠ c.rb) c.ta c.cap c.l.length (tkCells c.l)
  lt : i < c.l.length
  lim : c.l.length ≤ 100000
  tb : TbP w
  ne : ∀ g ∈ gls, c.rb ≠ g
  txs : ∀ t ∈ c.l, t.txt.size ≤ 100000 ∧ 0 ≤ t.pos ∧ t.pos ≤ 100000
  last : ∀ (j : Nat) (t : Tk), c.l[j]? = some t → j + 1 = c.l.length → t.txt = ⟨#[]⟩ ∧ t.kind = 0
theorem tk_row {w : World} {S : Nat → Prop} {a : Option Addr} {cap : Nat} {l : List Tk} (h : RowAt w S a cap l.length (tkCells l)) (i : Nat) (e : Tk) (he : l[i]? = some e) :
    ∃ b off, a = some ⟨b, off, none⟩ ∧ S b ∧ ∀ j u, e.vals[j]? = some u → w.cell? ⟨b, off + (i * 3 + j), none⟩ = some u := by
  have key : ∀ j u, e.vals[j]? = some u → (tkCells l)[i * 3 + j]? = some u := by
    intro j u hu
    have hj : j < 3 := by have := (List.getElem?_eq_some_iff.1 hu).1; rw [Tk.vals_len] at this; exact this
    rw [tkCells, flat_at Tk.vals 3 Tk.vals_len l i j e he hj]; exact hu
  obtain ⟨u, hu⟩ : ∃ u, e.vals[0]? = some u := ⟨_, List.getElem?_eq_getElem (by rw [Tk.vals_len]; omega)⟩
  obtain ⟨b, off, ha, hb, _⟩ := h.at_ _ _ (key 0 u hu)
  refine ⟨b, off, ha, hb, fun j v hv => ?_⟩
  obtain ⟨b', off', ha', _, hc⟩ := h.at_ _ _ (key j v hv)
  rw [ha] at ha'
  cases ha'
  exact hc
theorem blk_cell {W : World} {b : Nat} {vs : Array Value} {t : TypeId} {fr : Nat × Nat} (h : W.heap[b]? = some (.cells vs t fr)) {j : Nat} {u : Value} (hu : vs[j]? = some u) : W.cell? ⟨b, j, none⟩ = some u := by
  simp only [World.cell?, h]
  simpa using hu
theorem blk_free {W : World} {b : Nat} {vs : Array Value} {t : TypeId} (h : W.heap[b]? = some (.cells vs t (0, 0))) (j : Nat) : W.frozen? ⟨b, j, none⟩ = false := by
  simp [World.frozen?, h]

set_option maxHeartbeats 1000000 in
theorem at_any (c : Rc) (i : Nat) (t : Tk) (w : World) (h : Rd c i w) (ht : c.l[i]? = some t) :
    Calls Tryz.prog 152 #[.pointer (some ⟨c.rb, 0, none⟩)] w fun e w' => e = .returned (.int .i64 t.pos) ∧ ∃ n, w' = w.drewN n := by
  obtain ⟨b, off, ha, hS, hcell⟩ := tk_row h.row i t ht
  have c0 : w.cell? ⟨c.rb, 0, none⟩ = some (.slice c.ta c.l.length c.cap) := blk_cell h.blk rfl
  have c1 : w.cell? ⟨c.rb, 1, none⟩ = some (.int .i64 i) := blk_cell h.blk rfl
  have t2 := hcell 2 _ rfl
  rw [← Nat.add_assoc] at t2
  have hlt : (i : Int) < (c.l.length : Int) := by have := h.lt; omega
  have hlim : c.l.length ≤ 100000 := h.lim
  have h0 : (0 : Int) ≤ (i : Int) := by omega
  rw [ha] at c0
  clear hcell ht h ha hS
  go_enter Tryz.func152, Tryz.ntmps152
  go_wp2_with fail
  go_quiet (fail)
  go_wp2_with fail
  go_ret
  exact ⟨rfl, _, rfl⟩
set_option maxHeartbeats 1000000 in
theorem text_any (c : Rc) (i : Nat) (t : Tk) (w : World) (h : Rd c i w) (ht : c.l[i]? = some t) :
    Calls Tryz.prog 153 #[.pointer (some ⟨c.rb, 0, none⟩)] w fun e w' => e = .returned (.string t.txt) ∧ ∃ n, w' = w.drewN n := by
  obtain ⟨b, off, ha, hS, hcell⟩ := tk_row h.row i t ht
  have c0 : w.cell? ⟨c.rb, 0, none⟩ = some (.slice c.ta c.l.length c.cap) := blk_cell h.blk rfl
  have c1 : w.cell? ⟨c.rb, 1, none⟩ = some (.int .i64 i) := blk_cell h.blk rfl
  have t1 := hcell 1 _ rfl
  rw [← Nat.add_assoc] at t1
  have hlt : (i : Int) < (c.l.length : Int) := by have := h.lt; omega
  have hlim : c.l.length ≤ 100000 := h.lim
  have h0 : (0 : Int) ≤ (i : Int) := by omega
  rw [ha] at c0
  clear hcell ht h ha hS
  go_enter Tryz.func153, Tryz.ntmps153
  go_wp2_with fail
  go_quiet (fail)
  go_wp2_with fail
  go_ret
  exact ⟨rfl, _, rfl⟩
end Go.Proofs.YtpcdlneompnhlaaGreatDoor.Pa

namespace Go.Proofs.YtpcdlneompnhlaaGreatDoor.Tr
open Go Go.RowKit
open Go.Proofs.YtpcdlneompnhlaaGreatDoor.Lx

/-- what a Kind of expressions has -/
def exName (k : Int) : Bool := k == 3 || k == 4
def exMost (k : Int) : Int := if k = 1 then 9223372036854775807 else if k = 2 then 1 else 0
def exArgs (k : Int) : Int := if 7 ≤ k then 2 else if 4 ≤ k then 1 else 0
def exVals : Array Value := ((List.range 18).flatMap fun (i : Nat) => [Value.bool (exName (i : Int)), .int .i64 (exMost (i : Int)), .int .i64 (exArgs (i : Int))]).toArray
def ExTab (w : World) : Prop := ∃ t fr, w.heap[3]? = some (.cells exVals t fr)
theorem exTab_at {w : World} (h : ExTab w) (k : Int) (h0 : 0 ≤ k) (h1 : k ≤ 17) :
    w.cell? ⟨3, k.toNat * 3, none⟩ = some (.bool (exName k)) ∧ w.cell? ⟨3, k.toNat * 3 + 1, none⟩ = some (.int .i64 (exMost k)) ∧ w.cell? ⟨3, k.toNat * 3 + 2, none⟩ = some (.int .i64 (exArgs k)) := by
  obtain ⟨t, fr, hg⟩ := h
  obtain ⟨m, rfl⟩ : ∃ m : Nat, k = m := ⟨k.toNat, by omega⟩
  rw [Int.toNat_natCast]
  have hc : ∀ j, w.cell? ⟨3, j, none⟩ = exVals[j]? := fun j => by simp [World.cell?, hg]
  rw [hc, hc, hc]
  have hm : m < 18 := by omega
  clear hg hc h0 h1
  have hd : m = 0 ∨ m = 1 ∨ m = 2 ∨ m = 3 ∨ m = 4 ∨ m = 5 ∨ m = 6 ∨ m = 7 ∨ m = 8 ∨ m = 9 ∨ m = 10 ∨ m = 11 ∨ m = 12 ∨ m = 13 ∨ m = 14 ∨ m = 15 ∨ m = 16 ∨ m = 17 := by omega
  rcases hd with rfl | rfl | rfl | rfl | rfl | rfl | rfl | rfl | rfl | rfl | rfl | rfl | rfl | rfl | rfl | rfl | rfl | rfl <;> exact ⟨rfl, rfl, rfl⟩
theorem _root_.Go.Proofs.YtpcdlneompnhlaaGreatDoor.Lx.SignsIn.lt {w : World} (h : SignsIn w) : 0 < w.heap.size := by
  obtain ⟨t, fr, hg⟩ := h
  exact (Array.getElem?_eq_some_iff.1 hg).1
/-- does a text stand where it is asked, and else nothing? -/
def fitNm (s : ByteArray) (b : Bool) : Bool := if b then nme s.data.toList else s.data.toList.isEmpty

theorem bcell {W w1 : World} (hb : Below W.heap.size W w1) : (∀ b o, b < W.heap.size → w1.cell? ⟨b, o, none⟩ = W.cell? ⟨b, o, none⟩) ∧ (∀ b o, b < W.heap.size → w1.frozen? ⟨b, o, none⟩ = W.frozen? ⟨b, o, none⟩) :=
  ⟨fun b o h => hb.cell (p := ⟨b, o, none⟩) h, fun b o h => hb.frozen (p := ⟨b, o, none⟩) h⟩
theorem fitNm_no (s : ByteArray) : s.toList.isEmpty = fitNm s false := by rw [Lib.toList_data]; rfl
set_option maxHeartbeats 400000 in
theorem tname_any (s : ByteArray) (w : World) (hs : s.size ≤ maxLen) (hsg : SignsIn w) :
    Calls Tryz.prog 110 #[.string s] w fun e w' => e = .returned (.bool (nme s.data.toList)) ∧ Below w.heap.size w w' := by
  go_enter Tryz.func110, Tryz.ntmps110
  go_wp2_with fail
  refine (name_any s _ hs hsg).mono ?_
  rintro e w' ⟨rfl, hb⟩
  go_wp2_with fail
  go_ret
  exact ⟨rfl, hb⟩
set_option maxHeartbeats 400000 in
theorem fitNm_any (s : ByteArray) (b : Bool) (w : World) (hs : s.size ≤ maxLen) (hsg : SignsIn w) :
    Calls Tryz.prog 155 #[.string s, .bool b] w fun e w' => e = .returned (.bool (fitNm s b)) ∧ Below w.heap.size w w' := by
  cases b
  · go_enter Tryz.func155, Tryz.ntmps155
    go_wp2_with fail
    go_ret
    exact ⟨ret_bool (fitNm_no s), Below.refl _ _⟩
  · go_enter Tryz.func155, Tryz.ntmps155
    go_wp2_with fail
    refine (tname_any s _ hs hsg).mono ?_
    rintro e w' ⟨rfl, hb⟩
    go_wp2_with fail
    go_ret
    exact ⟨rfl, hb⟩
def fitE : Ex → Bool
  | .mk k nm n _ _ args _ => decide (1 ≤ k) && decide (k ≤ 17) && (fitNm nm (exName k) && decide (0 ≤ n) && decide (n ≤ exMost k) && decide ((args.length : Int) = exArgs k))
theorem fitE_eq (k : Int) (nm : ByteArray) (n : Int) (a : Option Addr) (cap : Nat) (args : List Ex) (pos : Int) : fitE (.mk k nm n a cap args pos) = (decide (1 ≤ k) && decide (k ≤ 17) && (fitNm nm (exName k) && decide (0 ≤ n) && decide (n ≤ exMost k) && decide ((args.length : Int) = exArgs k))) := rfl

set_option maxHeartbeats 800000 in
theorem fitE_any (k : Int) (nm : ByteArray) (n : Int) (a : Option Addr) (cap : Nat) (args : List Ex) (pos : Int) (w : World) (hk : U8 k) (hs : nm.size ≤ maxLen) (hn : I64 n) (hsg : SignsIn w) (ht : ExTab w) :
    Calls Tryz.prog 108 #[.agg #[.int .u8 k, .string nm, .int .i64 n, .slice a args.length cap, .int .i64 pos]] w fun e w' => e = .returned (.bool (fitE (.mk k nm n a cap args pos))) ∧ Below w.heap.size w w' := by
  unfold U8 at hk
  by_cases h1 : k < 1
  · go_enter Tryz.func108, Tryz.ntmps108
    go_wp2_with fail
    go_ret
    exact ⟨ret_bool (by rw [fitE_eq, decide_eq_false (by omega : ¬ 1 ≤ k)]; rfl), (Below.refl _ _).alloc (Nat.le_refl _) _⟩
  · by_cases h17 : 17 < k
    · go_enter Tryz.func108, Tryz.ntmps108
      go_wp2_with fail
      go_ret
      exact ⟨ret_bool (by rw [fitE_eq, decide_eq_false (by omega : ¬ k ≤ 17), Bool.and_false]; rfl), (Below.refl _ _).alloc (Nat.le_refl _) _⟩
    · obtain ⟨c0, c1, c2⟩ := exTab_at ht k (by omega) (by omega)
      have hz2 : 3 < w.heap.size := World.block_lt_of_cell? _ _ c0
      replace c0 := fun o => (World.cell?_alloc_lt w o ⟨3, k.toNat * 3, none⟩ hz2).trans c0
      replace c1 := fun o => (World.cell?_alloc_lt w o ⟨3, k.toNat * 3 + 1, none⟩ hz2).trans c1
      replace c2 := fun o => (World.cell?_alloc_lt w o ⟨3, k.toNat * 3 + 2, none⟩ hz2).trans c2
      have hcall := fun W h => fitNm_any nm (exName k) W hs h
      have HD := Lib.hid (fitE_eq k nm n a cap args pos)
      rw [decide_eq_true (by omega : 1 ≤ k), decide_eq_true (by omega : k ≤ 17)] at HD
      have hg : 0 < w.heap.size := hsg.lt
      unfold I64 at hn
      generalize exName k = xn at *
      generalize exMost k = xm at *
      generalize exArgs k = xa at *
      generalize fitNm nm xn = fb at *
      replace hcall := Lib.hid hcall
      have hfin : ∀ b, b = (true && true && (fb && decide (0 ≤ n) && decide (n ≤ xm) && decide ((args.length : Int) = xa))) → Ending.returned (.bool b) = .returned (.bool (fitE (.mk k nm n a cap args pos))) := fun b hb => ret_bool (hb.trans HD.out.symm)
      replace hfin := Lib.hid hfin
      cases fb
      · go_enter Tryz.func108, Tryz.ntmps108
        go_wp2_with fail
        refine (hcall.out _ ((hsg.below hg (((Below.refl _ _).alloc (Nat.le_refl _) _).alloc (by simp) _)))).mono ?_
        rintro e w' ⟨rfl, hb⟩
        obtain ⟨hc, hf⟩ := bcell hb
        go_wp2_with fail
        go_ret
        exact ⟨hfin.out _ rfl, (((Below.refl _ _).alloc (Nat.le_refl _) _).alloc (by simp) _).trans (hb.mono (by simp; omega))⟩
      · by_cases hn0 : 0 ≤ n
        · by_cases hnm : n ≤ xm
          · go_enter Tryz.func108, Tryz.ntmps108
            go_wp2_with fail
            refine (hcall.out _ ((hsg.below hg (((Below.refl _ _).alloc (Nat.le_refl _) _).alloc (by simp) _)))).mono ?_
            rintro e w' ⟨rfl, hb⟩
            obtain ⟨hc, hf⟩ := bcell hb
            go_wp2_with fail
            go_ret
            exact ⟨hfin.out _ (by rw [decide_eq_true hn0, decide_eq_true hnm, Bool.eq_iff_iff]; simp), (((Below.refl _ _).alloc (Nat.le_refl _) _).alloc (by simp) _).trans (hb.mono (by simp; omega))⟩
          · go_enter Tryz.func108, Tryz.ntmps108
            go_wp2_with fail
            refine (hcall.out _ ((hsg.below hg (((Below.refl _ _).alloc (Nat.le_refl _) _).alloc (by simp) _)))).mono ?_
            rintro e w' ⟨rfl, hb⟩
            obtain ⟨hc, hf⟩ := bcell hb
            go_wp2_with fail
            go_ret
            exact ⟨hfin.out _ (by rw [decide_eq_true hn0, decide_eq_false (by omega : ¬ n ≤ xm)]; simp), (((Below.refl _ _).alloc (Nat.le_refl _) _).alloc (by simp) _).trans (hb.mono (by simp; omega))⟩
        · go_enter Tryz.func108, Tryz.ntmps108
          go_wp2_with fail
          refine (hcall.out _ ((hsg.below hg (((Below.refl _ _).alloc (Nat.le_refl _) _).alloc (by simp) _)))).mono ?_
          rintro e w' ⟨rfl, hb⟩
          obtain ⟨hc, hf⟩ := bcell hb
          go_wp2_with fail
          go_ret
          exact ⟨hfin.out _ (by rw [decide_eq_false (by omega : ¬ 0 ≤ n)]; simp), (((Below.refl _ _).alloc (Nat.le_refl _) _).alloc (by simp) _).trans (hb.mono (by simp; omega))⟩
end Go.Proofs.YtpcdlneompnhlaaGreatDoor.Tr

namespace Go.Proofs.YtpcdlneompnhlaaGreatDoor.Rg
open Go Go.RowKit

/-- all cells read alike -/
structure Ceq (A B : World) : Prop where
  cell : ∀ a, B.cell? a = A.cell? a
  frozen : ∀ a, B.frozen? a = A.frozen? a
  size : B.heap.size = A.heap.size

theorem ceq_loop {W : World} {l : Nat} {r r' : Loop} (h : W.heap[l]? = some (.loop r)) : Ceq W (W.putObj l (.loop r')) := by
  have hl := (Array.getElem?_eq_some_iff.1 h).1
  refine ⟨fun a => ?_, fun a => ?_, World.putObj_size⟩
  · by_cases ha : a.block = l
    · unfold World.cell?; rw [ha, World.putObj_heap_same hl, h]
    · simp [World.cell?, World.putObj_heap_other ha]
  · by_cases ha : a.block = l
    · unfold World.frozen?; rw [ha, World.putObj_heap_same hl, h]
    · simp [World.frozen?, World.putObj_heap_other ha]
theorem ceq_deferred {W : World} {l : Nat} {d d' : Option (List Deferred)} (h : W.heap[l]? = some (.deferred d)) : Ceq W (W.putObj l (.deferred d')) := by
  have hl := (Array.getElem?_eq_some_iff.1 h).1
  refine ⟨fun a => ?_, fun a => ?_, World.putObj_size⟩
  · by_cases ha : a.block = l
    · unfold World.cell?; rw [ha, World.putObj_heap_same hl, h]
    · simp [World.cell?, World.putObj_heap_other ha]
  · by_cases ha : a.block = l
    · unfold World.frozen?; rw [ha, World.putObj_heap_same hl, h]
    · simp [World.frozen?, World.putObj_heap_other ha]
theorem below_put {B l : Nat} (W : World) (o : Obj) (hl : B ≤ l) : Below B W (W.putObj l o) :=
  ⟨rfl, rfl, rfl, by rw [World.putObj_size]; exact Nat.le_refl _, fun k hk => World.putObj_heap_other (by omega)⟩

/-- how a round's body may be left: on, or by the function's return -/
def rgPost {α : Type} (B : Nat) (Kp : World → World → Prop) (I Ix : List α → World → Prop) (xs : List α) (W : World) : Exit → Act → World → Prop
  | .normal, _, W' => KeepsFrom B W W' ∧ Kp W W' ∧ I xs W'
  | .ret, _, W' => KeepsFrom B W W' ∧ Ix xs W'
  | _, _, _ => False

/-- abides what reads alike, and new blocks -/
structure Abd (B : Nat) {α : Type} (I : α → World → Prop) : Prop where
  ceq : ∀ s W W', I s W → Ceq W W' → Below B W W' → I s W'
  alloc : ∀ s W o, I s W → B ≤ W.heap.size → I s (W.alloc o)

theorem range_law {α : Type} {F : Fence} {n : Nat} {P : Program} {g : Operand} {ps : Array Tmp} {assign body : Code} {Q : Exit → Act → World → Prop} {a : Act} {w : World}
    (hro : F.round = none) (hd : F.depth = none) {gf : Nat} {lb : Array Value} (hg : a.eval g = .func (.func gf) #[] lb) (hFg : F.fn gf) (eg : ∀ args w, (callFunc gf args).run P w = .ok (.enter gf args) w)
    {encs : α → Array Value} (hps : ∀ x, (encs x).size = ps.size) (R : α → World → Prop) (Kp : World → World → Prop) (S Sp : List α → Prop) (N : Nat)
    (hseq : ∀ (l : Nat) (J Jx : List α → World → Prop) (W : World), W.heap.size = w.heap.size + 2 → Below w.heap.size w W →
      (∀ m pre x W1, J pre W1 → R x W1 → pre.length < N → YieldAt F m P l (encs x) W1 fun e W' =>
        (e = .returned (.bool true) ∧ J (pre ++ [x]) W' ∧ Kp W1 W') ∨ (e = .returned (.bool false) ∧ Jx (pre ++ [x]) W')) →
      (∀ pre W1 o, J pre W1 → J pre (W1.alloc o)) → J [] W →
      CallsIn F (n - 1) P gf (#[.func (.yield l) #[] #[]] ++ lb) W fun e W' => (∃ v, e = .returned v) ∧ ((∃ xs, S xs ∧ J xs W') ∨ (∃ pre, Sp pre ∧ Jx pre W')))
    (hKt : ∀ {A B C : World}, Kp A B → Kp B C → Kp A C) (hKc : ∀ {A B : World}, Ceq A B → Kp A B)
    (I Ix : List α → World → Prop) (hI : Abd w.heap.size I) (hIx : Abd w.heap.size Ix) (hIs : ∀ pre W, I pre W → w.heap.size ≤ W.heap.size) (h0 : I [] w)
    (hround : ∀ (l m : Nat) (pre : List α) (x : α) (W : World), I pre W → R x W → pre.length < N →
      assign.wpIn (F.inRound l) m P (Exit.then (fun a₁ W₁ => KeepsFrom w.heap.size W W₁ ∧ Kp W W₁ ∧ ∀ W₂, Ceq W₁ W₂ → Below w.heap.size W₁ W₂ → body.wpIn (F.inRound l) m P (rgPost w.heap.size Kp I Ix (pre ++ [x]) W₂) a₁ W₂) (fun _ _ _ => False))
        { tmps := (ps.zip (encs x)).foldl (fun t (p, v) => t.setIfInBounds p v) a.tmps, defers := [] } W)
    (hdone : ∀ (D : Nat) (xs : List α) (W : World), w.heap.size ≤ D → S xs → I xs W → W.heap[D]? = some (.deferred (some [])) → Q .normal { a with defers := { target := .collected D, args := #[] } :: a.defers } W)
    (hstop : ∀ (D : Nat) (pre : List α) (W : World), w.heap.size ≤ D → Sp pre → Ix pre W → W.heap[D]? = some (.deferred (some [])) → Code.ret.wpIn F n P Q { a with defers := { target := .collected D, args := #[] } :: a.defers } W) :
    (Code.rangeFunc g ps assign body).wpIn F n P Q a w := by
  refine wpIn_rangeFunc fun fn hfn => ?_
  rw [hro]
  obtain ⟨rec, hrec⟩ : ∃ rec : LoopState → Option Code → Loop, rec = fun st pe => { state := st, pending := pe, fn, tmps := a.tmps, params := ps, assign, body, defers := w.heap.size } := ⟨_, rfl⟩
  obtain ⟨W1, hW1⟩ : ∃ W1, (w.alloc (.deferred (some []))).alloc (.loop (rec .ready none)) = W1 := ⟨_, rfl⟩
  have hL1 : W1.heap[w.heap.size + 1]? = some (.loop (rec .ready none)) := by
    rw [← hW1]; have := World.alloc_heap_new (w.alloc (.deferred (some []))) (.loop (rec .ready none)); rwa [World.size_alloc] at this
  have hK1 : W1.heap[w.heap.size]? = some (.deferred (some [])) := by
    rw [← hW1]; exact (Below.heap_alloc _ _ _ (by simp)).trans (World.alloc_heap_new w _)
  have hI1 : I [] W1 := by rw [← hW1]; exact hI.alloc _ _ _ (hI.alloc _ _ _ h0 (Nat.le_refl _)) (by simp)
  have hs1 : W1.heap.size = w.heap.size + 2 := by rw [← hW1]; simp
  have hb1 : Below w.heap.size w W1 := by rw [← hW1]; exact ((Below.refl _ w).alloc (Nat.le_refl _) _).alloc (by simp) _
  have hparams : ∀ st pe, (rec st pe).params = ps := fun _ _ => by rw [hrec]
  refine ⟨w.heap.size + 1, [{ target := .collected w.heap.size, args := #[] }], W1, { target := .fn (.func gf) lb, args := #[.func (.yield (w.heap.size + 1)) #[] #[]] }, W1, gf,
    #[.func (.yield (w.heap.size + 1)) #[] #[]] ++ lb, W1, ?_, ?_, ?_, ?_, fun h => (by rw [hd] at h; cases h), ?_⟩
  · rw [← hW1, hrec]; exact run_enterLoop_outer _ _ _ _ _
  · simp only [resolve, hg]
    simp [go_sem]
  · intro f' hf'; simp [Target.leads] at hf'; subst hf'; exact hFg
  · simp [invoke, go_sem, eg]
  refine (hseq (w.heap.size + 1)
    (fun pre W => I pre W ∧ W.heap[w.heap.size + 1]? = some (.loop (rec .ready none)) ∧ W.heap[w.heap.size]? = some (.deferred (some [])))
    (fun pre W => Ix pre W ∧ W.heap[w.heap.size + 1]? = some (.loop (rec .done (some .ret))) ∧ W.heap[w.heap.size]? = some (.deferred (some [])))
    W1 hs1 hb1 ?_ ?_ ⟨hI1, hL1, hK1⟩).mono ?_
  · -- one round
    rintro m pre x W ⟨hi, hl, hk⟩ hr hlen
    have hy := run_yield (P := P) (args := encs x) hl (by rw [hparams]; exact hps x)
    rw [hrec] at hy
    refine ⟨fn, _, assign, body, hy, roundIn_of_wpIn hfn (wpIn_mono (hround _ _ pre x W hi hr hlen) ?_)⟩
    clear hy
    rintro e a₁ Wa hp
    cases e with
    | normal =>
      obtain ⟨hka, hpa, hbody⟩ := hp
      have hla := hka.same _ _ (by omega) hl rfl
      have hkka := hka.same _ _ (Nat.le_refl _) hk rfl
      have hlt : w.heap.size + 1 < Wa.heap.size := (Array.getElem?_eq_some_iff.1 hla).1
      refine ⟨_, run_beginRound hla (by rw [hrec]), ?_⟩
      have hl2 : (Wa.putObj (w.heap.size + 1) (.loop { rec .ready none with state := .busy })).heap[w.heap.size + 1]? = some (.loop { rec .ready none with state := .busy }) := World.putObj_heap_same hlt
      have hk2 : (Wa.putObj (w.heap.size + 1) (.loop { rec .ready none with state := .busy })).heap[w.heap.size]? = some (.deferred (some [])) := (World.putObj_heap_other (by omega)).trans hkka
      have hc2 : Ceq Wa (Wa.putObj (w.heap.size + 1) (.loop { rec .ready none with state := .busy })) := ceq_loop hla
      refine wpIn_mono (hbody _ hc2 (below_put _ _ (by omega))) ?_
      have fin : ∀ (jump : Option Code) (W3 : World), KeepsFrom w.heap.size (Wa.putObj (w.heap.size + 1) (.loop { rec .ready none with state := .busy })) W3 →
          (Instr.endRound (w.heap.size + 1) jump).run P W3 = .ok (.bool jump.isNone) (W3.putObj (w.heap.size + 1) (.loop (rec (if jump.isNone then .ready else .done) jump))) ∧
          (W3.putObj (w.heap.size + 1) (.loop (rec (if jump.isNone then .ready else .done) jump))).heap[w.heap.size + 1]? = some (.loop (rec (if jump.isNone then .ready else .done) jump)) ∧
          (W3.putObj (w.heap.size + 1) (.loop (rec (if jump.isNone then .ready else .done) jump))).heap[w.heap.size]? = some (.deferred (some [])) ∧
          Ceq W3 (W3.putObj (w.heap.size + 1) (.loop (rec (if jump.isNone then .ready else .done) jump))) := fun jump W3 hk3 => by
        have hl3 := hk3.same _ _ (by omega) hl2 rfl
        have hrun := run_endRound (P := P) jump hl3
        have hcq := ceq_loop (r' := rec (if jump.isNone then .ready else .done) jump) hl3
        rw [hrec] at hrun hcq ⊢
        exact ⟨hrun, World.putObj_heap_same (Array.getElem?_eq_some_iff.1 hl3).1, (World.putObj_heap_other (by omega)).trans (hk3.same _ _ (Nat.le_refl _) hk2 rfl), hcq⟩
      rintro e a3 W3 hp3
      cases e with
      | normal =>
        obtain ⟨hk3, hkp3, hi3⟩ := hp3
        obtain ⟨hrun, hl4, hk4, hc4⟩ := fin none W3 hk3
        exact ⟨_, _, hrun, .inl ⟨rfl, ⟨hI.ceq _ _ _ hi3 hc4 (below_put _ _ (by omega)), hl4, hk4⟩, hKt hpa (hKt (hKt (hKc hc2) hkp3) (hKc hc4))⟩⟩
      | ret =>
        obtain ⟨hk3, hi3⟩ := hp3
        obtain ⟨hrun, hl4, hk4, hc4⟩ := fin (some .ret) W3 hk3
        exact ⟨_, _, hrun, .inr ⟨rfl, hIx.ceq _ _ _ hi3 hc4 (below_put _ _ (by omega)), hl4, hk4⟩⟩
      | exit id => exact hp3.elim
      | goto t => exact hp3.elim
      | panic ch => exact hp3.elim
      | outgrown => exact hp3.elim
    | ret => exact hp.elim
    | exit id => exact hp.elim
    | goto t => exact hp.elim
    | panic ch => exact hp.elim
    | outgrown => exact hp.elim
  · rintro pre W o ⟨hi, hl, hk⟩
    exact ⟨hI.alloc _ _ _ hi (hIs _ _ hi), (Below.heap_alloc _ _ _ (Array.getElem?_eq_some_iff.1 hl).1).trans hl, (Below.heap_alloc _ _ _ (Array.getElem?_eq_some_iff.1 hk).1).trans hk⟩
  · -- behind the iterator
    rintro e W2 ⟨⟨v, rfl⟩, (⟨xs, hS, hi, hl, hk⟩ | ⟨pre, hSp, hi, hl, hk⟩)⟩
    · have hend := run_endLoop (P := P) hl (by rw [hrec]; simp)
      rw [hrec] at hend
      exact ⟨none, _, hend, hdone _ xs _ (Nat.le_refl _) hS (hI.ceq _ _ _ hi (ceq_loop hl) (below_put _ _ (by omega))) ((World.putObj_heap_other (by omega)).trans hk)⟩
    · have hend := run_endLoop (P := P) hl (by rw [hrec]; simp)
      rw [hrec] at hend
      exact ⟨some .ret, _, hend, hstop _ pre _ (Nat.le_refl _) hSp (hIx.ceq _ _ _ hi (ceq_loop hl) (below_put _ _ (by omega))) ((World.putObj_heap_other (by omega)).trans hk)⟩
end Go.Proofs.YtpcdlneompnhlaaGreatDoor.Rg

namespace Go.Proofs.YtpcdlneompnhlaaGreatDoor.Tr
open Go Go.RowKit Go.Shelf
open Go.Proofs.YtpcdlneompnhlaaGreatDoor.Lx
attribute [local go_sem] Oper.semAt_some

/-- an expression's cells lie at a place -/
def ExAt (w : World) (S : Nat → Prop) (b o : Nat) (e : Ex) : Prop := S b ∧ ∀ j u, e.vals[j]? = some u → w.cell? ⟨b, o + j, none⟩ = some u
theorem ExAt.below {w w' : World} {S : Nat → Prop} {b o : Nat} {e : Ex} (h : ExAt w S b o e) (hb : Kps S w w') : ExAt w' S b o e :=
  ⟨h.1, fun j u hj => hb _ _ _ h.1 (h.2 j u hj)⟩
theorem ExAt.cells {w : World} {S : Nat → Prop} {b o : Nat} {k : Int} {nm : ByteArray} {n : Int} {a : Option Addr} {cap : Nat} {args : List Ex} {pos : Int} (h : ExAt w S b o (.mk k nm n a cap args pos)) :
    w.cell? ⟨b, o, none⟩ = some (.int .u8 k) ∧ w.cell? ⟨b, o + 1, none⟩ = some (.string nm) ∧ w.cell? ⟨b, o + 2, none⟩ = some (.int .i64 n) ∧ w.cell? ⟨b, o + 3, none⟩ = some (.slice a args.length cap) ∧ w.cell? ⟨b, o + 4, none⟩ = some (.int .i64 pos) :=
  ⟨h.2 0 _ rfl, h.2 1 _ rfl, h.2 2 _ rfl, h.2 3 _ rfl, h.2 4 _ rfl⟩

theorem ExTab.below {w w' : World} (h : ExTab w) (hb : Below w.heap.size w w') : ExTab w' := by
  obtain ⟨t, fr, hg⟩ := h
  exact ⟨t, fr, (hb.block _ (Array.getElem?_eq_some_iff.1 hg).1).trans hg⟩
set_option maxHeartbeats 800000 in
theorem fits_ex (e : Ex) (b o : Nat) (S : Nat → Prop) (d : Int) (w : World) (hat : ExAt w S b o e) (hin : Ex.In w S e) (hsg : SignsIn w) (ht : ExTab w) :
    Calls Tryz.prog 64 #[.agg #[.pointer none, .pointer (some ⟨b, o, none⟩), .int .i64 d]] w fun e' w' => e' = .returned (.bool (fitE e)) ∧ Below w.heap.size w w' := by
  obtain ⟨k, nm, n, a, cap, args, pos⟩ := e
  obtain ⟨c0, c1, c2, c3, c4⟩ := hat.cells
  unfold Ex.In at hin
  have hbl : b < w.heap.size := World.block_lt_of_cell? _ _ c0
  have hg := hsg.lt
  have hcall := fun W hsg ht => fitE_any k nm n a cap args pos W hin.1 hin.2.1 hin.2.2.1 hsg ht
  replace hcall := Lib.hid hcall
  generalize fitE (.mk k nm n a cap args pos) = fe at *
  clear hat hin
  go_enter Tryz.func64, Tryz.ntmps64
  go_wp2_with fail
  refine (hcall.out _ (hsg.below hg ((Below.refl _ _).alloc (Nat.le_refl _) _)) (ht.below ((Below.refl _ _).alloc (Nat.le_refl _) _))).mono ?_
  rintro e w' ⟨rfl, hb⟩
  go_wp2_with fail
  go_ret
  exact ⟨rfl, ((Below.refl _ _).alloc (Nat.le_refl _) _).trans (hb.mono (by simp))⟩

/-! ### Parts, each ahead of what is in it -/
def adB : Option Addr → Nat
  | some a => a.block
  | none => 0
def adO : Option Addr → Nat
  | some a => a.off
  | none => 0
/-- a part: where it stands in memory, what it is, how deep it stands -/
structure Pt where
  b : Nat
  o : Nat
  x : Ex ⊕ St
  d : Int
def Pt.val (p : Pt) : Value := match p.x with
  | .inl _ => .agg #[.pointer none, .pointer (some ⟨p.b, p.o, none⟩), .int .i64 p.d]
  | .inr _ => .agg #[.pointer (some ⟨p.b, p.o, none⟩), .pointer none, .int .i64 p.d]
mutual
def ptsE (b o : Nat) (d : Int) : Ex → List Pt
  | .mk k nm n a cap args pos => ⟨b, o, .inl (.mk k nm n a cap args pos), d⟩ :: ptsL (adB a) (adO a) (d + 1) args
def ptsL (b o : Nat) (d : Int) : List Ex → List Pt
  | [] => []
  | e :: r => ptsE b o d e ++ ptsL b (o + 5) d r
end
mutual
def Ex.sz : Ex → Nat
  | .mk _ _ _ _ _ args _ => 1 + Ex.szL args
def Ex.szL : List Ex → Nat
  | [] => 0
  | e :: r => Ex.sz e + Ex.szL r
end
theorem Ex.sz_get : ∀ {l : List Ex} {i : Nat} {e : Ex}, l[i]? = some e → e.sz ≤ Ex.szL l
  | x :: r, 0, e, h => by simp at h; subst h; unfold Ex.szL; omega
  | x :: r, i + 1, e, h => by
    have := Ex.sz_get (l := r) (i := i) (e := e) (by simpa using h)
    unfold Ex.szL; omega
theorem ptsL_take (d : Int) (b : Nat) : ∀ (l : List Ex) (o k : Nat) (e : Ex), l[k]? = some e → ptsL b o d (l.take (k + 1)) = ptsL b o d (l.take k) ++ ptsE b (o + k * 5) d e
  | x :: r, o, 0, e, h => by
    simp at h; subst h
    simp [ptsL]
  | x :: r, o, k + 1, e, h => by
    rw [List.take_succ_cons, List.take_succ_cons]
    unfold ptsL
    rw [ptsL_take d b r (o + 5) k e (by simpa using h), List.append_assoc]
    congr 3
    omega
theorem ptsL_pre (d : Int) (b : Nat) (l : List Ex) (o k : Nat) : ptsL b o d (l.take k) <+: ptsL b o d l := by
  induction l generalizing o k with
  | nil => simp [ptsL]
  | cons x r ih =>
    cases k with
    | zero => simp [ptsL]
    | succ k =>
      rw [List.take_succ_cons]
      unfold ptsL
      exact List.prefix_append_right_inj _ |>.2 (ih (o + 5) k)
/-- a statement's cells lie at a place -/
def StAt (w : World) (S : Nat → Prop) (b o : Nat) (e : St) : Prop := S b ∧ ∀ j u, e.vals[j]? = some u → w.cell? ⟨b, o + j, none⟩ = some u
theorem StAt.below {w w' : World} {S : Nat → Prop} {b o : Nat} {e : St} (h : StAt w S b o e) (hb : Kps S w w') : StAt w' S b o e :=
  ⟨h.1, fun j u hj => hb _ _ _ h.1 (h.2 j u hj)⟩
def Pt.In (w : World) (S : Nat → Prop) (p : Pt) : Prop := match p.x with
  | .inl e => ExAt w S p.b p.o e ∧ Ex.In w S e
  | .inr s => StAt w S p.b p.o s ∧ St.In w S s
theorem Pt.In.keep {w w' : World} {S : Nat → Prop} {p : Pt} (h : p.In w S) (hb : Kps S w w') : p.In w' S := by
  obtain ⟨b, o, x, d⟩ := p
  cases x with
  | inl e => exact ⟨h.1.below hb, Ex.In.below hb _ h.2⟩
  | inr e => exact ⟨h.1.below hb, St.In.below hb _ h.2⟩

theorem room_of_none {F : Fence} (hd : F.depth = none) (k : Nat) : F.room k := fun d h => by rw [hd] at h; cases h
theorem RoundIn.anyDepth {F : Fence} (hd : F.depth = none) {m m' : Nat} {P : Program} {l : Nat} {f : FuncId} {tmps : Array Value} {assign body : Code} {w : World} {R : Ending → World → Prop}
    (h : RoundIn F m P l f tmps assign body w R) : RoundIn F m' P l f tmps assign body w R := ⟨h.1, fun c cs _ => h.2 c cs (room_of_none hd _)⟩
theorem YieldAt.anyDepth {F : Fence} (hd : F.depth = none) {m : Nat} (m' : Nat) {P : Program} {l : Nat} {args : Array Value} {W : World} {R : Ending → World → Prop} (h : YieldAt F m P l args W R) : YieldAt F m' P l args W R := by
  obtain ⟨fn, tmps, assign, body, hy, hR⟩ := h
  exact ⟨fn, tmps, assign, body, hy, RoundIn.anyDepth hd hR⟩

set_option maxRecDepth 100000 in
set_option maxHeartbeats 2000000 in
theorem each_in (F : Fence) (hd : F.depth = none) (hf : F.fn 158) (hro : F.round = none) (l N : Nat) (S : Nat → Prop) (J Jx : List Pt → World → Prop)
    (hY : ∀ m pre (x : Pt) W, J pre W → x.In W S → pre.length < N → YieldAt F m Tryz.prog l #[x.val] W fun e W' =>
      (e = .returned (.bool true) ∧ J (pre ++ [x]) W' ∧ Kps S W W') ∨ (e = .returned (.bool false) ∧ Jx (pre ++ [x]) W')) :
    ∀ (s : Nat) (L : List Ex) (a : Option Addr) (cap : Nat) (d : Int) (n : Nat) (pre : List Pt) (W : World), Ex.szL L ≤ s → 0 ≤ d → d + (s : Int) ≤ 4611686018427387904 →
      RowAt W S a cap L.length (exCells L) → Ex.InL W S L → J pre W → pre.length + (ptsL (adB a) (adO a) d L).length ≤ N →
      CallsIn F n Tryz.prog 158 #[.slice a L.length cap, .int .i64 d, .func (.yield l) #[] #[]] W fun e W' =>
        (e = .returned (.bool true) ∧ J (pre ++ ptsL (adB a) (adO a) d L) W' ∧ Kps S W W') ∨
        (e = .returned (.bool false) ∧ ∃ q, q <+: ptsL (adB a) (adO a) d L ∧ Jx (pre ++ q) W') := by
  intro s
  induction s using Nat.strongRecOn with
  | _ s ih =>
    intro L a cap d n pre W hs h0 hd2 hrow hin hJ hN
    have hdd : ∀ k : Nat, (F.depth.isSome = true → 1 ≤ k) := fun k h => by rw [hd] at h; cases h
    have hll : L.length ≤ 9223372036854775807 := by have := hrow.le; have := hrow.lim; unfold maxLen at this; omega
    refine callsIn_of_wp Tryz.func158 rfl hf ?_ hro
    simp only [Tryz.ntmps158, List.size_toArray, List.length_cons, List.length_nil, Nat.reduceAdd, Nat.reduceSub, Array.replicate_succ, Array.replicate_zero, List.push_toArray, List.append_toArray, List.nil_append, List.cons_append]
    gi_wp2
    gi_loopw [11] (fun i wr => ∃ k : Nat, k ≤ L.length ∧ i = .int .i64 k ∧ J (pre ++ ptsL (adB a) (adO a) d (L.take k)) wr ∧ Kps S W wr) (fun i _ => L.length - (intOf i).toNat)
    case atStart => exact ⟨0, Nat.zero_le _, rfl, by simpa [ptsL] using hJ, Kps.refl _ _⟩
    case round =>
      obtain ⟨k, hk, rfl, hJs, hbr⟩ := hrel
      by_cases hlt : k < L.length
      · obtain ⟨e, he⟩ : ∃ e, L[k]? = some e := ⟨L[k], by simp [hlt]⟩
        have hsz := Ex.sz_get he
        have hei := Ex.In.below hbr _ (hin.get he)
        obtain ⟨b, off, rfl, hbn, hcell⟩ := ex_row hrow k e he
        have htk := ptsL_take d b L off k e he
        have hpp := ptsL_pre d b L off (k + 1)
        have hat : ExAt wr S b (off + k * 5) e := ExAt.below ⟨hbn, fun j u hj => by rw [Nat.add_assoc]; exact hcell j u hj⟩ hbr
        have hlen : (pre ++ ptsL b off d (L.take k)).length + (ptsE b (off + k * 5) d e).length ≤ N := by
          have h1 := hpp.length_le
          rw [htk, List.length_append] at h1
          have hN' : pre.length + (ptsL b off d L).length ≤ N := hN
          rw [List.length_append]; omega
        obtain ⟨ek, enm, en, ea, ecap, eargs, epos⟩ := e
        have hpe : ptsE b (off + k * 5) d (.mk ek enm en ea ecap eargs epos) = ⟨b, off + k * 5, .inl (.mk ek enm en ea ecap eargs epos), d⟩ :: ptsL (adB ea) (adO ea) (d + 1) eargs := by unfold ptsE; rfl
        have hex : Ex.sz (.mk ek enm en ea ecap eargs epos) = 1 + Ex.szL eargs := by unfold Ex.sz; rfl
        have hei2 := hei
        unfold Ex.In at hei2
        obtain ⟨_, _, _, _, hrow2, hin2⟩ := hei2
        replace hJs : J (pre ++ ptsL b off d (L.take k)) wr := hJs
        obtain ⟨x, hx⟩ : ∃ x : Pt, x = ⟨b, off + k * 5, .inl (.mk ek enm en ea ecap eargs epos), d⟩ := ⟨_, rfl⟩
        have hxv : x.val = .agg #[.pointer none, .pointer (some ⟨b, off + k * 5, none⟩), .int .i64 d] := by rw [hx]; rfl
        have hxi : x.In wr S := by rw [hx]; exact ⟨hat, hei⟩
        rw [hpe, List.length_cons] at hlen
        rw [hpe, ← hx] at htk
        obtain ⟨ys, hys⟩ : ∃ ys, ys = pre ++ ptsL b off d (L.take k) := ⟨_, rfl⟩
        rw [← hys] at hJs hlen
        have hy0 := hY (n - 1) ys x wr hJs hxi (by omega)
        rw [hxv] at hy0
        have hih := fun (W2 : World) (hJ2 : J (ys ++ [x]) W2) (hb2 : Kps S wr W2) => ih (Ex.szL eargs) (by omega) eargs ea ecap (d + 1) (n - 1) (ys ++ [x]) W2 (Nat.le_refl _) (by omega) (by omega) (hrow2.below hb2) (Ex.InL.below hb2 _ hin2) hJ2 (by rw [List.length_append]; simp only [List.length_cons, List.length_nil]; omega)
        have c3 := hat.cells.2.2.2.1
        have hy1 : YieldAt F (n - 1) Tryz.prog l #[.agg #[.pointer none, .pointer (some ⟨b, off + k * 5, none⟩), .int .i64 d]] wr fun e' W2 =>
            (e' = .returned (.bool true) ∧ W2.cell? ⟨b, off + k * 5 + 3, none⟩ = some (.slice ea eargs.length ecap) ∧ J (ys ++ [x]) W2 ∧ Kps S wr W2) ∨ (e' = .returned (.bool false) ∧ Jx (ys ++ [x]) W2) :=
          YieldAt.mono hy0 fun e' W2 h => h.elim (fun ⟨he', hj, hb2⟩ => .inl ⟨he', hb2 _ _ _ hbn c3, hj, hb2⟩) .inr
        replace hih := Lib.hid hih
        replace htk := Lib.hid htk
        replace hpp := Lib.hid hpp
        replace hys := Lib.hid hys
        have hs0 : 0 < s := by omega
        have hb0 := Lib.hid hbr
        clear hy0 hY ih hex hxv hxi hx hpe he hcell hat hei hrow2 hin2 hrow hin hlen hN hbr hJ
        obtain ⟨fn, tmps, assign, body, hy, hR⟩ := hy1
        gi_wp2_with fail
        refine hR.mono ?_
        clear hR
        rintro e W2 (⟨rfl, c3', hJ2, hb2⟩ | ⟨rfl, hx2⟩)
        · have hc := hih.out W2 hJ2 hb2
          replace hc := Lib.hid hc
          replace hb2 := Lib.hid hb2
          gi_wp2_with fail
          refine hc.out.mono ?_
          rintro e W3 (⟨rfl, hJ3, hb3⟩ | ⟨rfl, q, hq, hx3⟩)
          · have HR : Hid (ys ++ [x] ++ ptsL (adB ea) (adO ea) (d + 1) eargs = pre ++ ptsL b off d (L.take (k + 1))) := Lib.hid (by
              rw [htk.out, hys.out]; simp only [List.append_assoc, List.cons_append, List.nil_append])
            rw [HR.out] at hJ3
            have HJ := Lib.hid hJ3
            replace hb3 := Lib.hid hb3
            clear hJ3 hc hy HR
            gi_wp2_with fail
            go_roundw
            case rel => exact ⟨k + 1, by omega, by go_num, HJ.out, (hb0.out.trans hb2.out).trans hb3.out⟩
            case measure => simp [intOf]; omega
          · have HR : Hid (∃ q', q' <+: ptsL b off d L ∧ Jx (pre ++ q') W3) := Lib.hid (by
              refine ⟨ptsL b off d (L.take k) ++ x :: q, List.IsPrefix.trans ?_ hpp.out, ?_⟩
              · rw [htk.out]
                obtain ⟨r, hr⟩ := hq
                exact ⟨r, by rw [List.append_assoc, List.cons_append, hr]⟩
              · rw [hys.out] at hx3
                simpa only [List.append_assoc, List.cons_append, List.nil_append] using hx3)
            clear hq hx3 hc hy
            gi_wp2_with fail
            go_ret
            exact .inr ⟨rfl, HR.out⟩
        · have HR : Hid (∃ q', q' <+: ptsL b off d L ∧ Jx (pre ++ q') W2) := Lib.hid (by
            refine ⟨ptsL b off d (L.take k) ++ [x], List.IsPrefix.trans ?_ hpp.out, ?_⟩
            · rw [htk.out]
              exact ⟨ptsL (adB ea) (adO ea) (d + 1) eargs, by simp only [List.append_assoc, List.cons_append, List.nil_append]⟩
            · rw [hys.out] at hx2
              simpa only [List.append_assoc] using hx2)
          clear hx2 hy
          gi_wp2_with fail
          go_ret
          exact .inr ⟨rfl, HR.out⟩
      · rw [List.take_of_length_le (by omega)] at hJs
        gi_wp2
        go_ret
        exact .inl ⟨rfl, hJs, hbr⟩
end Go.Proofs.YtpcdlneompnhlaaGreatDoor.Tr
