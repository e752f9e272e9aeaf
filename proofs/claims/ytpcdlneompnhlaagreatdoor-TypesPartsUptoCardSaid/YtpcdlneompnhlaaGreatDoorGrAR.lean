/- Walks of the call that read defers: of a frame that panics by a fault, and of one that returns. Conditions: the results' variables are there. · A text's tokens, as a plain function on bytes, and how it unfolds. Conditions: none. · The walk of lex.Tokens: it returns the text's tokens, laid in new memory, or the error and its place, and makes new memory alone. Conditions: lex.signs holds its list. · The walk of read. Conditions: the tokens lie in a row of their own; the variables that the parser reads hold what they were laid with. -/
import Derived.Test.YtpcdlneompnhlaaGreatDoorGrAJ
import Derived.Defers
import Derived.Recover
import Derived.Test.YtpcdlneompnhlaaGreatDoorGrAA
import Derived.Test.YtpcdlneompnhlaaGreatDoorGrAB
import Derived.OwnWalk
import Derived.Test.YtpcdlneompnhlaaGreatDoorGrAQ
namespace Go.Proofs.YtpcdlneompnhlaaGreatDoor.Pa
open Go Go.RowKit
open Go.Proofs.YtpcdlneompnhlaaGreatDoor.Lx Go.Proofs.YtpcdlneompnhlaaGreatDoor.Tr

set_option maxHeartbeats 2000000 in
set_option maxRecDepth 100000 in
theorem catch_idle (a b : Nat) (w : World) : CallsD Tryz.prog 59 #[.pointer (some ⟨a, 0, none⟩), .pointer (some ⟨b, 0, none⟩)] .returning w fun e u' w' => e = .returned (.tuple #[]) ∧ u' = .returning ∧ w' = w := by
  refine callsD_of_wpS Tryz.func59 rfl fun c₀ cs hu => ?_
  apply wpS_seq
  apply wpS_region
  simp [wpOpsS, go_sem, recoverD, hu, Tryz.ntmps59, Exit.thenS]
  refine wpS_of_wp ?_
  go_wp2_with fail
  cases c₀
  simp_all [bodyPostS, results, Tryz.results59]
set_option maxHeartbeats 2000000 in
set_option maxRecDepth 100000 in
theorem catch_bad (a b : Nat) (x y p : Int) (older : List PanicEntry) (w : World) (ha : w.cell? ⟨a, 0, none⟩ = some (.int .i64 x)) (hb : w.cell? ⟨b, 0, none⟩ = some (.int .i64 y)) (fa : w.frozen? ⟨a, 0, none⟩ = false) (fb : w.frozen? ⟨b, 0, none⟩ = false) (hab : a ≠ b) :
    CallsD Tryz.prog 59 #[.pointer (some ⟨a, 0, none⟩), .pointer (some ⟨b, 0, none⟩)] (.panicking ({ v := .iface 85 (.agg #[.int .i64 p]), recovered := false } :: older)) w fun e u' w' =>
      e = .returned (.tuple #[]) ∧ u' = .panicking ({ v := .iface 85 (.agg #[.int .i64 p]), recovered := true } :: older) ∧ w' = ((w.alloc (.cells #[.int .i64 p] 85)).setCell ⟨a, 0, none⟩ (.int .i64 p)).setCell ⟨b, 0, none⟩ (.int .i64 63) := by
  have hta : ∀ (v : Value) (V : World), (Instr.typeAssert (.iface 85 v) 20 85 true).run Tryz.prog V = .ok (.tuple #[v, .bool true]) V := fun v V => by simp [Instr.typeAssert]
  have hsa := World.block_lt_of_cell? _ _ ha
  have hsb := World.block_lt_of_cell? _ _ hb
  refine callsD_of_wpS Tryz.func59 rfl fun c₀ cs hu => ?_
  apply wpS_seq
  apply wpS_region
  simp [wpOpsS, go_sem, recoverD, hu, Tryz.ntmps59, Exit.thenS]
  refine wpS_of_wp ?_
  go_wp2_with fail
  cases c₀
  simp_all [bodyPostS, results, Tryz.results59]
end Go.Proofs.YtpcdlneompnhlaaGreatDoor.Pa

namespace Go.Proofs.YtpcdlneompnhlaaGreatDoor.Lx
open Go

structure Tok where
  kind : Nat
  txt : List UInt8
  pos : Nat
deriving DecidableEq

/-- a text's tokens, or the place at which it is refused; so many rounds; the text begins at a place -/
def lx : Nat → List UInt8 → Nat → Except Nat (List Tok)
  | 0, _, _ => .ok []
  | f + 1, l, p =>
    if l.drop (skp false l) = [] then .ok []
    else if (cutL (l.drop (skp false l))).1 = 0 then .error (p + skp false l)
    else match lx f ((l.drop (skp false l)).drop (cutL (l.drop (skp false l))).2) (p + skp false l + (cutL (l.drop (skp false l))).2) with
      | .ok ts => .ok (⟨(cutL (l.drop (skp false l))).1, (l.drop (skp false l)).take (cutL (l.drop (skp false l))).2, p + skp false l⟩ :: ts)
      | .error q => .error q
def lexs (l : List UInt8) (p : Nat) : Except Nat (List Tok) := lx (l.length + 1) l p

theorem sgnIn_le : ∀ (L : List (List UInt8)) (l : List UInt8), sgnIn L l ≤ l.length
  | [], _ => by simp [sgnIn]
  | x :: r, l => by
    unfold sgnIn; split
    · rename_i h; exact (List.isPrefixOf_iff_prefix.1 h).length_le
    · exact sgnIn_le r l
theorem run_pos (p : UInt8 → Bool) (c : UInt8) (r : List UInt8) (h : p c = true) : 0 < run p (c :: r) := by simp [run, h]
theorem bgn_wth (c : UInt8) (h : bgn c = true) : wth c = true := by simp [wth, h]
/-- a token has a byte at least, and lies within the text -/
theorem cutL_bd (l : List UInt8) (h : (cutL l).1 ≠ 0) : 0 < (cutL l).2 ∧ (cutL l).2 ≤ l.length := by
  cases l with
  | nil => simp [cutL] at h
  | cons c r =>
    have h1 := run_le wth (c :: r)
    have h2 := run_le dgt (c :: r)
    have h3 : sgn (c :: r) ≤ (c :: r).length := sgnIn_le signs _
    have e := cutL_cons c r
    by_cases hb : bgn c = true
    · rw [if_pos hb] at e
      by_cases hl : 32 < run wth (c :: r)
      · rw [if_pos hl] at e; rw [e] at h; exact absurd rfl h
      · rw [if_neg hl] at e; rw [e]; exact ⟨run_pos wth c r (bgn_wth c hb), h1⟩
    · by_cases hd : dgt c = true
      · rw [if_neg hb, if_pos hd] at e
        by_cases hc : (!numOk ((c :: r).take (run dgt (c :: r))) || (((c :: r).drop (run dgt (c :: r))).head?.elim false bgn)) = true
        · rw [if_pos hc] at e; rw [e] at h; exact absurd rfl h
        · rw [if_neg hc] at e; rw [e]; exact ⟨run_pos dgt c r hd, h2⟩
      · rw [if_neg hb, if_neg hd] at e
        by_cases hc : sgn (c :: r) = 0
        · rw [if_pos hc] at e; rw [e] at h; exact absurd rfl h
        · rw [if_neg hc] at e; rw [e]; exact ⟨by show 0 < sgn (c :: r); omega, h3⟩

theorem lx_fuel : ∀ (f g : Nat) (l : List UInt8) (p : Nat), l.length < f → l.length < g → lx f l p = lx g l p
  | 0, _, _, _, h, _ => by omega
  | _, 0, _, _, _, h => by omega
  | f + 1, g + 1, l, p, h1, h2 => by
    unfold lx
    by_cases hn : l.drop (skp false l) = []
    · rw [if_pos hn, if_pos hn]
    · rw [if_neg hn, if_neg hn]
      by_cases hk : (cutL (l.drop (skp false l))).1 = 0
      · rw [if_pos hk, if_pos hk]
      · rw [if_neg hk, if_neg hk]
        have hb := cutL_bd _ hk
        have hl : ((l.drop (skp false l)).drop (cutL (l.drop (skp false l))).2).length < l.length := by
          rw [List.length_drop, List.length_drop] at *
          omega
        rw [lx_fuel f g _ _ (by omega) (by omega)]

/-- how the tokens unfold -/
theorem lexs_end (l : List UInt8) (p : Nat) (h : l.drop (skp false l) = []) : lexs l p = .ok [] := by
  unfold lexs lx; rw [if_pos h]
theorem lexs_bad (l l1 : List UInt8) (p : Nat) (h1 : l.drop (skp false l) = l1) (h : l1 ≠ []) (hk : (cutL l1).1 = 0) : lexs l p = .error (p + skp false l) := by
  unfold lexs lx; rw [h1, if_neg h, if_pos hk]
theorem lexs_tok (l l1 : List UInt8) (p : Nat) (h1 : l.drop (skp false l) = l1) (h : l1 ≠ []) (hk : (cutL l1).1 ≠ 0) :
    lexs l p = match lexs (l1.drop (cutL l1).2) (p + skp false l + (cutL l1).2) with
      | .ok ts => .ok (⟨(cutL l1).1, l1.take (cutL l1).2, p + skp false l⟩ :: ts)
      | .error q => .error q := by
  have hb := cutL_bd _ hk
  have hl : (l1.drop (cutL l1).2).length < l.length := by
    have : l1.length ≤ l.length := by rw [← h1, List.length_drop]; omega
    rw [List.length_drop]; omega
  conv => lhs; unfold lexs lx
  rw [h1, if_neg h, if_neg hk]
  unfold lexs
  rw [lx_fuel l.length ((l1.drop (cutL l1).2).length + 1) _ _ (by omega) (by omega)]

theorem skp_again : ∀ (b : Bool) (l : List UInt8), skp false (l.drop (skp b l)) = 0
  | _, [] => by simp [skp]
  | true, c :: r => by
    rw [skp_true_cons]; split
    · exact skp_again false r
    · exact skp_again true r
  | false, c :: r => by
    rw [skp_false_cons]; split
    · exact skp_again false r
    · split
      · exact skp_again true r
      · rename_i h1 h2
        rw [List.drop_zero, skp_false_cons, if_neg h1, if_neg h2]
/-- what is passed over may be passed over first -/
theorem lexs_skip (l : List UInt8) (p : Nat) : lexs (l.drop (skp false l)) (p + skp false l) = lexs l p := by
  have h0 := skp_again false l
  by_cases hn : l.drop (skp false l) = []
  · rw [lexs_end l p hn]
    rw [hn]; rfl
  · by_cases hk : (cutL (l.drop (skp false l))).1 = 0
    · rw [lexs_bad l _ p rfl hn hk, lexs_bad (l.drop (skp false l)) (l.drop (skp false l)) (p + skp false l) (by rw [h0]; rfl) hn hk, h0]; rfl
    · rw [lexs_tok l _ p rfl hn hk, lexs_tok (l.drop (skp false l)) (l.drop (skp false l)) (p + skp false l) (by rw [h0]; rfl) hn hk, h0]; rfl

/-- one more list of tokens ahead -/
def pre (acc : List Tok) : Except Nat (List Tok) → Except Nat (List Tok)
  | .ok ts => .ok (acc ++ ts)
  | .error q => .error q

/-- what Tokens answers: tokens, place, number of the error -/
def res (l : List UInt8) : List Tok × Nat × Nat :=
  if 65536 < l.length then ([], 0, 40) else match lexs l 0 with
    | .ok ts => (ts, 0, 0)
    | .error q => ([], q, 63)
end Go.Proofs.YtpcdlneompnhlaaGreatDoor.Lx

namespace Go.Proofs.YtpcdlneompnhlaaGreatDoor.Lx
open Go Go.RowKit

/-- what holds at the head of a round of Tokens: so many tokens have been cut, the next one begins at a place -/
def Q (s : ByteArray) (acc : List Tok) (a : Nat) : Prop :=
  a ≤ s.size ∧ skp false (s.data.toList.drop a) = 0 ∧ acc.length ≤ a ∧ lexs s.data.toList 0 = pre acc (lexs (s.data.toList.drop a) a)
theorem pre_nil (r : Except Nat (List Tok)) : pre [] r = r := by cases r <;> rfl
theorem pre_pre (a b : List Tok) (r : Except Nat (List Tok)) : pre a (pre b r) = pre (a ++ b) r := by cases r <;> simp [pre]
theorem Q_start (s : ByteArray) : Q s [] (idl s 0) := by
  have e : idl s 0 = skp false s.data.toList := by unfold idl; rw [List.drop_zero, Nat.zero_add]
  refine ⟨idl_le s 0 (by omega), ?_, by simp, ?_⟩
  · rw [e]; exact skp_again false _
  · rw [e, pre_nil]
    have := lexs_skip s.data.toList 0
    rw [Nat.zero_add] at this
    exact this.symm
theorem ke_cut (s : ByteArray) (a k e : Nat) (h : cutKE s a = (k, e)) (hk : k ≠ 0) : (cutL (s.data.toList.drop a)).1 = k ∧ a + (cutL (s.data.toList.drop a)).2 = e ∧ a < e ∧ e ≤ s.size := by
  unfold cutKE at h
  by_cases hc : (cutL (s.data.toList.drop a)).1 = 0
  · rw [if_pos hc] at h
    exact absurd (Prod.mk.inj h).1.symm hk
  · rw [if_neg hc] at h
    obtain ⟨h1, h2⟩ := Prod.mk.inj h
    have hb := cutL_bd _ hc
    rw [List.length_drop, ← Lib.size_eq] at hb
    exact ⟨h1, h2, by omega, by omega⟩
theorem ke_cut0 (s : ByteArray) (a e : Nat) (h : cutKE s a = (0, e)) : (cutL (s.data.toList.drop a)).1 = 0 := by
  unfold cutKE at h
  by_cases hc : (cutL (s.data.toList.drop a)).1 = 0
  · exact hc
  · rw [if_neg hc] at h
    exact (Prod.mk.inj h).1
theorem drop_ne (s : ByteArray) (a : Nat) (h : a < s.size) : s.data.toList.drop a ≠ [] := by
  rw [drop_cons s a h]; simp
theorem Q_bad (s : ByteArray) (acc : List Tok) (a e : Nat) (h : Q s acc a) (hlt : a < s.size) (hk : cutKE s a = (0, e)) : lexs s.data.toList 0 = .error a := by
  obtain ⟨h1, h2, h3, h4⟩ := h
  rw [h4, lexs_bad (s.data.toList.drop a) (s.data.toList.drop a) a (by rw [h2]; rfl) (drop_ne s a hlt) (ke_cut0 s a e hk), h2]
  rfl
theorem Q_end (s : ByteArray) (acc : List Tok) (a : Nat) (h : Q s acc a) (hlt : ¬ a < s.size) : lexs s.data.toList 0 = .ok acc := by
  obtain ⟨h1, h2, h3, h4⟩ := h
  rw [h4, lexs_end _ _ (by rw [h2, List.drop_zero]; exact List.drop_of_length_le (by rw [← Lib.size_eq]; omega))]
  simp [pre]
theorem Q_tok (s : ByteArray) (acc : List Tok) (a k e : Nat) (h : Q s acc a) (hlt : a < s.size) (hke : cutKE s a = (k, e)) (hk : k ≠ 0) :
    Q s (acc ++ [⟨k, (s.extract a e).data.toList, a⟩]) (idl s e) := by
  obtain ⟨h1, h2, h3, h4⟩ := h
  obtain ⟨c1, c2, c3, c4⟩ := ke_cut s a k e hke hk
  have hi := idl_le s e c4
  have hi2 : e ≤ idl s e := by unfold idl; omega
  refine ⟨hi, ?_, by simp; omega, ?_⟩
  · unfold idl; rw [← List.drop_drop]; exact skp_again false _
  · have hx : (s.extract a e).data.toList = (s.data.toList.drop a).take (cutL (s.data.toList.drop a)).2 := by
      rw [Lib.extract_data]; congr 1; omega
    have hy : lexs (s.data.toList.drop (idl s e)) (idl s e) = lexs (s.data.toList.drop e) e := by
      unfold idl; rw [← List.drop_drop]; exact lexs_skip _ _
    rw [h4, lexs_tok (s.data.toList.drop a) (s.data.toList.drop a) a (by rw [h2]; rfl) (drop_ne s a hlt) (by rw [c1]; exact hk), h2, hy, hx, c1, List.drop_drop, Nat.add_zero, c2]
    cases lexs (s.data.toList.drop e) e with
    | error q => rfl
    | ok ts => simp [pre]

/-- a token, and tokens, as memory holds them -/
def tokCells (t : Tok) : List Value := [.int .u8 (t.kind : Int), .string ⟨t.txt.toArray⟩, .int .i64 (t.pos : Int)]
def cellsOf (ts : List Tok) : List Value := ts.flatMap tokCells
theorem cellsOf_snoc (ts : List Tok) (t : Tok) : cellsOf (ts ++ [t]) = cellsOf ts ++ tokCells t := by simp [cellsOf]
theorem own_below {w w' : World} {base : Nat} {e : TypeId} {size : Nat} {v : Value} {n : Nat} {xs : List Value} (h : w.ownsRow base e size v n xs) (hb : Below w.heap.size w w') : w'.ownsRow base e size v n xs :=
  h.kept (row := none) ⟨hb.os, hb.tape, hb.output, hb.size, fun k hk _ => hb.block k hk⟩ (by cases v.ownBlock <;> simp)
theorem cells_new (w : World) (xs : Array Value) (t : TypeId) : ∀ j u, xs.toList[j]? = some u → (w.alloc (.cells xs t)).cell? ((⟨w.heap.size, 0, none⟩ : Addr).add j) = some u := by
  intro j u hu
  rw [Addr.add_lit, cell_of_row _ _ _ xs t (0, 0) (heap_alloc_new w _)]
  simpa using hu
theorem own_snoc {w : World} {base : Nat} {v : Value} {acc : List Tok} {s : ByteArray} {k a e : Nat} (h : w.ownsRow base 69 3 v (acc.length + 1) (cellsOf acc ++ [Value.int .u8 (k : Int), Value.string (s.extract a e), Value.int .i64 (a : Int)])) :
    w.ownsRow base 69 3 v (acc ++ [Tok.mk k (s.extract a e).data.toList a]).length (cellsOf (acc ++ [Tok.mk k (s.extract a e).data.toList a])) := by
  rw [cellsOf_snoc, List.length_append]
  unfold tokCells
  rw [Lib.mk_data]
  exact h
theorem info_tok : (Tryz.prog.info? 69).map (fun i => (i.zero, i.size, i.bytes)) = some (some (.agg #[.int .u8 0, .string ⟨#[]⟩, .int .i64 0]), 3, 32) := by kernel_rfl

theorem idle_at (s : ByteArray) (k : Nat) (w : World) (hs : s.size ≤ maxLen) (h1 : k ≤ s.size) :
    Calls Tryz.prog 35 #[.string s, .int .i64 (k : Int)] w fun e w' => e = .returned (.int .i64 (idl s k : Int)) ∧ w = w' := by
  have h := idle_any s (k : Int) w hs (by omega) (by omega)
  rw [Int.toNat_natCast] at h
  exact h
set_option maxHeartbeats 1600000 in
set_option maxRecDepth 100000 in
theorem tokens_any (s : ByteArray) (w : World) (hs : s.size ≤ maxLen) (hsg : SignsIn w) :
    Calls Tryz.prog 12 #[.string s] w fun e w' => ∃ v, e = .returned (.tuple #[v, .int .i64 ((res s.data.toList).2.1 : Int), .int .i64 ((res s.data.toList).2.2 : Int)]) ∧
      w'.ownsRow w.heap.size 69 3 v (res s.data.toList).1.length (cellsOf (res s.data.toList).1) ∧ Below w.heap.size w w' ∧ ((res s.data.toList).1 = [] → v = .slice none 0 0) := by
  have hw0 : 0 < w.heap.size := by obtain ⟨t, fr, hg⟩ := hsg; exact (Array.getElem?_eq_some_iff.1 hg).1
  by_cases hbig : 65536 < s.size
  · have hr : res s.data.toList = ([], 0, 40) := by unfold res; rw [← Lib.size_eq, if_pos hbig]
    rw [hr]
    go_enter Tryz.func12, Tryz.ntmps12
    go_wp2
    go_ret3
    exact ⟨_, rfl, World.ownsRow_nil _ _ _ _, Below.refl _ _, fun _ => rfl⟩
  · have hok : ∀ acc, lexs s.data.toList 0 = .ok acc → res s.data.toList = (acc, 0, 0) := fun acc h => by unfold res; rw [← Lib.size_eq, if_neg hbig, h]
    have hno : ∀ q, lexs s.data.toList 0 = .error q → res s.data.toList = ([], q, 63) := fun q h => by unfold res; rw [← Lib.size_eq, if_neg hbig, h]
    have Hok := Lib.hid hok
    have Hno := Lib.hid hno
    have hs' := Lib.hid hs
    have hq0 := Q_start s
    have hi0 := idl_le s 0 (by omega)
    clear hok hno
    unfold maxLen at hs
    obtain ⟨i0, hi, hz0, hz1, hz2⟩ := info_parts info_tok
    go_enter Tryz.func12, Tryz.ntmps12
    go_wp2_with (go_at_call 35; refine (idle_any s 0 _ hs'.out (by omega) (by omega)).mono ?_; rintro e w' ⟨rfl, rfl⟩)
    go_loopw [5, 6] (fun v a wr => ∃ (acc : List Tok) (k : Nat), a = .int .i64 k ∧ Q s acc k ∧ wr.ownsRow w.heap.size 69 3 v acc.length (cellsOf acc) ∧ Below w.heap.size w wr ∧ (acc = [] → v = .slice none 0 0))
      (fun _ a _ => s.size - (intOf a).toNat)
    case atStart => exact ⟨[], idl s 0, by simp, hq0, World.ownsRow_nil _ _ _ _, Below.refl _ _, fun _ => rfl⟩
    case round =>
      obtain ⟨acc, a, rfl, hq, hown, hbl, hnil⟩ := hrel
      have hsz := hbl.size
      have hsg1 := hsg.below hw0 hbl
      have haq := hq.1
      have hal := hq.2.2.1
      by_cases hlt : a < s.size
      · obtain ⟨k, e, hke⟩ : ∃ k e, cutKE s a = (k, e) := ⟨_, _, rfl⟩
        by_cases hk0 : k = 0
        · subst hk0
          have HE := Lib.hid (Hno.out a (Q_bad s acc a e hq hlt hke))
          have hke := Lib.hid hke
          clear hq hal
          go_wp2_with (go_at_call 36; refine (cut_at s a 0 e hke.out _ hs'.out hlt hsg1).mono ?_; rintro e w' ⟨rfl, hb⟩)
          go_ret3
          rw [HE.out]
          exact ⟨_, rfl, World.ownsRow_nil _ _ _ _, hbl.trans (hb.mono hsz), fun _ => rfl⟩
        · obtain ⟨q1, q2, q3, q4⟩ := ke_cut s a k e hke hk0
          have hQ := Lib.hid (Q_tok s acc a k e hq hlt hke hk0)
          have hke := Lib.hid hke
          have hkb : ((k : Int) == 0) = false := by simp; exact hk0
          have hie := idl_le s e q4
          have hie2 : e ≤ idl s e := by unfold idl; omega
          clear hq q1 q2
          have hxs : (s.extract a e).size ≤ 281474976710656 := by rw [Lib.size_eq, Lib.extract_data, List.length_take, List.length_drop, ← Lib.size_eq]; omega
          go_wp2_with (first
            | (go_at_call 36; refine (cut_at s a k e hke.out _ hs'.out hlt hsg1).mono ?_; rintro e w1 ⟨rfl, hb1⟩)
            | (go_at_call 37; refine (clone_any _ _ hxs).mono ?_; rintro e w2 ⟨rfl, hb2⟩)
            | (at_builtin; refine wpList_append_own _ rfl (.tmp 30) (.tmp 39) 34 rfl w.heap.size 69 i0 (.agg #[.int .u8 0, .string ⟨#[]⟩, .int .i64 0]) 3 32 Tryz.underlying34 hi hz0 hz1 hz2 rfl (by decide) _ _ _ rfl ((own_below (own_below hown hb1) hb2).alloc _) ⟨w2.heap.size, 0, none⟩ 1 1 [.int .u8 (k : Int), .string (s.extract a e), .int .i64 (a : Int)] rfl rfl ?c1 ?c2 ?c3 ?c4 ?c5 ?_))
          case c1 => exact cells_new w2 #[.int .u8 (k : Int), .string (s.extract a e), .int .i64 (a : Int)] 69
          case c2 => intro u hu; simp at hu; rcases hu with rfl | rfl | rfl <;> rfl
          case c3 => unfold maxLen; omega
          case c4 => omega
          case c5 => have := hb1.size; have := hb2.size; simp; omega
          intro v' w3 hown3 hgrow3 hnn
          have hB : Below w.heap.size w w3 := by
            have h1 := hbl.trans (hb1.mono hsz)
            have h2 := h1.trans (hb2.mono (by have := hb1.size; omega))
            exact (h2.alloc (by have := hb1.size; have := hb2.size; omega) _).grown hgrow3 (by have := hb1.size; have := hb2.size; simp; omega) (fun j hj => (hown.lt j hj).1)
          have HO := own_snoc hown3
          clear hown3 hgrow3 hown hb1 hb2 hbl hnil hsg1
          go_wp2_with (go_at_call 35; refine (idle_at s e _ hs'.out q4).mono ?_; rintro e w' ⟨rfl, rfl⟩)
          go_roundw
          case rel => exact ⟨acc ++ [⟨k, (s.extract a e).data.toList, a⟩], idl s e, rfl, hQ.out, HO, hB, fun h => by simp at h⟩
          case measure => simp [intOf]; omega
      · have HE := Lib.hid (Hok.out acc (Q_end s acc a hq hlt))
        clear hq hal
        go_wp2
        go_ret3
        rw [HE.out]
        exact ⟨_, rfl, hown, hbl, hnil⟩
end Go.Proofs.YtpcdlneompnhlaaGreatDoor.Lx

namespace Go.Proofs.YtpcdlneompnhlaaGreatDoor.Pa
open Go Go.RowKit
open Go.Proofs.YtpcdlneompnhlaaGreatDoor.Lx Go.Proofs.YtpcdlneompnhlaaGreatDoor.Tr

def tkOf (t : Tok) : Tk := ⟨(t.kind : Int), ⟨t.txt.toArray⟩, (t.pos : Int)⟩
/-- a text's tokens, and one of no text at its end -/
def toks (ts : List Tok) (p : Nat) : List Tk := ts.map tkOf ++ [⟨0, ⟨#[]⟩, (p : Int)⟩]
def KT : Kd Tk := ⟨Tk.vals, 3, Tk.vals_len, fun _ _ _ => True, fun _ _ => trivial, fun _ _ => trivial, fun _ => trivial⟩
theorem Tk.one (t : Tk) : ∀ u ∈ KT.vals t, u.oneCell' = true := by
  intro u hu
  simp [KT, Tk.vals] at hu
  rcases hu with rfl | rfl | rfl <;> rfl
theorem cells_tk (ts : List Tok) : cellsOf ts = (ts.map tkOf).flatMap KT.vals := by
  unfold cellsOf
  induction ts with
  | nil => rfl
  | cons t r ih => rw [List.flatMap_cons, List.map_cons, List.flatMap_cons, ih]; rfl
theorem acc_tk {W : World} {B : Nat} {v : Value} {ts : List Tok} (h : W.ownsRow B 69 3 v ts.length (cellsOf ts)) : Acc KT 69 B W v (ts.map tkOf) := by
  refine ⟨?_, fun _ _ => trivial⟩
  rw [List.length_map, ← cells_tk]
  exact h
/-- what is read of a text's tokens -/
def readR (ts : List Tok) (p : Nat) : Res (List De) := declsR (toks ts p) ((toks ts p).length + 1) [] 0
theorem toks_rd {W : World} {B dm sm rb : Nat} {v : Value} {ts : List Tok} {p : Nat} (hacc : Acc KT 69 B W v (toks ts p)) (hrb : ∀ k, v.ownBlock = some k → k ≠ rb) (hlen : ts.length ≤ 90000) (hts : ∀ t ∈ ts, t.txt.length ≤ 100000 ∧ t.pos ≤ 100000) (hp : p ≤ 100000) (tb : TbP W) (hgl : ∀ g ∈ gls, rb ≠ g)
    (hblk : W.heap[rb]? = some (.cells #[v, .int .i64 0, .map (some dm), .map (some sm)] 92 (0, 0))) :
    ∃ a cap, v = .slice a (toks ts p).length cap ∧ Rd ⟨rb, a, cap, toks ts p, dm, sm⟩ 0 W := by
  have hl : (toks ts p).length = ts.length + 1 := by unfold toks; simp
  obtain ⟨hlen2, ⟨rfl, h0⟩ | ⟨g, cap, cur, rfl, hB, hg, h1, h2, h3, h4⟩⟩ := hacc.own
  · omega
  · refine ⟨_, cap, rfl, hblk, ⟨h1, h2, fun h => (by cases h), fun j u hj => ⟨g, 0, rfl, hrb g rfl, ?_⟩⟩, by simp only; omega, by simp only; omega, tb, hgl, ?_, ?_⟩
    · have hj2 : j < (toks ts p).length * 3 := by
        have hc : KT.c = 3 := rfl
        rw [← hc, ← hlen2]; exact (List.getElem?_eq_some_iff.1 hj).1
      rw [Nat.zero_add]
      have hj' : ((toks ts p).flatMap KT.vals)[j]? = some u := hj
      rw [← h4, List.getElem?_take] at hj'
      have hc : KT.c = 3 := rfl
      rw [hc, if_pos hj2] at hj'
      simp only [World.cell?, hg]
      simpa using hj'
    · intro t ht
      simp only [toks, List.mem_append, List.mem_map, List.mem_singleton] at ht
      rcases ht with ⟨u, hu, rfl⟩ | rfl
      · have := hts u hu
        refine ⟨?_, ?_, ?_⟩
        · show (⟨u.txt.toArray⟩ : ByteArray).size ≤ 100000
          have h5 : (⟨u.txt.toArray⟩ : ByteArray).size = u.txt.length := by simp [ByteArray.size]
          omega
        · show (0 : Int) ≤ (u.pos : Int); omega
        · show (u.pos : Int) ≤ 100000; omega
      · refine ⟨by show (⟨#[]⟩ : ByteArray).size ≤ 100000; decide, ?_, ?_⟩
        · show (0 : Int) ≤ (p : Int); omega
        · show (p : Int) ≤ 100000; omega
    · intro j t hj hjl
      have hjl' : j + 1 = (toks ts p).length := hjl
      have hj' : (toks ts p)[j]? = some t := hj
      unfold toks at hj'
      rw [List.getElem?_append_right (by rw [List.length_map]; omega), List.length_map, show j - ts.length = 0 by omega] at hj'
      cases hj'
      exact ⟨rfl, rfl⟩
theorem RE.belowB {rb B : Nat} {w w' : World} (h : RE rb w w') (hB : B ≤ rb) (hs : B ≤ w.heap.size) : Below B w w' := ⟨h.os, h.tape, h.output, h.size, fun k hk => h.block k (by omega) (by omega)⟩
theorem VDs.below {B C : Nat} {xs : List De} {v : Value} {w w' : World} (h : VDs (fun b => C ≤ b) xs v w) (hb : Kps (fun b => C ≤ b) w w') (hBC : B ≤ C) : VDs (fun b => B ≤ b) xs v w' := by
  obtain ⟨l, a, cap, rfl, h1, h2, h3⟩ := h
  exact ⟨l, a, cap, rfl, (h1.below hb).mono fun b hb => Nat.le_trans hBC hb, (h2.below hb).mono fun b hb => Nat.le_trans hBC hb, h3⟩
/-- how read ends -/
def ReadPost (B : Nat) (w : World) (r : Res (List De)) (e : Ending) (w' : World) : Prop :=
  Below B w w' ∧ match r with
    | .ok x j => j ≤ 100000 ∧ ∃ v, e = .returned (.tuple #[v, .int .i64 0, .int .i64 0]) ∧ VDs (fun b => B ≤ b) x v w'
    | .bad p => e = .returned (.tuple #[.slice none 0 0, .int .i64 p, .int .i64 63])

set_option maxHeartbeats 4000000 in
set_option maxRecDepth 100000 in
theorem read_c (ts : List Tok) (p : Nat) (v : Value) (w : World) (B : Nat) (hB : B ≤ w.heap.size) (hown : w.ownsRow B 69 3 v ts.length (cellsOf ts)) (hlen : ts.length ≤ 90000) (hts : ∀ t ∈ ts, t.txt.length ≤ 100000 ∧ t.pos ≤ 100000) (hp : p ≤ 100000) (tb : TbP w) (hgl : ∀ g ∈ gls, g < B) :
    Calls Tryz.prog 29 #[v, .int .i64 (p : Int)] w (ReadPost B w (readR ts p)) := by
  have hmf : ∀ (fn : Fn) (first cap : Array Value) (w : World), (Instr.makeFunc fn first cap).run Tryz.prog w = .ok (.func fn first cap) w := fun _ _ _ _ => rfl
  obtain ⟨i0, hi0, hz0, hz1, hz2⟩ := info_parts info_tok
  have hacc0 := Lib.hid (acc_tk hown)
  generalize hr : readR ts p = r
  replace hr := Lib.hid hr
  replace tb := Lib.hid tb
  replace hgl := Lib.hid hgl
  replace hts := Lib.hid hts
  clear hown
  have hml : (ts.map tkOf).length = ts.length := List.length_map ..
  obtain ⟨W1, hW1⟩ : ∃ W, (w.alloc (.cells #[.int .i64 0] 3)).alloc (.cells #[.int .i64 0] 23) = W := ⟨_, rfl⟩
  have hb1 : Below w.heap.size w W1 := by rw [← hW1]; exact ((Below.refl _ _).alloc (Nat.le_refl _) _).alloc (by simp) _
  have hs1 : W1.heap.size = w.heap.size + 1 + 1 := by rw [← hW1]; simp
  have ha1 : W1.heap[w.heap.size]? = some (.cells #[.int .i64 0] 3 (0, 0)) := by rw [← hW1]; exact (heap_alloc_old _ _ (by simp)).trans (World.alloc_heap_new w _)
  have hc1 : W1.heap[w.heap.size + 1]? = some (.cells #[.int .i64 0] 23 (0, 0)) := by
    rw [← hW1]
    have := World.alloc_heap_new (w.alloc (.cells #[.int .i64 0] 3)) (.cells #[.int .i64 0] 23)
    rw [sz_alloc] at this
    exact this
  have hacc1 := Lib.hid (hacc0.out.below hb1)
  have acc_lt := Lib.hid fun k hk => (hacc0.out.block k hk).2
  replace hb1 := Lib.hid hb1
  replace ha1 := Lib.hid ha1
  replace hc1 := Lib.hid hc1
  clear hacc0
  go_enter_defers Tryz.func29, Tryz.ntmps29
  go_wp2_with (at_builtin; refine wpList_append_V KT rfl (.tmp 9) (.tmp 12) 34 rfl 69 i0 _ 3 32 Tryz.underlying34 hi0 hz0 hz1 hz2 rfl (by decide) rfl Tk.one B v (ts.map tkOf) ⟨0, ⟨#[]⟩, (p : Int)⟩ rfl (hacc1.out.alloc _) trivial _ rfl (0, 0) (Tr.blk_new _ _ hs1) ?c1 ?c2 ?c3 ?_)
  case c1 => unfold maxLen; omega
  case c2 => omega
  case c3 => simp; omega
  intro v2 W2 hacc2 hg2
  have hown1 := fun k hk => (hacc1.out.block k hk).1
  have hb2 : Below B w W2 := (((hb1.out.mono hB).alloc (by omega) _).grown hg2 (by simp; omega) hown1)
  have hs2 : w.heap.size + 1 + 1 + 1 ≤ W2.heap.size := by have := hg2.size; simp at this; omega
  have hkeep : ∀ k, k < w.heap.size + 1 + 1 → v.ownBlock ≠ some k → W2.heap[k]? = W1.heap[k]? := fun k hk hn => (hg2.block k (by simp; omega) (fun e => hn e.symm)).trans (Below.heap_alloc _ _ _ (by omega))
  have hvo : ∀ k, v.ownBlock = some k → k < w.heap.size := fun k hk => by have := (acc_lt.out k hk); omega
  have ha2 : W2.heap[w.heap.size]? = some (.cells #[.int .i64 0] 3 (0, 0)) := (hkeep _ (by omega) (fun e => by have := hvo _ e; omega)).trans ha1.out
  have hc2 : W2.heap[w.heap.size + 1]? = some (.cells #[.int .i64 0] 23 (0, 0)) := (hkeep _ (by omega) (fun e => by have := hvo _ e; omega)).trans hc1.out
  have hac2 : Acc KT 69 B W2 v2 (toks ts p) := hacc2
  replace hac2 := Lib.hid hac2
  replace hb2 := Lib.hid hb2
  replace ha2 := Lib.hid ha2
  replace hc2 := Lib.hid hc2
  clear hg2 hacc2 hkeep hvo hacc1 ha1 hc1 hb1 hown1 acc_lt hW1
  go_wp2_with fail
  refine (declReaders_c W2).mono ?_
  rintro e W3 ⟨rfl, ⟨kd, hkd⟩, hb3⟩
  replace hkd := Lib.hid hkd
  replace hb3 := Lib.hid hb3
  go_wp2_with fail
  refine (stmtReaders_c W3).mono ?_
  rintro e W4 ⟨rfl, ⟨ks, hks⟩, hb4⟩
  have hs3 := hb3.out.size
  have hs4 := hb4.size
  have hd3 := blk_lt hkd.out
  have hks4 := blk_lt hks
  have hb24 : Below W2.heap.size W2 W4 := hb3.out.trans (hb4.mono hs3)
  obtain ⟨W5, hW5⟩ : ∃ W, W4.alloc (.cells #[v2, .int .i64 0, .map (some W2.heap.size), .map (some W3.heap.size)] 92) = W := ⟨_, rfl⟩
  have hb5 : Below W4.heap.size W4 W5 := by rw [← hW5]; exact (Below.refl _ _).alloc (Nat.le_refl _) _
  have hb25 : Below W2.heap.size W2 W5 := hb24.trans (hb5.mono (by omega))
  have hBs : B ≤ W2.heap.size := by omega
  have hbB : Below B w W5 := hb2.out.trans (hb25.mono hBs)
  have hac5 := hac2.out.below hb25
  have hrow5 : W5.heap[W4.heap.size]? = some (.cells #[v2, .int .i64 0, .map (some W2.heap.size), .map (some W3.heap.size)] 92 (0, 0)) := by rw [← hW5]; exact World.alloc_heap_new W4 _
  obtain ⟨a5, cap5, rfl, hRd⟩ := toks_rd (dm := W2.heap.size) (sm := W3.heap.size) hac5 (fun k hk => by have := (hac2.out.block k hk).2; omega) hlen hts.out hp (tb.out.low_keep hgl.out hbB) (fun g hg e => by have := hgl.out g hg; omega) hrow5
  have hMp : Mp ⟨W4.heap.size, a5, cap5, toks ts p, W2.heap.size, W3.heap.size⟩ W5 := by
    refine ⟨⟨ks, (hb5.block _ hks4).trans hks⟩, ⟨kd, ((hb4.trans (hb5.mono hs4)).block _ hd3).trans hkd.out⟩, ?_, ?_⟩
    · show W3.heap.size ≠ W4.heap.size; omega
    · show W2.heap.size ≠ W4.heap.size; omega
  have ha5 : W5.heap[w.heap.size]? = some (.cells #[.int .i64 0] 3 (0, 0)) := (hb25.block _ (by omega)).trans ha2.out
  have hc5 : W5.heap[w.heap.size + 1]? = some (.cells #[.int .i64 0] 23 (0, 0)) := (hb25.block _ (by omega)).trans hc2.out
  have hs5 : W4.heap.size < W5.heap.size := blk_lt hrow5
  have hX := Lib.hid (program_c hRd hMp)
  replace hbB := Lib.hid hbB
  replace ha5 := Lib.hid ha5
  replace hc5 := Lib.hid hc5
  clear hac5 hrow5 hb5 hb25 hb24 hks hkd hb4 hb3 hac2 hb2 ha2 hc2 hRd hMp hs1
  go_wp2_with fail
  clear hW5
  refine hX.out.mono ?_
  intro e W6 hP
  have hr' := hr.out
  unfold readR at hr'
  rcases hP.two with ⟨q, hq, rfl, hre⟩ | ⟨x6, j6, v6, hq, rfl, hV, hR, hre⟩
  · have hqr : Res.bad q = r := by rw [← hr']; exact hq.symm
    subst hqr
    have ha6 := hre.blk ha5.out (by show w.heap.size ≠ W4.heap.size; omega)
    have hc6 := hre.blk hc5.out (by show w.heap.size + 1 ≠ W4.heap.size; omega)
    have hB6 : Below B w W6 := hbB.out.trans (hre.belowB (by show B ≤ W4.heap.size; omega) (by omega))
    have hfin : Below B w (((W6.alloc (.cells #[.int .i64 q] 85)).setCell ⟨w.heap.size, 0, none⟩ (.int .i64 q)).setCell ⟨w.heap.size + 1, 0, none⟩ (.int .i64 63)) := ((hB6.alloc (Nat.le_trans hB hB6.size) _).setCell hB _).setCell (by show B ≤ w.heap.size + 1; omega) _
    refine leaves_cons (f := 59) (args := #[.pointer (some ⟨w.heap.size, 0, none⟩), .pointer (some ⟨w.heap.size + 1, 0, none⟩)]) (by simp) (by simp [go_sem]) ?_
    refine (catch_bad w.heap.size (w.heap.size + 1) 0 0 q [] W6 (blk_cell ha6 rfl) (blk_cell hc6 rfl) (blk_free ha6 0) (blk_free hc6 0) (by omega)).mono ?_
    rintro e u' w'' ⟨rfl, rfl, rfl⟩
    have hA : (((W6.alloc (.cells #[.int .i64 q] 85)).setCell ⟨w.heap.size, 0, none⟩ (.int .i64 q)).setCell ⟨w.heap.size + 1, 0, none⟩ (.int .i64 63)).cell? ⟨w.heap.size, 0, none⟩ = some (.int .i64 q) := by
      refine blk_cell (vs := #[.int .i64 q]) (t := 3) (fr := (0, 0)) ?_ rfl
      rw [Below.heap_setCell _ _ _ _ (by show w.heap.size ≠ w.heap.size + 1; omega)]
      have := heap_set ((heap_alloc_old W6 (.cells #[.int .i64 q] 85) (cells_lt ha6)).trans ha6) 0 (.int .i64 q)
      simpa using this
    have hC : (((W6.alloc (.cells #[.int .i64 q] 85)).setCell ⟨w.heap.size, 0, none⟩ (.int .i64 q)).setCell ⟨w.heap.size + 1, 0, none⟩ (.int .i64 63)).cell? ⟨w.heap.size + 1, 0, none⟩ = some (.int .i64 63) := by
      refine blk_cell (vs := #[.int .i64 63]) (t := 23) (fr := (0, 0)) ?_ rfl
      have h1 : ((W6.alloc (.cells #[.int .i64 q] 85)).setCell ⟨w.heap.size, 0, none⟩ (.int .i64 q)).heap[w.heap.size + 1]? = some (.cells #[.int .i64 0] 23 (0, 0)) := by
        rw [Below.heap_setCell _ _ _ _ (by show w.heap.size + 1 ≠ w.heap.size; omega)]
        exact (heap_alloc_old W6 _ (cells_lt hc6)).trans hc6
      have := heap_set h1 0 (.int .i64 63)
      simpa using this
    obtain ⟨Wf, hWf⟩ : ∃ W, ((W6.alloc (.cells #[.int .i64 q] 85)).setCell ⟨w.heap.size, 0, none⟩ (.int .i64 q)).setCell ⟨w.heap.size + 1, 0, none⟩ (.int .i64 63) = W := ⟨_, rfl⟩
    rw [hWf] at hA hC hfin
    simp only [hWf]
    clear hWf ha6 hc6 hB6 hP hre
    simp [Leaves, settle, results, Tryz.results29, go_sem, hA, hC, ReadPost, hfin]
  · have hqr : Res.ok x6 j6 = r := by rw [← hr']; exact hq.symm
    subst hqr
    have ha6 := hre.blk ha5.out (by show w.heap.size ≠ W4.heap.size; omega)
    have hc6 := hre.blk hc5.out (by show w.heap.size + 1 ≠ W4.heap.size; omega)
    have hB6 : Below B w W6 := hbB.out.trans (hre.belowB (by show B ≤ W4.heap.size; omega) (by omega))
    have hkp : Kps (fun b => W5.heap.size ≤ b) W6 ((W6.setCell ⟨w.heap.size, 0, none⟩ (.int .i64 0)).setCell ⟨w.heap.size + 1, 0, none⟩ (.int .i64 0)) := fun bb o u hbb hc => by
      refine (World.cell?_of_block (w := W6) (a := ⟨bb, o, none⟩) ?_).trans hc
      rw [Below.heap_setCell _ _ _ _ (by show bb ≠ w.heap.size + 1; omega), Below.heap_setCell _ _ _ _ (by show bb ≠ w.heap.size; omega)]
    have hjl : j6 ≤ 100000 := by have h1 : j6 < (toks ts p).length := hR.lt; have h2 : (toks ts p).length = ts.length + 1 := by unfold toks; simp
                                 omega
    have hV7 := Lib.hid (hV.below hkp (show B ≤ W5.heap.size by omega))
    have hfin : Hid (Below B w ((W6.setCell ⟨w.heap.size, 0, none⟩ (.int .i64 0)).setCell ⟨w.heap.size + 1, 0, none⟩ (.int .i64 0))) := Lib.hid ((hB6.setCell hB _).setCell (by show B ≤ w.heap.size + 1; omega) _)
    have k0 : W6.cell? ⟨w.heap.size, 0, none⟩ = some (.int .i64 0) := blk_cell ha6 rfl
    have k1 : W6.cell? ⟨w.heap.size + 1, 0, none⟩ = some (.int .i64 0) := blk_cell hc6 rfl
    have z0 := blk_free ha6 0
    have z1 := blk_free hc6 0
    have hA : ((W6.setCell ⟨w.heap.size, 0, none⟩ (.int .i64 0)).setCell ⟨w.heap.size + 1, 0, none⟩ (.int .i64 0)).cell? ⟨w.heap.size, 0, none⟩ = some (.int .i64 0) := by
      refine blk_cell (vs := #[.int .i64 0]) (t := 3) (fr := (0, 0)) ?_ rfl
      rw [Below.heap_setCell _ _ _ _ (by show w.heap.size ≠ w.heap.size + 1; omega)]
      have := heap_set ha6 0 (.int .i64 0)
      simpa using this
    have hC : ((W6.setCell ⟨w.heap.size, 0, none⟩ (.int .i64 0)).setCell ⟨w.heap.size + 1, 0, none⟩ (.int .i64 0)).cell? ⟨w.heap.size + 1, 0, none⟩ = some (.int .i64 0) := by
      refine blk_cell (vs := #[.int .i64 0]) (t := 23) (fr := (0, 0)) ?_ rfl
      have h1 : (W6.setCell ⟨w.heap.size, 0, none⟩ (.int .i64 0)).heap[w.heap.size + 1]? = some (.cells #[.int .i64 0] 23 (0, 0)) := by
        rw [Below.heap_setCell _ _ _ _ (by show w.heap.size + 1 ≠ w.heap.size; omega)]
        exact hc6
      have := heap_set h1 0 (.int .i64 0)
      simpa using this
    replace hA := Lib.hid hA
    replace hC := Lib.hid hC
    clear ha6 hc6 hB6 hP hV hR hre hkp hbB ha5 hc5 hX
    go_wp2_with fail
    refine leaves_cons (f := 59) (args := #[.pointer (some ⟨w.heap.size, 0, none⟩), .pointer (some ⟨w.heap.size + 1, 0, none⟩)]) (by simp) (by simp [go_sem]) ?_
    refine (catch_idle w.heap.size (w.heap.size + 1) _).mono ?_
    rintro e u' w'' ⟨rfl, rfl, rfl⟩
    obtain ⟨Wf, hWf⟩ : ∃ W, (W6.setCell ⟨w.heap.size, 0, none⟩ (.int .i64 0)).setCell ⟨w.heap.size + 1, 0, none⟩ (.int .i64 0) = W := ⟨_, rfl⟩
    have hA := hA.out
    have hC := hC.out
    have hfin := hfin.out
    have hV7 := hV7.out
    rw [hWf] at hA hC hfin hV7
    simp only [hWf]
    clear hWf
    simp [Leaves, settle, results, Tryz.results29, go_sem, hA, hC, ReadPost, hfin, hV7, hjl]
end Go.Proofs.YtpcdlneompnhlaaGreatDoor.Pa
