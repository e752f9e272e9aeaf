/- Walk of the reader's method block. Conditions: the contract of stmt, at less fuel. · Words for statements that hold blocks. Conditions: none. · Look-ups in the parser's maps. Conditions: the maps hold what they were laid with. · Walk of the reader's method stmt. Conditions: the contracts of what it calls. · Walk of the reader's method stmt. Conditions: the contracts of what it calls. -/
import Derived.Test.YtpcdlneompnhlaaGreatDoorGrAI
import Derived.StringKeys
import Derived.Deep.Cut
namespace Go.Proofs.YtpcdlneompnhlaaGreatDoor.Pa
open Go Go.RowKit
open Go.Proofs.YtpcdlneompnhlaaGreatDoor.Lx Go.Proofs.YtpcdlneompnhlaaGreatDoor.Tr

/-- the maps hold what they were laid with -/
def wordsS : List (ByteArray × Nat) := [(wVar, 99), (wIf, 100), (wWhile, 101), (wWith, 102), (wPrint, 103), (wCall, 104), (wReturn, 105)]
def wordsD : List (ByteArray × Nat) := [(wGlobal, 94), (wArray, 95), (wLock, 96), (wFunc, 97), (wThread, 98)]
def entries (l : List (ByteArray × Nat)) : List MapEntry := l.zipIdx.map fun x => ⟨.string x.1.1, .func (.func x.1.2) #[] #[], x.2⟩
structure Mp (c : Rc) (w : World) : Prop where
  sm : ∃ k, w.heap[c.sm]? = some (.map ⟨entries wordsS⟩ k)
  dm : ∃ k, w.heap[c.dm]? = some (.map ⟨entries wordsD⟩ k)
  ns : c.sm ≠ c.rb
  nd : c.dm ≠ c.rb
theorem blk_lt {w : World} {b : Nat} {o : Obj} (h : w.heap[b]? = some o) : b < w.heap.size := (Array.getElem?_eq_some_iff.1 h).1
theorem Mp.re {c : Rc} {w w' : World} (h : Mp c w) (hr : RE c.rb w w') : Mp c w' := by
  obtain ⟨⟨k, h1⟩, ⟨m, h2⟩, h3, h4⟩ := h
  exact ⟨⟨k, (hr.block _ (blk_lt h1) h3).trans h1⟩, ⟨m, (hr.block _ (blk_lt h2) h4).trans h2⟩, h3, h4⟩
/-- the contracts of stmt, and of block, by so much fuel -/
def ContS (f : Nat) : Prop := ∀ (c : Rc) (i : Nat) (w : World), Rd c i w → Mp c w → 2 * (c.l.length - i) + 1 ≤ f → Calls Tryz.prog 170 #[.pointer (some ⟨c.rb, 0, none⟩)] w (Post c (VT (fun b => w.heap.size ≤ b)) w (stmtR c.l f i))
def ContB (f : Nat) : Prop := ∀ (c : Rc) (i : Nat) (w : World), Rd c i w → Mp c w → 2 * (c.l.length - i) ≤ f → Calls Tryz.prog 147 #[.pointer (some ⟨c.rb, 0, none⟩)] w (Post c (VTs (fun b => w.heap.size ≤ b)) w (blockR c.l f i))

set_option maxHeartbeats 4000000 in
set_option maxRecDepth 100000 in
theorem block_step (f : Nat) (hS : ∀ g, g + 1 ≤ f → ContS g) : ContB f := by
  intro c i w h hm hf
  generalize hr : blockR c.l f i = r
  have hlo := h.low
  have hlt := h.lt
  have h1 := Lib.hid (Fr.start h)
  have hX := Lib.hid (fun g (hg : g + 1 ≤ f) W j (hW : Rd c j W) (hE : RE c.rb w W) (hj : 2 * (c.l.length - j) + 1 ≤ g) => hS g hg c j W hW (hm.re hE) hj)
  have hT1 := Lib.hid (fun W j (hW : Rd c j W) => take_c hW ⟨#[123]⟩ (by decide))
  have hP2 := Lib.hid (fun W j (hW : Rd c j W) => passes_c hW ⟨#[125]⟩ (by decide))
  obtain ⟨i0, hi0, hz0, hz1, hz2⟩ := info_parts info_st
  unfold blockR at hr
  replace hr := Lib.hid hr
  replace hlo := Lib.hid hlo
  clear h hS hm
  go_enter Tryz.func147, Tryz.ntmps147
  go_wp2_with fail
  refine (hT1.out _ i h1.out.rd).mono ?_
  intro e w2 hP
  rcases hP.two with ⟨p, hq, rfl, hre⟩ | ⟨x2, j2, v2, hq, rfl, hV, hR, hre⟩
  · have hr' := hr.out; rw [hq, Res.bind_bad] at hr'; subst hr'; exact ⟨rfl, rfl, h1.out.re.trans hre⟩
  have hr' := hr.out
  rw [hq, Res.bind_ok'] at hr'
  have hj2 := takeR_lt hq
  clear hr hP hq
  subst hV
  have h2 := h1.out.call hre hR
  clear hre hR h1
  go_wp2_with fail
  go_loopw [3] (fun v wr => ∃ (acc : List St) (j g : Nat), g ≤ f ∧ 2 * (c.l.length - j) + 2 ≤ g ∧ stmtsR c.l g (acc.map sa) j = r ∧ Rd c j wr ∧ RE c.rb w wr ∧ acc.length ≤ j ∧ Acc KS 60 w.heap.size wr v acc)
    (fun _ wr => c.l.length - nextOf c.rb wr)
  case atStart => exact ⟨[], j2, f, Nat.le_refl _, by omega, hr', h2.rd, h2.re, Nat.zero_le _, Acc.nil _ _ _ _⟩
  case round =>
    obtain ⟨acc, j, g, hgf, hf, hr, hR, hre, hlen, hacc⟩ := hrel
    cases g with
    | zero => omega
    | succ g =>
      unfold stmtsR at hr
      have hnx := hR.next
      have hjl := hR.lt
      have hlim := hR.lim
      replace hr := Lib.hid hr
      replace hacc := Lib.hid hacc
      replace hre := Lib.hid hre
      replace hR := Lib.hid hR
      clear h2 hr'
      go_wp2_with fail
      refine (hP2.out _ _ hR.out).mono ?_
      rintro e w3 ⟨hre3, ⟨hc, rfl, hR3⟩ | ⟨hc, rfl, hR3⟩⟩
      · have hr' := hr.out
        rw [if_pos hc] at hr'
        subst hr'
        have hv := Lib.hid (accS_out (Acc_re hacc.out hre3 hlo.out.rb))
        have hE := Lib.hid (hre.out.trans hre3)
        replace hR3 := Lib.hid hR3
        clear hre3 hre hR hacc hr
        go_wp2_with fail
        go_ret
        exact ⟨_, rfl, hv.out, hR3.out, hE.out⟩
      · have hr' := hr.out
        rw [if_neg hc] at hr'
        replace hr := Lib.hid hr'
        have hacc3 := Lib.hid (Acc_re hacc.out hre3 hlo.out.rb)
        have hE3 := hre.out.trans hre3
        have hsz0 := hE3.size
        replace hE3 := Lib.hid hE3
        replace hR3 := Lib.hid hR3
        clear hre3 hre hR hacc hr' hc
        go_wp2_with fail
        refine (hX.out g hgf _ j hR3.out hE3.out (by omega)).mono ?_
        intro e w4 hP
        rcases hP.two with ⟨p, hq, rfl, hre4⟩ | ⟨x4, j4, v4, hq, rfl, hV, hR4, hre4⟩
        · have hr' := hr.out; rw [hq, Res.bind_bad] at hr'; subst hr'; exact ⟨rfl, rfl, hE3.out.trans hre4⟩
        have hr' := hr.out
        rw [hq, Res.bind_ok'] at hr'
        have hj4 := (stmts_grow c.l g).1 _ _ _ hq
        clear hP hq hr
        obtain ⟨ex, rfl, hin, rfl⟩ := hV
        have hacc4 := Lib.hid (Acc_re hacc3.out hre4 hlo.out.rb)
        have hel4 := Lib.hid (Acc.fresh (K := KS) hacc3.out hsz0 hin)
        rw [show acc.map sa ++ [sa ex] = (acc ++ [ex]).map sa by rw [List.map_append]; rfl] at hr'
        have hr := Lib.hid hr'
        have hnx4 := hR4.next
        have hjl4 := hR4.lt
        obtain ⟨k1, n1, t1, nw1, ea1, ec1, e1, ba1, bc1, b1, la1, lc1, l1, p1⟩ := ex
        have hB : (⟨(St.mk k1 n1 t1 nw1 ea1 ec1 e1 ba1 bc1 b1 la1 lc1 l1 p1).vals⟩ : Array Value) = #[.int .u8 k1, .string n1, .string t1, .bool nw1, .slice ea1 e1.length ec1, .slice ba1 b1.length bc1, .slice la1 l1.length lc1, .int .i64 p1] := rfl
        rw [hB]
        have hE4 := hE3.out.trans hre4
        have hsz4 := hE4.size
        replace hE4 := Lib.hid hE4
        replace hR4 := Lib.hid hR4
        clear hB hre4 hE3 hR3 hacc3 hin hr'
        go_wp2_with (at_builtin; refine wpList_append_K KS rfl (.tmp 9) (.tmp 12) (.tmp 11) 29 rfl 60 i0 _ 8 128 Tryz.underlying29 hi0 hz0 hz1 hz2 rfl (by decide) rfl St.vals_one w.heap.size _ acc (.mk k1 n1 t1 nw1 ea1 ec1 e1 ba1 bc1 b1 la1 lc1 l1 p1) rfl (hacc4.out.alloc _) (KS.below (Kps.alloc _ _) hel4.out) _ rfl rfl (0, 0) (Tr.blk_new _ _ rfl) ?c1 ?c2 ?c3 ?_)
        case c1 => unfold maxLen; omega
        case c2 => omega
        case c3 => simp; omega
        intro v5 w5 hacc5 hg5
        have hown := fun k hk => (hacc4.out.block k hk).1
        have hR5 := hR4.out.grown hlo.out hsz4 hg5 hown
        have hE5 := Lib.hid (hE4.out.grown hg5 hown)
        have hnx5 := hR5.next
        replace hR5 := Lib.hid hR5
        replace hacc5 := Lib.hid hacc5
        clear hg5 hown hacc4 hel4 hR4 hE4 hnx4
        go_wp2_with fail
        go_roundw
        case rel => exact ⟨acc ++ [.mk k1 n1 t1 nw1 ea1 ec1 e1 ba1 bc1 b1 la1 lc1 l1 p1], j4, g, by omega, by omega, hr.out, hR5.out, hE5.out, by rw [List.length_append]; simp only [List.length_cons, List.length_nil]; omega, hacc5.out⟩
        case measure => omega
end Go.Proofs.YtpcdlneompnhlaaGreatDoor.Pa

namespace Go.Proofs.YtpcdlneompnhlaaGreatDoor.Pa
open Go Go.RowKit
open Go.Proofs.YtpcdlneompnhlaaGreatDoor.Lx Go.Proofs.YtpcdlneompnhlaaGreatDoor.Tr

def whileR (l : List Tk) (f i : Nat) : Res St := (exprR l i).bind fun e j => (blockR l f j).bind fun b m => .ok (stE 5 noB noB false [e] b []) m
def withR (l : List Tk) (f i : Nat) : Res St := (nameR l i).bind fun nm j => (blockR l f j).bind fun b m => .ok (stE 6 nm noB false [] b []) m
def ifR (l : List Tk) (f i : Nat) : Res St := (exprR l i).bind fun e j => (blockR l f j).bind fun b m => if tx l m = wElse then (blockR l f (m + 1)).bind fun c q => .ok (stE 4 noB noB false [e] b c) q else .ok (stE 4 noB noB false [e] b []) m
theorem stmtR_eq (l : List Tk) (f i : Nat) : stmtR l (f + 1) i = Res.at (ps l i) (
    if tx l i = wVar then varR l (i + 1) else if tx l i = wIf then ifR l f (i + 1) else if tx l i = wWhile then whileR l f (i + 1) else if tx l i = wWith then withR l f (i + 1)
    else if tx l i = wPrint then toldR l 7 (i + 1) else if tx l i = wCall then callR l (i + 1) else if tx l i = wReturn then toldR l 9 (i + 1) else nameStR l i) := by
  rw [stmtR]
  unfold ifR whileR withR blockR
  simp only [bind_assoc]
end Go.Proofs.YtpcdlneompnhlaaGreatDoor.Pa

namespace Go.Proofs.YtpcdlneompnhlaaGreatDoor.Pa
open Go Go.RowKit
open Go.Proofs.YtpcdlneompnhlaaGreatDoor.Lx Go.Proofs.YtpcdlneompnhlaaGreatDoor.Tr
open Go.WideMaps (string_law keyOf_string_mk)
open Go.WideShapes Go.MapKept

theorem mem_entries {L : List (ByteArray × Nat)} {e : MapEntry} (h : e ∈ entries L) : ∃ x ∈ L, e.key = .string x.1 ∧ e.val = .func (.func x.2) #[] #[] := by
  unfold entries at h
  obtain ⟨x, hx, rfl⟩ := List.mem_map.1 h
  obtain ⟨⟨a, b⟩, i⟩ := x
  exact ⟨(a, b), List.fst_mem_of_mem_zipIdx hx, rfl, rfl⟩
theorem entries_mem {L : List (ByteArray × Nat)} {x : ByteArray × Nat} (h : x ∈ L) : ∃ e ∈ entries L, e.key = .string x.1 := by
  obtain ⟨i, hi⟩ := List.getElem?_of_mem h
  refine ⟨⟨.string x.1, .func (.func x.2) #[] #[], i⟩, List.mem_map.2 ⟨(x, i), ?_, rfl⟩, rfl⟩
  rw [List.mem_iff_getElem?]
  exact ⟨i, by rw [List.getElem?_zipIdx, hi]; simp⟩
theorem look_str {P : Program} {w : World} {t k e : TypeId} {b clock : Nat} {z : Value} (L : List (ByteArray × Nat)) (hk : P.underlying k = some .string) (ht : P.underlying t = some (.map k e)) (hz : (zeroValue e).run P w = .ok z w) (hb : w.heap[b]? = some (.map ⟨entries L⟩ clock)) (hL : ∀ x ∈ L, x.1.size ≤ maxLen) (s : ByteArray) (hs : s.size ≤ maxLen) :
    ((∀ x ∈ L, x.1 ≠ s) ∧ (Instr.lookup t (.map (some b)) (.string s) true).run P w = .ok (.tuple #[z, .bool false]) w) ∨ ∃ x ∈ L, x.1 = s ∧ (Instr.lookup t (.map (some b)) (.string s) true).run P w = .ok (.tuple #[.func (.func x.2) #[] #[], .bool true]) w := by
  have K := string_law hk
  have hkey := keyOf_string_mk hk hs
  have hF : ∀ e ∈ entries L, ∃ l, keyOf P k e.key = some l := fun e he => by
    obtain ⟨x, hx, h1, _⟩ := mem_entries he
    rw [h1]
    exact ⟨_, keyOf_string_mk hk (hL x hx)⟩
  rcases K.find w hkey (entries L) hF with ⟨h1, h2⟩ | ⟨j, e0, h1, h2, h3⟩
  · refine .inl ⟨fun x hx hxs => ?_, by simp [Instr.lookup, run_underlying ht, MapKept.run_getObj_map hb, K.check w _ hkey, h1, hz, Result.andThen]⟩
    obtain ⟨e, he, hek⟩ := entries_mem hx
    exact h2 e he (by rw [hek, hxs])
  · obtain ⟨x, hx, hx1, hx2⟩ := mem_entries (List.mem_of_getElem? h2)
    refine .inr ⟨x, hx, ?_, by simp [Instr.lookup, run_underlying ht, MapKept.run_getObj_map hb, K.check w _ hkey, h1, hx2, Result.andThen]⟩
    rw [hx1] at h3
    cases h3
    rfl
def findW : List (ByteArray × Nat) → ByteArray → Option Nat
  | [], _ => none
  | x :: r, s => if x.1 = s then some x.2 else findW r s
theorem findW_none : ∀ {L : List (ByteArray × Nat)} {s : ByteArray}, (∀ x ∈ L, x.1 ≠ s) → findW L s = none
  | [], _, _ => rfl
  | y :: r, s, h => by
    unfold findW
    rw [if_neg (h y (by simp))]
    exact findW_none fun x hx => h x (by simp [hx])
theorem findW_mem : ∀ {L : List (ByteArray × Nat)} {s : ByteArray} {x : ByteArray × Nat}, (L.map Prod.fst).Nodup → x ∈ L → x.1 = s → findW L s = some x.2
  | y :: r, s, x, hn, hx, hs => by
    unfold findW
    rw [List.map_cons, List.nodup_cons] at hn
    rcases List.mem_cons.1 hx with rfl | hx
    · rw [if_pos hs]
    · rw [if_neg (fun e => hn.1 (List.mem_map.2 ⟨x, hx, by rw [hs, e]⟩))]
      exact findW_mem hn.2 hx hs
theorem look_find {P : Program} {w : World} {t k e : TypeId} {b clock : Nat} {z : Value} (L : List (ByteArray × Nat)) (hk : P.underlying k = some .string) (ht : P.underlying t = some (.map k e)) (hz : (zeroValue e).run P w = .ok z w) (hb : w.heap[b]? = some (.map ⟨entries L⟩ clock)) (hL : ∀ x ∈ L, x.1.size ≤ maxLen) (hn : (L.map Prod.fst).Nodup) (s : ByteArray) (hs : s.size ≤ maxLen) :
    (Instr.lookup t (.map (some b)) (.string s) true).run P w = .ok (match findW L s with | some F => .tuple #[.func (.func F) #[] #[], .bool true] | none => .tuple #[z, .bool false]) w := by
  rcases look_str L hk ht hz hb hL s hs with ⟨h1, h2⟩ | ⟨x, hx, h1, h2⟩
  · rw [findW_none h1]; exact h2
  · rw [findW_mem hn hx h1]; exact h2
theorem words_sz : (∀ x ∈ wordsS, x.1.size ≤ maxLen) ∧ (∀ x ∈ wordsD, x.1.size ≤ maxLen) := by
  constructor <;> (unfold maxLen; decide)
theorem words_nd : (wordsS.map Prod.fst).Nodup ∧ (wordsD.map Prod.fst).Nodup := by
  constructor <;> decide
theorem text_c {c : Rc} {i : Nat} {w : World} (h : Rd c i w) : Calls Tryz.prog 153 #[.pointer (some ⟨c.rb, 0, none⟩)] w fun e w' => e = .returned (.string (tx c.l i)) ∧ ∃ n, w' = w.drewN n := by
  obtain ⟨t, ht, h1, h2, h3⟩ := h.tok
  rw [h1]
  exact text_any c i t w h ht
theorem Rd.tx_sz {c : Rc} {i : Nat} {w : World} (h : Rd c i w) : (tx c.l i).size ≤ maxLen := by
  obtain ⟨t, ht, h1, h2, h3⟩ := h.tok
  rw [h1]
  have := (h.txs t (List.mem_of_getElem? ht)).1
  unfold maxLen; omega
theorem Rd.ps_i64 {c : Rc} {i : Nat} {w : World} (h : Rd c i w) : I64 (ps c.l i) := by
  obtain ⟨t, ht, h1, h2, h3⟩ := h.tok
  rw [h2]
  have := (h.txs t (List.mem_of_getElem? ht)).2
  unfold I64; omega
theorem zero_fnS (V : World) : (zeroValue 132).run Tryz.prog V = .ok .nilFunc V := by simp [zeroValue, Tryz.t132]
theorem zero_fnD (V : World) : (zeroValue 131).run Tryz.prog V = .ok .nilFunc V := by simp [zeroValue, Tryz.t131]
theorem look_s {c : Rc} {i : Nat} {w : World} (h : Rd c i w) (hm : Mp c w) : ∀ V, RE c.rb w V → (Instr.lookup 89 (.map (some c.sm)) (.string (tx c.l i)) true).run Tryz.prog V = .ok (match findW wordsS (tx c.l i) with | some F => .tuple #[.func (.func F) #[] #[], .bool true] | none => .tuple #[.nilFunc, .bool false]) V := by
  intro V hV
  obtain ⟨k, hk⟩ := (hm.re hV).sm
  exact look_find wordsS (k := 9) (e := 132) (by kernel_rfl) (by kernel_rfl) (zero_fnS V) hk words_sz.1 words_nd.1 _ h.tx_sz
theorem look_d {c : Rc} {i : Nat} {w : World} (h : Rd c i w) (hm : Mp c w) : ∀ V, RE c.rb w V → (Instr.lookup 87 (.map (some c.dm)) (.string (tx c.l i)) true).run Tryz.prog V = .ok (match findW wordsD (tx c.l i) with | some F => .tuple #[.func (.func F) #[] #[], .bool true] | none => .tuple #[.nilFunc, .bool false]) V := by
  intro V hV
  obtain ⟨k, hk⟩ := (hm.re hV).dm
  exact look_find wordsD (k := 9) (e := 131) (by kernel_rfl) (by kernel_rfl) (zero_fnD V) hk words_sz.2 words_nd.2 _ h.tx_sz
theorem sa_at (p : Int) (s : St) : sa (stAt p s) = stAt p (sa s) := by
  obtain ⟨k1, n1, t1, nw1, ea1, ec1, e1, ba1, bc1, b1, la1, lc1, l1, p1⟩ := s
  unfold stAt
  rw [sa_eq, sa_eq]
theorem stAt_In {W : World} {S : Nat → Prop} {p : Int} {s : St} (hp : I64 p) (h : St.In W S s) : St.In W S (stAt p s) := by
  obtain ⟨k1, n1, t1, nw1, ea1, ec1, e1, ba1, bc1, b1, la1, lc1, l1, p1⟩ := s
  unfold stAt
  unfold St.In at h ⊢
  obtain ⟨h1, h2, h3, _, h5⟩ := h
  exact ⟨h1, h2, h3, hp, h5⟩
/-- the reader goes on by one token -/
theorem Fr.step {c : Rc} {w0 W : World} {i : Nat} {bs : List (Nat × Obj)} {fs : List Fact} (h : Fr c w0 i bs fs W) (hm : i + 1 < c.l.length) : Fr c w0 (i + 1) bs fs (W.setCell ⟨c.rb, 1, none⟩ (.int .i64 ((i : Int) + 1))) :=
  h.call (RE.set W 1 _) (h.rd.set hm)
end Go.Proofs.YtpcdlneompnhlaaGreatDoor.Pa

namespace Go.Proofs.YtpcdlneompnhlaaGreatDoor.Pa
open Go Go.RowKit
open Go.Proofs.YtpcdlneompnhlaaGreatDoor.Lx Go.Proofs.YtpcdlneompnhlaaGreatDoor.Tr

set_option maxHeartbeats 4000000 in
set_option maxRecDepth 100000 in
theorem stmt_var {c : Rc} {i : Nat} {w : World} (h : Rd c i w) (hm : Mp c w) (hmore : i + 1 < c.l.length) (R : Res St) (hfw : findW wordsS (tx c.l i) = some 99) (hF : ∀ W, Rd c (i + 1) W → RE c.rb w W → Calls Tryz.prog 99 #[.pointer (some ⟨c.rb, 0, none⟩)] W (Post c (VT (fun b => W.heap.size ≤ b)) W R)) :
    Calls Tryz.prog 170 #[.pointer (some ⟨c.rb, 0, none⟩)] w (Post c (VT (fun b => w.heap.size ≤ b)) w (Res.at (ps c.l i) R)) := by
  generalize hr : Res.at (ps c.l i) R = r
  have hp := Lib.hid h.ps_i64
  have hlim : i ≤ 100000 := by have := h.lim; have := h.lt; omega
  have hlk := look_s h hm
  rw [hfw] at hlk
  replace hlk := Lib.hid hlk
  have h1 := Lib.hid ((Fr.start h).alloc #[.int .u8 0, .string ⟨#[]⟩, .string ⟨#[]⟩, .bool false, .slice none 0 0, .slice none 0 0, .slice none 0 0, .int .i64 0] 60)
  have hA := Lib.hid (fun W (hW : Rd c i W) => at_c hW)
  have hX := Lib.hid (fun W (hW : Rd c i W) => text_c hW)
  replace hr := Lib.hid hr
  replace hF := Lib.hid hF
  clear h hm hfw
  go_enter Tryz.func170, Tryz.ntmps170
  go_wp2_with fail
  refine (hA.out _ h1.out.rd).mono ?_
  rintro e w' ⟨rfl, n, rfl⟩
  have h2 := h1.out.drewN n
  obtain ⟨W1, hW1⟩ : ∃ W, (w.alloc (.cells #[.int .u8 0, .string ⟨#[]⟩, .string ⟨#[]⟩, .bool false, .slice none 0 0, .slice none 0 0, .slice none 0 0, .int .i64 0] 60)).drewN n = W := ⟨_, rfl⟩
  rw [hW1] at h2 ⊢
  clear hW1 h1
  have c3 : W1.cell? ⟨c.rb, 3, none⟩ = some (.map (some c.sm)) := blk_cell h2.rd.blk rfl
  have c1 : W1.cell? ⟨c.rb, 1, none⟩ = some (.int .i64 i) := blk_cell h2.rd.blk rfl
  have f1 : W1.frozen? ⟨c.rb, 1, none⟩ = false := blk_free h2.rd.blk 1
  have hl2 : ∀ m, _ := fun m => hlk.out (W1.drewN m) (h2.re.trans (RE.drewN W1 m))
  have hx2 := Lib.hid fun m => hX.out (W1.drewN m) (h2.rd.drewN m)
  generalize hs : tx c.l i = s at hl2 hx2
  replace hs := Lib.hid hs
  generalize hq : ps c.l i = q at hr hp ⊢
  replace h2 := Lib.hid h2
  clear hlk hX hA
  go_wp2_with fail
  go_quiet ((go_at_call 153; exact Calls.quiet_of (hx2.out _)))
  clear hl2 hx2
  have h3 := (h2.out.drewN nq).step hmore
  obtain ⟨W3, hW3⟩ : ∃ W, (W1.drewN nq).setCell ⟨c.rb, 1, none⟩ (.int .i64 ((i : Int) + 1)) = W := ⟨_, rfl⟩
  go_wp2_with fail
  rw [hW3] at h3
  clear hW3 h2 c1 c3 f1
  replace h3 := Lib.hid h3
  refine (hF.out _ h3.out.rd h3.out.re).mono ?_
  intro e w4 hP
  rcases hP.two with ⟨p, hq2, rfl, hre⟩ | ⟨x4, j4, v4, hq2, rfl, hV, hR, hre⟩
  · have hr' := hr.out
    rw [hq2] at hr'
    subst hr'
    exact ⟨rfl, rfl, h3.out.re.trans hre⟩
  have hr' := hr.out
  rw [hq2] at hr'
  replace hr : Hid (Res.ok (stAt q x4) j4 = r) := Lib.hid hr'
  clear hr' hP hq2
  obtain ⟨s4, rfl, hx4, h4⟩ := h3.out.factT hre hR hV
  replace hx4 := Lib.hid hx4
  clear hV hR hre h3 hF
  obtain ⟨k4, n4, t4, w4n, ea4, ec4, e4, ba4, bc4, b4, la4, lc4, l4, p4⟩ := s4
  have hB : (⟨(St.mk k4 n4 t4 w4n ea4 ec4 e4 ba4 bc4 b4 la4 lc4 l4 p4).vals⟩ : Array Value) = #[.int .u8 k4, .string n4, .string t4, .bool w4n, .slice ea4 e4.length ec4, .slice ba4 b4.length bc4, .slice la4 l4.length lc4, .int .i64 p4] := rfl
  rw [hB]
  clear hB
  have h5 := h4.alloc #[.int .u8 k4, .string n4, .string t4, .bool w4n, .slice ea4 e4.length ec4, .slice ba4 b4.length bc4, .slice la4 l4.length lc4, .int .i64 q] 60
  clear h4
  obtain ⟨cg0, cg1, cg2, cg3, cg4, cg5, cg6, cg7, cf0, cf1, cf2, cf3, cf4, cf5, cf6, cf7⟩ := cells8 h5.hd2
  have hf := Lib.hid fun a b cc d e f g h => h5.swap.set8 a b cc d e f g h
  clear h5
  replace hr := hr.out
  go_wp2_with fail
  subst hr
  exact bodyPost_ret (v := .agg #[.int .u8 k4, .string n4, .string t4, .bool w4n, .slice ea4 e4.length ec4, .slice ba4 b4.length bc4, .slice la4 l4.length lc4, .int .i64 q]) (results_cell_row Tryz.results170 _ _ w.heap.size _ _ _ _ rfl (hf.out _ _ _ _ _ _ _ _).hd Tryz.underlying60 rfl (by kernel_rfl)) rfl ⟨_, rfl, ⟨stAt q (.mk k4 n4 t4 w4n ea4 ec4 e4 ba4 bc4 b4 la4 lc4 l4 p4), rfl, stAt_In hp.out ((hf.out _ _ _ _ _ _ _ _).fct (f := Fact.T (.mk k4 n4 t4 w4n ea4 ec4 e4 ba4 bc4 b4 la4 lc4 l4 p4)) (by simp)), by rw [sa_at, hx4.out]⟩, (hf.out _ _ _ _ _ _ _ _).rd, (hf.out _ _ _ _ _ _ _ _).re⟩

set_option maxHeartbeats 4000000 in
set_option maxRecDepth 100000 in
theorem stmt_if {c : Rc} {i : Nat} {w : World} (h : Rd c i w) (hm : Mp c w) (hmore : i + 1 < c.l.length) (R : Res St) (hfw : findW wordsS (tx c.l i) = some 100) (hF : ∀ W, Rd c (i + 1) W → RE c.rb w W → Calls Tryz.prog 100 #[.pointer (some ⟨c.rb, 0, none⟩)] W (Post c (VT (fun b => W.heap.size ≤ b)) W R)) :
    Calls Tryz.prog 170 #[.pointer (some ⟨c.rb, 0, none⟩)] w (Post c (VT (fun b => w.heap.size ≤ b)) w (Res.at (ps c.l i) R)) := by
  generalize hr : Res.at (ps c.l i) R = r
  have hp := Lib.hid h.ps_i64
  have hlim : i ≤ 100000 := by have := h.lim; have := h.lt; omega
  have hlk := look_s h hm
  rw [hfw] at hlk
  replace hlk := Lib.hid hlk
  have h1 := Lib.hid ((Fr.start h).alloc #[.int .u8 0, .string ⟨#[]⟩, .string ⟨#[]⟩, .bool false, .slice none 0 0, .slice none 0 0, .slice none 0 0, .int .i64 0] 60)
  have hA := Lib.hid (fun W (hW : Rd c i W) => at_c hW)
  have hX := Lib.hid (fun W (hW : Rd c i W) => text_c hW)
  replace hr := Lib.hid hr
  replace hF := Lib.hid hF
  clear h hm hfw
  go_enter Tryz.func170, Tryz.ntmps170
  go_wp2_with fail
  refine (hA.out _ h1.out.rd).mono ?_
  rintro e w' ⟨rfl, n, rfl⟩
  have h2 := h1.out.drewN n
  obtain ⟨W1, hW1⟩ : ∃ W, (w.alloc (.cells #[.int .u8 0, .string ⟨#[]⟩, .string ⟨#[]⟩, .bool false, .slice none 0 0, .slice none 0 0, .slice none 0 0, .int .i64 0] 60)).drewN n = W := ⟨_, rfl⟩
  rw [hW1] at h2 ⊢
  clear hW1 h1
  have c3 : W1.cell? ⟨c.rb, 3, none⟩ = some (.map (some c.sm)) := blk_cell h2.rd.blk rfl
  have c1 : W1.cell? ⟨c.rb, 1, none⟩ = some (.int .i64 i) := blk_cell h2.rd.blk rfl
  have f1 : W1.frozen? ⟨c.rb, 1, none⟩ = false := blk_free h2.rd.blk 1
  have hl2 : ∀ m, _ := fun m => hlk.out (W1.drewN m) (h2.re.trans (RE.drewN W1 m))
  have hx2 := Lib.hid fun m => hX.out (W1.drewN m) (h2.rd.drewN m)
  generalize hs : tx c.l i = s at hl2 hx2
  replace hs := Lib.hid hs
  generalize hq : ps c.l i = q at hr hp ⊢
  replace h2 := Lib.hid h2
  clear hlk hX hA
  go_wp2_with fail
  go_quiet ((go_at_call 153; exact Calls.quiet_of (hx2.out _)))
  clear hl2 hx2
  have h3 := (h2.out.drewN nq).step hmore
  obtain ⟨W3, hW3⟩ : ∃ W, (W1.drewN nq).setCell ⟨c.rb, 1, none⟩ (.int .i64 ((i : Int) + 1)) = W := ⟨_, rfl⟩
  go_wp2_with fail
  rw [hW3] at h3
  clear hW3 h2 c1 c3 f1
  replace h3 := Lib.hid h3
  refine (hF.out _ h3.out.rd h3.out.re).mono ?_
  intro e w4 hP
  rcases hP.two with ⟨p, hq2, rfl, hre⟩ | ⟨x4, j4, v4, hq2, rfl, hV, hR, hre⟩
  · have hr' := hr.out
    rw [hq2] at hr'
    subst hr'
    exact ⟨rfl, rfl, h3.out.re.trans hre⟩
  have hr' := hr.out
  rw [hq2] at hr'
  replace hr : Hid (Res.ok (stAt q x4) j4 = r) := Lib.hid hr'
  clear hr' hP hq2
  obtain ⟨s4, rfl, hx4, h4⟩ := h3.out.factT hre hR hV
  replace hx4 := Lib.hid hx4
  clear hV hR hre h3 hF
  obtain ⟨k4, n4, t4, w4n, ea4, ec4, e4, ba4, bc4, b4, la4, lc4, l4, p4⟩ := s4
  have hB : (⟨(St.mk k4 n4 t4 w4n ea4 ec4 e4 ba4 bc4 b4 la4 lc4 l4 p4).vals⟩ : Array Value) = #[.int .u8 k4, .string n4, .string t4, .bool w4n, .slice ea4 e4.length ec4, .slice ba4 b4.length bc4, .slice la4 l4.length lc4, .int .i64 p4] := rfl
  rw [hB]
  clear hB
  have h5 := h4.alloc #[.int .u8 k4, .string n4, .string t4, .bool w4n, .slice ea4 e4.length ec4, .slice ba4 b4.length bc4, .slice la4 l4.length lc4, .int .i64 q] 60
  clear h4
  obtain ⟨cg0, cg1, cg2, cg3, cg4, cg5, cg6, cg7, cf0, cf1, cf2, cf3, cf4, cf5, cf6, cf7⟩ := cells8 h5.hd2
  have hf := Lib.hid fun a b cc d e f g h => h5.swap.set8 a b cc d e f g h
  clear h5
  replace hr := hr.out
  go_wp2_with fail
  subst hr
  exact bodyPost_ret (v := .agg #[.int .u8 k4, .string n4, .string t4, .bool w4n, .slice ea4 e4.length ec4, .slice ba4 b4.length bc4, .slice la4 l4.length lc4, .int .i64 q]) (results_cell_row Tryz.results170 _ _ w.heap.size _ _ _ _ rfl (hf.out _ _ _ _ _ _ _ _).hd Tryz.underlying60 rfl (by kernel_rfl)) rfl ⟨_, rfl, ⟨stAt q (.mk k4 n4 t4 w4n ea4 ec4 e4 ba4 bc4 b4 la4 lc4 l4 p4), rfl, stAt_In hp.out ((hf.out _ _ _ _ _ _ _ _).fct (f := Fact.T (.mk k4 n4 t4 w4n ea4 ec4 e4 ba4 bc4 b4 la4 lc4 l4 p4)) (by simp)), by rw [sa_at, hx4.out]⟩, (hf.out _ _ _ _ _ _ _ _).rd, (hf.out _ _ _ _ _ _ _ _).re⟩

set_option maxHeartbeats 4000000 in
set_option maxRecDepth 100000 in
theorem stmt_while {c : Rc} {i : Nat} {w : World} (h : Rd c i w) (hm : Mp c w) (hmore : i + 1 < c.l.length) (R : Res St) (hfw : findW wordsS (tx c.l i) = some 101) (hF : ∀ W, Rd c (i + 1) W → RE c.rb w W → Calls Tryz.prog 101 #[.pointer (some ⟨c.rb, 0, none⟩)] W (Post c (VT (fun b => W.heap.size ≤ b)) W R)) :
    Calls Tryz.prog 170 #[.pointer (some ⟨c.rb, 0, none⟩)] w (Post c (VT (fun b => w.heap.size ≤ b)) w (Res.at (ps c.l i) R)) := by
  generalize hr : Res.at (ps c.l i) R = r
  have hp := Lib.hid h.ps_i64
  have hlim : i ≤ 100000 := by have := h.lim; have := h.lt; omega
  have hlk := look_s h hm
  rw [hfw] at hlk
  replace hlk := Lib.hid hlk
  have h1 := Lib.hid ((Fr.start h).alloc #[.int .u8 0, .string ⟨#[]⟩, .string ⟨#[]⟩, .bool false, .slice none 0 0, .slice none 0 0, .slice none 0 0, .int .i64 0] 60)
  have hA := Lib.hid (fun W (hW : Rd c i W) => at_c hW)
  have hX := Lib.hid (fun W (hW : Rd c i W) => text_c hW)
  replace hr := Lib.hid hr
  replace hF := Lib.hid hF
  clear h hm hfw
  go_enter Tryz.func170, Tryz.ntmps170
  go_wp2_with fail
  refine (hA.out _ h1.out.rd).mono ?_
  rintro e w' ⟨rfl, n, rfl⟩
  have h2 := h1.out.drewN n
  obtain ⟨W1, hW1⟩ : ∃ W, (w.alloc (.cells #[.int .u8 0, .string ⟨#[]⟩, .string ⟨#[]⟩, .bool false, .slice none 0 0, .slice none 0 0, .slice none 0 0, .int .i64 0] 60)).drewN n = W := ⟨_, rfl⟩
  rw [hW1] at h2 ⊢
  clear hW1 h1
  have c3 : W1.cell? ⟨c.rb, 3, none⟩ = some (.map (some c.sm)) := blk_cell h2.rd.blk rfl
  have c1 : W1.cell? ⟨c.rb, 1, none⟩ = some (.int .i64 i) := blk_cell h2.rd.blk rfl
  have f1 : W1.frozen? ⟨c.rb, 1, none⟩ = false := blk_free h2.rd.blk 1
  have hl2 : ∀ m, _ := fun m => hlk.out (W1.drewN m) (h2.re.trans (RE.drewN W1 m))
  have hx2 := Lib.hid fun m => hX.out (W1.drewN m) (h2.rd.drewN m)
  generalize hs : tx c.l i = s at hl2 hx2
  replace hs := Lib.hid hs
  generalize hq : ps c.l i = q at hr hp ⊢
  replace h2 := Lib.hid h2
  clear hlk hX hA
  go_wp2_with fail
  go_quiet ((go_at_call 153; exact Calls.quiet_of (hx2.out _)))
  clear hl2 hx2
  have h3 := (h2.out.drewN nq).step hmore
  obtain ⟨W3, hW3⟩ : ∃ W, (W1.drewN nq).setCell ⟨c.rb, 1, none⟩ (.int .i64 ((i : Int) + 1)) = W := ⟨_, rfl⟩
  go_wp2_with fail
  rw [hW3] at h3
  clear hW3 h2 c1 c3 f1
  replace h3 := Lib.hid h3
  refine (hF.out _ h3.out.rd h3.out.re).mono ?_
  intro e w4 hP
  rcases hP.two with ⟨p, hq2, rfl, hre⟩ | ⟨x4, j4, v4, hq2, rfl, hV, hR, hre⟩
  · have hr' := hr.out
    rw [hq2] at hr'
    subst hr'
    exact ⟨rfl, rfl, h3.out.re.trans hre⟩
  have hr' := hr.out
  rw [hq2] at hr'
  replace hr : Hid (Res.ok (stAt q x4) j4 = r) := Lib.hid hr'
  clear hr' hP hq2
  obtain ⟨s4, rfl, hx4, h4⟩ := h3.out.factT hre hR hV
  replace hx4 := Lib.hid hx4
  clear hV hR hre h3 hF
  obtain ⟨k4, n4, t4, w4n, ea4, ec4, e4, ba4, bc4, b4, la4, lc4, l4, p4⟩ := s4
  have hB : (⟨(St.mk k4 n4 t4 w4n ea4 ec4 e4 ba4 bc4 b4 la4 lc4 l4 p4).vals⟩ : Array Value) = #[.int .u8 k4, .string n4, .string t4, .bool w4n, .slice ea4 e4.length ec4, .slice ba4 b4.length bc4, .slice la4 l4.length lc4, .int .i64 p4] := rfl
  rw [hB]
  clear hB
  have h5 := h4.alloc #[.int .u8 k4, .string n4, .string t4, .bool w4n, .slice ea4 e4.length ec4, .slice ba4 b4.length bc4, .slice la4 l4.length lc4, .int .i64 q] 60
  clear h4
  obtain ⟨cg0, cg1, cg2, cg3, cg4, cg5, cg6, cg7, cf0, cf1, cf2, cf3, cf4, cf5, cf6, cf7⟩ := cells8 h5.hd2
  have hf := Lib.hid fun a b cc d e f g h => h5.swap.set8 a b cc d e f g h
  clear h5
  replace hr := hr.out
  go_wp2_with fail
  subst hr
  exact bodyPost_ret (v := .agg #[.int .u8 k4, .string n4, .string t4, .bool w4n, .slice ea4 e4.length ec4, .slice ba4 b4.length bc4, .slice la4 l4.length lc4, .int .i64 q]) (results_cell_row Tryz.results170 _ _ w.heap.size _ _ _ _ rfl (hf.out _ _ _ _ _ _ _ _).hd Tryz.underlying60 rfl (by kernel_rfl)) rfl ⟨_, rfl, ⟨stAt q (.mk k4 n4 t4 w4n ea4 ec4 e4 ba4 bc4 b4 la4 lc4 l4 p4), rfl, stAt_In hp.out ((hf.out _ _ _ _ _ _ _ _).fct (f := Fact.T (.mk k4 n4 t4 w4n ea4 ec4 e4 ba4 bc4 b4 la4 lc4 l4 p4)) (by simp)), by rw [sa_at, hx4.out]⟩, (hf.out _ _ _ _ _ _ _ _).rd, (hf.out _ _ _ _ _ _ _ _).re⟩

set_option maxHeartbeats 4000000 in
set_option maxRecDepth 100000 in
theorem stmt_with {c : Rc} {i : Nat} {w : World} (h : Rd c i w) (hm : Mp c w) (hmore : i + 1 < c.l.length) (R : Res St) (hfw : findW wordsS (tx c.l i) = some 102) (hF : ∀ W, Rd c (i + 1) W → RE c.rb w W → Calls Tryz.prog 102 #[.pointer (some ⟨c.rb, 0, none⟩)] W (Post c (VT (fun b => W.heap.size ≤ b)) W R)) :
    Calls Tryz.prog 170 #[.pointer (some ⟨c.rb, 0, none⟩)] w (Post c (VT (fun b => w.heap.size ≤ b)) w (Res.at (ps c.l i) R)) := by
  generalize hr : Res.at (ps c.l i) R = r
  have hp := Lib.hid h.ps_i64
  have hlim : i ≤ 100000 := by have := h.lim; have := h.lt; omega
  have hlk := look_s h hm
  rw [hfw] at hlk
  replace hlk := Lib.hid hlk
  have h1 := Lib.hid ((Fr.start h).alloc #[.int .u8 0, .string ⟨#[]⟩, .string ⟨#[]⟩, .bool false, .slice none 0 0, .slice none 0 0, .slice none 0 0, .int .i64 0] 60)
  have hA := Lib.hid (fun W (hW : Rd c i W) => at_c hW)
  have hX := Lib.hid (fun W (hW : Rd c i W) => text_c hW)
  replace hr := Lib.hid hr
  replace hF := Lib.hid hF
  clear h hm hfw
  go_enter Tryz.func170, Tryz.ntmps170
  go_wp2_with fail
  refine (hA.out _ h1.out.rd).mono ?_
  rintro e w' ⟨rfl, n, rfl⟩
  have h2 := h1.out.drewN n
  obtain ⟨W1, hW1⟩ : ∃ W, (w.alloc (.cells #[.int .u8 0, .string ⟨#[]⟩, .string ⟨#[]⟩, .bool false, .slice none 0 0, .slice none 0 0, .slice none 0 0, .int .i64 0] 60)).drewN n = W := ⟨_, rfl⟩
  rw [hW1] at h2 ⊢
  clear hW1 h1
  have c3 : W1.cell? ⟨c.rb, 3, none⟩ = some (.map (some c.sm)) := blk_cell h2.rd.blk rfl
  have c1 : W1.cell? ⟨c.rb, 1, none⟩ = some (.int .i64 i) := blk_cell h2.rd.blk rfl
  have f1 : W1.frozen? ⟨c.rb, 1, none⟩ = false := blk_free h2.rd.blk 1
  have hl2 : ∀ m, _ := fun m => hlk.out (W1.drewN m) (h2.re.trans (RE.drewN W1 m))
  have hx2 := Lib.hid fun m => hX.out (W1.drewN m) (h2.rd.drewN m)
  generalize hs : tx c.l i = s at hl2 hx2
  replace hs := Lib.hid hs
  generalize hq : ps c.l i = q at hr hp ⊢
  replace h2 := Lib.hid h2
  clear hlk hX hA
  go_wp2_with fail
  go_quiet ((go_at_call 153; exact Calls.quiet_of (hx2.out _)))
  clear hl2 hx2
  have h3 := (h2.out.drewN nq).step hmore
  obtain ⟨W3, hW3⟩ : ∃ W, (W1.drewN nq).setCell ⟨c.rb, 1, none⟩ (.int .i64 ((i : Int) + 1)) = W := ⟨_, rfl⟩
  go_wp2_with fail
  rw [hW3] at h3
  clear hW3 h2 c1 c3 f1
  replace h3 := Lib.hid h3
  refine (hF.out _ h3.out.rd h3.out.re).mono ?_
  intro e w4 hP
  rcases hP.two with ⟨p, hq2, rfl, hre⟩ | ⟨x4, j4, v4, hq2, rfl, hV, hR, hre⟩
  · have hr' := hr.out
    rw [hq2] at hr'
    subst hr'
    exact ⟨rfl, rfl, h3.out.re.trans hre⟩
  have hr' := hr.out
  rw [hq2] at hr'
  replace hr : Hid (Res.ok (stAt q x4) j4 = r) := Lib.hid hr'
  clear hr' hP hq2
  obtain ⟨s4, rfl, hx4, h4⟩ := h3.out.factT hre hR hV
  replace hx4 := Lib.hid hx4
  clear hV hR hre h3 hF
  obtain ⟨k4, n4, t4, w4n, ea4, ec4, e4, ba4, bc4, b4, la4, lc4, l4, p4⟩ := s4
  have hB : (⟨(St.mk k4 n4 t4 w4n ea4 ec4 e4 ba4 bc4 b4 la4 lc4 l4 p4).vals⟩ : Array Value) = #[.int .u8 k4, .string n4, .string t4, .bool w4n, .slice ea4 e4.length ec4, .slice ba4 b4.length bc4, .slice la4 l4.length lc4, .int .i64 p4] := rfl
  rw [hB]
  clear hB
  have h5 := h4.alloc #[.int .u8 k4, .string n4, .string t4, .bool w4n, .slice ea4 e4.length ec4, .slice ba4 b4.length bc4, .slice la4 l4.length lc4, .int .i64 q] 60
  clear h4
  obtain ⟨cg0, cg1, cg2, cg3, cg4, cg5, cg6, cg7, cf0, cf1, cf2, cf3, cf4, cf5, cf6, cf7⟩ := cells8 h5.hd2
  have hf := Lib.hid fun a b cc d e f g h => h5.swap.set8 a b cc d e f g h
  clear h5
  replace hr := hr.out
  go_wp2_with fail
  subst hr
  exact bodyPost_ret (v := .agg #[.int .u8 k4, .string n4, .string t4, .bool w4n, .slice ea4 e4.length ec4, .slice ba4 b4.length bc4, .slice la4 l4.length lc4, .int .i64 q]) (results_cell_row Tryz.results170 _ _ w.heap.size _ _ _ _ rfl (hf.out _ _ _ _ _ _ _ _).hd Tryz.underlying60 rfl (by kernel_rfl)) rfl ⟨_, rfl, ⟨stAt q (.mk k4 n4 t4 w4n ea4 ec4 e4 ba4 bc4 b4 la4 lc4 l4 p4), rfl, stAt_In hp.out ((hf.out _ _ _ _ _ _ _ _).fct (f := Fact.T (.mk k4 n4 t4 w4n ea4 ec4 e4 ba4 bc4 b4 la4 lc4 l4 p4)) (by simp)), by rw [sa_at, hx4.out]⟩, (hf.out _ _ _ _ _ _ _ _).rd, (hf.out _ _ _ _ _ _ _ _).re⟩
end Go.Proofs.YtpcdlneompnhlaaGreatDoor.Pa

namespace Go.Proofs.YtpcdlneompnhlaaGreatDoor.Pa
open Go Go.RowKit
open Go.Proofs.YtpcdlneompnhlaaGreatDoor.Lx Go.Proofs.YtpcdlneompnhlaaGreatDoor.Tr

set_option maxHeartbeats 4000000 in
set_option maxRecDepth 100000 in
theorem stmt_other {c : Rc} {i : Nat} {w : World} (h : Rd c i w) (hm : Mp c w) (R : Res St) (hfw : findW wordsS (tx c.l i) = none) (hF : ∀ W, Rd c i W → RE c.rb w W → Calls Tryz.prog 179 #[.pointer (some ⟨c.rb, 0, none⟩)] W (Post c (VT (fun b => W.heap.size ≤ b)) W R)) :
    Calls Tryz.prog 170 #[.pointer (some ⟨c.rb, 0, none⟩)] w (Post c (VT (fun b => w.heap.size ≤ b)) w (Res.at (ps c.l i) R)) := by
  generalize hr : Res.at (ps c.l i) R = r
  have hp := Lib.hid h.ps_i64
  have hlim : i ≤ 100000 := by have := h.lim; have := h.lt; omega
  have hlk := look_s h hm
  rw [hfw] at hlk
  replace hlk := Lib.hid hlk
  have h1 := Lib.hid ((Fr.start h).alloc #[.int .u8 0, .string ⟨#[]⟩, .string ⟨#[]⟩, .bool false, .slice none 0 0, .slice none 0 0, .slice none 0 0, .int .i64 0] 60)
  have hA := Lib.hid (fun W (hW : Rd c i W) => at_c hW)
  have hX := Lib.hid (fun W (hW : Rd c i W) => text_c hW)
  replace hr := Lib.hid hr
  replace hF := Lib.hid hF
  clear h hm hfw
  go_enter Tryz.func170, Tryz.ntmps170
  go_wp2_with fail
  refine (hA.out _ h1.out.rd).mono ?_
  rintro e w' ⟨rfl, n, rfl⟩
  have h2 := h1.out.drewN n
  obtain ⟨W1, hW1⟩ : ∃ W, (w.alloc (.cells #[.int .u8 0, .string ⟨#[]⟩, .string ⟨#[]⟩, .bool false, .slice none 0 0, .slice none 0 0, .slice none 0 0, .int .i64 0] 60)).drewN n = W := ⟨_, rfl⟩
  rw [hW1] at h2 ⊢
  clear hW1 h1
  have c3 : W1.cell? ⟨c.rb, 3, none⟩ = some (.map (some c.sm)) := blk_cell h2.rd.blk rfl
  have c1 : W1.cell? ⟨c.rb, 1, none⟩ = some (.int .i64 i) := blk_cell h2.rd.blk rfl
  have f1 : W1.frozen? ⟨c.rb, 1, none⟩ = false := blk_free h2.rd.blk 1
  have hl2 : ∀ m, _ := fun m => hlk.out (W1.drewN m) (h2.re.trans (RE.drewN W1 m))
  have hx2 := Lib.hid fun m => hX.out (W1.drewN m) (h2.rd.drewN m)
  generalize hs : tx c.l i = s at hl2 hx2
  replace hs := Lib.hid hs
  generalize hq : ps c.l i = q at hr hp ⊢
  replace h2 := Lib.hid h2
  clear hlk hX hA
  go_wp2_with fail
  go_quiet ((go_at_call 153; exact Calls.quiet_of (hx2.out _)))
  clear hl2 hx2
  have h3 := h2.out.drewN nq
  obtain ⟨W3, hW3⟩ : ∃ W, W1.drewN nq = W := ⟨_, rfl⟩
  rw [hW3] at h3 ⊢
  go_wp2_with fail
  clear hW3 h2 c1 c3 f1
  replace h3 := Lib.hid h3
  refine (hF.out _ h3.out.rd h3.out.re).mono ?_
  intro e w4 hP
  rcases hP.two with ⟨p, hq2, rfl, hre⟩ | ⟨x4, j4, v4, hq2, rfl, hV, hR, hre⟩
  · have hr' := hr.out
    rw [hq2] at hr'
    subst hr'
    exact ⟨rfl, rfl, h3.out.re.trans hre⟩
  have hr' := hr.out
  rw [hq2] at hr'
  replace hr : Hid (Res.ok (stAt q x4) j4 = r) := Lib.hid hr'
  clear hr' hP hq2
  obtain ⟨s4, rfl, hx4, h4⟩ := h3.out.factT hre hR hV
  replace hx4 := Lib.hid hx4
  clear hV hR hre h3 hF
  obtain ⟨k4, n4, t4, w4n, ea4, ec4, e4, ba4, bc4, b4, la4, lc4, l4, p4⟩ := s4
  have hB : (⟨(St.mk k4 n4 t4 w4n ea4 ec4 e4 ba4 bc4 b4 la4 lc4 l4 p4).vals⟩ : Array Value) = #[.int .u8 k4, .string n4, .string t4, .bool w4n, .slice ea4 e4.length ec4, .slice ba4 b4.length bc4, .slice la4 l4.length lc4, .int .i64 p4] := rfl
  rw [hB]
  clear hB
  have h5 := h4.alloc #[.int .u8 k4, .string n4, .string t4, .bool w4n, .slice ea4 e4.length ec4, .slice ba4 b4.length bc4, .slice la4 l4.length lc4, .int .i64 q] 60
  clear h4
  obtain ⟨cg0, cg1, cg2, cg3, cg4, cg5, cg6, cg7, cf0, cf1, cf2, cf3, cf4, cf5, cf6, cf7⟩ := cells8 h5.hd2
  have hf := Lib.hid fun a b cc d e f g h => h5.swap.set8 a b cc d e f g h
  clear h5
  replace hr := hr.out
  go_wp2_with fail
  subst hr
  exact bodyPost_ret (v := .agg #[.int .u8 k4, .string n4, .string t4, .bool w4n, .slice ea4 e4.length ec4, .slice ba4 b4.length bc4, .slice la4 l4.length lc4, .int .i64 q]) (results_cell_row Tryz.results170 _ _ w.heap.size _ _ _ _ rfl (hf.out _ _ _ _ _ _ _ _).hd Tryz.underlying60 rfl (by kernel_rfl)) rfl ⟨_, rfl, ⟨stAt q (.mk k4 n4 t4 w4n ea4 ec4 e4 ba4 bc4 b4 la4 lc4 l4 p4), rfl, stAt_In hp.out ((hf.out _ _ _ _ _ _ _ _).fct (f := Fact.T (.mk k4 n4 t4 w4n ea4 ec4 e4 ba4 bc4 b4 la4 lc4 l4 p4)) (by simp)), by rw [sa_at, hx4.out]⟩, (hf.out _ _ _ _ _ _ _ _).rd, (hf.out _ _ _ _ _ _ _ _).re⟩
end Go.Proofs.YtpcdlneompnhlaaGreatDoor.Pa
