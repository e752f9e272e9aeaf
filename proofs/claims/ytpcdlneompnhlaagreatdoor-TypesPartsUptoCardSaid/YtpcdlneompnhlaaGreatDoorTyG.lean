/- Walks of what Kinds of statements ask: put, print, return, with, if, while; of a call's answer. Conditions: the contract of block. -/
import Derived.Test.YtpcdlneompnhlaaGreatDoorTyF
namespace Go.Proofs.YtpcdlneompnhlaaGreatDoor.Ty
open Go Go.RowKit
open Go.Proofs.YtpcdlneompnhlaaGreatDoor.Lx Go.Proofs.YtpcdlneompnhlaaGreatDoor.Tr

mutual
/-- each part of a statement is of a Kind, with as many parts as it has -/
def okS : St → Prop
  | .mk k _ _ _ _ _ e _ _ body _ _ els _ => (1 ≤ k ∧ k ≤ 9 ∧ stLeast k ≤ (e.length : Int)) ∧ okEL e ∧ okSL body ∧ okSL els
def okSL : List St → Prop
  | [] => True
  | e :: r => okS e ∧ okSL r
end
theorem okS_eq (k : Int) (nm to : ByteArray) (new : Bool) (ea : Option Addr) (ec : Nat) (e : List Ex) (ba : Option Addr) (bc : Nat) (body : List St) (la : Option Addr) (lc : Nat) (els : List St) (pos : Int) : okS (.mk k nm to new ea ec e ba bc body la lc els pos) = ((1 ≤ k ∧ k ≤ 9 ∧ stLeast k ≤ (e.length : Int)) ∧ okEL e ∧ okSL body ∧ okSL els) := by
  conv => lhs; unfold okS
theorem okSL_get : ∀ {l : List St} {i : Nat} {e : St}, okSL l → l[i]? = some e → okS e
  | x :: r, 0, e, h, he => by
    unfold okSL at h
    simp at he; subst he; exact h.1
  | x :: r, i + 1, e, h, he => by
    unfold okSL at h
    exact okSL_get h.2 (by simpa using he)
theorem below_drewN (B : Nat) (w : World) (n : Nat) : Below B w (w.drewN n) := ⟨rfl, rfl, rfl, Nat.le_refl _, fun _ _ => rfl⟩
/-- the contract of block, of so large lists -/
def ContB (n : Nat) : Prop := ∀ (c : Lc) (s : Ls) (w : World) (a : Option Addr) (cap : Nat) (l : List St), St.szL l ≤ n → okSL l → RowAt w (fun b => b < c.B) a cap l.length (stCells l) → St.InL w (fun b => b < c.B) l → Lk c s w → s.pos < c.ds.length →
  Calls Tryz.prog 165 #[.pointer (some ⟨c.lb, 0, none⟩), .slice a l.length cap] w (PostS c s w (blockK c.ds c.D s.pos s.ps l))
/-- what an If, and a While, asks -/
def branchK (ds : List De) (D : List (ByteArray × Nat)) (pos : Nat) (p : PS) (e : List Ex) (body els : List St) : Except (Int × Int) PS :=
  match wantK ds D p.kn 2 e with
  | .error q => .error q
  | .ok _ => match blockK ds D pos p body with
    | .error q => .error q
    | .ok p1 => blockK ds D pos p1 els
/-- a statement's box -/
theorem box_lt (w : World) (o : Obj) : Below w.heap.size w (w.alloc o) := (Below.refl _ _).alloc (Nat.le_refl _) _
theorem Lk.new_not {c : Lc} {s : Ls} {w : World} (h : Lk c s w) : ¬ Tch c s w.heap.size := fun ht => Nat.lt_irrefl _ (h.tch_lt ht)
theorem box_cells {W : World} {g : Nat} {k : Int} {nm to : ByteArray} {new : Bool} {E B L : Value} {pos : Int} {T : TypeId} {fr : Nat × Nat} (h : W.heap[g]? = some (.cells #[.int .u8 k, .string nm, .string to, .bool new, E, B, L, .int .i64 pos] T fr)) :
    W.cell? ⟨g, 0, none⟩ = some (.int .u8 k) ∧ W.cell? ⟨g, 1, none⟩ = some (.string nm) ∧ W.cell? ⟨g, 2, none⟩ = some (.string to) ∧ W.cell? ⟨g, 3, none⟩ = some (.bool new) ∧ W.cell? ⟨g, 4, none⟩ = some E ∧ W.cell? ⟨g, 5, none⟩ = some B ∧ W.cell? ⟨g, 6, none⟩ = some L ∧ W.cell? ⟨g, 7, none⟩ = some (.int .i64 pos) :=
  ⟨blk_cell h rfl, blk_cell h rfl, blk_cell h rfl, blk_cell h rfl, blk_cell h rfl, blk_cell h rfl, blk_cell h rfl, blk_cell h rfl⟩

set_option maxHeartbeats 2000000 in
set_option maxRecDepth 100000 in
theorem print_c {c : Lc} {s : Ls} {w : World} (k : Int) (nm to : ByteArray) (new : Bool) (ea : Option Addr) (ec : Nat) (e : List Ex) (ba : Option Addr) (bc : Nat) (body : List St) (la : Option Addr) (lc : Nat) (els : List St) (pos : Int) (hok : okEL e) (hin : St.In w (fun b => b < c.B) (.mk k nm to new ea ec e ba bc body la lc els pos)) (h : Lk c s w) :
    Calls Tryz.prog 131 #[.pointer (some ⟨c.lb, 0, none⟩), .agg #[.int .u8 k, .string nm, .string to, .bool new, .slice ea e.length ec, .slice ba body.length bc, .slice la els.length lc, .int .i64 pos]] w (PostS c s w (match wantK c.ds c.D s.kn 1 e with | .error q => .error q | .ok _ => .ok s.ps)) := by
  have hb1 := box_lt w (.cells #[.int .u8 k, .string nm, .string to, .bool new, .slice ea e.length ec, .slice ba body.length bc, .slice la els.length lc, .int .i64 pos] 60)
  have hbx : (w.alloc (.cells #[.int .u8 k, .string nm, .string to, .bool new, .slice ea e.length ec, .slice ba body.length bc, .slice la els.length lc, .int .i64 pos] 60)).heap[w.heap.size]? = some (.cells #[.int .u8 k, .string nm, .string to, .bool new, .slice ea e.length ec, .slice ba body.length bc, .slice la els.length lc, .int .i64 pos] 60 (0, 0)) := World.alloc_heap_new w _
  have hnew := h.new_not
  have hlow := h.low
  have h1 := h.ext hb1
  have hs1 := StepS.of_ext h hb1
  unfold St.In at hin
  obtain ⟨_, hn, hto, hpos, herow, hein, hbrow, hbin, hlrow, hlin⟩ := hin
  have hw := want_c h1 ea ec e 1 hok (herow.below (Kps.of_below hb1)) (Ex.InL.below (Kps.of_below hb1) _ hein)
  generalize wantK c.ds c.D s.kn 1 e = q at hw ⊢
  replace hw := Lib.hid hw
  replace hs1 := Lib.hid hs1
  replace hlow := Lib.hid hlow
  clear hbx hnew h1 h hn hto hpos herow hein hbrow hbin hlrow hlin hok hb1
  go_enter Tryz.func131, Tryz.ntmps131
  go_wp2_with fail
  refine hw.out.mono ?_
  rintro e w2 ⟨hb2, hq⟩
  cases q with
  | ok _ =>
    simp only at hq
    subst hq
    have hfin := Lib.hid (hs1.out.ext hb2)
    clear hb2 hs1 hw
    go_wp2_with fail
    exact ⟨rfl, .tuple #[], by simp [results, Tryz.results131, go_sem], rfl, s, hfin.out, rfl⟩
  | error p =>
    simp only at hq
    subst hq
    exact ⟨rfl, rfl, hs1.out.below.trans (hb2.mono (Nat.le_trans hlow.out hs1.out.below.size))⟩

set_option maxHeartbeats 2000000 in
set_option maxRecDepth 100000 in
theorem put_c {c : Lc} {s : Ls} {w : World} (k : Int) (nm to : ByteArray) (new : Bool) (ea : Option Addr) (ec : Nat) (e : List Ex) (ba : Option Addr) (bc : Nat) (body : List St) (la : Option Addr) (lc : Nat) (els : List St) (pos : Int) (hok : okEL e) (hin : St.In w (fun b => b < c.B) (.mk k nm to new ea ec e ba bc body la lc els pos)) (h : Lk c s w) :
    Calls Tryz.prog 128 #[.pointer (some ⟨c.lb, 0, none⟩), .agg #[.int .u8 k, .string nm, .string to, .bool new, .slice ea e.length ec, .slice ba body.length bc, .slice la els.length lc, .int .i64 pos]] w (PostS c s w (match findK c.ds c.D s.kn nm 2 pos with | .error q => .error q | .ok _ => match wantK c.ds c.D s.kn 1 e with | .error q => .error q | .ok _ => .ok s.ps)) := by
  have hb1 := box_lt w (.cells #[.int .u8 k, .string nm, .string to, .bool new, .slice ea e.length ec, .slice ba body.length bc, .slice la els.length lc, .int .i64 pos] 60)
  have hbx : (w.alloc (.cells #[.int .u8 k, .string nm, .string to, .bool new, .slice ea e.length ec, .slice ba body.length bc, .slice la els.length lc, .int .i64 pos] 60)).heap[w.heap.size]? = some (.cells #[.int .u8 k, .string nm, .string to, .bool new, .slice ea e.length ec, .slice ba body.length bc, .slice la els.length lc, .int .i64 pos] 60 (0, 0)) := World.alloc_heap_new w _
  have hnew := h.new_not
  have hlow := h.low
  have h1 := h.ext hb1
  have hs1 := StepS.of_ext h hb1
  unfold St.In at hin
  obtain ⟨_, hn, hto, hpos, herow, hein, hbrow, hbin, hlrow, hlin⟩ := hin
  have hw := want_c h1 ea ec e 1 hok (herow.below (Kps.of_below hb1)) (Ex.InL.below (Kps.of_below hb1) _ hein)
  have hf := find_c h1 nm hn 2 pos
  generalize wantK c.ds c.D s.kn 1 e = q at hw ⊢
  generalize findK c.ds c.D s.kn nm 2 pos = q2 at hf ⊢
  replace hw := Lib.hid hw
  replace hs1 := Lib.hid hs1
  replace hlow := Lib.hid hlow
  replace hf := Lib.hid hf
  clear hbx hnew h1 h hn hto hpos herow hein hbrow hbin hlrow hlin hok hb1
  go_enter Tryz.func128, Tryz.ntmps128
  go_wp2_with fail
  refine hf.out.mono ?_
  rintro e w2 ⟨rfl, hq⟩
  cases q2 with
  | error p =>
    simp only at hq
    subst hq
    exact ⟨rfl, rfl, hs1.out.below⟩
  | ok _ =>
    simp only at hq
    subst hq
    clear hf
    go_wp2_with fail
    refine hw.out.mono ?_
    rintro e w2 ⟨hb2, hq⟩
    cases q with
    | ok _ =>
      simp only at hq
      subst hq
      have hfin := Lib.hid (hs1.out.ext hb2)
      clear hb2 hs1 hw
      go_wp2_with fail
      exact ⟨rfl, .tuple #[], by simp [results, Tryz.results128, go_sem], rfl, s, hfin.out, rfl⟩
    | error p =>
      simp only at hq
      subst hq
      exact ⟨rfl, rfl, hs1.out.below.trans (hb2.mono (Nat.le_trans hlow.out hs1.out.below.size))⟩

set_option maxHeartbeats 2000000 in
set_option maxRecDepth 100000 in
theorem leave_c {c : Lc} {s : Ls} {w : World} (k : Int) (nm to : ByteArray) (new : Bool) (ea : Option Addr) (ec : Nat) (e : List Ex) (ba : Option Addr) (bc : Nat) (body : List St) (la : Option Addr) (lc : Nat) (els : List St) (pos : Int) (hok : okEL e) (hin : St.In w (fun b => b < c.B) (.mk k nm to new ea ec e ba bc body la lc els pos)) (h : Lk c s w) :
    Calls Tryz.prog 133 #[.pointer (some ⟨c.lb, 0, none⟩), .agg #[.int .u8 k, .string nm, .string to, .bool new, .slice ea e.length ec, .slice ba body.length bc, .slice la els.length lc, .int .i64 pos]] w (PostS c s w (if s.last = true then (match wantK c.ds c.D s.kn 1 e with | .error q => .error q | .ok _ => .ok s.ps) else .error (pos, 65))) := by
  have hb1 := box_lt w (.cells #[.int .u8 k, .string nm, .string to, .bool new, .slice ea e.length ec, .slice ba body.length bc, .slice la els.length lc, .int .i64 pos] 60)
  have hbx : (w.alloc (.cells #[.int .u8 k, .string nm, .string to, .bool new, .slice ea e.length ec, .slice ba body.length bc, .slice la els.length lc, .int .i64 pos] 60)).heap[w.heap.size]? = some (.cells #[.int .u8 k, .string nm, .string to, .bool new, .slice ea e.length ec, .slice ba body.length bc, .slice la els.length lc, .int .i64 pos] 60 (0, 0)) := World.alloc_heap_new w _
  have hnew := h.new_not
  have hlow := h.low
  have h1 := h.ext hb1
  have hs1 := StepS.of_ext h hb1
  unfold St.In at hin
  obtain ⟨_, hn, hto, hpos, herow, hein, hbrow, hbin, hlrow, hlin⟩ := hin
  have hw := want_c h1 ea ec e 1 hok (herow.below (Kps.of_below hb1)) (Ex.InL.below (Kps.of_below hb1) _ hein)
  generalize wantK c.ds c.D s.kn 1 e = q at hw ⊢
  have c34 : (w.alloc (.cells #[.int .u8 k, .string nm, .string to, .bool new, .slice ea e.length ec, .slice ba body.length bc, .slice la els.length lc, .int .i64 pos] 60)).cell? ⟨c.lb, 34, none⟩ = some (.bool s.last) := blk_cell h1.blk rfl
  have hR := Lib.hid (refuse_c pos)
  replace hw := Lib.hid hw
  replace hs1 := Lib.hid hs1
  replace hlow := Lib.hid hlow
  clear hbx hnew h1 h hn hto hpos herow hein hbrow hbin hlrow hlin hok hb1
  generalize hl : s.last = la0 at c34 ⊢
  cases la0 with
  | true =>
    rw [if_pos rfl]
    go_enter Tryz.func133, Tryz.ntmps133
    go_wp2_with fail
    refine hw.out.mono ?_
    rintro e w2 ⟨hb2, hq⟩
    cases q with
    | ok _ =>
      simp only at hq
      subst hq
      have hfin := Lib.hid (hs1.out.ext hb2)
      clear hb2 hs1 hw c34
      go_wp2_with fail
      exact ⟨rfl, .tuple #[], by simp [results, Tryz.results133, go_sem], rfl, s, hfin.out, rfl⟩
    | error p =>
      simp only at hq
      subst hq
      exact ⟨rfl, rfl, hs1.out.below.trans (hb2.mono (Nat.le_trans hlow.out hs1.out.below.size))⟩
  | false =>
    rw [if_neg (by decide)]
    go_enter Tryz.func133, Tryz.ntmps133
    go_wp2_with fail
    refine (hR.out _ _).mono ?_
    rintro e w2 ⟨rfl, rfl⟩
    exact ⟨rfl, rfl, hs1.out.below⟩

set_option maxHeartbeats 2000000 in
set_option maxRecDepth 100000 in
theorem with_c {c : Lc} {s : Ls} {w : World} (k : Int) (nm to : ByteArray) (new : Bool) (ea : Option Addr) (ec : Nat) (e : List Ex) (ba : Option Addr) (bc : Nat) (body : List St) (la : Option Addr) (lc : Nat) (els : List St) (pos : Int) (n : Nat) (hB : ContB n) (hsz : St.szL body ≤ n) (hokb : okSL body) (hp : s.pos < c.ds.length) (hin : St.In w (fun b => b < c.B) (.mk k nm to new ea ec e ba bc body la lc els pos)) (h : Lk c s w) :
    Calls Tryz.prog 130 #[.pointer (some ⟨c.lb, 0, none⟩), .agg #[.int .u8 k, .string nm, .string to, .bool new, .slice ea e.length ec, .slice ba body.length bc, .slice la els.length lc, .int .i64 pos]] w (PostS c s w (match findK c.ds c.D s.kn nm 3 pos with | .error q => .error q | .ok _ => blockK c.ds c.D s.pos s.ps body)) := by
  have hb1 := box_lt w (.cells #[.int .u8 k, .string nm, .string to, .bool new, .slice ea e.length ec, .slice ba body.length bc, .slice la els.length lc, .int .i64 pos] 60)
  have hbx : (w.alloc (.cells #[.int .u8 k, .string nm, .string to, .bool new, .slice ea e.length ec, .slice ba body.length bc, .slice la els.length lc, .int .i64 pos] 60)).heap[w.heap.size]? = some (.cells #[.int .u8 k, .string nm, .string to, .bool new, .slice ea e.length ec, .slice ba body.length bc, .slice la els.length lc, .int .i64 pos] 60 (0, 0)) := World.alloc_heap_new w _
  have hnew := h.new_not
  have hlow := h.low
  have h1 := h.ext hb1
  have hs1 := StepS.of_ext h hb1
  unfold St.In at hin
  obtain ⟨_, hn, hto, hpos, herow, hein, hbrow, hbin, hlrow, hlin⟩ := hin
  have hw := hB c s _ ba bc body hsz hokb (hbrow.below (Kps.of_below hb1)) (St.InL.below (Kps.of_below hb1) _ hbin) h1 hp
  have hf := find_c h1 nm hn 3 pos
  generalize blockK c.ds c.D s.pos s.ps body = q at hw ⊢
  generalize findK c.ds c.D s.kn nm 3 pos = q2 at hf ⊢
  replace hw := Lib.hid hw
  replace hs1 := Lib.hid hs1
  replace hlow := Lib.hid hlow
  replace hf := Lib.hid hf
  clear hbx hnew h1 h hn hto hpos herow hein hbrow hbin hlrow hlin hb1 hokb hsz hB hp
  go_enter Tryz.func130, Tryz.ntmps130
  go_wp2_with fail
  refine hf.out.mono ?_
  rintro e w2 ⟨rfl, hq⟩
  cases q2 with
  | error p =>
    simp only at hq
    subst hq
    exact ⟨rfl, rfl, hs1.out.below⟩
  | ok _ =>
    simp only at hq
    subst hq
    clear hf
    go_wp2_with fail
    refine hw.out.mono ?_
    intro e w2 hP
    cases q with
    | ok p1 =>
      obtain ⟨rfl, s2, hs2, hp2⟩ := hP
      have hfin := Lib.hid (hs1.out.trans hs2)
      clear hs2 hs1 hw
      go_wp2_with fail
      exact ⟨rfl, .tuple #[], by simp [results, Tryz.results130, go_sem], rfl, s2, hfin.out, hp2⟩
    | error p =>
      obtain ⟨rfl, hb2⟩ := hP
      exact ⟨rfl, rfl, hs1.out.below.trans hb2⟩

set_option maxHeartbeats 2000000 in
set_option maxRecDepth 100000 in
theorem branch_c {c : Lc} {s : Ls} {w : World} (k : Int) (nm to : ByteArray) (new : Bool) (ea : Option Addr) (ec : Nat) (e : List Ex) (ba : Option Addr) (bc : Nat) (body : List St) (la : Option Addr) (lc : Nat) (els : List St) (pos : Int) (n : Nat) (hB : ContB n) (hsz : St.szL body ≤ n) (hsz2 : St.szL els ≤ n) (hokb : okSL body) (hoke : okSL els) (hp : s.pos < c.ds.length) (hok : okEL e) (hin : St.In w (fun b => b < c.B) (.mk k nm to new ea ec e ba bc body la lc els pos)) (h : Lk c s w) :
    Calls Tryz.prog 129 #[.pointer (some ⟨c.lb, 0, none⟩), .agg #[.int .u8 k, .string nm, .string to, .bool new, .slice ea e.length ec, .slice ba body.length bc, .slice la els.length lc, .int .i64 pos]] w (PostS c s w (branchK c.ds c.D s.pos s.ps e body els)) := by
  have hb1 := box_lt w (.cells #[.int .u8 k, .string nm, .string to, .bool new, .slice ea e.length ec, .slice ba body.length bc, .slice la els.length lc, .int .i64 pos] 60)
  have hbx : (w.alloc (.cells #[.int .u8 k, .string nm, .string to, .bool new, .slice ea e.length ec, .slice ba body.length bc, .slice la els.length lc, .int .i64 pos] 60)).heap[w.heap.size]? = some (.cells #[.int .u8 k, .string nm, .string to, .bool new, .slice ea e.length ec, .slice ba body.length bc, .slice la els.length lc, .int .i64 pos] 60 (0, 0)) := World.alloc_heap_new w _
  have hnew := h.new_not
  have hlow := h.low
  have h1 := h.ext hb1
  have hs1 := StepS.of_ext h hb1
  unfold St.In at hin
  obtain ⟨_, hn, hto, hpos, herow, hein, hbrow, hbin, hlrow, hlin⟩ := hin
  have hw := want_c h1 ea ec e 2 hok (herow.below (Kps.of_below hb1)) (Ex.InL.below (Kps.of_below hb1) _ hein)
  generalize hr : branchK c.ds c.D s.pos s.ps e body els = r
  unfold branchK at hr
  rw [show s.ps.kn = s.kn from rfl] at hr
  generalize wantK c.ds c.D s.kn 2 e = q at hw hr
  have hbl1 := fun (V : World) (hV : Below (w.alloc (.cells #[.int .u8 k, .string nm, .string to, .bool new, .slice ea e.length ec, .slice ba body.length bc, .slice la els.length lc, .int .i64 pos] 60)).heap.size (w.alloc (.cells #[.int .u8 k, .string nm, .string to, .bool new, .slice ea e.length ec, .slice ba body.length bc, .slice la els.length lc, .int .i64 pos] 60)) V) => hB c s V ba bc body hsz hokb (hbrow.below (Kps.of_below (hb1.trans (hV.mono hb1.size)))) (St.InL.below (Kps.of_below (hb1.trans (hV.mono hb1.size))) _ hbin) (h1.ext hV) hp
  have hbl2 := fun (s2 : Ls) (V : World) (hs : StepS c s w s2 V) => hB c s2 V la lc els hsz2 hoke (hlrow.below (fun b o v hb hc => (World.cell?_of_block (w := w) (a := ⟨b, o, none⟩) (hs.below.block b hb)).trans hc)) (St.InL.below (fun b o v hb hc => (World.cell?_of_block (w := w) (a := ⟨b, o, none⟩) (hs.below.block b hb)).trans hc) _ hlin) hs.lk (by rw [hs.pos]; exact hp)
  generalize blockK c.ds c.D s.pos s.ps body = q1 at hbl1 hr
  replace hr := Lib.hid hr
  replace hw := Lib.hid hw
  replace hs1 := Lib.hid hs1
  replace hlow := Lib.hid hlow
  replace hbl1 := Lib.hid hbl1
  replace hbl2 := Lib.hid hbl2
  replace hbx := Lib.hid hbx
  replace hnew := Lib.hid hnew
  clear h1 h hn hto hpos herow hein hbrow hbin hlrow hlin hok hb1 hokb hoke hsz hsz2 hB hp
  go_enter Tryz.func129, Tryz.ntmps129
  go_wp2_with fail
  refine hw.out.mono ?_
  rintro e w2 ⟨hb2, hq⟩
  cases q with
  | error p =>
    simp only at hq
    subst hq
    have hr2 := hr.out
    simp only at hr2
    subst hr2
    exact ⟨rfl, rfl, hs1.out.below.trans (hb2.mono (Nat.le_trans hlow.out hs1.out.below.size))⟩
  | ok _ =>
    simp only at hq
    subst hq
    have hs2 := Lib.hid (hs1.out.ext hb2)
    have hbx2 := (hb2.block _ (cells_lt hbx.out)).trans hbx.out
    obtain ⟨bx0, bx1, bx2, bx3, bx4, bx5, bx6, bx7⟩ := box_cells hbx2
    have hbl := Lib.hid (hbl1.out w2 hb2)
    replace hbx2 := Lib.hid hbx2
    clear hb2 hs1 hw hbx hbl1
    go_wp2_with fail
    refine hbl.out.mono ?_
    intro e w3 hP
    cases q1 with
    | error p =>
      obtain ⟨rfl, hb3⟩ := hP
      have hr2 := hr.out
      simp only at hr2
      subst hr2
      exact ⟨rfl, rfl, hs2.out.below.trans hb3⟩
    | ok p1 =>
      obtain ⟨rfl, s3, hs3, rfl⟩ := hP
      have hbx3 := hs3.blk hbx2.out hnew.out
      obtain ⟨by0, by1, by2, by3, by4, by5, by6, by7⟩ := box_cells hbx3
      have hs13 := hs2.out.trans hs3
      have hl := hbl2.out s3 w3 hs13
      rw [hs13.pos] at hl
      have hr2 := hr.out
      simp only at hr2
      rw [hr2] at hl
      replace hs13 := Lib.hid hs13
      replace hl := Lib.hid hl
      clear hr hr2 hs3 hs2 hbl hbx2 hbx3 bx0 bx1 bx2 bx3 bx4 bx5 bx6 bx7 hbl2
      go_wp2_with fail
      refine hl.out.mono ?_
      intro e w4 hP
      cases r with
      | error p =>
        obtain ⟨rfl, hb4⟩ := hP
        exact ⟨rfl, rfl, hs13.out.below.trans hb4⟩
      | ok p4 =>
        obtain ⟨rfl, s4, hs4, hp4⟩ := hP
        have hfin := Lib.hid (hs13.out.trans hs4)
        clear hs4 hs13 hl by0 by1 by2 by3 by4 by5 by6 by7
        go_wp2_with fail
        exact ⟨rfl, .tuple #[], by simp [results, Tryz.results129, go_sem], rfl, s4, hfin.out, hp4⟩

set_option maxHeartbeats 2000000 in
set_option maxRecDepth 100000 in
theorem answer_c {c : Lc} {s : Ls} {w : World} (k : Int) (nm to : ByteArray) (new : Bool) (ea : Option Addr) (ec : Nat) (e : List Ex) (ba : Option Addr) (bc : Nat) (body : List St) (la : Option Addr) (lc : Nat) (els : List St) (pos : Int) (hin : St.In w (fun b => b < c.B) (.mk k nm to new ea ec e ba bc body la lc els pos)) (h : Lk c s w) :
    Calls Tryz.prog 167 #[.pointer (some ⟨c.lb, 0, none⟩), .agg #[.int .u8 k, .string nm, .string to, .bool new, .slice ea e.length ec, .slice ba body.length bc, .slice la els.length lc, .int .i64 pos]] w (PostS c s w (match answerK c.D s.kn to pos with | .error q => .error q | .ok _ => .ok s.ps)) := by
  have hb1 := box_lt w (.cells #[.int .u8 k, .string nm, .string to, .bool new, .slice ea e.length ec, .slice ba body.length bc, .slice la els.length lc, .int .i64 pos] 60)
  have hbx : (w.alloc (.cells #[.int .u8 k, .string nm, .string to, .bool new, .slice ea e.length ec, .slice ba body.length bc, .slice la els.length lc, .int .i64 pos] 60)).heap[w.heap.size]? = some (.cells #[.int .u8 k, .string nm, .string to, .bool new, .slice ea e.length ec, .slice ba body.length bc, .slice la els.length lc, .int .i64 pos] 60 (0, 0)) := World.alloc_heap_new w _
  have hnew := h.new_not
  have hlow := h.low
  have h1 := h.ext hb1
  have hs1 := StepS.of_ext h hb1
  unfold St.In at hin
  obtain ⟨_, hn, hto, hpos, herow, hein, hbrow, hbin, hlrow, hlin⟩ := hin
  generalize hr : answerK c.D s.kn to pos = r
  have hl1 := fun m => look_D (h1.ext (below_drewN _ _ m)) to hto
  have hl2 := fun m => look_K (h1.ext (below_drewN _ _ m)) to hto
  have c1 : (w.alloc (.cells #[.int .u8 k, .string nm, .string to, .bool new, .slice ea e.length ec, .slice ba body.length bc, .slice la els.length lc, .int .i64 pos] 60)).cell? ⟨c.lb, 1, none⟩ = some (.map (some c.dm)) := blk_cell h1.blk rfl
  have c33 : (w.alloc (.cells #[.int .u8 k, .string nm, .string to, .bool new, .slice ea e.length ec, .slice ba body.length bc, .slice la els.length lc, .int .i64 pos] 60)).cell? ⟨c.lb, 33, none⟩ = some (.map (some s.kb)) := blk_cell h1.blk rfl
  have hR := Lib.hid (refuse_c pos)
  obtain ⟨W, hW⟩ : ∃ W, w.alloc (.cells #[.int .u8 k, .string nm, .string to, .bool new, .slice ea e.length ec, .slice ba body.length bc, .slice la els.length lc, .int .i64 pos] 60) = W := ⟨_, rfl⟩
  unfold answerK at hr
  have hfin := Lib.hid (fun m => hs1.ext (below_drewN _ _ m))
  rw [hW] at hl1 hl2 c1 c33 hbx hfin
  obtain ⟨bx0, bx1, bx2, bx3, bx4, bx5, bx6, bx7⟩ := box_cells hbx
  cases hK : findA s.kn to with
  | none =>
    simp only [hK] at hl2 hr
    cases hD : findA c.D to with
    | none =>
      simp only [hD] at hl1 hr
      replace hr := Lib.hid hr
      clear hbx hnew h1 h hn hto hpos herow hein hbrow hbin hlrow hlin hb1 hs1 hlow
      go_enter Tryz.func167, Tryz.ntmps167
      go_wp2_with fail
      clear hW
      go_quiet (fail)
      go_wp2_with fail
      go_quiet (fail)
      go_wp2_with fail
      refine (hR.out _ _).mono ?_
      rintro e w2 ⟨rfl, rfl⟩
      have hr' := hr.out
      subst hr'
      exact ⟨rfl, rfl, (hfin.out _).below⟩
    | some i =>
      simp only [hD] at hl1 hr
      replace hr := Lib.hid hr
      clear hbx hnew h1 h hn hto hpos herow hein hbrow hbin hlrow hlin hb1 hs1 hlow
      go_enter Tryz.func167, Tryz.ntmps167
      go_wp2_with fail
      clear hW
      go_quiet (fail)
      go_wp2_with fail
      go_quiet (fail)
      go_wp2_with fail
      refine (hR.out _ _).mono ?_
      rintro e w2 ⟨rfl, rfl⟩
      have hr' := hr.out
      subst hr'
      exact ⟨rfl, rfl, (hfin.out _).below⟩
  | some kk =>
    simp only [hK] at hl2 hr
    cases hD : findA c.D to with
    | none =>
      simp only [hD] at hl1
      by_cases hk : kk = 1
      · rw [if_pos hk] at hr
        subst hk
        replace hr := Lib.hid hr
        clear hbx hnew h1 h hn hto hpos herow hein hbrow hbin hlrow hlin hb1 hs1 hlow
        go_enter Tryz.func167, Tryz.ntmps167
        go_wp2_with fail
        clear hW
        go_quiet (fail)
        go_wp2_with fail
        go_quiet (fail)
        go_wp2_with fail
        clear hr
        exact ⟨rfl, .tuple #[], by simp [results, Tryz.results167, go_sem], rfl, s, hfin.out _, rfl⟩
      · rw [if_neg hk] at hr
        replace hr := Lib.hid hr
        clear hbx hnew h1 h hn hto hpos herow hein hbrow hbin hlrow hlin hb1 hs1 hlow
        go_enter Tryz.func167, Tryz.ntmps167
        go_wp2_with fail
        clear hW
        go_quiet (fail)
        go_wp2_with fail
        go_quiet (fail)
        go_wp2_with fail
        refine (hR.out _ _).mono ?_
        rintro e w2 ⟨rfl, rfl⟩
        have hr' := hr.out
        subst hr'
        exact ⟨rfl, rfl, (hfin.out _).below⟩
    | some i =>
      simp only [hD] at hl1
      by_cases hk : kk = 1
      · rw [if_pos hk] at hr
        subst hk
        replace hr := Lib.hid hr
        clear hbx hnew h1 h hn hto hpos herow hein hbrow hbin hlrow hlin hb1 hs1 hlow
        go_enter Tryz.func167, Tryz.ntmps167
        go_wp2_with fail
        clear hW
        go_quiet (fail)
        go_wp2_with fail
        go_quiet (fail)
        go_wp2_with fail
        clear hr
        exact ⟨rfl, .tuple #[], by simp [results, Tryz.results167, go_sem], rfl, s, hfin.out _, rfl⟩
      · rw [if_neg hk] at hr
        replace hr := Lib.hid hr
        clear hbx hnew h1 h hn hto hpos herow hein hbrow hbin hlrow hlin hb1 hs1 hlow
        go_enter Tryz.func167, Tryz.ntmps167
        go_wp2_with fail
        clear hW
        go_quiet (fail)
        go_wp2_with fail
        go_quiet (fail)
        go_wp2_with fail
        refine (hR.out _ _).mono ?_
        rintro e w2 ⟨rfl, rfl⟩
        have hr' := hr.out
        subst hr'
        exact ⟨rfl, rfl, (hfin.out _).below⟩
end Go.Proofs.YtpcdlneompnhlaaGreatDoor.Ty
