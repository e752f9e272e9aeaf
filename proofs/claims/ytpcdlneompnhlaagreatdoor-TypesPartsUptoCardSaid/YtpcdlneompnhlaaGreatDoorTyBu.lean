/- The steps of a region by Qr's law: what each operation comes to. Conditions: none. · Walk of decl: a declaration's parameters and its Body. Conditions: the looker lies in memory. · Walks of exprAsks, stmtAsks: what each Kind asks. Conditions: none. · Walks of the call that read defers: of a frame that panics by a fault, and of one that returns. Conditions: the results' variables are there. · Walk of look: the deferred call, the looker, its three parts. Conditions: the program may be and lies in memory. -/
import Derived.Test.YtpcdlneompnhlaaGreatDoorGrAB
import Derived.Test.YtpcdlneompnhlaaGreatDoorQr
import Derived.Below
import Derived.Carry
import Derived.Test.YtpcdlneompnhlaaGreatDoorTyBs
import Derived.Test.YtpcdlneompnhlaaGreatDoorTyQ
import Derived.Deep.Cut
import Derived.Test.YtpcdlneompnhlaaGreatDoorTyBm
import Derived.Laws.Rows
import Derived.Laws.EntriesVeiled
import Derived.Defers
import Derived.Recover
import Derived.RegionTactic
import Derived.Test.YtpcdlneompnhlaaGreatDoorTyBv
import Derived.Laws.MakeOwn
namespace Go.Proofs.YtpcdlneompnhlaaGreatDoor.Vq
open Go Go.RowKit
open Go.Proofs.YtpcdlneompnhlaaGreatDoor.Qr

/-- just this value -/
def VK (u : Value) (v : Value) (_ : World) : Prop := v = u
def VT (_ : Value) (_ : World) : Prop := True
abbrev Ext (w w' : World) : Prop := Below w.heap.size w w'
def Mono (p : Value → World → Prop) : Prop := ∀ v w w', Ext w w' → p v w → p v w'
theorem VK.mono {u : Value} : Mono (VK u) := fun _ _ _ _ h => h
theorem VT.mono : Mono VT := fun _ _ _ _ h => h

/-! ### the steps -/
section
variable {P : Program} {ops : Array Oper} {Q : Exit → Act → World → Prop} {C : World → Prop} {R : Nat → Value → World → Prop} {a0 : Act}
/-- one operation is shown -/
def Step (P : Program) (ops : Array Oper) (Q : Exit → Act → World → Prop) (C : World → Prop) (R : Nat → Value → World → Prop) (a0 : Act) (j : Nat) (o : Oper) : Prop :=
  ∀ (a : Act) (w : World), C w → Seen ops R a0 o a w →
      (Region.wanted o (yielded ops a.tmps) = true → o.wp P a w (fun a' w' => C w' ∧ Ext w w' ∧ ∃ v, a' = a.put o.dst v ∧ R j v w') Q) ∧
      (Region.wanted o (yielded ops a.tmps) = false → Ext w w ∧ R j undef w)
def StepsL (P : Program) (ops : Array Oper) (Q : Exit → Act → World → Prop) (C : World → Prop) (R : Nat → Value → World → Prop) (a0 : Act) : Nat → List Oper → Prop
  | _, [] => True
  | k, o :: r => Step P ops Q C R a0 k o ∧ StepsL P ops Q C R a0 (k + 1) r
theorem stepsL_get : ∀ (l : List Oper) (k j : Nat) (o : Oper), StepsL P ops Q C R a0 k l → l[j]? = some o → Step P ops Q C R a0 (k + j) o
  | [], _, _, _, _, h => by simp at h
  | x :: r, k, 0, o, hs, h => by
    simp at h; subst h
    exact hs.1
  | x :: r, k, j + 1, o, hs, h => by
    have := stepsL_get r (k + 1) j o hs.2 (by simpa using h)
    have e : k + 1 + j = k + (j + 1) := by omega
    rwa [e] at this
theorem steps_all {l : List Oper} (h : StepsL P l.toArray Q C R a0 0 l) : ∀ j o, l.toArray[j]? = some o → Step P l.toArray Q C R a0 j o := fun j o ho => by
  have := stepsL_get l 0 j o h (by simpa using ho)
  rwa [Nat.zero_add] at this
def MonoL : List (Value → World → Prop) → Prop
  | [] => True
  | p :: r => Mono p ∧ MonoL r
theorem mono_get : ∀ (l : List (Value → World → Prop)) (i : Nat), MonoL l → Mono (l.getD i VT)
  | [], _, _ => by simpa using VT.mono
  | p :: r, 0, h => by simpa using h.1
  | p :: r, i + 1, h => by simpa using mono_get r i h.2

theorem ev {a : Act} {t : Nat} {v : Value} (h : a.tmps[t]? = some v) : a.eval (.tmp t) = v := by simp [Act.eval, h]
theorem old_of {o : Oper} {a : Act} {w : World} (hs : Seen ops R a0 o a w) (t : Nat) {v : Value} (hB : (ops.all fun o => o.dst != some t) = true) (h0 : a0.tmps[t]? = some v) : a.tmps[t]? = some v := by
  rw [hs.old t (fun i hd => ?_), h0]
  unfold dstOf at hd
  cases hq : ops[i]? with
  | none => rw [hq] at hd; cases hd
  | some x =>
    rw [hq] at hd
    have h1 := Array.all_eq_true_iff_forall_mem.1 hB x (Array.mem_of_getElem? hq)
    have h2 : x.dst = some t := hd
    simp [h2] at h1
theorem got_of {o : Oper} {a : Act} {w : World} (hs : Seen ops R a0 o a w) (i d : Nat) (hi : (o.after.any fun e => Region.binds .any e && e.on == i) = true) (hd : dstOf ops i = some d) : ∃ v, a.tmps[d]? = some v ∧ R i v w := hs.got i d hi hd
theorem wanted_none {o : Oper} {a : Act} (hg : o.guard = none) : Region.wanted o (yielded ops a.tmps) = true := by unfold Region.wanted; rw [hg]
theorem wanted_true {o : Oper} {a : Act} {j d : Nat} (hg : o.guard = some (j, true)) (hd : dstOf ops j = some d) (h : a.tmps[d]? = some (.bool true)) : Region.wanted o (yielded ops a.tmps) = true := by
  unfold Region.wanted; rw [hg]
  have : yielded ops a.tmps j = some true := by
    unfold yielded; unfold dstOf at hd
    rw [hd]; simp [h]
  simp [this]
/-- an operation that leaves a value, and perhaps makes memory -/
theorem s_new {j : Nat} {o : Oper} (h : ∀ a w, C w → Seen ops R a0 o a w → Region.wanted o (yielded ops a.tmps) = true ∧ ∃ v w', (execOp a.eval o).run P w = .ok (.value v) w' ∧ C w' ∧ Ext w w' ∧ R j v w') : Step P ops Q C R a0 j o := fun a w hC hs => by
  obtain ⟨hw, v, w', hr, hC', hE, hR⟩ := h a w hC hs
  refine ⟨fun _ => ?_, fun hn => (by rw [hw] at hn; cases hn)⟩
  unfold Oper.wp
  rw [hr]
  exact ⟨hC', hE, v, rfl, hR⟩
theorem s_val {j : Nat} {o : Oper} (h : ∀ a w, C w → Seen ops R a0 o a w → Region.wanted o (yielded ops a.tmps) = true ∧ ∃ v, (execOp a.eval o).run P w = .ok (.value v) w ∧ R j v w) : Step P ops Q C R a0 j o :=
  s_new fun a w hC hs => by
    obtain ⟨hw, v, hr, hR⟩ := h a w hC hs
    exact ⟨hw, v, w, hr, hC, Below.refl _ _, hR⟩
theorem s_call {j : Nat} {o : Oper} (h : ∀ a w, C w → Seen ops R a0 o a w → Region.wanted o (yielded ops a.tmps) = true ∧ ∃ f args, (execOp a.eval o).run P w = .ok (.enter f args) w ∧
    Calls P f args w (fun e w' => ∃ v, e = .returned v ∧ C w' ∧ Ext w w' ∧ R j v w')) : Step P ops Q C R a0 j o := fun a w hC hs => by
  obtain ⟨hw, f, args, hr, hc⟩ := h a w hC hs
  refine ⟨fun _ => ?_, fun hn => (by rw [hw] at hn; cases hn)⟩
  unfold Oper.wp
  rw [hr]
  exact hc.mono fun e w' ⟨v, he, hC', hE, hR⟩ => by subst he; exact ⟨hC', hE, v, rfl, hR⟩
theorem run_bs {a : Act} {o : Oper} {t n : Nat} {ps : Array (Nat × Operand)} {qs : Array (Nat × Value)} {v : Value} {w w' : World} (ho : o.op = .buildSlice t n ps) (hp : ps.map (fun p => (p.1, a.eval p.2)) = qs)
    (hr : (Instr.buildSlice t n qs).run P w = .ok v w') : (execOp a.eval o).run P w = .ok (.value v) w' := by
  subst hp
  unfold execOp
  simp [ho, hr]
theorem run_b {a : Act} {o : Oper} {t : Nat} {ps : Array (Nat × Operand)} {qs : Array (Nat × Value)} {v : Value} {w w' : World} (ho : o.op = .build t ps) (hp : ps.map (fun p => (p.1, a.eval p.2)) = qs)
    (hr : (Instr.build t qs).run P w = .ok v w') : (execOp a.eval o).run P w = .ok (.value v) w' := by
  subst hp
  unfold execOp
  simp [ho, hr]
theorem run_mv {a : Act} {o : Oper} {x : Operand} {v : Value} {w : World} (ho : o.op = .move x ∨ o.op = .assign x) (hx : a.eval x = v) : (execOp a.eval o).run P w = .ok (.value v) w := by
  subst hx
  unfold execOp
  rcases ho with h | h <;> simp [h]
theorem run_ld {a : Act} {o : Oper} {t : Nat} {x : Operand} {u v : Value} {w : World} (ho : o.op = .load t x) (hx : a.eval x = u) (hr : (Instr.loadAt t u).run P w = .ok v w) : (execOp a.eval o).run P w = .ok (.value v) w := by
  subst hx
  unfold execOp
  simp [ho, hr]
theorem run_pk {a : Act} {o : Oper} {c x y : Operand} {b : Bool} {v : Value} {w : World} (ho : o.op = .pick c x y) (hc : a.eval c = .bool b) (hx : (if b = true then a.eval x else a.eval y) = v) : (execOp a.eval o).run P w = .ok (.value v) w := by
  subst hx
  unfold execOp
  simp [ho, hc, asBool]
theorem stepsL_cons {k : Nat} {o : Oper} {r : List Oper} (h : Step P ops Q C R a0 k o) (h' : StepsL P ops Q C R a0 (k + 1) r) : StepsL P ops Q C R a0 k (o :: r) := ⟨h, h'⟩
theorem stepsL_nil {k : Nat} : StepsL P ops Q C R a0 k [] := trivial
theorem ev_const {a : Act} (v : Value) : a.eval (.const v) = v := rfl
theorem run_un {a : Act} {o : Oper} {x : Operand} {op : UnOp} {t : TypeId} {u v : Value} {w w' : World} (ho : o.op = .unOp op t x) (hx : a.eval x = u) (hr : (Op.unary op u).run P w = .ok v w') : (execOp a.eval o).run P w = .ok (.value v) w' := by
  subst hx
  unfold execOp
  simp [ho, hr]
theorem run_ms {a : Act} {o : Oper} {t : TypeId} {x y : Operand} {u v r : Value} {w w' : World} (ho : o.op = .makeSlice t x y) (hx : a.eval x = u) (hy : a.eval y = v) (hr : (Instr.makeSlice t u v).run P w = .ok r w') : (execOp a.eval o).run P w = .ok (.value r) w' := by
  subst hx hy
  unfold execOp
  simp [ho, hr]
end
theorem Ext.al (w : World) (o : Obj) : Ext w (w.alloc o) := (Below.refl _ _).alloc (Nat.le_refl _) _
theorem run_mm {P : Program} {a : Act} {o : Oper} {t : TypeId} {w : World} (ho : o.op = .makeMap t none) : (execOp a.eval o).run P w = .ok (.value (.map (some w.heap.size))) (w.alloc (.map #[] 0)) := by
  unfold execOp
  simp [ho, run_makeMap]
theorem run_len {P : Program} {a : Act} {o : Oper} {x : Operand} {t : TypeId} {w : World} {u v : Value} (ho : o.op = .call { callee := .builtin .len, args := #[x], argTypes := #[t] }) (hx : a.eval x = u) (hr : (Builtin.len_ #[t] o.type #[u]).run P w = .ok v w) : (execOp a.eval o).run P w = .ok (.value v) w := by
  unfold execOp
  simp [ho, hx, resolve, invoke, builtin, hr]
theorem run_bx {P : Program} {a : Act} {o : Oper} {t : TypeId} {x : Operand} {u v : Value} {w w' : World} (ho : o.op = .box t x) (hx : a.eval x = u) (hr : (Instr.box t u).run P w = .ok v w') : (execOp a.eval o).run P w = .ok (.value v) w' := by
  subst hx
  unfold execOp
  simp [ho, hr]
end Go.Proofs.YtpcdlneompnhlaaGreatDoor.Vq

namespace Go.Proofs.YtpcdlneompnhlaaGreatDoor.Ty
open Go Go.RowKit
open Go.Proofs.YtpcdlneompnhlaaGreatDoor.Lx Go.Proofs.YtpcdlneompnhlaaGreatDoor.Tr

theorem set31 (c : Lc) (x1 x2 x3 v : Value) (x4 : Bool) : (lkVals1 c x1 x2 x3 x4).setIfInBounds 31 v = lkVals1 c v x2 x3 x4 := rfl
theorem set32 (c : Lc) (x1 x2 x3 v : Value) (x4 : Bool) : (lkVals1 c x1 x2 x3 x4).setIfInBounds 32 v = lkVals1 c x1 v x3 x4 := rfl
theorem set33 (c : Lc) (x1 x2 x3 v : Value) (x4 : Bool) : (lkVals1 c x1 x2 x3 x4).setIfInBounds 33 v = lkVals1 c x1 x2 v x4 := rfl
/-- the looker at a declaration's begin: new maps -/
theorem LkA.enter {c : Lc} {rs : List CRow} {w W W4 : World} (h : LkA c rs w) (hb : Below w.heap.size w W) (i : Nat)
    (hW : (((W.setCell ⟨c.lb, 31, none⟩ (.int .i64 i) |>.setCell ⟨c.lb, 32, none⟩ (.map (some W.heap.size)) |>.setCell ⟨c.lb, 33, none⟩ (.map (some (W.heap.size + 1)))).alloc (.map #[] 0)).alloc (.map #[] 0)) = W4) :
    ∃ x4, Lk c ⟨i, W.heap.size, W.heap.size + 1, [], [], rs, x4⟩ W4 ∧ Below c.B w W4 ∧ (∀ b, b < W.heap.size → b ≠ c.lb → W4.heap[b]? = W.heap[b]?) ∧ W4.heap.size = W.heap.size + 1 + 1 := by
  obtain ⟨x1, x2, x3, x4, hblk⟩ := h.blk
  have hx := h.ext hb
  have hlow : c.B ≤ w.heap.size := Nat.le_of_lt (Nat.lt_of_le_of_lt h.hi.1 (cells_lt hblk))
  have hws := hb.size
  have hlb : c.lb < W.heap.size := Nat.lt_of_lt_of_le (cells_lt hblk) hws
  obtain ⟨W2, hW2⟩ : ∃ V, (W.setCell ⟨c.lb, 31, none⟩ (.int .i64 i) |>.setCell ⟨c.lb, 32, none⟩ (.map (some W.heap.size)) |>.setCell ⟨c.lb, 33, none⟩ (.map (some (W.heap.size + 1)))) = V := ⟨_, rfl⟩
  rw [hW2] at hW
  have hl2 : W.heap[c.lb]? = some (.cells (lkVals1 c x1 x2 x3 x4) 127 (0, 0)) := (hb.block _ (cells_lt hblk)).trans hblk
  have hl3 := heap_set hl2 31 (.int .i64 (i : Int))
  rw [set31] at hl3
  have hl4 := heap_set hl3 32 (.map (some W.heap.size))
  rw [set32] at hl4
  have hl5 := heap_set hl4 33 (.map (some (W.heap.size + 1)))
  rw [set33, hW2] at hl5
  have hs2 : W2.heap.size = W.heap.size := by rw [← hW2]; simp [World.setCell]
  have hoth : ∀ b, b ≠ c.lb → W2.heap[b]? = W.heap[b]? := fun b hne => by
    rw [← hW2]
    exact (Below.heap_setCell _ _ _ _ hne).trans ((Below.heap_setCell _ _ _ _ hne).trans (Below.heap_setCell _ _ _ _ hne))
  have hb2 : Below W2.heap.size W2 W4 := by rw [← hW]; exact ((Below.refl _ _).alloc (Nat.le_refl _) _).alloc (by simp) _
  have hs1 : (W2.alloc (.map #[] 0)).heap.size = W.heap.size + 1 := by simp; exact hs2
  have hs4 : W4.heap.size = W.heap.size + 1 + 1 := by rw [← hW]; simp; exact hs2
  have hm1 : W4.heap[W.heap.size]? = some (.map #[] 0) := by
    rw [← hW, ← hs2]
    exact (Below.heap_alloc _ _ _ (by simp)).trans (World.alloc_heap_new W2 _)
  have hm2 : W4.heap[W.heap.size + 1]? = some (.map #[] 0) := by
    rw [← hW]
    have := World.alloc_heap_new (W2.alloc (.map #[] 0)) (.map #[] 0)
    rw [hs1] at this
    exact this
  have hl6 : W4.heap[c.lb]? = some (.cells (lkVals1 c (.int .i64 i) (.map (some W.heap.size)) (.map (some (W.heap.size + 1))) x4) 127 (0, 0)) := (hb2.block _ (by rw [hs2]; exact hlb)).trans hl5
  have hBB : Below c.B w W4 := by
    have h1 : Below c.B w W2 := by
      rw [← hW2]
      exact (((hb.mono hlow).setCell h.hi.1 _).setCell h.hi.1 _).setCell h.hi.1 _
    exact h1.trans (hb2.mono (by omega))
  have hold : ∀ b, b < W.heap.size → b ≠ c.lb → W4.heap[b]? = W.heap[b]? := fun b h1 h2 => (hb2.block b (by rw [hs2]; exact h1)).trans (hoth b h2)
  have hkp : Kps (fun b => b < c.B) W W4 := fun b o v hbb hc => (World.cell?_of_block (w := W) (a := ⟨b, o, none⟩) (hold b (by omega) (fun e => by have := h.hi.1; have e' : b = c.lb := e; omega))).trans hc
  refine ⟨x4, ?_, hBB, hold, hs4⟩
  exact
    { blk := hl6
      mD := hx.mD.keep (hold _ hx.mD.lt (fun e => by
        obtain ⟨es, k, h1, _⟩ := hx.mD.ex
        rw [e, hl2] at h1
        cases h1))
      md := ⟨⟨#[], 0, hm1, rfl⟩, by simp, by simp⟩
      mq := ⟨⟨#[], 0, hm2, rfl⟩, by simp, by simp⟩
      row := hx.row.below hkp
      ins := De.InL.below hkp hx.ins
      dlt := h.dlt
      cbl := (hold _ (cells_lt hx.cbl) (fun e => h.ne e.symm)).trans hx.cbl
      cln := h.cln
      rows := fun j r hr => ⟨own_keep (hx.rows j r hr).1 fun b hb' => hold b (own_lt (hx.rows j r hr).1 hb') ((h.rows j r hr).2.2 b hb').1, (h.rows j r hr).2⟩
      rone := h.rone
      rnd := h.rnd
      few := h.few
      hi := ⟨h.hi.1, h.hi.2.1, h.hi.2.2, by show c.B ≤ W.heap.size; omega, by show c.B ≤ W.heap.size + 1; omega⟩
      ne := ⟨by have := hx.mD.lt; show c.dm ≠ W.heap.size; omega, by have := hx.mD.lt; show c.dm ≠ W.heap.size + 1; omega, by show W.heap.size ≠ W.heap.size + 1; omega, h.ne⟩ }
/-- how decl ends -/
def PostA (c : Lc) (w : World) (r : Except (Int × Int) PS) (e : Ending) (w' : World) : Prop := Below c.B w w' ∧ match r with
  | .ok p => e = .returned (.tuple #[]) ∧ ∃ rs, LkA c rs w' ∧ rs.map CRow.l = p.calls
  | .error p => e = badT p.1 p.2
theorem paramsK_drop {D : List (ByteArray × Nat)} {at_ : Int} {ps : List ByteArray} {k : Nat} {x : ByteArray} {p : PS} (hx : ps[k]? = some x) : paramsK D at_ (ps.drop k) p = match declK D p x 1 at_ with
    | .error q => .error q
    | .ok p1 => paramsK D at_ (ps.drop (k + 1)) p1 := by
  rw [drop_c1 hx]
  conv => lhs; unfold paramsK
  rfl
theorem str_at {w : World} {S : Nat → Prop} {a : Option Addr} {cap : Nat} {l : List ByteArray} (h : RowAt w S a cap l.length (strCells l)) {i : Nat} {x : ByteArray} (hx : l[i]? = some x) : ∃ b off, a = some ⟨b, off, none⟩ ∧ S b ∧ w.cell? ⟨b, off + i, none⟩ = some (.string x) :=
  h.at_ i (.string x) (by unfold strCells; rw [List.getElem?_map, hx]; rfl)
set_option maxHeartbeats 8000000 in
set_option maxRecDepth 100000 in
theorem decl_c {c : Lc} {rs : List CRow} {w : World} (h : LkA c rs w) (i : Nat) (d : De) (hd : c.ds[i]? = some d) (hok : okSL d.body) :
    Calls Tryz.prog 89 #[.pointer (some ⟨c.lb, 0, none⟩), .int .i64 (i : Int)] w (PostA c w (bodyK c.ds c.D i (rs.map CRow.l) d)) := by
  generalize hr : bodyK c.ds c.D i (rs.map CRow.l) d = r
  unfold bodyK at hr
  have hil : i < c.ds.length := (List.getElem?_eq_some_iff.1 hd).1
  have hn256 : c.ds.length ≤ 256 := h.few
  obtain ⟨x1, x2, x3, x4, hblk⟩ := h.blk
  have hlow : c.B ≤ w.heap.size := Nat.le_of_lt (Nat.lt_of_le_of_lt h.hi.1 (cells_lt hblk))
  have c0 : w.cell? ⟨c.lb, 0, none⟩ = some (.slice c.pa c.ds.length c.pcap) := blk_cell hblk rfl
  obtain ⟨b, off, ha, hbd, d0, d1, d2, d3, d4, d5⟩ := de_at h.row hd
  rw [ha] at c0
  have hi0 : (0 : Int) ≤ (i : Int) := by omega
  have hi1 : (i : Int) < (c.ds.length : Int) := by omega
  obtain ⟨_, _, _, _, hprow, hpsz, hbrow, hbin⟩ := h.ins d (List.mem_of_getElem? hd)
  obtain ⟨dk, dn, e2, pa, pcap, ps, ba, bcap, body, e5⟩ := d
  simp only at d0 d1 d2 d3 d4 d5 hr hprow hpsz hbrow hbin hok
  have hpl : ps.length ≤ 9223372036854775807 := by have := hprow.le; have := hprow.lim; unfold maxLen at this; omega
  obtain ⟨W1, hW1⟩ : ∃ V, w.alloc (.cells #[.int .u8 dk, .string dn, .int .i64 e2, .slice pa ps.length pcap, .slice ba body.length bcap, .int .i64 e5] 31) = V := ⟨_, rfl⟩
  have hb1 : Below w.heap.size w W1 := by rw [← hW1]; exact (Below.refl _ _).alloc (Nat.le_refl _) _
  have hbx1 : W1.heap[w.heap.size]? = some (.cells #[.int .u8 dk, .string dn, .int .i64 e2, .slice pa ps.length pcap, .slice ba body.length bcap, .int .i64 e5] 31 (0, 0)) := by rw [← hW1]; exact World.alloc_heap_new w _
  have hlbw : c.lb < w.heap.size := cells_lt hblk
  have hfr : ∀ k, W1.frozen? ⟨c.lb, k, none⟩ = false := fun k => blk_free ((hb1.block _ hlbw).trans hblk) k
  have hcl : ∀ k v, (lkVals1 c x1 x2 x3 x4)[k]? = some v → W1.cell? ⟨c.lb, k, none⟩ = some v := fun k v hv => blk_cell ((hb1.block _ hlbw).trans hblk) hv
  have k31 := hcl 31 x1 rfl
  have k32 := hcl 32 x2 rfl
  have k33 := hcl 33 x3 rfl
  have f31 := hfr 31
  have f32 := hfr 32
  have f33 := hfr 33
  have hlb1 : c.lb < W1.heap.size := Nat.lt_of_lt_of_le hlbw hb1.size
  obtain ⟨W4, hW4⟩ : ∃ V, (((W1.setCell ⟨c.lb, 31, none⟩ (.int .i64 i) |>.setCell ⟨c.lb, 32, none⟩ (.map (some W1.heap.size)) |>.setCell ⟨c.lb, 33, none⟩ (.map (some (W1.heap.size + 1)))).alloc (.map #[] 0)).alloc (.map #[] 0)) = V := ⟨_, rfl⟩
  have hent := h.enter hb1 i hW4
  have hown := Lib.hid fun (k : Nat) (r : CRow) (hk : rs[k]? = some r) (bb : Nat) (hbb : r.val.ownBlock = some bb) => own_lt (h.rows k r hk).1 hbb
  have hcbw : c.cb < w.heap.size := cells_lt h.cbl
  have hmk1 := run_makeMap (P := Tryz.prog) 124
  have hmk2 := run_makeMap (P := Tryz.prog) 125
  replace hr := Lib.hid hr
  replace hent := Lib.hid hent
  replace hprow := Lib.hid hprow
  replace hpsz := Lib.hid hpsz
  replace hbrow := Lib.hid hbrow
  replace hbin := Lib.hid hbin
  replace hok := Lib.hid hok
  replace hb1 := Lib.hid hb1
  replace hbx1 := Lib.hid hbx1
  clear h hblk hcl hfr ha hbd hd
  go_enter Tryz.func89, Tryz.ntmps89
  go_upto_region 1 with fail
  try simp only [hW1]
  clear hW1 d0 d1 d2 d3 d4 d5 c0
  go_upto_region 2 with fail
  try simp only [hW4]
  obtain ⟨x5, hL, hB4, hold, hs4⟩ := hent.out
  have hbx4 := (hold _ (cells_lt hbx1.out) (by omega)).trans hbx1.out
  have hkp : Kps (fun b => b < c.B) w W4 := fun b o v hbb hc => (World.cell?_of_block (w := w) (a := ⟨b, o, none⟩) (hB4.block b hbb)).trans hc
  have hnew : ¬ Tch c ⟨i, W1.heap.size, W1.heap.size + 1, [], [], rs, x5⟩ w.heap.size := by
    have hw1 : w.heap.size < W1.heap.size := cells_lt hbx1.out
    rintro (e | e | e | e | ⟨r, hr, e⟩)
    · omega
    · omega
    · have e' : w.heap.size = W1.heap.size := e
      omega
    · have e' : w.heap.size = W1.heap.size + 1 := e
      omega
    · obtain ⟨k, hk⟩ := List.mem_iff_getElem?.1 hr
      have := hown.out k r hk _ e
      omega
  generalize hs0 : (⟨i, W1.heap.size, W1.heap.size + 1, [], [], rs, x5⟩ : Ls) = s0 at hL hnew
  have hps0 : s0.ps = ⟨[], [], rs.map CRow.l⟩ := by rw [← hs0]; rfl
  have hpos0 : s0.pos = i := by rw [← hs0]
  have hr' := hr.out
  rw [← hps0] at hr'
  obtain ⟨q, hq⟩ : ∃ q, paramsK c.D e5 ps s0.ps = q := ⟨_, rfl⟩
  rw [hq] at hr'
  have hst0 := Lib.hid (StepS.of_ext hL (Below.refl _ _))
  have hprow4 := Lib.hid (hprow.out.below hkp)
  have hbrow4 := Lib.hid (hbrow.out.below hkp)
  have hbin4 := Lib.hid (St.InL.below hkp _ hbin.out)
  have g3 := blk_cell hbx4 (j := 3) rfl
  replace hq := Lib.hid hq
  replace hr' := Lib.hid hr'
  replace hL := Lib.hid hL
  replace hB4 := Lib.hid hB4
  replace hbx4 := Lib.hid hbx4
  replace hnew := Lib.hid hnew
  replace hpos0 := Lib.hid hpos0
  have hkp' := Lib.hid hkp
  clear hold hs4 hkp hps0 hs0 hr hent hW4 k31 k32 k33 f31 f32 f33 hmk1 hmk2 hown hprow hbrow hbin hb1 hbx1 hi0 hi1
  go_wp2_with fail
  clear g3
  go_loopw [29] (fun iv wr => ∃ (k : Nat) (s : Ls), iv = .int .i64 k ∧ k ≤ ps.length ∧ Hid (StepS c s0 W4 s wr) ∧ Hid (paramsK c.D e5 (ps.drop k) s.ps = q)) (fun iv _ => ps.length - (intOf iv).toNat)
  case atStart => exact ⟨0, s0, rfl, Nat.zero_le _, hst0, hq⟩
  case round =>
    obtain ⟨k, s, rfl, hk, hS, hqk⟩ := hrel
    clear hst0 hq
    have hkpr : Kps (fun b => b < c.B) W4 wr := fun b o v hbb hc => (World.cell?_of_block (w := W4) (a := ⟨b, o, none⟩) (hS.out.below.block b hbb)).trans hc
    have hbxr := hS.out.blk hbx4.out hnew.out
    have g0 := blk_cell hbxr (j := 0) rfl
    have g4 := blk_cell hbxr (j := 4) rfl
    have g5 := blk_cell hbxr (j := 5) rfl
    by_cases hlt : k < ps.length
    · obtain ⟨x, hx⟩ : ∃ x, ps[k]? = some x := ⟨_, List.getElem?_eq_getElem hlt⟩
      obtain ⟨pb, po, hpa, _, hcell⟩ := str_at (hprow4.out.below hkpr) hx
      subst hpa
      have hqk' := hqk.out
      rw [paramsK_drop hx] at hqk'
      have hk0 : (0 : Int) ≤ (k : Int) := by omega
      have hk1 : (k : Int) < (ps.length : Int) := by omega
      have hdc := declare_c hS.out.lk x (hpsz.out x (List.mem_of_getElem? hx)) 1 e5
      generalize declK c.D s.ps x 1 e5 = q2 at hdc hqk'
      replace hdc := Lib.hid hdc
      replace hqk' := Lib.hid hqk'
      clear hqk hkpr hbxr hx
      go_wp2_with fail
      refine hdc.out.mono ?_
      intro e w2 hP
      cases q2 with
      | error p =>
        obtain ⟨rfl, hb2⟩ := hP
        have hq3 := hqk'.out
        simp only at hq3
        subst hq3
        have hr2 := hr'.out
        simp only at hr2
        subst hr2
        exact ⟨rfl, hB4.out.trans (hS.out.below.trans hb2), rfl⟩
      | ok p1 =>
        obtain ⟨rfl, s2, hs2, hp2⟩ := hP
        have hq3 := hqk'.out
        simp only at hq3
        have hfin := Lib.hid (hS.out.trans hs2)
        have hq4 : Hid (paramsK c.D e5 (ps.drop (k + 1)) s2.ps = q) := Lib.hid (by rw [hp2]; exact hq3)
        clear hs2 hS hdc hqk' hq3 hp2 hcell g0 g4 g5
        go_wp2_with fail
        go_roundw
        case rel => exact ⟨k + 1, s2, by go_num, by omega, hfin, hq4⟩
        case measure => simp [intOf]; omega
    · have hge : ¬ ((k : Int) < (ps.length : Int)) := by omega
      have hqk' := hqk.out
      rw [show k = ps.length by omega, List.drop_length] at hqk'
      unfold paramsK at hqk'
      subst hqk'
      have hr2 := hr'.out
      simp only at hr2
      have hsp : s.pos = i := hS.out.pos.trans hpos0.out
      have hlc := list_c hS.out.lk ba bcap body (dk == 4) hok.out (hbrow4.out.below hkpr) (St.InL.below hkpr _ hbin4.out) (by rw [hsp]; exact hil)
      rw [hsp] at hlc
      have hr3 : listK c.ds c.D i (dk == 4) s.ps body = r := hr2
      rw [hr3] at hlc
      replace hlc := Lib.hid hlc
      clear hqk hlt hkpr hbxr hr2 hr3 hr'
      go_wp2_with fail
      refine hlc.out.mono ?_
      intro e w2 hP
      cases r with
      | error p =>
        obtain ⟨rfl, hb2⟩ := hP
        exact ⟨rfl, hB4.out.trans (hS.out.below.trans hb2), rfl⟩
      | ok p1 =>
        obtain ⟨rfl, s2, hs2, hp2⟩ := hP
        have hfin := Lib.hid (hB4.out.trans (hS.out.below.trans hs2.below))
        have hf2 := Lib.hid hs2.lk.toA
        have hf3 : Hid (s2.calls.map CRow.l = p1.calls) := Lib.hid (by rw [← hp2]; rfl)
        clear hs2 hS hlc hp2 g0 g4 g5
        go_wp2_with fail
        exact ⟨rfl, .tuple #[], by simp [results, Tryz.results89, go_sem], hfin.out, rfl, s2.calls, hf2.out, hf3.out⟩
end Go.Proofs.YtpcdlneompnhlaaGreatDoor.Ty

namespace Go.Proofs.YtpcdlneompnhlaaGreatDoor.Ty
open Go Go.RowKit
open Go.Proofs.YtpcdlneompnhlaaGreatDoor.Lx Go.Proofs.YtpcdlneompnhlaaGreatDoor.Tr

set_option maxHeartbeats 4000000 in
set_option maxRecDepth 100000 in
theorem exprAsks_c (w : World) : Calls Tryz.prog 86 #[] w fun e w' => e = .returned (.agg ⟨exFs⟩) ∧ w' = w.alloc (.cells ⟨exFs⟩ 118) := by
  go_enter Tryz.func86, Tryz.ntmps86
  go_wp2_with fail
  refine bodyPost_ret (v := .agg ⟨exFs⟩) (results_cell_row Tryz.results86 _ _ w.heap.size _ _ _ _ rfl (World.alloc_heap_new w _) Tryz.underlying118 rfl (by kernel_rfl)) rfl ⟨rfl, rfl⟩
set_option maxHeartbeats 4000000 in
set_option maxRecDepth 100000 in
theorem stmtAsks_c (w : World) : Calls Tryz.prog 87 #[] w fun e w' => e = .returned (.agg ⟨stFs⟩) ∧ w' = w.alloc (.cells ⟨stFs⟩ 121) := by
  go_enter Tryz.func87, Tryz.ntmps87
  go_wp2_with fail
  refine bodyPost_ret (v := .agg ⟨stFs⟩) (results_cell_row Tryz.results87 _ _ w.heap.size _ _ _ _ rfl (World.alloc_heap_new w _) Tryz.underlying121 rfl (by kernel_rfl)) rfl ⟨rfl, rfl⟩
end Go.Proofs.YtpcdlneompnhlaaGreatDoor.Ty

namespace Go.Proofs.YtpcdlneompnhlaaGreatDoor.Ty
open Go Go.RowKit
open Go.Proofs.YtpcdlneompnhlaaGreatDoor.Lx Go.Proofs.YtpcdlneompnhlaaGreatDoor.Tr

set_option maxHeartbeats 2000000 in
set_option maxRecDepth 100000 in
theorem catch_idle (a b : Nat) (w : World) : CallsD Tryz.prog 85 #[.pointer (some ⟨a, 0, none⟩), .pointer (some ⟨b, 0, none⟩)] .returning w fun e u' w' => e = .returned (.tuple #[]) ∧ u' = .returning ∧ w' = w := by
  refine callsD_of_wpS Tryz.func85 rfl fun c₀ cs hu => ?_
  apply wpS_seq
  apply wpS_region
  simp [wpOpsS, go_sem, recoverD, hu, Tryz.ntmps85, Exit.thenS]
  refine wpS_of_wp ?_
  go_wp2_with fail
  cases c₀
  simp_all [bodyPostS, results, Tryz.results85]
/-- what the caught fault leaves -/
structure Cgt (a b : Nat) (p q : Int) (w w' : World) : Prop where
  ca : w'.cell? ⟨a, 0, none⟩ = some (.int .i64 p)
  cb : w'.cell? ⟨b, 0, none⟩ = some (.int .i64 q)
  below : ∀ B, B ≤ a → B ≤ b → B ≤ w.heap.size → Below B w w'
set_option maxHeartbeats 2000000 in
set_option maxRecDepth 100000 in
theorem catch_bad (a b : Nat) (x y p q : Int) (w : World) (Ta Tb : TypeId) (ha : w.heap[a]? = some (.cells #[.int .i64 x] Ta (0, 0))) (hb : w.heap[b]? = some (.cells #[.int .i64 y] Tb (0, 0))) (hab : a ≠ b) :
    CallsD Tryz.prog 85 #[.pointer (some ⟨a, 0, none⟩), .pointer (some ⟨b, 0, none⟩)] (.panicking ({ v := .iface 114 (.agg #[.int .i64 p, .int .i64 q]), recovered := false } :: [])) w fun e u' w' =>
      e = .returned (.tuple #[]) ∧ u' = .panicking ({ v := .iface 114 (.agg #[.int .i64 p, .int .i64 q]), recovered := true } :: []) ∧ Cgt a b p q w w' := by
  have hta : ∀ (v : Value) (V : World), (Instr.typeAssert (.iface 114 v) 20 114 true).run Tryz.prog V = .ok (.tuple #[v, .bool true]) V := fun v V => by simp [Instr.typeAssert]
  have hsa := cells_lt ha
  have hsb := cells_lt hb
  obtain ⟨W1, hW1⟩ : ∃ V, w.alloc (.cells #[.int .i64 p, .int .i64 q] 114) = V := ⟨_, rfl⟩
  have hb1 : Below w.heap.size w W1 := by rw [← hW1]; exact (Below.refl _ _).alloc (Nat.le_refl _) _
  have hn1 : W1.heap[w.heap.size]? = some (.cells #[.int .i64 p, .int .i64 q] 114 (0, 0)) := by rw [← hW1]; exact World.alloc_heap_new w _
  have ha1 := (hb1.block _ hsa).trans ha
  have hb1' := (hb1.block _ hsb).trans hb
  have f0 : W1.cell? ⟨w.heap.size, 0, none⟩ = some (.int .i64 p) := blk_cell hn1 rfl
  have f1 : W1.cell? ⟨w.heap.size, 1, none⟩ = some (.int .i64 q) := blk_cell hn1 rfl
  have a0 : W1.cell? ⟨a, 0, none⟩ = some (.int .i64 x) := blk_cell ha1 rfl
  have b0 : W1.cell? ⟨b, 0, none⟩ = some (.int .i64 y) := blk_cell hb1' rfl
  have z0 := blk_free ha1 0
  have z1 := blk_free hb1' 0
  have hend1 : Hid (Cgt a b p q w (((W1.setCell ⟨a, 0, none⟩ (.int .i64 p)).setCell ⟨b, 0, none⟩ (.int .i64 q)).drew)) := Lib.hid (by
    have h1 := heap_set ha1 0 (.int .i64 p)
    have h2 := (Below.heap_setCell (W1.setCell ⟨a, 0, none⟩ (.int .i64 p)) ⟨b, 0, none⟩ (.int .i64 q) a (by exact hab)).trans h1
    have h3 := heap_set ((Below.heap_setCell W1 ⟨a, 0, none⟩ (.int .i64 p) b (fun e => hab e.symm)).trans hb1') 0 (.int .i64 q)
    exact ⟨blk_cell (W := ((W1.setCell ⟨a, 0, none⟩ (.int .i64 p)).setCell ⟨b, 0, none⟩ (.int .i64 q)).drew) h2 rfl, blk_cell (W := ((W1.setCell ⟨a, 0, none⟩ (.int .i64 p)).setCell ⟨b, 0, none⟩ (.int .i64 q)).drew) h3 rfl, fun B h1 h2 h3 => (((hb1.mono h3).setCell h1 _).setCell h2 _).drew⟩)
  have hend2 : Hid (Cgt a b p q w (((W1.setCell ⟨b, 0, none⟩ (.int .i64 q)).setCell ⟨a, 0, none⟩ (.int .i64 p)).drew)) := Lib.hid (by
    have h1 := heap_set hb1' 0 (.int .i64 q)
    have h2 := (Below.heap_setCell (W1.setCell ⟨b, 0, none⟩ (.int .i64 q)) ⟨a, 0, none⟩ (.int .i64 p) b (fun e => hab e.symm)).trans h1
    have h3 := heap_set ((Below.heap_setCell W1 ⟨b, 0, none⟩ (.int .i64 q) a hab).trans ha1) 0 (.int .i64 p)
    exact ⟨blk_cell (W := ((W1.setCell ⟨b, 0, none⟩ (.int .i64 q)).setCell ⟨a, 0, none⟩ (.int .i64 p)).drew) h3 rfl, blk_cell (W := ((W1.setCell ⟨b, 0, none⟩ (.int .i64 q)).setCell ⟨a, 0, none⟩ (.int .i64 p)).drew) h2 rfl, fun B h1 h2 h3 => (((hb1.mono h3).setCell h2 _).setCell h1 _).drew⟩)
  have hne1 : w.heap.size ≠ a := by omega
  have hne2 : w.heap.size ≠ b := by omega
  replace hb1 := Lib.hid hb1
  replace hn1 := Lib.hid hn1
  replace ha1 := Lib.hid ha1
  replace hb1' := Lib.hid hb1'
  clear ha hb
  refine callsD_of_wpS Tryz.func85 rfl fun c₀ cs hu => ?_
  apply wpS_seq
  apply wpS_region
  simp [wpOpsS, go_sem, recoverD, hu, Tryz.ntmps85, Exit.thenS]
  refine wpS_of_wp ?_
  go_wp2_with fail
  try simp only [hW1]
  clear hW1
  go_region
  all_goals (
    go_wp2_with fail
    have h1 := hend1.out
    have h2 := hend2.out
    clear hend1 hend2 hb1 hn1 ha1 hb1' f0 f1 a0 b0 z0 z1
    cases c₀
    simp_all [bodyPostS, results, Tryz.results85])
end Go.Proofs.YtpcdlneompnhlaaGreatDoor.Ty

namespace Go.Proofs.YtpcdlneompnhlaaGreatDoor.Ty
open Go Go.RowKit
open Go.Proofs.YtpcdlneompnhlaaGreatDoor.Lx Go.Proofs.YtpcdlneompnhlaaGreatDoor.Tr Go.Proofs.YtpcdlneompnhlaaGreatDoor.Vq Go.Proofs.YtpcdlneompnhlaaGreatDoor.Qr

def nils (n : Nat) : Array Value := ⟨(List.range n).map fun _ => .slice none 0 0⟩
theorem info_row : (Tryz.prog.info? 180).map (fun i => (i.zero, i.size, i.bytes)) = some (some (.slice none 0 0), 1, 24) := by kernel_rfl
theorem make_rows (n : Nat) (hn : n ≤ 256) (V : World) : (Instr.makeSlice 123 (.int .i64 (n : Int)) (.int .i64 (n : Int))).run Tryz.prog V = .ok (.slice (some ⟨V.heap.size, 0, none⟩) n n) (V.alloc (.cells (nils n) 180)) := by
  obtain ⟨i0, hi0, hz0, hz1, hz2⟩ := info_parts info_row
  have h := run_makeSlice (P := Tryz.prog) V 123 180 i0 _ Tryz.underlying123 hi0 hz0 .i64 .i64 (n : Int) (n : Int) (by omega) (Int.le_refl _) (by rw [hz1]; omega) (by rw [hz2]; omega) (by omega)
  rw [hz1, Int.toNat_natCast, Nat.mul_one] at h
  rw [h]
  have e : madeCells (Value.slice none 0 0).cells n = nils n := by
    unfold nils madeCells
    apply Array.ext'
    simp
    intro a _
    show (#[Value.slice none 0 0] : Array Value)[a % 1]! = _
    rw [Nat.mod_one]
    rfl
  rw [e]
theorem nils_rows (n : Nat) : nils n = ⟨((List.range n).map fun _ => (⟨.slice none 0 0, []⟩ : CRow)).map CRow.val⟩ := by
  unfold nils
  rw [List.map_map]
  rfl
/-- the looker as it is made -/
def lk0 (pv : Value) (dm cb n : Nat) : Array Value := ⟨[pv, .map (some dm)] ++ exFs ++ stFs ++ [.slice (some ⟨cb, 0, none⟩) n n, .int .i64 0, .map none, .map none, .bool false]⟩
theorem build_lk (pv : Value) (hp : ∃ a n c, pv = .slice a n c) (dm cb n : Nat) (w : World) : (Instr.build 127 #[(0, pv), (1, .map (some dm)), (2, .agg ⟨exFs⟩), (3, .agg ⟨stFs⟩), (4, .slice (some ⟨cb, 0, none⟩) n n)]).run Tryz.prog w = .ok (.agg (lk0 pv dm cb n)) w := by
  obtain ⟨a, m, c, rfl⟩ := hp
  kernel_rfl
theorem box_lk (pv : Value) (dm cb n : Nat) (w : World) : (Instr.box 127 (.agg (lk0 pv dm cb n))).run Tryz.prog w = .ok (.pointer (some ⟨w.heap.size, 0, none⟩)) (w.alloc (.cells (lk0 pv dm cb n) 127)) := by kernel_rfl
def Rm (H : Nat) (v : Value) (w : World) : Prop := ∃ dm, v = .map (some dm) ∧ H ≤ dm ∧ w.heap[dm]? = some (.map #[] 0)
def Rs (H n : Nat) (v : Value) (w : World) : Prop := ∃ cb, v = .slice (some ⟨cb, 0, none⟩) n n ∧ H ≤ cb ∧ w.heap[cb]? = some (.cells (nils n) 180 (0, 0))
def Rb (pv : Value) (H n : Nat) (v : Value) (w : World) : Prop := ∃ dm cb, v = .agg (lk0 pv dm cb n) ∧ H ≤ dm ∧ w.heap[dm]? = some (.map #[] 0) ∧ H ≤ cb ∧ w.heap[cb]? = some (.cells (nils n) 180 (0, 0))
def Rx (pv : Value) (H n : Nat) (v : Value) (w : World) : Prop := ∃ lb dm cb, v = .pointer (some ⟨lb, 0, none⟩) ∧ H ≤ lb ∧ dm < lb ∧ cb < lb ∧ w.heap[lb]? = some (.cells (lk0 pv dm cb n) 127 (0, 0)) ∧ H ≤ dm ∧ w.heap[dm]? = some (.map #[] 0) ∧ H ≤ cb ∧ w.heap[cb]? = some (.cells (nils n) 180 (0, 0))
def r2 (pv : Value) (H n : Nat) : List (Value → World → Prop) := [VK pv, Rm H, VK (.agg ⟨exFs⟩), VK (.agg ⟨stFs⟩), VK pv, VK (.int .i64 n), Rs H n, Rb pv H n, Rx pv H n, Rx pv H n]
theorem Rm.mono {H : Nat} : Mono (Rm H) := fun _ _ _ hb ⟨dm, h1, h2, h3⟩ => ⟨dm, h1, h2, (hb.block _ (cells_lt h3)).trans h3⟩
theorem Rs.mono {H n : Nat} : Mono (Rs H n) := fun _ _ _ hb ⟨dm, h1, h2, h3⟩ => ⟨dm, h1, h2, (hb.block _ (cells_lt h3)).trans h3⟩
theorem Rb.mono {pv : Value} {H n : Nat} : Mono (Rb pv H n) := fun _ _ _ hb ⟨dm, cb, h1, h2, h3, h4, h5⟩ => ⟨dm, cb, h1, h2, (hb.block _ (cells_lt h3)).trans h3, h4, (hb.block _ (cells_lt h5)).trans h5⟩
theorem Rx.mono {pv : Value} {H n : Nat} : Mono (Rx pv H n) := fun _ _ _ hb ⟨lb, dm, cb, h1, h2, h3, h4, h5, h6, h7, h8, h9⟩ => ⟨lb, dm, cb, h1, h2, h3, h4, (hb.block _ (cells_lt h5)).trans h5, h6, (hb.block _ (cells_lt h7)).trans h7, h8, (hb.block _ (cells_lt h9)).trans h9⟩
theorem r2_mono (pv : Value) (H n : Nat) : MonoL (r2 pv H n) := ⟨VK.mono, Rm.mono, VK.mono, VK.mono, VK.mono, VK.mono, Rs.mono, Rb.mono, Rx.mono, Rx.mono, trivial⟩
/-- how look ends -/
def rows0 (n : Nat) : List CRow := (List.range n).map fun _ => ⟨.slice none 0 0, []⟩
theorem rows0_l (ds : List De) : (rows0 ds.length).map CRow.l = ds.map fun _ => [] := by
  unfold rows0
  rw [List.map_map]
  apply List.ext_getElem?
  intro j
  simp only [List.getElem?_map]
  by_cases h : j < ds.length
  · simp [h]
  · simp [h]
theorem num_lt : ∀ (l : List De) (i : Nat), ∀ x ∈ numL l i, x.2 < i + l.length
  | [], i, x, h => by cases h
  | d :: r, i, x, h => by
    unfold numL at h
    rcases List.mem_cons.1 h with rfl | h
    · simp
    · have := num_lt r (i + 1) x h
      simp only [List.length_cons]
      omega
theorem num_lt0 (l : List De) : ∀ x ∈ numL l 0, x.2 < l.length := fun x h => by have := num_lt l 0 x h; omega
/-- the looker is there, nothing gathered -/
theorem first_lk {V : World} {lb dm cb B n cap : Nat} {a : Option Addr} {ds : List De} {D : List (ByteArray × Nat)} (hl : V.heap[lb]? = some (.cells (lk0 (.slice a n cap) dm cb n) 127 (0, 0))) (hn : ds.length = n) (hm : MpS V dm (D.map fun x => (x.1, .int .i64 x.2)))
    (hrow : RowAt V (fun b => b < B) a cap ds.length (deCells ds)) (hin : De.InL V (fun b => b < B) ds) (hD : ∀ x ∈ D, x.2 < ds.length) (hc : V.heap[cb]? = some (.cells (nils n) 180 (0, 0))) (h256 : n ≤ 256) (h1 : B ≤ lb) (h2 : B ≤ dm) (h3 : B ≤ cb) (h4 : lb ≠ cb) :
    LkA ⟨lb, a, cap, ds, dm, cb, B, D⟩ (rows0 n) V := by
  subst hn
  have hr0 : ∀ (i : Nat) (r : CRow), (rows0 ds.length)[i]? = some r → r = ⟨.slice none 0 0, []⟩ := fun i r h => by
    unfold rows0 at h
    rw [List.getElem?_map] at h
    cases hh : (List.range ds.length)[i]? with
    | none => rw [hh] at h; cases h
    | some x => rw [hh] at h; cases h; rfl
  exact
    { blk := ⟨_, _, _, _, hl⟩
      mD := hm
      row := hrow
      ins := hin
      dlt := hD
      cbl := by rw [nils_rows] at hc; exact hc
      cln := by unfold rows0; simp
      rows := fun i r h => by
        rw [hr0 i r h]
        exact ⟨World.ownsRow_nil _ _ _ _, by simp, fun b hb => by cases hb⟩
      rone := fun i j ri rj b hi _ hb _ => by
        rw [hr0 i ri hi] at hb
        cases hb
      rnd := fun r h => by
        obtain ⟨i, hi⟩ := List.mem_iff_getElem?.1 h
        rw [hr0 i r hi]
        simp
      few := h256
      hi := ⟨h1, h2, h3⟩
      ne := h4 }
def resK (r : Except (Int × Int) Unit) : Int × Int := match r with
  | .error q => q
  | .ok _ => (0, 0)
theorem bodiesK_drop {ds : List De} {D : List (ByteArray × Nat)} {k : Nat} {d : De} {c : List (List Nat)} (hd : ds[k]? = some d) : bodiesK ds D (ds.drop k) k c = match bodyK ds D k c d with
    | .error q => .error q
    | .ok p => bodiesK ds D (ds.drop (k + 1)) (k + 1) p.calls := by
  rw [drop_c1 hd]
  conv => lhs; unfold bodiesK
  rfl
set_option maxHeartbeats 8000000 in
set_option maxRecDepth 100000 in
theorem look_c {w : World} {a : Option Addr} {cap : Nat} {ds : List De} (hrow : RowAt w (fun b => b < w.heap.size) a cap ds.length (deCells ds)) (hin : De.InL w (fun b => b < w.heap.size) ds) (hmay : mayP ds = true) :
    Calls Tryz.prog 44 #[.slice a ds.length cap] w fun e w' => Below w.heap.size w w' ∧ e = .returned (.tuple #[.int .i64 (resK (lookK ds)).1, .int .i64 (resK (lookK ds)).2]) := by
  have hmf : ∀ (fn : Fn) (first cap : Array Value) (w : World), (Instr.makeFunc fn first cap).run Tryz.prog w = .ok (.func fn first cap) w := fun _ _ _ _ => rfl
  obtain ⟨hn256, hokb⟩ := may_ok hmay
  generalize hr : lookK ds = r
  unfold lookK at hr
  obtain ⟨W1, hW1⟩ : ∃ W, (w.alloc (.cells #[.int .i64 0] 3)).alloc (.cells #[.int .i64 0] 23) = W := ⟨_, rfl⟩
  have hb1 : Below w.heap.size w W1 := by rw [← hW1]; exact ((Below.refl _ _).alloc (Nat.le_refl _) _).alloc (by simp) _
  have hs1 : W1.heap.size = w.heap.size + 1 + 1 := by rw [← hW1]; simp
  have ha1 : W1.heap[w.heap.size]? = some (.cells #[.int .i64 0] 3 (0, 0)) := by rw [← hW1]; exact (heap_alloc_old _ _ (by simp)).trans (World.alloc_heap_new w _)
  have hc1 : W1.heap[w.heap.size + 1]? = some (.cells #[.int .i64 0] 23 (0, 0)) := by
    rw [← hW1]
    have := World.alloc_heap_new (w.alloc (.cells #[.int .i64 0] 3)) (.cells #[.int .i64 0] 23)
    rw [show (w.alloc (.cells #[.int .i64 0] 3)).heap.size = w.heap.size + 1 by simp] at this
    exact this
  have hrow1 := Lib.hid (hrow.below (Kps.of_below hb1))
  have hin1 := Lib.hid (De.InL.below (Kps.of_below hb1) hin)
  obtain ⟨n, hn⟩ : ∃ n, ds.length = n := ⟨_, rfl⟩
  rw [hn] at hn256
  replace hr := Lib.hid hr
  replace hb1 := Lib.hid hb1
  replace ha1 := Lib.hid ha1
  replace hc1 := Lib.hid hc1
  replace hokb := Lib.hid hokb
  have hn' := Lib.hid hn
  clear hrow hin hmay
  rw [hn]
  clear hn
  go_enter_defers Tryz.func44, Tryz.ntmps44
  go_upto_region 2 with fail
  try simp only [hW1]
  clear hW1
  refine wp_region_rel (C := fun V => Ext W1 V) (E := Ext) (R := fun i => (r2 (.slice a n cap) W1.heap.size n).getD i VT) (by kernel_rfl) (Below.refl _ _).drew (by kernel_rfl) (fun i v w w' _ hE h => mono_get _ i (r2_mono _ _ _) v w w' hE h) (steps_all ?hs) ?hend
  case hs =>
    refine stepsL_cons (s_val fun a w hC hs => ?_) ?_
    · have ho := old_of hs 0 (by kernel_rfl) (by rfl)
      exact ⟨wanted_none rfl, _, run_mv (Or.inl rfl) (ev ho), rfl⟩
    refine stepsL_cons (s_new fun a w hC hs => ?_) ?_
    · exact ⟨wanted_none rfl, _, _, run_mm rfl, hC.trans ((Ext.al w _).mono hC.size), Ext.al _ _, _, rfl, hC.size, World.alloc_heap_new w _⟩
    refine stepsL_cons (s_call fun a w hC hs => ?_) ?_
    · refine ⟨wanted_none rfl, 86, #[], by kernel_rfl, (exprAsks_c w).mono ?_⟩
      rintro e w' ⟨rfl, rfl⟩
      exact ⟨_, rfl, hC.trans ((Ext.al w _).mono hC.size), Ext.al _ _, rfl⟩
    refine stepsL_cons (s_call fun a w hC hs => ?_) ?_
    · refine ⟨wanted_none rfl, 87, #[], by kernel_rfl, (stmtAsks_c w).mono ?_⟩
      rintro e w' ⟨rfl, rfl⟩
      exact ⟨_, rfl, hC.trans ((Ext.al w _).mono hC.size), Ext.al _ _, rfl⟩
    refine stepsL_cons (s_val fun a w hC hs => ?_) ?_
    · have ho := old_of hs 0 (by kernel_rfl) (by rfl)
      exact ⟨wanted_none rfl, _, run_mv (Or.inl rfl) (ev ho), rfl⟩
    refine stepsL_cons (s_val fun a w hC hs => ?_) ?_
    · obtain ⟨v0, hv0, hR0⟩ := got_of hs 4 11 (by kernel_rfl) (by rfl)
      have hR0' : v0 = _ := hR0
      subst hR0'
      exact ⟨wanted_none rfl, _, run_len rfl (ev hv0) (by kernel_rfl), rfl⟩
    refine stepsL_cons (s_new fun a w hC hs => ?_) ?_
    · obtain ⟨v0, hv0, hR0⟩ := got_of hs 5 12 (by kernel_rfl) (by rfl)
      have hR0' : v0 = .int .i64 (n : Int) := hR0
      subst hR0'
      exact ⟨wanted_none rfl, _, _, run_ms rfl (ev hv0) (ev hv0) (make_rows n hn256 w), hC.trans ((Ext.al w _).mono hC.size), Ext.al _ _, _, rfl, hC.size, World.alloc_heap_new w _⟩
    refine stepsL_cons (s_val fun a w hC hs => ?_) ?_
    · obtain ⟨v0, hv0, hR0⟩ := got_of hs 0 7 (by kernel_rfl) (by rfl)
      obtain ⟨v1, hv1, hR1⟩ := got_of hs 1 8 (by kernel_rfl) (by rfl)
      obtain ⟨v2, hv2, hR2⟩ := got_of hs 2 9 (by kernel_rfl) (by rfl)
      obtain ⟨v3, hv3, hR3⟩ := got_of hs 3 10 (by kernel_rfl) (by rfl)
      obtain ⟨v6, hv6, hR6⟩ := got_of hs 6 13 (by kernel_rfl) (by rfl)
      have e0 : v0 = .slice _ n cap := hR0
      have e2 : v2 = .agg ⟨exFs⟩ := hR2
      have e3 : v3 = .agg ⟨stFs⟩ := hR3
      obtain ⟨dm, e1, hd1, hd2⟩ : Rm W1.heap.size v1 w := hR1
      obtain ⟨cb, e6, hc1, hc2⟩ : Rs W1.heap.size n v6 w := hR6
      subst e0 e1 e2 e3 e6
      exact ⟨wanted_none rfl, _, run_b rfl (by simp only [List.map_toArray, List.map_cons, List.map_nil, ev hv0, ev hv1, ev hv2, ev hv3, ev hv6]) (build_lk _ ⟨_, _, _, rfl⟩ dm cb n w), dm, cb, rfl, hd1, hd2, hc1, hc2⟩
    refine stepsL_cons (s_new fun a w hC hs => ?_) ?_
    · obtain ⟨v0, hv0, hR0⟩ := got_of hs 7 14 (by kernel_rfl) (by rfl)
      obtain ⟨dm, cb, e1, hd1, hd2, hc1, hc2⟩ : Rb _ W1.heap.size n v0 w := hR0
      subst e1
      exact ⟨wanted_none rfl, _, _, run_bx rfl (ev hv0) (box_lk _ dm cb n w), hC.trans ((Ext.al w _).mono hC.size), Ext.al _ _, w.heap.size, dm, cb, rfl, hC.size, cells_lt hd2, cells_lt hc2, World.alloc_heap_new w _, hd1, (Below.heap_alloc _ _ _ (cells_lt hd2)).trans hd2, hc1, (Below.heap_alloc _ _ _ (cells_lt hc2)).trans hc2⟩
    refine stepsL_cons (s_val fun a w hC hs => ?_) ?_
    · obtain ⟨v0, hv0, hR0⟩ := got_of hs 8 15 (by kernel_rfl) (by rfl)
      exact ⟨wanted_none rfl, _, run_mv (Or.inr rfl) (ev hv0), hR0⟩
    exact stepsL_nil
  case hend =>
    intro σ V hC hR
    generalize hF : fillL _ _ _ _ _ = F
    simp [fillL, dstOf, List.range, List.range.loop, Act.put] at hF
    subst hF
    obtain ⟨lb, dm, cb, hv9, hl1, hl2, hl3, hl4, hd1, hd2, hc2, hc3⟩ : Rx (.slice a n cap) W1.heap.size n (σ 9) V := hR 9 (by simp)
    rw [hv9]
    have hVs := hC.size
    replace hC := Lib.hid hC
    have hdl := cells_lt hd2
    have hkp : Kps (fun b => b < w.heap.size) W1 V := fun b o v hbb hc => (World.cell?_of_block (w := W1) (a := ⟨b, o, none⟩) (hC.out.block b (by omega))).trans hc
    have hnm := names_c (ds := ds) (a := a) (cap := cap) hl4 (by rw [hn'.out]; rfl) rfl (⟨⟨#[], 0, hd2, rfl⟩, by simp, by simp⟩ : MpS V dm []) ((hrow1.out.below hkp).mono (fun b hb => by omega)) (De.InL.mono (fun b hb => by omega) (De.InL.below hkp hin1.out))
    have hr' := hr.out
    obtain ⟨q, hq⟩ : ∃ q, namesK ds 0 [] = q := ⟨_, rfl⟩
    rw [hq] at hnm hr'
    replace hnm := Lib.hid hnm
    replace hr' := Lib.hid hr'
    replace hq := Lib.hid hq
    clear hR hr hkp
    go_wp2_with fail
    refine hnm.out.mono ?_
    rintro e V2 ⟨hsame, hbel, hP⟩
    have hbV2 := hC.out.trans (hbel W1.heap.size hd1 hVs)
    cases q with
    | error p =>
      simp only at hP
      subst hP
      have hr2 := hr'.out
      simp only at hr2
      subst hr2
      have ha6 := (hbV2.block _ (by omega)).trans ha1.out
      have hc6 := (hbV2.block _ (by omega)).trans hc1.out
      have hBw : Below w.heap.size w V2 := hb1.out.trans (hbV2.mono (by omega))
      refine leaves_cons (f := 85) (args := #[.pointer (some ⟨w.heap.size, 0, none⟩), .pointer (some ⟨w.heap.size + 1, 0, none⟩)]) (by simp) (by simp [go_sem]) ?_
      refine (catch_bad w.heap.size (w.heap.size + 1) 0 0 _ _ V2 _ _ ha6 hc6 (by omega)).mono ?_
      rintro e9 u9 w9 ⟨rfl, rfl, hcg⟩
      have hA := hcg.ca
      have hC := hcg.cb
      have hfin : Below w.heap.size w w9 := hBw.trans (hcg.below _ (Nat.le_refl _) (by omega) hBw.size)
      clear hcg ha6 hc6 hBw
      simp [Leaves, settle, results, Tryz.results44, go_sem, hA, hC, hfin, resK]
    | ok D =>
      obtain ⟨rfl, hmD⟩ := hP
      have hr2 := hr'.out
      simp only at hr2
      have hls : V2.heap[lb]? = some (.cells (lk0 (.slice a n cap) dm cb n) 127 (0, 0)) := (hsame lb (cells_lt hl4) (by omega)).trans hl4
      have hcs : V2.heap[cb]? = some (.cells (nils n) 180 (0, 0)) := (hsame cb (cells_lt hc3) (fun e => by rw [e, hd2] at hc3; cases hc3)).trans hc3
      have hkp2 : Kps (fun b => b < w.heap.size) W1 V2 := fun b o v hbb hc => (World.cell?_of_block (w := W1) (a := ⟨b, o, none⟩) (hbV2.block b (by omega))).trans hc
      obtain ⟨hD, _⟩ := names_ok hq.out
      have hA0 := first_lk (B := W1.heap.size) (D := D) hls (by rw [hn'.out]) hmD ((hrow1.out.below hkp2).mono (fun b hb => by omega)) (De.InL.mono (fun b hb => by omega) (De.InL.below hkp2 hin1.out)) (by rw [hD, List.nil_append]; exact num_lt0 ds) hcs hn256 hl1 hd1 hc2 (by omega)
      have hAl : (rows0 n).map CRow.l = ds.map fun _ => [] := by rw [← hn'.out]; exact rows0_l ds
      rw [← hAl] at hr2
      obtain ⟨q, hq2⟩ : ∃ q, bodiesK ds D ds 0 ((rows0 n).map CRow.l) = q := ⟨_, rfl⟩
      rw [hq2] at hr2
      replace hA0 := Lib.hid hA0
      replace hq2 := Lib.hid hq2
      replace hr2 := Lib.hid hr2
      have hb20 := Lib.hid hbV2
      clear hmD hD hAl hls hcs hkp2 hq hr' hnm hsame hbel hbV2 hd2 hc3 hl4 hC hrow1 hin1 hmf hdl hVs
      go_wp2_with fail
      go_loopw [20] (fun iv wr => ∃ (k : Nat) (rs : List CRow), iv = .int .i64 k ∧ k ≤ n ∧ Hid (LkA ⟨lb, a, cap, ds, dm, cb, W1.heap.size, D⟩ rs wr) ∧ Hid (Below W1.heap.size W1 wr) ∧ Hid (bodiesK ds D (ds.drop k) k (rs.map CRow.l) = q)) (fun iv _ => n - (intOf iv).toNat)
      case atStart => exact ⟨0, rows0 n, rfl, Nat.zero_le _, hA0, hb20, hq2⟩
      case round =>
        obtain ⟨k, rs, rfl, hk, hL, hbr, hqk⟩ := hrel
        clear hA0 hb20 hq2
        by_cases hlt : k < n
        · obtain ⟨d, hd⟩ : ∃ d, ds[k]? = some d := ⟨_, List.getElem?_eq_getElem (by rw [hn'.out]; exact hlt)⟩
          have hqk' := hqk.out
          rw [bodiesK_drop hd] at hqk'
          have hdc := decl_c hL.out k d hd (hokb.out d (List.mem_of_getElem? hd)).1
          have hdc : Calls Tryz.prog 89 #[.pointer (some ⟨lb, 0, none⟩), .int .i64 (k : Int)] wr (PostA ⟨lb, a, cap, ds, dm, cb, W1.heap.size, D⟩ wr (bodyK ds D k (rs.map CRow.l) d)) := hdc
          generalize bodyK ds D k (rs.map CRow.l) d = q2 at hdc hqk'
          have hi1 : (k : Int) < (n : Int) := by omega
          replace hdc := Lib.hid hdc
          replace hqk' := Lib.hid hqk'
          clear hqk hd
          go_wp2_with fail
          refine hdc.out.mono ?_
          rintro e W3 ⟨hb3, hP⟩
          have hbW3 := hbr.out.trans hb3
          cases q2 with
          | error p =>
            simp only at hP
            subst hP
            have hq3 := hqk'.out
            simp only at hq3
            subst hq3
            have hr3 := hr2.out
            simp only at hr3
            subst hr3
            have ha6 := (hbW3.block _ (by omega)).trans ha1.out
            have hc6 := (hbW3.block _ (by omega)).trans hc1.out
            have hBw : Below w.heap.size w W3 := hb1.out.trans (hbW3.mono (by omega))
            refine leaves_cons (f := 85) (args := #[.pointer (some ⟨w.heap.size, 0, none⟩), .pointer (some ⟨w.heap.size + 1, 0, none⟩)]) (by simp) (by simp [go_sem]) ?_
            refine (catch_bad w.heap.size (w.heap.size + 1) 0 0 _ _ W3 _ _ ha6 hc6 (by omega)).mono ?_
            rintro e9 u9 w9 ⟨rfl, rfl, hcg⟩
            have hA := hcg.ca
            have hC := hcg.cb
            have hfin : Below w.heap.size w w9 := hBw.trans (hcg.below _ (Nat.le_refl _) (by omega) hBw.size)
            clear hcg ha6 hc6 hBw
            simp [Leaves, settle, results, Tryz.results44, go_sem, hA, hC, hfin, resK]
          | ok p1 =>
            obtain ⟨rfl, rs2, hL2, hl2⟩ := hP
            have hq3 := hqk'.out
            simp only at hq3
            rw [← hl2] at hq3
            replace hq3 := Lib.hid hq3
            replace hL2 := Lib.hid hL2
            replace hbW3 := Lib.hid hbW3
            clear hqk' hdc hL hbr hb3 hl2
            go_wp2_with fail
            go_roundw
            case rel => exact ⟨k + 1, rs2, by go_num, by omega, hL2, hbW3, hq3⟩
            case measure => simp [intOf]; omega
        · have hge : ¬ ((k : Int) < (n : Int)) := by omega
          have hqk' := hqk.out
          rw [show k = ds.length by rw [hn'.out]; omega, List.drop_length] at hqk'
          unfold bodiesK at hqk'
          subst hqk'
          have hr3 := hr2.out
          simp only at hr3
          have hcc := circles_c hL.out
          have hcc : Calls Tryz.prog 90 #[.pointer (some ⟨lb, 0, none⟩)] wr (PostW wr (circK (rs.map CRow.l) ds 0)) := hcc
          rw [hr3] at hcc
          have hlow := Lib.hid (hbr.out.size)
          replace hcc := Lib.hid hcc
          clear hqk hr2 hlt hL hr3
          go_wp2_with fail
          refine hcc.out.mono ?_
          rintro e W3 ⟨hb3, hP⟩
          have hbW3 := hbr.out.trans (hb3.mono hlow.out)
          cases r with
          | error p =>
            simp only at hP
            subst hP
            have ha6 := (hbW3.block _ (by omega)).trans ha1.out
            have hc6 := (hbW3.block _ (by omega)).trans hc1.out
            have hBw : Below w.heap.size w W3 := hb1.out.trans (hbW3.mono (by omega))
            refine leaves_cons (f := 85) (args := #[.pointer (some ⟨w.heap.size, 0, none⟩), .pointer (some ⟨w.heap.size + 1, 0, none⟩)]) (by simp) (by simp [go_sem]) ?_
            refine (catch_bad w.heap.size (w.heap.size + 1) 0 0 _ _ W3 _ _ ha6 hc6 (by omega)).mono ?_
            rintro e9 u9 w9 ⟨rfl, rfl, hcg⟩
            have hA := hcg.ca
            have hC := hcg.cb
            have hfin : Below w.heap.size w w9 := hBw.trans (hcg.below _ (Nat.le_refl _) (by omega) hBw.size)
            clear hcg ha6 hc6 hBw
            simp [Leaves, settle, results, Tryz.results44, go_sem, hA, hC, hfin, resK]
          | ok u =>
            simp only at hP
            subst hP
            have ha6 := (hbW3.block _ (by omega)).trans ha1.out
            have hc6 := (hbW3.block _ (by omega)).trans hc1.out
            have hBw : Below w.heap.size w W3 := hb1.out.trans (hbW3.mono (by omega))
            have k0 : W3.cell? ⟨w.heap.size, 0, none⟩ = some (.int .i64 0) := blk_cell ha6 rfl
            have k1 : W3.cell? ⟨w.heap.size + 1, 0, none⟩ = some (.int .i64 0) := blk_cell hc6 rfl
            have z0 := blk_free ha6 0
            have z1 := blk_free hc6 0
            have hA : ((W3.setCell ⟨w.heap.size, 0, none⟩ (.int .i64 0)).setCell ⟨w.heap.size + 1, 0, none⟩ (.int .i64 0)).cell? ⟨w.heap.size, 0, none⟩ = some (.int .i64 0) := by
              refine blk_cell (vs := #[.int .i64 0]) (t := 3) (fr := (0, 0)) ?_ rfl
              rw [Below.heap_setCell _ _ _ _ (by show w.heap.size ≠ w.heap.size + 1; omega)]
              have := heap_set ha6 0 (.int .i64 0)
              simpa using this
            have hC : ((W3.setCell ⟨w.heap.size, 0, none⟩ (.int .i64 0)).setCell ⟨w.heap.size + 1, 0, none⟩ (.int .i64 0)).cell? ⟨w.heap.size + 1, 0, none⟩ = some (.int .i64 0) := by
              refine blk_cell (vs := #[.int .i64 0]) (t := 23) (fr := (0, 0)) ?_ rfl
              have h1 : (W3.setCell ⟨w.heap.size, 0, none⟩ (.int .i64 0)).heap[w.heap.size + 1]? = some (.cells #[.int .i64 0] 23 (0, 0)) := by
                rw [Below.heap_setCell _ _ _ _ (by show w.heap.size + 1 ≠ w.heap.size; omega)]
                exact hc6
              have := heap_set h1 0 (.int .i64 0)
              simpa using this
            have hfin : Hid (Below w.heap.size w ((W3.setCell ⟨w.heap.size, 0, none⟩ (.int .i64 0)).setCell ⟨w.heap.size + 1, 0, none⟩ (.int .i64 0))) := Lib.hid ((hBw.setCell (Nat.le_refl _) _).setCell (by show w.heap.size ≤ w.heap.size + 1; omega) _)
            replace hA := Lib.hid hA
            replace hC := Lib.hid hC
            clear ha6 hc6 hBw hb3 hcc hbW3
            go_wp2_with fail
            refine leaves_cons (f := 85) (args := #[.pointer (some ⟨w.heap.size, 0, none⟩), .pointer (some ⟨w.heap.size + 1, 0, none⟩)]) (by simp) (by simp [go_sem]) ?_
            refine (catch_idle w.heap.size (w.heap.size + 1) _).mono ?_
            rintro e u' w'' ⟨rfl, rfl, rfl⟩
            obtain ⟨Wf, hWf⟩ : ∃ W, (W3.setCell ⟨w.heap.size, 0, none⟩ (.int .i64 0)).setCell ⟨w.heap.size + 1, 0, none⟩ (.int .i64 0) = W := ⟨_, rfl⟩
            have hA := hA.out
            have hC := hC.out
            have hfin := hfin.out
            rw [hWf] at hA hC hfin
            simp only [hWf]
            clear hWf
            simp [Leaves, settle, results, Tryz.results44, go_sem, hA, hC, hfin, resK]
end Go.Proofs.YtpcdlneompnhlaaGreatDoor.Ty
