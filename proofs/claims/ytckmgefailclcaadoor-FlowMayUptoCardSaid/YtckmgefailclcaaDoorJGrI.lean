/- FlowMay answers true. Conditions: both programs of blocks lie in memory; their lists are of bounded length; the packages' tables hold their lists. -/
import Derived.Test.YtckmgefailclcaaDoorJGrE
import Derived.Test.YtckmgefailclcaaDoorJGrG
import Derived.Test.YtckmgefailclcaaDoorJGrH
set_option linter.unusedSimpArgs false
set_option linter.unusedVariables false
namespace Go.Proofs.YtckmgefailclcaaDoor.Fw
open Go Go.RowKit
open Go.Proofs.YtckmgefailclcaaDoor.Lx Go.Proofs.YtckmgefailclcaaDoor.Tr Go.Proofs.YtckmgefailclcaaDoor.Cd
open Go.Proofs.YtckmgefailclcaaDoor.Vq Go.Proofs.YtckmgefailclcaaDoor.Qr
open Go.Proofs.YtckmgefailclcaaDoor.Qg (run_call1 run_call2)

def FmC (f : Fm) (b : Nat) (V : World) : Prop := V.cell? ⟨b, 0, none⟩ = some (.slice f.ma f.mems.length f.mcap) ∧ V.cell? ⟨b, 1, none⟩ = some (.slice f.la f.locks.length f.lcap) ∧ V.cell? ⟨b, 2, none⟩ = some (.slice f.fa f.funs.length f.fcap)
theorem ld_fm {f : Fm} {b : Nat} {V : World} (h : FmC f b V) : (Instr.loadAt 30 (.pointer (some ⟨b, 0, none⟩))).run Tryd.prog V = .ok (.agg #[.slice f.ma f.mems.length f.mcap, .slice f.la f.locks.length f.lcap, .slice f.fa f.funs.length f.fcap]) V := by
  obtain ⟨h0, h1, h2⟩ := h
  simp [go_sem, h0, h1, h2]
theorem ln_grs {p : Option Addr} {n c : Nat} {w : World} : (Builtin.len_ #[28] 3 #[.slice p n c]).run Tryd.prog w = .ok (.int .i64 n) w := by go_simp
theorem run_lsb {a : Act} {o : Oper} {b : Bool} {t t2 : TypeId} {x y : Operand} {n m : Int} {w : World} (hb : decide (n < m) = b) (ho : o.op = .binOp .lss t x y t2) (hx : a.eval x = .int .i64 n) (hy : a.eval y = .int .i64 m) : (execOp a.eval o).run Tryd.prog w = .ok (.value (.bool b)) w := by
  subst hb
  unfold execOp
  rw [ho]
  simp only [hx, hy]
  simp [go_sem]
theorem run_neb {a : Act} {o : Oper} {t2 : TypeId} {x y : Operand} {b : Bool} {w : World} (ho : o.op = .binOp .neq 4 x y t2) (hx : a.eval x = .bool b) (hy : a.eval y = .bool b) : (execOp a.eval o).run Tryd.prog w = .ok (.value (.bool false)) w := by
  unfold execOp
  rw [ho]
  simp only [hx, hy]
  cases b <;> simp [go_sem, Tryd.underlying4]
theorem run_eqb1 {a : Act} {o : Oper} {t2 : TypeId} {x y : Operand} {b : Bool} {w : World} (ho : o.op = .binOp .eql 4 x y t2) (hx : a.eval x = .bool b) (hy : a.eval y = .bool b) : (execOp a.eval o).run Tryd.prog w = .ok (.value (.bool true)) w := by
  unfold execOp
  rw [ho]
  simp only [hx, hy]
  cases b <;> simp [go_sem, Tryd.underlying4]

def rla (k b1 off1 b3 off3 B : Nat) (gfa : Option Addr) (f g : Fm) (u v : Gr) : List (Value → World → Prop) :=
  [VK (.pointer (some ⟨B, 2, none⟩)), VK (.slice (some ⟨b1, off1, none⟩) f.funs.length f.fcap), VK (.int .i64 k), VK (.pointer (some ⟨b1, off1 + k * 5, none⟩)), VK (.agg #[.string u.name, .bool u.thread, .int .i64 u.params, .int .i64 u.regs, .slice u.ba u.blocks.length u.bcap]), VK (.bool (mayG u)), VK (.pointer (some ⟨B, 2, none⟩)), VK (.slice (some ⟨b1, off1, none⟩) f.funs.length f.fcap), VK (.int .i64 k), VK (.pointer (some ⟨b1, off1 + k * 5, none⟩)), VK (.agg #[.string u.name, .bool u.thread, .int .i64 u.params, .int .i64 u.regs, .slice u.ba u.blocks.length u.bcap]), VK (.bool (mayG u)), VK (.bool false), VK (.bool false), VK (.pointer (some ⟨B, 2, none⟩)), VK (.slice (some ⟨b1, off1, none⟩) f.funs.length f.fcap), VK (.int .i64 k), VK (.pointer (some ⟨b1, off1 + k * 5, none⟩)), VK (.agg #[.string u.name, .bool u.thread, .int .i64 u.params, .int .i64 u.regs, .slice u.ba u.blocks.length u.bcap]), VK (.pointer (some ⟨B, 2, none⟩)), VK (.slice (some ⟨b1, off1, none⟩) f.funs.length f.fcap), VK (.int .i64 k), VK (.pointer (some ⟨b1, off1 + k * 5, none⟩)), VK (.agg #[.string u.name, .bool u.thread, .int .i64 u.params, .int .i64 u.regs, .slice u.ba u.blocks.length u.bcap]), VK (.bool true), VK (.bool false), VK (.bool false)]
theorem rla_mono {k b1 off1 b3 off3 B : Nat} {gfa : Option Addr} {f g : Fm} {u v : Gr} : MonoL (rla k b1 off1 b3 off3 B gfa f g u v) := ⟨VK.mono, VK.mono, VK.mono, VK.mono, VK.mono, VK.mono, VK.mono, VK.mono, VK.mono, VK.mono, VK.mono, VK.mono, VK.mono, VK.mono, VK.mono, VK.mono, VK.mono, VK.mono, VK.mono, VK.mono, VK.mono, VK.mono, VK.mono, VK.mono, VK.mono, VK.mono, VK.mono, trivial⟩

def rlb (k b1 off1 b3 off3 B : Nat) (gfa : Option Addr) (f g : Fm) (u v : Gr) : List (Value → World → Prop) :=
  [VK (.int .i64 k), VK (.pointer (some ⟨B + 1, 2, none⟩)), VK (.slice (some ⟨b3, off3, none⟩) g.funs.length g.fcap), VK (.int .i64 g.funs.length), VK (.bool true), VK (.bool true), VK (.pointer (some ⟨B, 2, none⟩)), VK (.slice (some ⟨b1, off1, none⟩) f.funs.length f.fcap), VK (.int .i64 k), VK (.pointer (some ⟨b1, off1 + k * 5, none⟩)), VK (.agg #[.string u.name, .bool u.thread, .int .i64 u.params, .int .i64 u.regs, .slice u.ba u.blocks.length u.bcap]), VK (.pointer (some ⟨B + 1, 2, none⟩)), VK (.slice (some ⟨b3, off3, none⟩) g.funs.length g.fcap), VK (.int .i64 k), VK (.pointer (some ⟨b3, off3 + k * 5, none⟩)), VK (.agg #[.string v.name, .bool v.thread, .int .i64 v.params, .int .i64 v.regs, .slice v.ba v.blocks.length v.bcap]), VK (.bool (sameG u v)), VK (.pointer (some ⟨B, 2, none⟩)), VK (.slice (some ⟨b1, off1, none⟩) f.funs.length f.fcap), VK (.int .i64 k), VK (.pointer (some ⟨b1, off1 + k * 5, none⟩)), VK (.agg #[.string u.name, .bool u.thread, .int .i64 u.params, .int .i64 u.regs, .slice u.ba u.blocks.length u.bcap]), VK (.pointer (some ⟨B + 1, 2, none⟩)), VK (.slice (some ⟨b3, off3, none⟩) g.funs.length g.fcap), VK (.int .i64 k), VK (.pointer (some ⟨b3, off3 + k * 5, none⟩)), VK (.agg #[.string v.name, .bool v.thread, .int .i64 v.params, .int .i64 v.regs, .slice v.ba v.blocks.length v.bcap]), VK (.bool (sameG u v)), VK (.bool false), VK (.bool false)]
theorem rlb_mono {k b1 off1 b3 off3 B : Nat} {gfa : Option Addr} {f g : Fm} {u v : Gr} : MonoL (rlb k b1 off1 b3 off3 B gfa f g u v) := ⟨VK.mono, VK.mono, VK.mono, VK.mono, VK.mono, VK.mono, VK.mono, VK.mono, VK.mono, VK.mono, VK.mono, VK.mono, VK.mono, VK.mono, VK.mono, VK.mono, VK.mono, VK.mono, VK.mono, VK.mono, VK.mono, VK.mono, VK.mono, VK.mono, VK.mono, VK.mono, VK.mono, VK.mono, VK.mono, VK.mono, trivial⟩

def rlc (k b1 off1 b3 off3 B : Nat) (gfa : Option Addr) (f g : Fm) (u v : Gr) : List (Value → World → Prop) :=
  [VK (.int .i64 k), VK (.pointer (some ⟨B + 1, 2, none⟩)), VK (.slice gfa g.funs.length g.fcap), VK (.int .i64 g.funs.length), VK (.bool false), VK (.bool false), VK undef, VK undef, VK undef, VK undef, VK undef, VK undef, VK undef, VK undef, VK undef, VK undef, VK undef, VK undef, VK undef, VK undef, VK undef, VK undef, VK undef, VK undef, VK undef, VK undef, VK undef, VK undef, VK undef, VK (.bool false)]
theorem rlc_mono {k b1 off1 b3 off3 B : Nat} {gfa : Option Addr} {f g : Fm} {u v : Gr} : MonoL (rlc k b1 off1 b3 off3 B gfa f g u v) := ⟨VK.mono, VK.mono, VK.mono, VK.mono, VK.mono, VK.mono, VK.mono, VK.mono, VK.mono, VK.mono, VK.mono, VK.mono, VK.mono, VK.mono, VK.mono, VK.mono, VK.mono, VK.mono, VK.mono, VK.mono, VK.mono, VK.mono, VK.mono, VK.mono, VK.mono, VK.mono, VK.mono, VK.mono, VK.mono, VK.mono, trivial⟩

def rld (k b1 off1 b3 off3 B : Nat) (gfa : Option Addr) (f g : Fm) (u v : Gr) : List (Value → World → Prop) :=
  [VK (.agg #[.slice f.ma f.mems.length f.mcap, .slice f.la f.locks.length f.lcap, .slice f.fa f.funs.length f.fcap]), VK (.bool (mayFm f)), VK (.agg #[.slice f.ma f.mems.length f.mcap, .slice f.la f.locks.length f.lcap, .slice f.fa f.funs.length f.fcap]), VK (.bool (mayFm f)), VK (.bool true), VK (.bool true), VK (.agg #[.slice f.ma f.mems.length f.mcap, .slice f.la f.locks.length f.lcap, .slice f.fa f.funs.length f.fcap]), VK (.agg #[.slice g.ma g.mems.length g.mcap, .slice g.la g.locks.length g.lcap, .slice g.fa g.funs.length g.fcap]), VK (.bool (sameFm f g)), VK (.agg #[.slice f.ma f.mems.length f.mcap, .slice f.la f.locks.length f.lcap, .slice f.fa f.funs.length f.fcap]), VK (.agg #[.slice g.ma g.mems.length g.mcap, .slice g.la g.locks.length g.lcap, .slice g.fa g.funs.length g.fcap]), VK (.bool (sameFm f g)), VK (.bool true), VK (.bool true), VK (.bool true)]
theorem rld_mono {k b1 off1 b3 off3 B : Nat} {gfa : Option Addr} {f g : Fm} {u v : Gr} : MonoL (rld k b1 off1 b3 off3 B gfa f g u v) := ⟨VK.mono, VK.mono, VK.mono, VK.mono, VK.mono, VK.mono, VK.mono, VK.mono, VK.mono, VK.mono, VK.mono, VK.mono, VK.mono, VK.mono, VK.mono, trivial⟩

set_option maxHeartbeats 16000000 in
set_option maxRecDepth 100000 in
theorem flowMay_law (f g : Fm) (w : World) (hf : Fm.In w f) (hg : Fm.In w g) (hsf : Fsm f) (hsg0 : Fsm g) (hT : OpTab w) (hsg : SignsIn w) :
    Calls Tryd.prog 4 #[.agg ⟨f.vals⟩, .agg ⟨g.vals⟩] w fun e w' => e = .returned (.bool true) ∧ Below w.heap.size w w' := by
  obtain ⟨ci1, ci2⟩ := len_i hf.frow
  obtain ⟨ck1, ck2⟩ := len_i hg.frow
  have hsm1 := hsf.sum
  have hsm2 := hsg0.sum
  have hRf := Lib.hid (fun V (hv : Below w.heap.size w V) => (hf.keep hv).frow)
  have hRg := Lib.hid (fun V (hv : Below w.heap.size w V) => (hg.keep hv).frow)
  have hXf := Lib.hid (fun (x : Gr) V (hx : x ∈ f.funs) (hv : Below w.heap.size w V) => (hf.keep hv).funs x hx)
  have hXg := Lib.hid (fun (x : Gr) V (hx : x ∈ g.funs) (hv : Below w.heap.size w V) => (hg.keep hv).funs x hx)
  have hLg := Lib.hid (fun (x : Gr) V (hx : Gr.In V x) => large_c x V hx)
  have hYf : Hid (∀ (x : Gr) V, x ∈ f.funs → Below w.heap.size w V → Calls Tryd.prog 11 #[.agg #[.string x.name, .bool x.thread, .int .i64 x.params, .int .i64 x.regs, .slice x.ba x.blocks.length x.bcap]] V fun e w' => e = .returned (.bool (mayG x)) ∧ Below V.heap.size V w') := Lib.hid (fun x V hx hv => may_c x V ((hf.keep hv).funs x hx) (hT.keep hv) (hsf.args x hx))
  have hYr : Hid (∀ (x : Gr) V, x ∈ f.funs → Below w.heap.size w V → Calls Tryd.prog 12 #[.agg #[.string x.name, .bool x.thread, .int .i64 x.params, .int .i64 x.regs, .slice x.ba x.blocks.length x.bcap]] V fun e w' => e = .returned (.bool (mayG x)) ∧ Below V.heap.size V w') := Lib.hid (fun x V hx hv => rmay_c x V ((hf.keep hv).funs x hx) (hsf.args x hx))
  have hSs : Hid (∀ (x : Gr) V, x ∈ f.funs → Below w.heap.size w V → Calls Tryd.prog 13 #[.agg #[.string x.name, .bool x.thread, .int .i64 x.params, .int .i64 x.regs, .slice x.ba x.blocks.length x.bcap], .agg #[.string x.name, .bool x.thread, .int .i64 x.params, .int .i64 x.regs, .slice x.ba x.blocks.length x.bcap]] V fun e w' => e = .returned (.bool true) ∧ Below V.heap.size V w') := Lib.hid (fun x V hx hv => by
    have h := sameGraph_any x x V ((hf.keep hv).funs x hx) ((hf.keep hv).funs x hx)
    rw [sameG_refl] at h
    exact h)
  have hSf : Hid (∀ (x y : Gr) V, x ∈ f.funs → y ∈ g.funs → Below w.heap.size w V → Calls Tryd.prog 13 #[.agg #[.string x.name, .bool x.thread, .int .i64 x.params, .int .i64 x.regs, .slice x.ba x.blocks.length x.bcap], .agg #[.string y.name, .bool y.thread, .int .i64 y.params, .int .i64 y.regs, .slice y.ba y.blocks.length y.bcap]] V fun e w' => e = .returned (.bool (sameG x y)) ∧ Below V.heap.size V w') := Lib.hid (fun x y V hx hy hv => sameGraph_any x y V ((hf.keep hv).funs x hx) ((hg.keep hv).funs y hy))
  have hSr : Hid (∀ (x y : Gr) V, x ∈ f.funs → y ∈ g.funs → Below w.heap.size w V → Calls Tryd.prog 14 #[.agg #[.string x.name, .bool x.thread, .int .i64 x.params, .int .i64 x.regs, .slice x.ba x.blocks.length x.bcap], .agg #[.string y.name, .bool y.thread, .int .i64 y.params, .int .i64 y.regs, .slice y.ba y.blocks.length y.bcap]] V fun e w' => e = .returned (.bool (sameG x y)) ∧ Below V.heap.size V w') := Lib.hid (fun x y V hx hy hv => rsameGraph_c x y V ((hf.keep hv).funs x hx) ((hg.keep hv).funs y hy))
  have hMf : Hid (∀ V, Below w.heap.size w V → Calls Tryd.prog 15 #[.agg #[.slice f.ma f.mems.length f.mcap, .slice f.la f.locks.length f.lcap, .slice f.fa f.funs.length f.fcap]] V fun e w' => e = .returned (.bool (mayFm f)) ∧ Below V.heap.size V w') := Lib.hid (fun V hv => mayForm_c f V (hf.keep hv) (hT.keep hv) (hsg.below hsg.lt hv) hsf)
  have hMr : Hid (∀ V, Below w.heap.size w V → Calls Tryd.prog 16 #[.agg #[.slice f.ma f.mems.length f.mcap, .slice f.la f.locks.length f.lcap, .slice f.fa f.funs.length f.fcap]] V fun e w' => e = .returned (.bool (mayFm f)) ∧ Below V.heap.size V w') := Lib.hid (fun V hv => rmayForm_c f V (hf.keep hv) hsf)
  have hEf : Hid (∀ V, Below w.heap.size w V → Calls Tryd.prog 17 #[.agg #[.slice f.ma f.mems.length f.mcap, .slice f.la f.locks.length f.lcap, .slice f.fa f.funs.length f.fcap], .agg #[.slice g.ma g.mems.length g.mcap, .slice g.la g.locks.length g.lcap, .slice g.fa g.funs.length g.fcap]] V fun e w' => e = .returned (.bool (sameFm f g)) ∧ Below V.heap.size V w') := Lib.hid (fun V hv => sameFm_any f g V (hf.keep hv) (hg.keep hv))
  have hEr : Hid (∀ V, Below w.heap.size w V → Calls Tryd.prog 9 #[.agg #[.slice f.ma f.mems.length f.mcap, .slice f.la f.locks.length f.lcap, .slice f.fa f.funs.length f.fcap], .agg #[.slice g.ma g.mems.length g.mcap, .slice g.la g.locks.length g.lcap, .slice g.fa g.funs.length g.fcap]] V fun e w' => e = .returned (.bool (sameFm f g)) ∧ Below V.heap.size V w') := Lib.hid (fun V hv => rsame1_c f g V (hf.keep hv) (hg.keep hv))
  have hst := Lib.hid (b_alloc2 w (.cells #[.slice f.ma f.mems.length f.mcap, .slice f.la f.locks.length f.lcap, .slice f.fa f.funs.length f.fcap] 30) (.cells #[.slice g.ma g.mems.length g.mcap, .slice g.la g.locks.length g.lcap, .slice g.fa g.funs.length g.fcap] 30))
  have hgc : Hid (FmC f w.heap.size ((w.alloc (.cells #[.slice f.ma f.mems.length f.mcap, .slice f.la f.locks.length f.lcap, .slice f.fa f.funs.length f.fcap] 30)).alloc (.cells #[.slice g.ma g.mems.length g.mcap, .slice g.la g.locks.length g.lcap, .slice g.fa g.funs.length g.fcap] 30)) ∧ FmC g (w.heap.size + 1) ((w.alloc (.cells #[.slice f.ma f.mems.length f.mcap, .slice f.la f.locks.length f.lcap, .slice f.fa f.funs.length f.fcap] 30)).alloc (.cells #[.slice g.ma g.mems.length g.mcap, .slice g.la g.locks.length g.lcap, .slice g.fa g.funs.length g.fcap] 30))) := Lib.hid (by
    obtain ⟨a0, a1, a2⟩ := box3 w f
    have hb := blk_new (w.alloc (.cells #[.slice f.ma f.mems.length f.mcap, .slice f.la f.locks.length f.lcap, .slice f.fa f.funs.length f.fcap] 30)) (.cells #[.slice g.ma g.mems.length g.mcap, .slice g.la g.locks.length g.lcap, .slice g.fa g.funs.length g.fcap] 30) (b := w.heap.size + 1) (by simp)
    exact ⟨⟨below_in (b_alloc _ _) a0, below_in (b_alloc _ _) a1, below_in (b_alloc _ _) a2⟩, blk_cell hb rfl, blk_cell hb rfl, blk_cell hb rfl⟩)
  clear hf hg hsf hsg0 hT hsg
  have hv1 : Value.agg ⟨f.vals⟩ = .agg #[.slice f.ma f.mems.length f.mcap, .slice f.la f.locks.length f.lcap, .slice f.fa f.funs.length f.fcap] := rfl
  have hv2 : Value.agg ⟨g.vals⟩ = .agg #[.slice g.ma g.mems.length g.mcap, .slice g.la g.locks.length g.lcap, .slice g.fa g.funs.length g.fcap] := rfl
  rw [hv1, hv2]
  clear hv1 hv2
  by_cases hA : 20 < (f.funs.length : Int) + (g.funs.length : Int)
  · go_enter Tryd.func4, Tryd.ntmps4
    go_wp2_with fail
    go_ret
    exact ⟨rfl, hst.out⟩
  · by_cases hB : 300 < (f.mems.length : Int) + (f.locks.length : Int) + (g.mems.length : Int) + (g.locks.length : Int)
    · go_enter Tryd.func4, Tryd.ntmps4
      go_wp2_with fail
      go_ret
      exact ⟨rfl, hst.out⟩
    · go_enter Tryd.func4, Tryd.ntmps4
      go_upto_region 3 with fail
      generalize hW0 : (w.alloc (.cells #[.slice f.ma f.mems.length f.mcap, .slice f.la f.locks.length f.lcap, .slice f.fa f.funs.length f.fcap] 30)).alloc (.cells #[.slice g.ma g.mems.length g.mcap, .slice g.la g.locks.length g.lcap, .slice g.fa g.funs.length g.fcap] 30) = W0 at *
      have hgb : Hid (∀ V, Below W0.heap.size W0 V → FmC f w.heap.size V ∧ FmC g (w.heap.size + 1) V) := Lib.hid (fun V hv => by
        obtain ⟨⟨a0, a1, a2⟩, a3, a4, a5⟩ := hgc.out
        exact ⟨⟨below_in hv a0, below_in hv a1, below_in hv a2⟩, below_in hv a3, below_in hv a4, below_in hv a5⟩)
      clear hW0 hgc
      have q0 := (hgb.out W0 (Below.refl _ _)).1.2.2
      go_wp2_with fail
      go_loopw [5] (fun i wr => ∃ k : Nat, k ≤ f.funs.length ∧ i = .int .i64 k ∧ Hid (Below W0.heap.size W0 wr)) (fun i _ => f.funs.length - (intOf i).toNat)
      case atStart => exact ⟨0, Nat.zero_le _, rfl, Lib.hid (Below.refl _ _)⟩
      case round =>
        obtain ⟨k, hk, rfl, hb⟩ := hrel
        have g1 := Lib.hid (hst.out.trans (hb.out.mono hst.out.size))
        have qx := (hgb.out wr hb.out).1.2.2
        by_cases hlt : k < f.funs.length
        · obtain ⟨u, hu⟩ : ∃ x, f.funs[k]? = some x := ⟨_, List.getElem?_eq_getElem hlt⟩
          obtain ⟨b, off, ha, _, c0, c1, c2, c3, c4⟩ := gr_row (hRf.out wr g1.out) k u hu
          rw [ha] at qx
          have hk1 : (k : Int) < (f.funs.length : Int) := by omega
          have hl := Lib.hid (hLg.out u wr (hXf.out u wr (List.mem_of_getElem? hu) g1.out))
          clear hu ha
          go_wp2_with fail
          refine hl.out.mono ?_
          rintro e w2 ⟨⟨bb, rfl⟩, hb2⟩
          have g2 := Lib.hid (hb.out.trans (hb2.mono hb.out.size))
          have g3 := Lib.hid (g1.out.trans (hb2.mono g1.out.size))
          clear hb2 hl
          cases bb
          · go_wp2_with fail
            go_roundw
            case rel => exact ⟨k + 1, by omega, by go_num, g2⟩
            case measure => simp [intOf]; omega
          · go_wp2_with fail
            go_ret
            exact ⟨rfl, g3.out⟩
        · have hk1 : ¬ (k : Int) < (f.funs.length : Int) := by omega
          clear hlt hk
          go_wp2_with fail
          go_loopw [6] (fun i wr => ∃ k : Nat, k ≤ g.funs.length ∧ i = .int .i64 k ∧ Hid (Below W0.heap.size W0 wr)) (fun i _ => g.funs.length - (intOf i).toNat)
          case atStart => exact ⟨0, Nat.zero_le _, rfl, hb⟩
          case round =>
            clear g1 qx hk1
            obtain ⟨k, hk, rfl, hb⟩ := hrel
            have g1 := Lib.hid (hst.out.trans (hb.out.mono hst.out.size))
            have qx := (hgb.out wr hb.out).2.2.2
            by_cases hlt : k < g.funs.length
            · obtain ⟨u, hu⟩ : ∃ x, g.funs[k]? = some x := ⟨_, List.getElem?_eq_getElem hlt⟩
              obtain ⟨b, off, ha, _, c0, c1, c2, c3, c4⟩ := gr_row (hRg.out wr g1.out) k u hu
              rw [ha] at qx
              have hk1 : (k : Int) < (g.funs.length : Int) := by omega
              have hl := Lib.hid (hLg.out u wr (hXg.out u wr (List.mem_of_getElem? hu) g1.out))
              clear hu ha
              go_wp2_with fail
              refine hl.out.mono ?_
              rintro e w2 ⟨⟨bb, rfl⟩, hb2⟩
              have g2 := Lib.hid (hb.out.trans (hb2.mono hb.out.size))
              have g3 := Lib.hid (g1.out.trans (hb2.mono g1.out.size))
              clear hb2 hl
              cases bb
              · go_wp2_with fail
                go_roundw
                case rel => exact ⟨k + 1, by omega, by go_num, g2⟩
                case measure => simp [intOf]; omega
              · go_wp2_with fail
                go_ret
                exact ⟨rfl, g3.out⟩
            · have hk1 : ¬ (k : Int) < (g.funs.length : Int) := by omega
              clear hlt hk
              go_wp2_with fail
              go_loopw [7] (fun i wr => ∃ k : Nat, k ≤ f.funs.length ∧ i = .int .i64 k ∧ Hid (Below W0.heap.size W0 wr)) (fun i _ => f.funs.length - (intOf i).toNat)
              case atStart => exact ⟨0, Nat.zero_le _, rfl, hb⟩
              case round =>
                clear g1 qx hk1
                obtain ⟨k, hk, rfl, hb⟩ := hrel
                have g1 := Lib.hid (hst.out.trans (hb.out.mono hst.out.size))
                have qx := (hgb.out wr hb.out).1.2.2
                by_cases hlt : k < f.funs.length
                · obtain ⟨u, hu⟩ : ∃ x, f.funs[k]? = some x := ⟨_, List.getElem?_eq_getElem hlt⟩
                  obtain ⟨b, off, ha, _, c0, c1, c2, c3, c4⟩ := gr_row (hRf.out wr g1.out) k u hu
                  have hfa := Lib.hid ha
                  rw [ha] at qx
                  have hj1 : (k : Int) < (f.funs.length : Int) := by omega
                  have hum := Lib.hid (List.mem_of_getElem? hu)
                  have hgu : GrC u b (off + k * 5) wr := ⟨c0, c1, c2, c3, c4⟩
                  have hK : Hid (∀ V, Below wr.heap.size wr V → V.cell? ⟨w.heap.size, 2, none⟩ = some (.slice (some ⟨b, off, none⟩) f.funs.length f.fcap) ∧ True ∧ GrC u b (off + k * 5) V ∧ True) := Lib.hid (fun V hv =>
                    ⟨below_in hv qx, trivial, ⟨below_in hv c0, below_in hv c1, below_in hv c2, below_in hv c3, below_in hv c4⟩, trivial⟩)
                  have hM1 := Lib.hid (fun V (hx : Below wr.heap.size wr V) => hYf.out u V hum.out (g1.out.trans (hx.mono g1.out.size)))
                  have hM2 := Lib.hid (fun V (hx : Below wr.heap.size wr V) => hYr.out u V hum.out (g1.out.trans (hx.mono g1.out.size)))
                  have hS1 := Lib.hid (fun V (hx : Below wr.heap.size wr V) => hSs.out u V hum.out (g1.out.trans (hx.mono g1.out.size)))
                  clear hu ha c0 c1 c2 c3 c4
                  go_upto_region 16 with fail
                  refine wp_region_rel (C := fun V => Below wr.heap.size wr V) (E := Ext) (R := fun i => (rla k b off 0 0 w.heap.size g.fa f g u u).getD i VT) (by kernel_rfl) ((Below.refl _ _).drew) (by kernel_rfl) (fun i v w' w'' _ hE h => mono_get _ i rla_mono v w' w'' hE h) (steps_all ?hsa) ?henda
                  case hsa =>
                    refine stepsL_cons (s_val fun a w5 hC hs => ?_) ?_
                    · skip
                      have hvx := old_of hs 2 (by kernel_rfl) (by rfl)
                      exact ⟨wanted_none rfl, _, run_fa rfl (ev hvx) fl_f2, rfl⟩
                    refine stepsL_cons (s_val fun a w5 hC hs => ?_) ?_
                    · skip
                      obtain ⟨vx, hvx, hRx⟩ := got_of hs 0 67 (by kernel_rfl) (by rfl)
                      replace hRx : vx = _ := hRx
                      subst hRx
                      exact ⟨wanted_none rfl, _, run_ld rfl (ev hvx) (ld_grs (hK.out w5 hC).1), rfl⟩
                    refine stepsL_cons (s_val fun a w5 hC hs => ?_) ?_
                    · skip
                      have hvx := old_of hs 7 (by kernel_rfl) (by rfl)
                      exact ⟨wanted_none rfl, _, run_mv (.inl rfl) (ev hvx), rfl⟩
                    refine stepsL_cons (s_val fun a w5 hC hs => ?_) ?_
                    · skip
                      obtain ⟨vx, hvx, hRx⟩ := got_of hs 1 68 (by kernel_rfl) (by rfl)
                      replace hRx : vx = _ := hRx
                      subst hRx
                      obtain ⟨vy, hvy, hRy⟩ := got_of hs 2 69 (by kernel_rfl) (by rfl)
                      replace hRy : vy = _ := hRy
                      subst hRy
                      exact ⟨wanted_none rfl, _, run_ix rfl (ev hvx) (ev hvy) (ix_gr hj1), rfl⟩
                    refine stepsL_cons (s_val fun a w5 hC hs => ?_) ?_
                    · skip
                      obtain ⟨vx, hvx, hRx⟩ := got_of hs 3 70 (by kernel_rfl) (by rfl)
                      replace hRx : vx = _ := hRx
                      subst hRx
                      exact ⟨wanted_none rfl, _, run_ld rfl (ev hvx) (ld_gr1 (hK.out w5 hC).2.2.1), rfl⟩
                    refine stepsL_cons (s_call fun a w5 hC hs => ?_) ?_
                    · skip
                      obtain ⟨vx, hvx, hRx⟩ := got_of hs 4 71 (by kernel_rfl) (by rfl)
                      replace hRx : vx = _ := hRx
                      subst hRx
                      exact ⟨wanted_none rfl, 11, _, run_call1 rfl (ev hvx) (fun _ _ => rfl), (hM1.out w5 hC).mono (fun e w' ⟨he, hb⟩ => ⟨_, he, hC.trans (hb.mono hC.size), hb, rfl⟩)⟩
                    refine stepsL_cons (s_val fun a w5 hC hs => ?_) ?_
                    · skip
                      have hvx := old_of hs 2 (by kernel_rfl) (by rfl)
                      exact ⟨wanted_none rfl, _, run_fa rfl (ev hvx) fl_f2, rfl⟩
                    refine stepsL_cons (s_val fun a w5 hC hs => ?_) ?_
                    · skip
                      obtain ⟨vx, hvx, hRx⟩ := got_of hs 6 73 (by kernel_rfl) (by rfl)
                      replace hRx : vx = _ := hRx
                      subst hRx
                      exact ⟨wanted_none rfl, _, run_ld rfl (ev hvx) (ld_grs (hK.out w5 hC).1), rfl⟩
                    refine stepsL_cons (s_val fun a w5 hC hs => ?_) ?_
                    · skip
                      have hvx := old_of hs 7 (by kernel_rfl) (by rfl)
                      exact ⟨wanted_none rfl, _, run_mv (.inl rfl) (ev hvx), rfl⟩
                    refine stepsL_cons (s_val fun a w5 hC hs => ?_) ?_
                    · skip
                      obtain ⟨vx, hvx, hRx⟩ := got_of hs 7 74 (by kernel_rfl) (by rfl)
                      replace hRx : vx = _ := hRx
                      subst hRx
                      obtain ⟨vy, hvy, hRy⟩ := got_of hs 8 75 (by kernel_rfl) (by rfl)
                      replace hRy : vy = _ := hRy
                      subst hRy
                      exact ⟨wanted_none rfl, _, run_ix rfl (ev hvx) (ev hvy) (ix_gr hj1), rfl⟩
                    refine stepsL_cons (s_val fun a w5 hC hs => ?_) ?_
                    · skip
                      obtain ⟨vx, hvx, hRx⟩ := got_of hs 9 76 (by kernel_rfl) (by rfl)
                      replace hRx : vx = _ := hRx
                      subst hRx
                      exact ⟨wanted_none rfl, _, run_ld rfl (ev hvx) (ld_gr1 (hK.out w5 hC).2.2.1), rfl⟩
                    refine stepsL_cons (s_call fun a w5 hC hs => ?_) ?_
                    · skip
                      obtain ⟨vx, hvx, hRx⟩ := got_of hs 10 77 (by kernel_rfl) (by rfl)
                      replace hRx : vx = _ := hRx
                      subst hRx
                      exact ⟨wanted_none rfl, 12, _, run_call1 rfl (ev hvx) (fun _ _ => rfl), (hM2.out w5 hC).mono (fun e w' ⟨he, hb⟩ => ⟨_, he, hC.trans (hb.mono hC.size), hb, rfl⟩)⟩
                    refine stepsL_cons (s_val fun a w5 hC hs => ?_) ?_
                    · skip
                      obtain ⟨vx, hvx, hRx⟩ := got_of hs 5 72 (by kernel_rfl) (by rfl)
                      replace hRx : vx = _ := hRx
                      subst hRx
                      obtain ⟨vy, hvy, hRy⟩ := got_of hs 11 78 (by kernel_rfl) (by rfl)
                      replace hRy : vy = _ := hRy
                      subst hRy
                      exact ⟨wanted_none rfl, _, run_neb rfl (ev hvx) (ev hvy), rfl⟩
                    refine stepsL_cons (s_val fun a w5 hC hs => ?_) ?_
                    · skip
                      obtain ⟨vx, hvx, hRx⟩ := got_of hs 12 79 (by kernel_rfl) (by rfl)
                      replace hRx : vx = _ := hRx
                      subst hRx
                      exact ⟨wanted_none rfl, _, run_mv (.inl rfl) (ev hvx), rfl⟩
                    refine stepsL_cons (s_val fun a w5 hC hs => ?_) ?_
                    · skip
                      obtain ⟨vg, hvg, hRg⟩ := got_of hs 13 80 (by kernel_rfl) (by rfl)
                      replace hRg : vg = _ := hRg
                      subst hRg
                      have hvx := old_of hs 2 (by kernel_rfl) (by rfl)
                      exact ⟨wanted_is (j := 13) (d := 80) (b := false) (by rfl) (by rfl) hvg, _, run_fa rfl (ev hvx) fl_f2, rfl⟩
                    refine stepsL_cons (s_val fun a w5 hC hs => ?_) ?_
                    · skip
                      obtain ⟨vg, hvg, hRg⟩ := got_of hs 13 80 (by kernel_rfl) (by rfl)
                      replace hRg : vg = _ := hRg
                      subst hRg
                      obtain ⟨vx, hvx, hRx⟩ := got_of hs 14 81 (by kernel_rfl) (by rfl)
                      replace hRx : vx = _ := hRx
                      subst hRx
                      exact ⟨wanted_is (j := 13) (d := 80) (b := false) (by rfl) (by rfl) hvg, _, run_ld rfl (ev hvx) (ld_grs (hK.out w5 hC).1), rfl⟩
                    refine stepsL_cons (s_val fun a w5 hC hs => ?_) ?_
                    · skip
                      obtain ⟨vg, hvg, hRg⟩ := got_of hs 13 80 (by kernel_rfl) (by rfl)
                      replace hRg : vg = _ := hRg
                      subst hRg
                      have hvx := old_of hs 7 (by kernel_rfl) (by rfl)
                      exact ⟨wanted_is (j := 13) (d := 80) (b := false) (by rfl) (by rfl) hvg, _, run_mv (.inl rfl) (ev hvx), rfl⟩
                    refine stepsL_cons (s_val fun a w5 hC hs => ?_) ?_
                    · skip
                      obtain ⟨vg, hvg, hRg⟩ := got_of hs 13 80 (by kernel_rfl) (by rfl)
                      replace hRg : vg = _ := hRg
                      subst hRg
                      obtain ⟨vx, hvx, hRx⟩ := got_of hs 15 82 (by kernel_rfl) (by rfl)
                      replace hRx : vx = _ := hRx
                      subst hRx
                      obtain ⟨vy, hvy, hRy⟩ := got_of hs 16 83 (by kernel_rfl) (by rfl)
                      replace hRy : vy = _ := hRy
                      subst hRy
                      exact ⟨wanted_is (j := 13) (d := 80) (b := false) (by rfl) (by rfl) hvg, _, run_ix rfl (ev hvx) (ev hvy) (ix_gr hj1), rfl⟩
                    refine stepsL_cons (s_val fun a w5 hC hs => ?_) ?_
                    · skip
                      obtain ⟨vg, hvg, hRg⟩ := got_of hs 13 80 (by kernel_rfl) (by rfl)
                      replace hRg : vg = _ := hRg
                      subst hRg
                      obtain ⟨vx, hvx, hRx⟩ := got_of hs 17 84 (by kernel_rfl) (by rfl)
                      replace hRx : vx = _ := hRx
                      subst hRx
                      exact ⟨wanted_is (j := 13) (d := 80) (b := false) (by rfl) (by rfl) hvg, _, run_ld rfl (ev hvx) (ld_gr1 (hK.out w5 hC).2.2.1), rfl⟩
                    refine stepsL_cons (s_val fun a w5 hC hs => ?_) ?_
                    · skip
                      obtain ⟨vg, hvg, hRg⟩ := got_of hs 13 80 (by kernel_rfl) (by rfl)
                      replace hRg : vg = _ := hRg
                      subst hRg
                      have hvx := old_of hs 2 (by kernel_rfl) (by rfl)
                      exact ⟨wanted_is (j := 13) (d := 80) (b := false) (by rfl) (by rfl) hvg, _, run_fa rfl (ev hvx) fl_f2, rfl⟩
                    refine stepsL_cons (s_val fun a w5 hC hs => ?_) ?_
                    · skip
                      obtain ⟨vg, hvg, hRg⟩ := got_of hs 13 80 (by kernel_rfl) (by rfl)
                      replace hRg : vg = _ := hRg
                      subst hRg
                      obtain ⟨vx, hvx, hRx⟩ := got_of hs 19 86 (by kernel_rfl) (by rfl)
                      replace hRx : vx = _ := hRx
                      subst hRx
                      exact ⟨wanted_is (j := 13) (d := 80) (b := false) (by rfl) (by rfl) hvg, _, run_ld rfl (ev hvx) (ld_grs (hK.out w5 hC).1), rfl⟩
                    refine stepsL_cons (s_val fun a w5 hC hs => ?_) ?_
                    · skip
                      obtain ⟨vg, hvg, hRg⟩ := got_of hs 13 80 (by kernel_rfl) (by rfl)
                      replace hRg : vg = _ := hRg
                      subst hRg
                      have hvx := old_of hs 7 (by kernel_rfl) (by rfl)
                      exact ⟨wanted_is (j := 13) (d := 80) (b := false) (by rfl) (by rfl) hvg, _, run_mv (.inl rfl) (ev hvx), rfl⟩
                    refine stepsL_cons (s_val fun a w5 hC hs => ?_) ?_
                    · skip
                      obtain ⟨vg, hvg, hRg⟩ := got_of hs 13 80 (by kernel_rfl) (by rfl)
                      replace hRg : vg = _ := hRg
                      subst hRg
                      obtain ⟨vx, hvx, hRx⟩ := got_of hs 20 87 (by kernel_rfl) (by rfl)
                      replace hRx : vx = _ := hRx
                      subst hRx
                      obtain ⟨vy, hvy, hRy⟩ := got_of hs 21 88 (by kernel_rfl) (by rfl)
                      replace hRy : vy = _ := hRy
                      subst hRy
                      exact ⟨wanted_is (j := 13) (d := 80) (b := false) (by rfl) (by rfl) hvg, _, run_ix rfl (ev hvx) (ev hvy) (ix_gr hj1), rfl⟩
                    refine stepsL_cons (s_val fun a w5 hC hs => ?_) ?_
                    · skip
                      obtain ⟨vg, hvg, hRg⟩ := got_of hs 13 80 (by kernel_rfl) (by rfl)
                      replace hRg : vg = _ := hRg
                      subst hRg
                      obtain ⟨vx, hvx, hRx⟩ := got_of hs 22 89 (by kernel_rfl) (by rfl)
                      replace hRx : vx = _ := hRx
                      subst hRx
                      exact ⟨wanted_is (j := 13) (d := 80) (b := false) (by rfl) (by rfl) hvg, _, run_ld rfl (ev hvx) (ld_gr1 (hK.out w5 hC).2.2.1), rfl⟩
                    refine stepsL_cons (s_call fun a w5 hC hs => ?_) ?_
                    · skip
                      obtain ⟨vg, hvg, hRg⟩ := got_of hs 13 80 (by kernel_rfl) (by rfl)
                      replace hRg : vg = _ := hRg
                      subst hRg
                      obtain ⟨vx, hvx, hRx⟩ := got_of hs 18 85 (by kernel_rfl) (by rfl)
                      replace hRx : vx = _ := hRx
                      subst hRx
                      obtain ⟨vy, hvy, hRy⟩ := got_of hs 23 90 (by kernel_rfl) (by rfl)
                      replace hRy : vy = _ := hRy
                      subst hRy
                      exact ⟨wanted_is (j := 13) (d := 80) (b := false) (by rfl) (by rfl) hvg, 13, _, run_call2 rfl (ev hvx) (ev hvy) (fun _ _ => rfl), (hS1.out w5 hC).mono (fun e w' ⟨he, hb⟩ => ⟨_, he, hC.trans (hb.mono hC.size), hb, rfl⟩)⟩
                    refine stepsL_cons (s_val fun a w5 hC hs => ?_) ?_
                    · skip
                      obtain ⟨vg, hvg, hRg⟩ := got_of hs 13 80 (by kernel_rfl) (by rfl)
                      replace hRg : vg = _ := hRg
                      subst hRg
                      obtain ⟨vx, hvx, hRx⟩ := got_of hs 24 91 (by kernel_rfl) (by rfl)
                      replace hRx : vx = _ := hRx
                      subst hRx
                      exact ⟨wanted_is (j := 13) (d := 80) (b := false) (by rfl) (by rfl) hvg, _, run_notB rfl (ev hvx), rfl⟩
                    refine stepsL_cons (s_val fun a w5 hC hs => ?_) ?_
                    · skip
                      obtain ⟨vc, hvc, hRc⟩ := got_of hs 13 80 (by kernel_rfl) (by rfl)
                      replace hRc : vc = _ := hRc
                      subst hRc
                      obtain ⟨vy, hvy, hRy⟩ := got_of hs 25 92 (by kernel_rfl) (by rfl)
                      replace hRy : vy = _ := hRy
                      subst hRy
                      exact ⟨wanted_none rfl, _, run_pk (b := false) rfl (ev hvc) (by simp only [if_true, if_false, Bool.false_eq_true]; exact (ev hvy)), rfl⟩
                    exact stepsL_nil
                  case henda =>
                    intro σ V4 hCV4 hRV4
                    generalize hF : fillL _ _ _ _ _ = F
                    simp [fillL, dstOf, List.range, List.range.loop, Act.put] at hF
                    subst hF
                    have hl : σ 26 = .bool false := hRV4 26 (by simp)
                    rw [hl]
                    clear hRV4 hl hK
                    by_cases hkg : k < g.funs.length
                    · have hlt2 : decide ((k : Int) < (g.funs.length : Int)) = true := by simp; omega
                      obtain ⟨v, hv⟩ : ∃ y, g.funs[k]? = some y := ⟨_, List.getElem?_eq_getElem hkg⟩
                      have gV := g1.out.trans (hCV4.mono g1.out.size)
                      obtain ⟨b3, off3, ha', _, e0, e1, e2, e3, e4⟩ := gr_row (hRg.out V4 gV) k v hv
                      have hvm := List.mem_of_getElem? hv
                      have hj2 : (k : Int) < (g.funs.length : Int) := by omega
                      have q3' := (hgb.out V4 (hb.out.trans (hCV4.mono hb.out.size))).2.2.2
                      have q2' := (hgb.out V4 (hb.out.trans (hCV4.mono hb.out.size))).1.2.2
                      obtain ⟨t0, t1, t2, t3, t4⟩ := hgu
                      have hK : Hid (∀ V, Below V4.heap.size V4 V → V.cell? ⟨w.heap.size, 2, none⟩ = some (.slice (some ⟨b, off, none⟩) f.funs.length f.fcap) ∧ V.cell? ⟨w.heap.size + 1, 2, none⟩ = some (.slice (some ⟨b3, off3, none⟩) g.funs.length g.fcap) ∧ GrC u b (off + k * 5) V ∧ GrC v b3 (off3 + k * 5) V) := Lib.hid (fun V hv => by
                        rw [hfa.out] at q2'
                        rw [ha'] at q3'
                        exact ⟨below_in hv q2', below_in hv q3', ⟨below_in hv (below_in hCV4 t0), below_in hv (below_in hCV4 t1), below_in hv (below_in hCV4 t2), below_in hv (below_in hCV4 t3), below_in hv (below_in hCV4 t4)⟩, below_in hv e0, below_in hv e1, below_in hv e2, below_in hv e3, below_in hv e4⟩)
                      have hS2 := Lib.hid (fun V (hx : Below V4.heap.size V4 V) => hSf.out u v V hum.out hvm (gV.trans (hx.mono gV.size)))
                      have hS3 := Lib.hid (fun V (hx : Below V4.heap.size V4 V) => hSr.out u v V hum.out hvm (gV.trans (hx.mono gV.size)))
                      clear hv ha' e0 e1 e2 e3 e4 q3' q2' t0 t1 t2 t3 t4
                      go_upto_region 18 with fail
                      refine wp_region_rel (C := fun V => Below V4.heap.size V4 V) (E := Ext) (R := fun i => (rlb k b off b3 off3 w.heap.size g.fa f g u v).getD i VT) (by kernel_rfl) ((Below.refl _ _).drew) (by kernel_rfl) (fun i v w' w'' _ hE h => mono_get _ i rlb_mono v w' w'' hE h) (steps_all ?hsb) ?hendb
                      case hsb =>
                        refine stepsL_cons (s_val fun a w5 hC hs => ?_) ?_
                        · skip
                          have hvx := old_of hs 7 (by kernel_rfl) (by rfl)
                          exact ⟨wanted_none rfl, _, run_mv (.inl rfl) (ev hvx), rfl⟩
                        refine stepsL_cons (s_val fun a w5 hC hs => ?_) ?_
                        · skip
                          have hvx := old_of hs 3 (by kernel_rfl) (by rfl)
                          exact ⟨wanted_none rfl, _, run_fa rfl (ev hvx) fl_f2, rfl⟩
                        refine stepsL_cons (s_val fun a w5 hC hs => ?_) ?_
                        · skip
                          obtain ⟨vx, hvx, hRx⟩ := got_of hs 1 95 (by kernel_rfl) (by rfl)
                          replace hRx : vx = _ := hRx
                          subst hRx
                          exact ⟨wanted_none rfl, _, run_ld rfl (ev hvx) (ld_grs (hK.out w5 hC).2.1), rfl⟩
                        refine stepsL_cons (s_val fun a w5 hC hs => ?_) ?_
                        · skip
                          obtain ⟨vx, hvx, hRx⟩ := got_of hs 2 96 (by kernel_rfl) (by rfl)
                          replace hRx : vx = _ := hRx
                          subst hRx
                          exact ⟨wanted_none rfl, _, run_len rfl (ev hvx) ln_grs, rfl⟩
                        refine stepsL_cons (s_val fun a w5 hC hs => ?_) ?_
                        · skip
                          obtain ⟨vx, hvx, hRx⟩ := got_of hs 0 94 (by kernel_rfl) (by rfl)
                          replace hRx : vx = _ := hRx
                          subst hRx
                          obtain ⟨vy, hvy, hRy⟩ := got_of hs 3 97 (by kernel_rfl) (by rfl)
                          replace hRy : vy = _ := hRy
                          subst hRy
                          exact ⟨wanted_none rfl, _, run_lsb hlt2 rfl (ev hvx) (ev hvy), rfl⟩
                        refine stepsL_cons (s_val fun a w5 hC hs => ?_) ?_
                        · skip
                          obtain ⟨vx, hvx, hRx⟩ := got_of hs 4 98 (by kernel_rfl) (by rfl)
                          replace hRx : vx = _ := hRx
                          subst hRx
                          exact ⟨wanted_none rfl, _, run_mv (.inl rfl) (ev hvx), rfl⟩
                        refine stepsL_cons (s_val fun a w5 hC hs => ?_) ?_
                        · skip
                          obtain ⟨vg, hvg, hRg⟩ := got_of hs 5 99 (by kernel_rfl) (by rfl)
                          replace hRg : vg = _ := hRg
                          subst hRg
                          have hvx := old_of hs 2 (by kernel_rfl) (by rfl)
                          exact ⟨wanted_is (j := 5) (d := 99) (b := true) (by rfl) (by rfl) hvg, _, run_fa rfl (ev hvx) fl_f2, rfl⟩
                        refine stepsL_cons (s_val fun a w5 hC hs => ?_) ?_
                        · skip
                          obtain ⟨vg, hvg, hRg⟩ := got_of hs 5 99 (by kernel_rfl) (by rfl)
                          replace hRg : vg = _ := hRg
                          subst hRg
                          obtain ⟨vx, hvx, hRx⟩ := got_of hs 6 100 (by kernel_rfl) (by rfl)
                          replace hRx : vx = _ := hRx
                          subst hRx
                          exact ⟨wanted_is (j := 5) (d := 99) (b := true) (by rfl) (by rfl) hvg, _, run_ld rfl (ev hvx) (ld_grs (hK.out w5 hC).1), rfl⟩
                        refine stepsL_cons (s_val fun a w5 hC hs => ?_) ?_
                        · skip
                          obtain ⟨vg, hvg, hRg⟩ := got_of hs 5 99 (by kernel_rfl) (by rfl)
                          replace hRg : vg = _ := hRg
                          subst hRg
                          have hvx := old_of hs 7 (by kernel_rfl) (by rfl)
                          exact ⟨wanted_is (j := 5) (d := 99) (b := true) (by rfl) (by rfl) hvg, _, run_mv (.inl rfl) (ev hvx), rfl⟩
                        refine stepsL_cons (s_val fun a w5 hC hs => ?_) ?_
                        · skip
                          obtain ⟨vg, hvg, hRg⟩ := got_of hs 5 99 (by kernel_rfl) (by rfl)
                          replace hRg : vg = _ := hRg
                          subst hRg
                          obtain ⟨vx, hvx, hRx⟩ := got_of hs 7 101 (by kernel_rfl) (by rfl)
                          replace hRx : vx = _ := hRx
                          subst hRx
                          obtain ⟨vy, hvy, hRy⟩ := got_of hs 8 102 (by kernel_rfl) (by rfl)
                          replace hRy : vy = _ := hRy
                          subst hRy
                          exact ⟨wanted_is (j := 5) (d := 99) (b := true) (by rfl) (by rfl) hvg, _, run_ix rfl (ev hvx) (ev hvy) (ix_gr hj1), rfl⟩
                        refine stepsL_cons (s_val fun a w5 hC hs => ?_) ?_
                        · skip
                          obtain ⟨vg, hvg, hRg⟩ := got_of hs 5 99 (by kernel_rfl) (by rfl)
                          replace hRg : vg = _ := hRg
                          subst hRg
                          obtain ⟨vx, hvx, hRx⟩ := got_of hs 9 103 (by kernel_rfl) (by rfl)
                          replace hRx : vx = _ := hRx
                          subst hRx
                          exact ⟨wanted_is (j := 5) (d := 99) (b := true) (by rfl) (by rfl) hvg, _, run_ld rfl (ev hvx) (ld_gr1 (hK.out w5 hC).2.2.1), rfl⟩
                        refine stepsL_cons (s_val fun a w5 hC hs => ?_) ?_
                        · skip
                          obtain ⟨vg, hvg, hRg⟩ := got_of hs 5 99 (by kernel_rfl) (by rfl)
                          replace hRg : vg = _ := hRg
                          subst hRg
                          have hvx := old_of hs 3 (by kernel_rfl) (by rfl)
                          exact ⟨wanted_is (j := 5) (d := 99) (b := true) (by rfl) (by rfl) hvg, _, run_fa rfl (ev hvx) fl_f2, rfl⟩
                        refine stepsL_cons (s_val fun a w5 hC hs => ?_) ?_
                        · skip
                          obtain ⟨vg, hvg, hRg⟩ := got_of hs 5 99 (by kernel_rfl) (by rfl)
                          replace hRg : vg = _ := hRg
                          subst hRg
                          obtain ⟨vx, hvx, hRx⟩ := got_of hs 11 105 (by kernel_rfl) (by rfl)
                          replace hRx : vx = _ := hRx
                          subst hRx
                          exact ⟨wanted_is (j := 5) (d := 99) (b := true) (by rfl) (by rfl) hvg, _, run_ld rfl (ev hvx) (ld_grs (hK.out w5 hC).2.1), rfl⟩
                        refine stepsL_cons (s_val fun a w5 hC hs => ?_) ?_
                        · skip
                          obtain ⟨vg, hvg, hRg⟩ := got_of hs 5 99 (by kernel_rfl) (by rfl)
                          replace hRg : vg = _ := hRg
                          subst hRg
                          have hvx := old_of hs 7 (by kernel_rfl) (by rfl)
                          exact ⟨wanted_is (j := 5) (d := 99) (b := true) (by rfl) (by rfl) hvg, _, run_mv (.inl rfl) (ev hvx), rfl⟩
                        refine stepsL_cons (s_val fun a w5 hC hs => ?_) ?_
                        · skip
                          obtain ⟨vg, hvg, hRg⟩ := got_of hs 5 99 (by kernel_rfl) (by rfl)
                          replace hRg : vg = _ := hRg
                          subst hRg
                          obtain ⟨vx, hvx, hRx⟩ := got_of hs 12 106 (by kernel_rfl) (by rfl)
                          replace hRx : vx = _ := hRx
                          subst hRx
                          obtain ⟨vy, hvy, hRy⟩ := got_of hs 13 107 (by kernel_rfl) (by rfl)
                          replace hRy : vy = _ := hRy
                          subst hRy
                          exact ⟨wanted_is (j := 5) (d := 99) (b := true) (by rfl) (by rfl) hvg, _, run_ix rfl (ev hvx) (ev hvy) (ix_gr hj2), rfl⟩
                        refine stepsL_cons (s_val fun a w5 hC hs => ?_) ?_
                        · skip
                          obtain ⟨vg, hvg, hRg⟩ := got_of hs 5 99 (by kernel_rfl) (by rfl)
                          replace hRg : vg = _ := hRg
                          subst hRg
                          obtain ⟨vx, hvx, hRx⟩ := got_of hs 14 108 (by kernel_rfl) (by rfl)
                          replace hRx : vx = _ := hRx
                          subst hRx
                          exact ⟨wanted_is (j := 5) (d := 99) (b := true) (by rfl) (by rfl) hvg, _, run_ld rfl (ev hvx) (ld_gr1 (hK.out w5 hC).2.2.2), rfl⟩
                        refine stepsL_cons (s_call fun a w5 hC hs => ?_) ?_
                        · skip
                          obtain ⟨vg, hvg, hRg⟩ := got_of hs 5 99 (by kernel_rfl) (by rfl)
                          replace hRg : vg = _ := hRg
                          subst hRg
                          obtain ⟨vx, hvx, hRx⟩ := got_of hs 10 104 (by kernel_rfl) (by rfl)
                          replace hRx : vx = _ := hRx
                          subst hRx
                          obtain ⟨vy, hvy, hRy⟩ := got_of hs 15 109 (by kernel_rfl) (by rfl)
                          replace hRy : vy = _ := hRy
                          subst hRy
                          exact ⟨wanted_is (j := 5) (d := 99) (b := true) (by rfl) (by rfl) hvg, 13, _, run_call2 rfl (ev hvx) (ev hvy) (fun _ _ => rfl), (hS2.out w5 hC).mono (fun e w' ⟨he, hb⟩ => ⟨_, he, hC.trans (hb.mono hC.size), hb, rfl⟩)⟩
                        refine stepsL_cons (s_val fun a w5 hC hs => ?_) ?_
                        · skip
                          obtain ⟨vg, hvg, hRg⟩ := got_of hs 5 99 (by kernel_rfl) (by rfl)
                          replace hRg : vg = _ := hRg
                          subst hRg
                          have hvx := old_of hs 2 (by kernel_rfl) (by rfl)
                          exact ⟨wanted_is (j := 5) (d := 99) (b := true) (by rfl) (by rfl) hvg, _, run_fa rfl (ev hvx) fl_f2, rfl⟩
                        refine stepsL_cons (s_val fun a w5 hC hs => ?_) ?_
                        · skip
                          obtain ⟨vg, hvg, hRg⟩ := got_of hs 5 99 (by kernel_rfl) (by rfl)
                          replace hRg : vg = _ := hRg
                          subst hRg
                          obtain ⟨vx, hvx, hRx⟩ := got_of hs 17 111 (by kernel_rfl) (by rfl)
                          replace hRx : vx = _ := hRx
                          subst hRx
                          exact ⟨wanted_is (j := 5) (d := 99) (b := true) (by rfl) (by rfl) hvg, _, run_ld rfl (ev hvx) (ld_grs (hK.out w5 hC).1), rfl⟩
                        refine stepsL_cons (s_val fun a w5 hC hs => ?_) ?_
                        · skip
                          obtain ⟨vg, hvg, hRg⟩ := got_of hs 5 99 (by kernel_rfl) (by rfl)
                          replace hRg : vg = _ := hRg
                          subst hRg
                          have hvx := old_of hs 7 (by kernel_rfl) (by rfl)
                          exact ⟨wanted_is (j := 5) (d := 99) (b := true) (by rfl) (by rfl) hvg, _, run_mv (.inl rfl) (ev hvx), rfl⟩
                        refine stepsL_cons (s_val fun a w5 hC hs => ?_) ?_
                        · skip
                          obtain ⟨vg, hvg, hRg⟩ := got_of hs 5 99 (by kernel_rfl) (by rfl)
                          replace hRg : vg = _ := hRg
                          subst hRg
                          obtain ⟨vx, hvx, hRx⟩ := got_of hs 18 112 (by kernel_rfl) (by rfl)
                          replace hRx : vx = _ := hRx
                          subst hRx
                          obtain ⟨vy, hvy, hRy⟩ := got_of hs 19 113 (by kernel_rfl) (by rfl)
                          replace hRy : vy = _ := hRy
                          subst hRy
                          exact ⟨wanted_is (j := 5) (d := 99) (b := true) (by rfl) (by rfl) hvg, _, run_ix rfl (ev hvx) (ev hvy) (ix_gr hj1), rfl⟩
                        refine stepsL_cons (s_val fun a w5 hC hs => ?_) ?_
                        · skip
                          obtain ⟨vg, hvg, hRg⟩ := got_of hs 5 99 (by kernel_rfl) (by rfl)
                          replace hRg : vg = _ := hRg
                          subst hRg
                          obtain ⟨vx, hvx, hRx⟩ := got_of hs 20 114 (by kernel_rfl) (by rfl)
                          replace hRx : vx = _ := hRx
                          subst hRx
                          exact ⟨wanted_is (j := 5) (d := 99) (b := true) (by rfl) (by rfl) hvg, _, run_ld rfl (ev hvx) (ld_gr1 (hK.out w5 hC).2.2.1), rfl⟩
                        refine stepsL_cons (s_val fun a w5 hC hs => ?_) ?_
                        · skip
                          obtain ⟨vg, hvg, hRg⟩ := got_of hs 5 99 (by kernel_rfl) (by rfl)
                          replace hRg : vg = _ := hRg
                          subst hRg
                          have hvx := old_of hs 3 (by kernel_rfl) (by rfl)
                          exact ⟨wanted_is (j := 5) (d := 99) (b := true) (by rfl) (by rfl) hvg, _, run_fa rfl (ev hvx) fl_f2, rfl⟩
                        refine stepsL_cons (s_val fun a w5 hC hs => ?_) ?_
                        · skip
                          obtain ⟨vg, hvg, hRg⟩ := got_of hs 5 99 (by kernel_rfl) (by rfl)
                          replace hRg : vg = _ := hRg
                          subst hRg
                          obtain ⟨vx, hvx, hRx⟩ := got_of hs 22 116 (by kernel_rfl) (by rfl)
                          replace hRx : vx = _ := hRx
                          subst hRx
                          exact ⟨wanted_is (j := 5) (d := 99) (b := true) (by rfl) (by rfl) hvg, _, run_ld rfl (ev hvx) (ld_grs (hK.out w5 hC).2.1), rfl⟩
                        refine stepsL_cons (s_val fun a w5 hC hs => ?_) ?_
                        · skip
                          obtain ⟨vg, hvg, hRg⟩ := got_of hs 5 99 (by kernel_rfl) (by rfl)
                          replace hRg : vg = _ := hRg
                          subst hRg
                          have hvx := old_of hs 7 (by kernel_rfl) (by rfl)
                          exact ⟨wanted_is (j := 5) (d := 99) (b := true) (by rfl) (by rfl) hvg, _, run_mv (.inl rfl) (ev hvx), rfl⟩
                        refine stepsL_cons (s_val fun a w5 hC hs => ?_) ?_
                        · skip
                          obtain ⟨vg, hvg, hRg⟩ := got_of hs 5 99 (by kernel_rfl) (by rfl)
                          replace hRg : vg = _ := hRg
                          subst hRg
                          obtain ⟨vx, hvx, hRx⟩ := got_of hs 23 117 (by kernel_rfl) (by rfl)
                          replace hRx : vx = _ := hRx
                          subst hRx
                          obtain ⟨vy, hvy, hRy⟩ := got_of hs 24 118 (by kernel_rfl) (by rfl)
                          replace hRy : vy = _ := hRy
                          subst hRy
                          exact ⟨wanted_is (j := 5) (d := 99) (b := true) (by rfl) (by rfl) hvg, _, run_ix rfl (ev hvx) (ev hvy) (ix_gr hj2), rfl⟩
                        refine stepsL_cons (s_val fun a w5 hC hs => ?_) ?_
                        · skip
                          obtain ⟨vg, hvg, hRg⟩ := got_of hs 5 99 (by kernel_rfl) (by rfl)
                          replace hRg : vg = _ := hRg
                          subst hRg
                          obtain ⟨vx, hvx, hRx⟩ := got_of hs 25 119 (by kernel_rfl) (by rfl)
                          replace hRx : vx = _ := hRx
                          subst hRx
                          exact ⟨wanted_is (j := 5) (d := 99) (b := true) (by rfl) (by rfl) hvg, _, run_ld rfl (ev hvx) (ld_gr1 (hK.out w5 hC).2.2.2), rfl⟩
                        refine stepsL_cons (s_call fun a w5 hC hs => ?_) ?_
                        · skip
                          obtain ⟨vg, hvg, hRg⟩ := got_of hs 5 99 (by kernel_rfl) (by rfl)
                          replace hRg : vg = _ := hRg
                          subst hRg
                          obtain ⟨vx, hvx, hRx⟩ := got_of hs 21 115 (by kernel_rfl) (by rfl)
                          replace hRx : vx = _ := hRx
                          subst hRx
                          obtain ⟨vy, hvy, hRy⟩ := got_of hs 26 120 (by kernel_rfl) (by rfl)
                          replace hRy : vy = _ := hRy
                          subst hRy
                          exact ⟨wanted_is (j := 5) (d := 99) (b := true) (by rfl) (by rfl) hvg, 14, _, run_call2 rfl (ev hvx) (ev hvy) (fun _ _ => rfl), (hS3.out w5 hC).mono (fun e w' ⟨he, hb⟩ => ⟨_, he, hC.trans (hb.mono hC.size), hb, rfl⟩)⟩
                        refine stepsL_cons (s_val fun a w5 hC hs => ?_) ?_
                        · skip
                          obtain ⟨vg, hvg, hRg⟩ := got_of hs 5 99 (by kernel_rfl) (by rfl)
                          replace hRg : vg = _ := hRg
                          subst hRg
                          obtain ⟨vx, hvx, hRx⟩ := got_of hs 16 110 (by kernel_rfl) (by rfl)
                          replace hRx : vx = _ := hRx
                          subst hRx
                          obtain ⟨vy, hvy, hRy⟩ := got_of hs 27 121 (by kernel_rfl) (by rfl)
                          replace hRy : vy = _ := hRy
                          subst hRy
                          exact ⟨wanted_is (j := 5) (d := 99) (b := true) (by rfl) (by rfl) hvg, _, run_neb rfl (ev hvx) (ev hvy), rfl⟩
                        refine stepsL_cons (s_val fun a w5 hC hs => ?_) ?_
                        · skip
                          obtain ⟨vc, hvc, hRc⟩ := got_of hs 5 99 (by kernel_rfl) (by rfl)
                          replace hRc : vc = _ := hRc
                          subst hRc
                          obtain ⟨vy, hvy, hRy⟩ := got_of hs 28 122 (by kernel_rfl) (by rfl)
                          replace hRy : vy = _ := hRy
                          subst hRy
                          exact ⟨wanted_none rfl, _, run_pk (b := true) rfl (ev hvc) (by simp only [if_true, if_false, Bool.false_eq_true]; exact (ev hvy)), rfl⟩
                        exact stepsL_nil
                      case hendb =>
                        intro σ V5 hCV5 hRV5
                        generalize hF : fillL _ _ _ _ _ = F
                        simp [fillL, dstOf, List.range, List.range.loop, Act.put] at hF
                        subst hF
                        have hl : σ 29 = .bool false := hRV5 29 (by simp)
                        rw [hl]
                        clear hRV5 hl hK
                        have g6 := Lib.hid (hb.out.trans ((hCV4.trans (hCV5.mono hCV4.size)).mono hb.out.size))
                        clear hCV4 hCV5
                        go_wp2_with fail
                        go_roundw
                        case rel => exact ⟨k + 1, by omega, by go_num, g6⟩
                        case measure => simp [intOf]; omega
                    · have hlt2 : decide ((k : Int) < (g.funs.length : Int)) = false := by simp; omega
                      have q3' := (hgb.out V4 (hb.out.trans (hCV4.mono hb.out.size))).2.2.2
                      have hK : Hid (∀ V, Below V4.heap.size V4 V → True ∧ V.cell? ⟨w.heap.size + 1, 2, none⟩ = some (.slice g.fa g.funs.length g.fcap)) := Lib.hid (fun V hv => ⟨trivial, below_in hv q3'⟩)
                      clear q3'
                      go_upto_region 18 with fail
                      refine wp_region_rel (C := fun V => Below V4.heap.size V4 V) (E := Ext) (R := fun i => (rlc k b off 0 0 w.heap.size g.fa f g u u).getD i VT) (by kernel_rfl) ((Below.refl _ _).drew) (by kernel_rfl) (fun i v w' w'' _ hE h => mono_get _ i rlc_mono v w' w'' hE h) (steps_all ?hsc) ?hendc
                      case hsc =>
                        refine stepsL_cons (s_val fun a w5 hC hs => ?_) ?_
                        · skip
                          have hvx := old_of hs 7 (by kernel_rfl) (by rfl)
                          exact ⟨wanted_none rfl, _, run_mv (.inl rfl) (ev hvx), rfl⟩
                        refine stepsL_cons (s_val fun a w5 hC hs => ?_) ?_
                        · skip
                          have hvx := old_of hs 3 (by kernel_rfl) (by rfl)
                          exact ⟨wanted_none rfl, _, run_fa rfl (ev hvx) fl_f2, rfl⟩
                        refine stepsL_cons (s_val fun a w5 hC hs => ?_) ?_
                        · skip
                          obtain ⟨vx, hvx, hRx⟩ := got_of hs 1 95 (by kernel_rfl) (by rfl)
                          replace hRx : vx = _ := hRx
                          subst hRx
                          exact ⟨wanted_none rfl, _, run_ld rfl (ev hvx) (ld_grs (hK.out w5 hC).2), rfl⟩
                        refine stepsL_cons (s_val fun a w5 hC hs => ?_) ?_
                        · skip
                          obtain ⟨vx, hvx, hRx⟩ := got_of hs 2 96 (by kernel_rfl) (by rfl)
                          replace hRx : vx = _ := hRx
                          subst hRx
                          exact ⟨wanted_none rfl, _, run_len rfl (ev hvx) ln_grs, rfl⟩
                        refine stepsL_cons (s_val fun a w5 hC hs => ?_) ?_
                        · skip
                          obtain ⟨vx, hvx, hRx⟩ := got_of hs 0 94 (by kernel_rfl) (by rfl)
                          replace hRx : vx = _ := hRx
                          subst hRx
                          obtain ⟨vy, hvy, hRy⟩ := got_of hs 3 97 (by kernel_rfl) (by rfl)
                          replace hRy : vy = _ := hRy
                          subst hRy
                          exact ⟨wanted_none rfl, _, run_lsb hlt2 rfl (ev hvx) (ev hvy), rfl⟩
                        refine stepsL_cons (s_val fun a w5 hC hs => ?_) ?_
                        · skip
                          obtain ⟨vx, hvx, hRx⟩ := got_of hs 4 98 (by kernel_rfl) (by rfl)
                          replace hRx : vx = _ := hRx
                          subst hRx
                          exact ⟨wanted_none rfl, _, run_mv (.inl rfl) (ev hvx), rfl⟩
                        refine stepsL_cons (s_skip (fun a w5 hC hs => ?_) (fun _ => rfl)) ?_
                        · skip
                          obtain ⟨vg, hvg, hRg⟩ := got_of hs 5 99 (by kernel_rfl) (by rfl)
                          replace hRg : vg = _ := hRg
                          subst hRg
                          exact wanted_not (j := 5) (d := 99) (b := true) (by rfl) (by rfl) hvg
                        refine stepsL_cons (s_skip (fun a w5 hC hs => ?_) (fun _ => rfl)) ?_
                        · skip
                          obtain ⟨vg, hvg, hRg⟩ := got_of hs 5 99 (by kernel_rfl) (by rfl)
                          replace hRg : vg = _ := hRg
                          subst hRg
                          exact wanted_not (j := 5) (d := 99) (b := true) (by rfl) (by rfl) hvg
                        refine stepsL_cons (s_skip (fun a w5 hC hs => ?_) (fun _ => rfl)) ?_
                        · skip
                          obtain ⟨vg, hvg, hRg⟩ := got_of hs 5 99 (by kernel_rfl) (by rfl)
                          replace hRg : vg = _ := hRg
                          subst hRg
                          exact wanted_not (j := 5) (d := 99) (b := true) (by rfl) (by rfl) hvg
                        refine stepsL_cons (s_skip (fun a w5 hC hs => ?_) (fun _ => rfl)) ?_
                        · skip
                          obtain ⟨vg, hvg, hRg⟩ := got_of hs 5 99 (by kernel_rfl) (by rfl)
                          replace hRg : vg = _ := hRg
                          subst hRg
                          exact wanted_not (j := 5) (d := 99) (b := true) (by rfl) (by rfl) hvg
                        refine stepsL_cons (s_skip (fun a w5 hC hs => ?_) (fun _ => rfl)) ?_
                        · skip
                          obtain ⟨vg, hvg, hRg⟩ := got_of hs 5 99 (by kernel_rfl) (by rfl)
                          replace hRg : vg = _ := hRg
                          subst hRg
                          exact wanted_not (j := 5) (d := 99) (b := true) (by rfl) (by rfl) hvg
                        refine stepsL_cons (s_skip (fun a w5 hC hs => ?_) (fun _ => rfl)) ?_
                        · skip
                          obtain ⟨vg, hvg, hRg⟩ := got_of hs 5 99 (by kernel_rfl) (by rfl)
                          replace hRg : vg = _ := hRg
                          subst hRg
                          exact wanted_not (j := 5) (d := 99) (b := true) (by rfl) (by rfl) hvg
                        refine stepsL_cons (s_skip (fun a w5 hC hs => ?_) (fun _ => rfl)) ?_
                        · skip
                          obtain ⟨vg, hvg, hRg⟩ := got_of hs 5 99 (by kernel_rfl) (by rfl)
                          replace hRg : vg = _ := hRg
                          subst hRg
                          exact wanted_not (j := 5) (d := 99) (b := true) (by rfl) (by rfl) hvg
                        refine stepsL_cons (s_skip (fun a w5 hC hs => ?_) (fun _ => rfl)) ?_
                        · skip
                          obtain ⟨vg, hvg, hRg⟩ := got_of hs 5 99 (by kernel_rfl) (by rfl)
                          replace hRg : vg = _ := hRg
                          subst hRg
                          exact wanted_not (j := 5) (d := 99) (b := true) (by rfl) (by rfl) hvg
                        refine stepsL_cons (s_skip (fun a w5 hC hs => ?_) (fun _ => rfl)) ?_
                        · skip
                          obtain ⟨vg, hvg, hRg⟩ := got_of hs 5 99 (by kernel_rfl) (by rfl)
                          replace hRg : vg = _ := hRg
                          subst hRg
                          exact wanted_not (j := 5) (d := 99) (b := true) (by rfl) (by rfl) hvg
                        refine stepsL_cons (s_skip (fun a w5 hC hs => ?_) (fun _ => rfl)) ?_
                        · skip
                          obtain ⟨vg, hvg, hRg⟩ := got_of hs 5 99 (by kernel_rfl) (by rfl)
                          replace hRg : vg = _ := hRg
                          subst hRg
                          exact wanted_not (j := 5) (d := 99) (b := true) (by rfl) (by rfl) hvg
                        refine stepsL_cons (s_skip (fun a w5 hC hs => ?_) (fun _ => rfl)) ?_
                        · skip
                          obtain ⟨vg, hvg, hRg⟩ := got_of hs 5 99 (by kernel_rfl) (by rfl)
                          replace hRg : vg = _ := hRg
                          subst hRg
                          exact wanted_not (j := 5) (d := 99) (b := true) (by rfl) (by rfl) hvg
                        refine stepsL_cons (s_skip (fun a w5 hC hs => ?_) (fun _ => rfl)) ?_
                        · skip
                          obtain ⟨vg, hvg, hRg⟩ := got_of hs 5 99 (by kernel_rfl) (by rfl)
                          replace hRg : vg = _ := hRg
                          subst hRg
                          exact wanted_not (j := 5) (d := 99) (b := true) (by rfl) (by rfl) hvg
                        refine stepsL_cons (s_skip (fun a w5 hC hs => ?_) (fun _ => rfl)) ?_
                        · skip
                          obtain ⟨vg, hvg, hRg⟩ := got_of hs 5 99 (by kernel_rfl) (by rfl)
                          replace hRg : vg = _ := hRg
                          subst hRg
                          exact wanted_not (j := 5) (d := 99) (b := true) (by rfl) (by rfl) hvg
                        refine stepsL_cons (s_skip (fun a w5 hC hs => ?_) (fun _ => rfl)) ?_
                        · skip
                          obtain ⟨vg, hvg, hRg⟩ := got_of hs 5 99 (by kernel_rfl) (by rfl)
                          replace hRg : vg = _ := hRg
                          subst hRg
                          exact wanted_not (j := 5) (d := 99) (b := true) (by rfl) (by rfl) hvg
                        refine stepsL_cons (s_skip (fun a w5 hC hs => ?_) (fun _ => rfl)) ?_
                        · skip
                          obtain ⟨vg, hvg, hRg⟩ := got_of hs 5 99 (by kernel_rfl) (by rfl)
                          replace hRg : vg = _ := hRg
                          subst hRg
                          exact wanted_not (j := 5) (d := 99) (b := true) (by rfl) (by rfl) hvg
                        refine stepsL_cons (s_skip (fun a w5 hC hs => ?_) (fun _ => rfl)) ?_
                        · skip
                          obtain ⟨vg, hvg, hRg⟩ := got_of hs 5 99 (by kernel_rfl) (by rfl)
                          replace hRg : vg = _ := hRg
                          subst hRg
                          exact wanted_not (j := 5) (d := 99) (b := true) (by rfl) (by rfl) hvg
                        refine stepsL_cons (s_skip (fun a w5 hC hs => ?_) (fun _ => rfl)) ?_
                        · skip
                          obtain ⟨vg, hvg, hRg⟩ := got_of hs 5 99 (by kernel_rfl) (by rfl)
                          replace hRg : vg = _ := hRg
                          subst hRg
                          exact wanted_not (j := 5) (d := 99) (b := true) (by rfl) (by rfl) hvg
                        refine stepsL_cons (s_skip (fun a w5 hC hs => ?_) (fun _ => rfl)) ?_
                        · skip
                          obtain ⟨vg, hvg, hRg⟩ := got_of hs 5 99 (by kernel_rfl) (by rfl)
                          replace hRg : vg = _ := hRg
                          subst hRg
                          exact wanted_not (j := 5) (d := 99) (b := true) (by rfl) (by rfl) hvg
                        refine stepsL_cons (s_skip (fun a w5 hC hs => ?_) (fun _ => rfl)) ?_
                        · skip
                          obtain ⟨vg, hvg, hRg⟩ := got_of hs 5 99 (by kernel_rfl) (by rfl)
                          replace hRg : vg = _ := hRg
                          subst hRg
                          exact wanted_not (j := 5) (d := 99) (b := true) (by rfl) (by rfl) hvg
                        refine stepsL_cons (s_skip (fun a w5 hC hs => ?_) (fun _ => rfl)) ?_
                        · skip
                          obtain ⟨vg, hvg, hRg⟩ := got_of hs 5 99 (by kernel_rfl) (by rfl)
                          replace hRg : vg = _ := hRg
                          subst hRg
                          exact wanted_not (j := 5) (d := 99) (b := true) (by rfl) (by rfl) hvg
                        refine stepsL_cons (s_skip (fun a w5 hC hs => ?_) (fun _ => rfl)) ?_
                        · skip
                          obtain ⟨vg, hvg, hRg⟩ := got_of hs 5 99 (by kernel_rfl) (by rfl)
                          replace hRg : vg = _ := hRg
                          subst hRg
                          exact wanted_not (j := 5) (d := 99) (b := true) (by rfl) (by rfl) hvg
                        refine stepsL_cons (s_skip (fun a w5 hC hs => ?_) (fun _ => rfl)) ?_
                        · skip
                          obtain ⟨vg, hvg, hRg⟩ := got_of hs 5 99 (by kernel_rfl) (by rfl)
                          replace hRg : vg = _ := hRg
                          subst hRg
                          exact wanted_not (j := 5) (d := 99) (b := true) (by rfl) (by rfl) hvg
                        refine stepsL_cons (s_skip (fun a w5 hC hs => ?_) (fun _ => rfl)) ?_
                        · skip
                          obtain ⟨vg, hvg, hRg⟩ := got_of hs 5 99 (by kernel_rfl) (by rfl)
                          replace hRg : vg = _ := hRg
                          subst hRg
                          exact wanted_not (j := 5) (d := 99) (b := true) (by rfl) (by rfl) hvg
                        refine stepsL_cons (s_val fun a w5 hC hs => ?_) ?_
                        · skip
                          obtain ⟨vc, hvc, hRc⟩ := got_of hs 5 99 (by kernel_rfl) (by rfl)
                          replace hRc : vc = _ := hRc
                          subst hRc
                          exact ⟨wanted_none rfl, _, run_pk (b := false) rfl (ev hvc) (by simp only [if_true, if_false, Bool.false_eq_true]; exact (ev_const _)), rfl⟩
                        exact stepsL_nil
                      case hendc =>
                        intro σ V5 hCV5 hRV5
                        generalize hF : fillL _ _ _ _ _ = F
                        simp [fillL, dstOf, List.range, List.range.loop, Act.put] at hF
                        subst hF
                        have hl : σ 29 = .bool false := hRV5 29 (by simp)
                        rw [hl]
                        clear hRV5 hl hK
                        have g6 := Lib.hid (hb.out.trans ((hCV4.trans (hCV5.mono hCV4.size)).mono hb.out.size))
                        clear hCV4 hCV5
                        go_wp2_with fail
                        go_roundw
                        case rel => exact ⟨k + 1, by omega, by go_num, g6⟩
                        case measure => simp [intOf]; omega
                · have hk1 : ¬ (k : Int) < (f.funs.length : Int) := by omega
                  obtain ⟨qa, qb⟩ := hgb.out wr hb.out
                  have hF1 := Lib.hid (fun V (hx : Below wr.heap.size wr V) => hMf.out V (g1.out.trans (hx.mono g1.out.size)))
                  have hF2 := Lib.hid (fun V (hx : Below wr.heap.size wr V) => hMr.out V (g1.out.trans (hx.mono g1.out.size)))
                  have hG1 := Lib.hid (fun V (hx : Below wr.heap.size wr V) => hEf.out V (g1.out.trans (hx.mono g1.out.size)))
                  have hG2 := Lib.hid (fun V (hx : Below wr.heap.size wr V) => hEr.out V (g1.out.trans (hx.mono g1.out.size)))
                  have hK : Hid (∀ V, Below wr.heap.size wr V → FmC f w.heap.size V ∧ FmC g (w.heap.size + 1) V) := Lib.hid (fun V hv => hgb.out V (hb.out.trans (hv.mono hb.out.size)))
                  have u0 : Gr := ⟨⟨#[]⟩, false, 0, 0, none, 0, []⟩
                  clear hlt hk qa qb
                  go_upto_region 20 with fail
                  refine wp_region_rel (C := fun V => Below wr.heap.size wr V) (E := Ext) (R := fun i => (rld 0 0 0 0 0 w.heap.size none f g u0 u0).getD i VT) (by kernel_rfl) ((Below.refl _ _).drew) (by kernel_rfl) (fun i v w' w'' _ hE h => mono_get _ i rld_mono v w' w'' hE h) (steps_all ?hsd) ?hendd
                  case hsd =>
                    refine stepsL_cons (s_val fun a w5 hC hs => ?_) ?_
                    · skip
                      have hvx := old_of hs 2 (by kernel_rfl) (by rfl)
                      exact ⟨wanted_none rfl, _, run_ld rfl (ev hvx) (ld_fm (hK.out w5 hC).1), rfl⟩
                    refine stepsL_cons (s_call fun a w5 hC hs => ?_) ?_
                    · skip
                      obtain ⟨vx, hvx, hRx⟩ := got_of hs 0 124 (by kernel_rfl) (by rfl)
                      replace hRx : vx = _ := hRx
                      subst hRx
                      exact ⟨wanted_none rfl, 15, _, run_call1 rfl (ev hvx) (fun _ _ => rfl), (hF1.out w5 hC).mono (fun e w' ⟨he, hb⟩ => ⟨_, he, hC.trans (hb.mono hC.size), hb, rfl⟩)⟩
                    refine stepsL_cons (s_val fun a w5 hC hs => ?_) ?_
                    · skip
                      have hvx := old_of hs 2 (by kernel_rfl) (by rfl)
                      exact ⟨wanted_none rfl, _, run_ld rfl (ev hvx) (ld_fm (hK.out w5 hC).1), rfl⟩
                    refine stepsL_cons (s_call fun a w5 hC hs => ?_) ?_
                    · skip
                      obtain ⟨vx, hvx, hRx⟩ := got_of hs 2 126 (by kernel_rfl) (by rfl)
                      replace hRx : vx = _ := hRx
                      subst hRx
                      exact ⟨wanted_none rfl, 16, _, run_call1 rfl (ev hvx) (fun _ _ => rfl), (hF2.out w5 hC).mono (fun e w' ⟨he, hb⟩ => ⟨_, he, hC.trans (hb.mono hC.size), hb, rfl⟩)⟩
                    refine stepsL_cons (s_val fun a w5 hC hs => ?_) ?_
                    · skip
                      obtain ⟨vx, hvx, hRx⟩ := got_of hs 1 125 (by kernel_rfl) (by rfl)
                      replace hRx : vx = _ := hRx
                      subst hRx
                      obtain ⟨vy, hvy, hRy⟩ := got_of hs 3 127 (by kernel_rfl) (by rfl)
                      replace hRy : vy = _ := hRy
                      subst hRy
                      exact ⟨wanted_none rfl, _, run_eqb1 rfl (ev hvx) (ev hvy), rfl⟩
                    refine stepsL_cons (s_val fun a w5 hC hs => ?_) ?_
                    · skip
                      obtain ⟨vx, hvx, hRx⟩ := got_of hs 4 128 (by kernel_rfl) (by rfl)
                      replace hRx : vx = _ := hRx
                      subst hRx
                      exact ⟨wanted_none rfl, _, run_mv (.inl rfl) (ev hvx), rfl⟩
                    refine stepsL_cons (s_val fun a w5 hC hs => ?_) ?_
                    · skip
                      obtain ⟨vg, hvg, hRg⟩ := got_of hs 5 129 (by kernel_rfl) (by rfl)
                      replace hRg : vg = _ := hRg
                      subst hRg
                      have hvx := old_of hs 2 (by kernel_rfl) (by rfl)
                      exact ⟨wanted_is (j := 5) (d := 129) (b := true) (by rfl) (by rfl) hvg, _, run_ld rfl (ev hvx) (ld_fm (hK.out w5 hC).1), rfl⟩
                    refine stepsL_cons (s_val fun a w5 hC hs => ?_) ?_
                    · skip
                      obtain ⟨vg, hvg, hRg⟩ := got_of hs 5 129 (by kernel_rfl) (by rfl)
                      replace hRg : vg = _ := hRg
                      subst hRg
                      have hvx := old_of hs 3 (by kernel_rfl) (by rfl)
                      exact ⟨wanted_is (j := 5) (d := 129) (b := true) (by rfl) (by rfl) hvg, _, run_ld rfl (ev hvx) (ld_fm (hK.out w5 hC).2), rfl⟩
                    refine stepsL_cons (s_call fun a w5 hC hs => ?_) ?_
                    · skip
                      obtain ⟨vg, hvg, hRg⟩ := got_of hs 5 129 (by kernel_rfl) (by rfl)
                      replace hRg : vg = _ := hRg
                      subst hRg
                      obtain ⟨vx, hvx, hRx⟩ := got_of hs 6 130 (by kernel_rfl) (by rfl)
                      replace hRx : vx = _ := hRx
                      subst hRx
                      obtain ⟨vy, hvy, hRy⟩ := got_of hs 7 131 (by kernel_rfl) (by rfl)
                      replace hRy : vy = _ := hRy
                      subst hRy
                      exact ⟨wanted_is (j := 5) (d := 129) (b := true) (by rfl) (by rfl) hvg, 17, _, run_call2 rfl (ev hvx) (ev hvy) (fun _ _ => rfl), (hG1.out w5 hC).mono (fun e w' ⟨he, hb⟩ => ⟨_, he, hC.trans (hb.mono hC.size), hb, rfl⟩)⟩
                    refine stepsL_cons (s_val fun a w5 hC hs => ?_) ?_
                    · skip
                      obtain ⟨vg, hvg, hRg⟩ := got_of hs 5 129 (by kernel_rfl) (by rfl)
                      replace hRg : vg = _ := hRg
                      subst hRg
                      have hvx := old_of hs 2 (by kernel_rfl) (by rfl)
                      exact ⟨wanted_is (j := 5) (d := 129) (b := true) (by rfl) (by rfl) hvg, _, run_ld rfl (ev hvx) (ld_fm (hK.out w5 hC).1), rfl⟩
                    refine stepsL_cons (s_val fun a w5 hC hs => ?_) ?_
                    · skip
                      obtain ⟨vg, hvg, hRg⟩ := got_of hs 5 129 (by kernel_rfl) (by rfl)
                      replace hRg : vg = _ := hRg
                      subst hRg
                      have hvx := old_of hs 3 (by kernel_rfl) (by rfl)
                      exact ⟨wanted_is (j := 5) (d := 129) (b := true) (by rfl) (by rfl) hvg, _, run_ld rfl (ev hvx) (ld_fm (hK.out w5 hC).2), rfl⟩
                    refine stepsL_cons (s_call fun a w5 hC hs => ?_) ?_
                    · skip
                      obtain ⟨vg, hvg, hRg⟩ := got_of hs 5 129 (by kernel_rfl) (by rfl)
                      replace hRg : vg = _ := hRg
                      subst hRg
                      obtain ⟨vx, hvx, hRx⟩ := got_of hs 9 133 (by kernel_rfl) (by rfl)
                      replace hRx : vx = _ := hRx
                      subst hRx
                      obtain ⟨vy, hvy, hRy⟩ := got_of hs 10 134 (by kernel_rfl) (by rfl)
                      replace hRy : vy = _ := hRy
                      subst hRy
                      exact ⟨wanted_is (j := 5) (d := 129) (b := true) (by rfl) (by rfl) hvg, 9, _, run_call2 rfl (ev hvx) (ev hvy) (fun _ _ => rfl), (hG2.out w5 hC).mono (fun e w' ⟨he, hb⟩ => ⟨_, he, hC.trans (hb.mono hC.size), hb, rfl⟩)⟩
                    refine stepsL_cons (s_val fun a w5 hC hs => ?_) ?_
                    · skip
                      obtain ⟨vg, hvg, hRg⟩ := got_of hs 5 129 (by kernel_rfl) (by rfl)
                      replace hRg : vg = _ := hRg
                      subst hRg
                      obtain ⟨vx, hvx, hRx⟩ := got_of hs 8 132 (by kernel_rfl) (by rfl)
                      replace hRx : vx = _ := hRx
                      subst hRx
                      obtain ⟨vy, hvy, hRy⟩ := got_of hs 11 135 (by kernel_rfl) (by rfl)
                      replace hRy : vy = _ := hRy
                      subst hRy
                      exact ⟨wanted_is (j := 5) (d := 129) (b := true) (by rfl) (by rfl) hvg, _, run_eqb1 rfl (ev hvx) (ev hvy), rfl⟩
                    refine stepsL_cons (s_val fun a w5 hC hs => ?_) ?_
                    · skip
                      obtain ⟨vc, hvc, hRc⟩ := got_of hs 5 129 (by kernel_rfl) (by rfl)
                      replace hRc : vc = _ := hRc
                      subst hRc
                      obtain ⟨vy, hvy, hRy⟩ := got_of hs 12 136 (by kernel_rfl) (by rfl)
                      replace hRy : vy = _ := hRy
                      subst hRy
                      exact ⟨wanted_none rfl, _, run_pk (b := true) rfl (ev hvc) (by simp only [if_true, if_false, Bool.false_eq_true]; exact (ev hvy)), rfl⟩
                    refine stepsL_cons (s_val fun a w5 hC hs => ?_) ?_
                    · skip
                      obtain ⟨vx, hvx, hRx⟩ := got_of hs 13 137 (by kernel_rfl) (by rfl)
                      replace hRx : vx = _ := hRx
                      subst hRx
                      exact ⟨wanted_none rfl, _, run_mv (.inr rfl) (ev hvx), rfl⟩
                    exact stepsL_nil
                  case hendd =>
                    intro σ V6 hCV6 hRV6
                    generalize hF : fillL _ _ _ _ _ = F
                    simp [fillL, dstOf, List.range, List.range.loop, Act.put] at hF
                    subst hF
                    have hl : σ 14 = .bool true := hRV6 14 (by simp)
                    rw [hl]
                    clear hRV6 hl hK
                    have g6 := Lib.hid (g1.out.trans (hCV6.mono g1.out.size))
                    clear hCV6
                    go_wp2_with fail
                    go_ret
                    exact ⟨rfl, g6.out⟩
end Go.Proofs.YtckmgefailclcaaDoor.Fw
