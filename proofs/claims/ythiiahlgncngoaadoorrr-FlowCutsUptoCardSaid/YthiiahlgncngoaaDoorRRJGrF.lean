/- Walks of the document's SameGraph, Same. Conditions: what is held against one another lies in memory. -/
import Derived.Test.YthiiahlgncngoaaDoorRRJM11
import Derived.Test.YthiiahlgncngoaaDoorRRJM13
set_option maxHeartbeats 16000000
set_option maxRecDepth 100000
set_option linter.unusedSimpArgs false
set_option linter.unusedVariables false
namespace Go.Proofs.YthiiahlgncngoaaDoorRR.Fw
open Go Go.RowKit
open Go.Proofs.YthiiahlgncngoaaDoorRR.Lx Go.Proofs.YthiiahlgncngoaaDoorRR.Tr Go.Proofs.YthiiahlgncngoaaDoorRR.Cd
open Go.Proofs.YthiiahlgncngoaaDoorRR.Vq Go.Proofs.YthiiahlgncngoaaDoorRR.Qr
open Go.Proofs.YthiiahlgncngoaaDoorRR.Qg (Z2)
theorem fl_b1 {V : World} {b : Nat} : (Instr.fieldAt 42 (.pointer (some ⟨b, 0, none⟩)) 1).run Tryd.prog V = .ok (.pointer (some ⟨b, 1, none⟩)) V := by go_simp
theorem fl_f2 {V : World} {b : Nat} : (Instr.fieldAt 30 (.pointer (some ⟨b, 0, none⟩)) 2).run Tryd.prog V = .ok (.pointer (some ⟨b, 2, none⟩)) V := by go_simp
theorem ld_inss {V : World} {b o : Nat} {a : Option Addr} {n c : Nat} (h : V.cell? ⟨b, o, none⟩ = some (.slice a n c)) : (Instr.loadAt 39 (.pointer (some ⟨b, o, none⟩))).run Tryd.prog V = .ok (.slice a n c) V := by go_simp
theorem ld_grs {V : World} {b o : Nat} {a : Option Addr} {n c : Nat} (h : V.cell? ⟨b, o, none⟩ = some (.slice a n c)) : (Instr.loadAt 28 (.pointer (some ⟨b, o, none⟩))).run Tryd.prog V = .ok (.slice a n c) V := by go_simp
theorem ix_ins {V : World} {b off n cap k : Nat} (h : (k : Int) < (n : Int)) : (Instr.indexAt 39 (.slice (some ⟨b, off, none⟩) n cap) (.int .i64 k)).run Tryd.prog V = .ok (.pointer (some ⟨b, off + k * 6, none⟩)) V := by go_simp
theorem ix_gr {V : World} {b off n cap k : Nat} (h : (k : Int) < (n : Int)) : (Instr.indexAt 28 (.slice (some ⟨b, off, none⟩) n cap) (.int .i64 k)).run Tryd.prog V = .ok (.pointer (some ⟨b, off + k * 5, none⟩)) V := by go_simp
def InC (u : Ins) (b o : Nat) (V : World) : Prop := V.cell? ⟨b, o, none⟩ = some (.int .u8 u.op) ∧ V.cell? ⟨b, o + 1, none⟩ = some (.int .i64 u.r) ∧ V.cell? ⟨b, o + 2, none⟩ = some (.int .i64 u.a) ∧ V.cell? ⟨b, o + 3, none⟩ = some (.int .i64 u.b) ∧ V.cell? ⟨b, o + 4, none⟩ = some (.int .i64 u.n) ∧ V.cell? ⟨b, o + 5, none⟩ = some (.slice u.aa u.args.length u.acap)
def GrC (u : Gr) (b o : Nat) (V : World) : Prop := V.cell? ⟨b, o, none⟩ = some (.string u.name) ∧ V.cell? ⟨b, o + 1, none⟩ = some (.bool u.thread) ∧ V.cell? ⟨b, o + 2, none⟩ = some (.int .i64 u.params) ∧ V.cell? ⟨b, o + 3, none⟩ = some (.int .i64 u.regs) ∧ V.cell? ⟨b, o + 4, none⟩ = some (.slice u.ba u.blocks.length u.bcap)
theorem ld_ins1 {u : Ins} {b o : Nat} {V : World} (h : InC u b o V) : (Instr.loadAt 44 (.pointer (some ⟨b, o, none⟩))).run Tryd.prog V = .ok (.agg #[.int .u8 u.op, .int .i64 u.r, .int .i64 u.a, .int .i64 u.b, .int .i64 u.n, .slice u.aa u.args.length u.acap]) V := by
 obtain ⟨h0, h1, h2, h3, h4, h5⟩ := h
 simp [go_sem, h0, h1, h2, h3, h4, h5]
theorem ld_gr1 {u : Gr} {b o : Nat} {V : World} (h : GrC u b o V) : (Instr.loadAt 37 (.pointer (some ⟨b, o, none⟩))).run Tryd.prog V = .ok (.agg #[.string u.name, .bool u.thread, .int .i64 u.params, .int .i64 u.regs, .slice u.ba u.blocks.length u.bcap]) V := by
 obtain ⟨h0, h1, h2, h3, h4⟩ := h
 simp [go_sem, h0, h1, h2, h3, h4]
def rspn (j b2 off2 b3 off3 B : Nat) (x y : Bk) (u v : Ph) : List (Value → World → Prop) :=
 [VK (.pointer (some ⟨B, 0, none⟩)), VK (.slice (some ⟨b2, off2, none⟩) x.phis.length x.pcap), VK (.int .i64 j), VK (.pointer (some ⟨b2, off2 + j * 2, none⟩)), VK (.pointer (some ⟨b2, off2 + j * 2, none⟩)), VK (.int .i64 u.r), VK (.pointer (some ⟨B + 1, 0, none⟩)), VK (.slice (some ⟨b3, off3, none⟩) y.phis.length y.pcap), VK (.int .i64 j), VK (.pointer (some ⟨b3, off3 + j * 2, none⟩)), VK (.pointer (some ⟨b3, off3 + j * 2, none⟩)), VK (.int .i64 v.r), VK (.bool true), VK (.bool true), VK undef, VK undef, VK undef, VK undef, VK undef, VK undef, VK undef, VK undef, VK undef, VK undef, VK undef, VK undef, VK undef, VK undef, VK (.bool true)]
theorem rspn_mono {j b2 off2 b3 off3 B : Nat} {x y : Bk} {u v : Ph} : MonoL (rspn j b2 off2 b3 off3 B x y u v) := ⟨VK.mono, VK.mono, VK.mono, VK.mono, VK.mono, VK.mono, VK.mono, VK.mono, VK.mono, VK.mono, VK.mono, VK.mono, VK.mono, VK.mono, VK.mono, VK.mono, VK.mono, VK.mono, VK.mono, VK.mono, VK.mono, VK.mono, VK.mono, VK.mono, VK.mono, VK.mono, VK.mono, VK.mono, VK.mono, trivial⟩
def rspf (j b2 off2 b3 off3 B : Nat) (x y : Bk) (u v : Ph) : List (Value → World → Prop) :=
 [VK (.pointer (some ⟨B, 0, none⟩)), VK (.slice (some ⟨b2, off2, none⟩) x.phis.length x.pcap), VK (.int .i64 j), VK (.pointer (some ⟨b2, off2 + j * 2, none⟩)), VK (.pointer (some ⟨b2, off2 + j * 2, none⟩)), VK (.int .i64 u.r), VK (.pointer (some ⟨B + 1, 0, none⟩)), VK (.slice (some ⟨b3, off3, none⟩) y.phis.length y.pcap), VK (.int .i64 j), VK (.pointer (some ⟨b3, off3 + j * 2, none⟩)), VK (.pointer (some ⟨b3, off3 + j * 2, none⟩)), VK (.int .i64 v.r), VK (.bool false), VK (.bool false), VK (.pointer (some ⟨B, 0, none⟩)), VK (.slice (some ⟨b2, off2, none⟩) x.phis.length x.pcap), VK (.int .i64 j), VK (.pointer (some ⟨b2, off2 + j * 2, none⟩)), VK (.pointer (some ⟨b2, off2 + j * 2 + 1, none⟩)), VK (.slice u.aa u.args.length u.acap), VK (.pointer (some ⟨B + 1, 0, none⟩)), VK (.slice (some ⟨b3, off3, none⟩) y.phis.length y.pcap), VK (.int .i64 j), VK (.pointer (some ⟨b3, off3 + j * 2, none⟩)), VK (.pointer (some ⟨b3, off3 + j * 2 + 1, none⟩)), VK (.slice v.aa v.args.length v.acap), VK (.bool false), VK (.bool true), VK (.bool true)]
theorem rspf_mono {j b2 off2 b3 off3 B : Nat} {x y : Bk} {u v : Ph} : MonoL (rspf j b2 off2 b3 off3 B x y u v) := ⟨VK.mono, VK.mono, VK.mono, VK.mono, VK.mono, VK.mono, VK.mono, VK.mono, VK.mono, VK.mono, VK.mono, VK.mono, VK.mono, VK.mono, VK.mono, VK.mono, VK.mono, VK.mono, VK.mono, VK.mono, VK.mono, VK.mono, VK.mono, VK.mono, VK.mono, VK.mono, VK.mono, VK.mono, VK.mono, trivial⟩
def rspt (j b2 off2 b3 off3 B : Nat) (x y : Bk) (u v : Ph) : List (Value → World → Prop) :=
 [VK (.pointer (some ⟨B, 0, none⟩)), VK (.slice (some ⟨b2, off2, none⟩) x.phis.length x.pcap), VK (.int .i64 j), VK (.pointer (some ⟨b2, off2 + j * 2, none⟩)), VK (.pointer (some ⟨b2, off2 + j * 2, none⟩)), VK (.int .i64 u.r), VK (.pointer (some ⟨B + 1, 0, none⟩)), VK (.slice (some ⟨b3, off3, none⟩) y.phis.length y.pcap), VK (.int .i64 j), VK (.pointer (some ⟨b3, off3 + j * 2, none⟩)), VK (.pointer (some ⟨b3, off3 + j * 2, none⟩)), VK (.int .i64 v.r), VK (.bool false), VK (.bool false), VK (.pointer (some ⟨B, 0, none⟩)), VK (.slice (some ⟨b2, off2, none⟩) x.phis.length x.pcap), VK (.int .i64 j), VK (.pointer (some ⟨b2, off2 + j * 2, none⟩)), VK (.pointer (some ⟨b2, off2 + j * 2 + 1, none⟩)), VK (.slice u.aa u.args.length u.acap), VK (.pointer (some ⟨B + 1, 0, none⟩)), VK (.slice (some ⟨b3, off3, none⟩) y.phis.length y.pcap), VK (.int .i64 j), VK (.pointer (some ⟨b3, off3 + j * 2, none⟩)), VK (.pointer (some ⟨b3, off3 + j * 2 + 1, none⟩)), VK (.slice v.aa v.args.length v.acap), VK (.bool true), VK (.bool false), VK (.bool false)]
theorem rspt_mono {j b2 off2 b3 off3 B : Nat} {x y : Bk} {u v : Ph} : MonoL (rspt j b2 off2 b3 off3 B x y u v) := ⟨VK.mono, VK.mono, VK.mono, VK.mono, VK.mono, VK.mono, VK.mono, VK.mono, VK.mono, VK.mono, VK.mono, VK.mono, VK.mono, VK.mono, VK.mono, VK.mono, VK.mono, VK.mono, VK.mono, VK.mono, VK.mono, VK.mono, VK.mono, VK.mono, VK.mono, VK.mono, VK.mono, VK.mono, VK.mono, trivial⟩
def rsif (j b2 off2 b3 off3 B : Nat) (x y : Bk) (u v : Ins) : List (Value → World → Prop) :=
 [VK (.pointer (some ⟨B, 1, none⟩)), VK (.slice (some ⟨b2, off2, none⟩) x.code.length x.ccap), VK (.int .i64 j), VK (.pointer (some ⟨b2, off2 + j * 6, none⟩)), VK (.agg #[.int .u8 u.op, .int .i64 u.r, .int .i64 u.a, .int .i64 u.b, .int .i64 u.n, .slice u.aa u.args.length u.acap]), VK (.pointer (some ⟨B + 1, 1, none⟩)), VK (.slice (some ⟨b3, off3, none⟩) y.code.length y.ccap), VK (.int .i64 j), VK (.pointer (some ⟨b3, off3 + j * 6, none⟩)), VK (.agg #[.int .u8 v.op, .int .i64 v.r, .int .i64 v.a, .int .i64 v.b, .int .i64 v.n, .slice v.aa v.args.length v.acap]), VK (.bool false), VK (.bool true)]
theorem rsif_mono {j b2 off2 b3 off3 B : Nat} {x y : Bk} {u v : Ins} : MonoL (rsif j b2 off2 b3 off3 B x y u v) := ⟨VK.mono, VK.mono, VK.mono, VK.mono, VK.mono, VK.mono, VK.mono, VK.mono, VK.mono, VK.mono, VK.mono, VK.mono, trivial⟩
def rsit (j b2 off2 b3 off3 B : Nat) (x y : Bk) (u v : Ins) : List (Value → World → Prop) :=
 [VK (.pointer (some ⟨B, 1, none⟩)), VK (.slice (some ⟨b2, off2, none⟩) x.code.length x.ccap), VK (.int .i64 j), VK (.pointer (some ⟨b2, off2 + j * 6, none⟩)), VK (.agg #[.int .u8 u.op, .int .i64 u.r, .int .i64 u.a, .int .i64 u.b, .int .i64 u.n, .slice u.aa u.args.length u.acap]), VK (.pointer (some ⟨B + 1, 1, none⟩)), VK (.slice (some ⟨b3, off3, none⟩) y.code.length y.ccap), VK (.int .i64 j), VK (.pointer (some ⟨b3, off3 + j * 6, none⟩)), VK (.agg #[.int .u8 v.op, .int .i64 v.r, .int .i64 v.a, .int .i64 v.b, .int .i64 v.n, .slice v.aa v.args.length v.acap]), VK (.bool true), VK (.bool false)]
theorem rsit_mono {j b2 off2 b3 off3 B : Nat} {x y : Bk} {u v : Ins} : MonoL (rsit j b2 off2 b3 off3 B x y u v) := ⟨VK.mono, VK.mono, VK.mono, VK.mono, VK.mono, VK.mono, VK.mono, VK.mono, VK.mono, VK.mono, VK.mono, VK.mono, trivial⟩
def rsgf (k b2 off2 b3 off3 B : Nat) (p q : Fm) (u v : Gr) : List (Value → World → Prop) :=
 [VK (.pointer (some ⟨B, 2, none⟩)), VK (.slice (some ⟨b2, off2, none⟩) p.funs.length p.fcap), VK (.int .i64 k), VK (.pointer (some ⟨b2, off2 + k * 5, none⟩)), VK (.agg #[.string u.name, .bool u.thread, .int .i64 u.params, .int .i64 u.regs, .slice u.ba u.blocks.length u.bcap]), VK (.pointer (some ⟨B + 1, 2, none⟩)), VK (.slice (some ⟨b3, off3, none⟩) q.funs.length q.fcap), VK (.int .i64 k), VK (.pointer (some ⟨b3, off3 + k * 5, none⟩)), VK (.agg #[.string v.name, .bool v.thread, .int .i64 v.params, .int .i64 v.regs, .slice v.ba v.blocks.length v.bcap]), VK (.bool false), VK (.bool true)]
theorem rsgf_mono {k b2 off2 b3 off3 B : Nat} {p q : Fm} {u v : Gr} : MonoL (rsgf k b2 off2 b3 off3 B p q u v) := ⟨VK.mono, VK.mono, VK.mono, VK.mono, VK.mono, VK.mono, VK.mono, VK.mono, VK.mono, VK.mono, VK.mono, VK.mono, trivial⟩
def rsgt (k b2 off2 b3 off3 B : Nat) (p q : Fm) (u v : Gr) : List (Value → World → Prop) :=
 [VK (.pointer (some ⟨B, 2, none⟩)), VK (.slice (some ⟨b2, off2, none⟩) p.funs.length p.fcap), VK (.int .i64 k), VK (.pointer (some ⟨b2, off2 + k * 5, none⟩)), VK (.agg #[.string u.name, .bool u.thread, .int .i64 u.params, .int .i64 u.regs, .slice u.ba u.blocks.length u.bcap]), VK (.pointer (some ⟨B + 1, 2, none⟩)), VK (.slice (some ⟨b3, off3, none⟩) q.funs.length q.fcap), VK (.int .i64 k), VK (.pointer (some ⟨b3, off3 + k * 5, none⟩)), VK (.agg #[.string v.name, .bool v.thread, .int .i64 v.params, .int .i64 v.regs, .slice v.ba v.blocks.length v.bcap]), VK (.bool true), VK (.bool false)]
theorem rsgt_mono {k b2 off2 b3 off3 B : Nat} {p q : Fm} {u v : Gr} : MonoL (rsgt k b2 off2 b3 off3 B p q u v) := ⟨VK.mono, VK.mono, VK.mono, VK.mono, VK.mono, VK.mono, VK.mono, VK.mono, VK.mono, VK.mono, VK.mono, VK.mono, trivial⟩
theorem rsameGraph_c (i k : Gr) (w : World) (hi : Gr.In w i) (hk : Gr.In w k) :
 Calls Tryd.prog 23 #[.agg ⟨i.vals⟩, .agg ⟨k.vals⟩] w fun e w' => e = .returned (.bool (Xp i k)) ∧ Below w.heap.size w w' := by
 have hRi := Lh (fun V (hv : Below w.heap.size w V) => (hi.keep hv).row)
 have hRk := Lh (fun V (hv : Below w.heap.size w V) => (hk.keep hv).row)
 have hXi := Lh (fun (x : Bk) V (hx : x ∈ i.blocks) (hv : Below w.heap.size w V) => (hi.keep hv).blocks x hx)
 have hXk := Lh (fun (x : Bk) V (hx : x ∈ k.blocks) (hv : Below w.heap.size w V) => (hk.keep hv).blocks x hx)
 obtain ⟨ci1, ci2⟩ := Q2 hi.row
 obtain ⟨ck1, ck2⟩ := Q2 hk.row
 clear hi hk
 obtain ⟨nm, th, ps, rg, ba, bcap, blocks⟩ := i
 obtain ⟨nm', th', ps', rg', ba', bcap', blocks'⟩ := k
 simp only at *
 have hv1 : Value.agg ⟨(⟨nm, th, ps, rg, ba, bcap, blocks⟩ : Gr).vals⟩ = .agg #[.string nm, .bool th, .int .i64 ps, .int .i64 rg, .slice ba blocks.length bcap] := rfl
 have hv2 : Value.agg ⟨(⟨nm', th', ps', rg', ba', bcap', blocks'⟩ : Gr).vals⟩ = .agg #[.string nm', .bool th', .int .i64 ps', .int .i64 rg', .slice ba' blocks'.length bcap'] := rfl
 rw [hv1, hv2]
 clear hv1 hv2
 by_cases h0 : nm = nm'
 · subst h0
   by_cases h1 : th = th'
   · subst h1
     by_cases h2 : ps = ps'
     · subst h2
       by_cases h3 : rg = rg'
       · subst h3
         by_cases hle : blocks.length = blocks'.length
         · have hG : Hid (Xp ⟨nm, th, ps, rg, ba, bcap, blocks⟩ ⟨nm, th, ps, rg, ba', bcap', blocks'⟩ = eqL Zz blocks blocks') := Lh (by simp [Xp])
           have hne5 : ((blocks.length : Int) != (blocks'.length : Int)) = false := by rw [hle]; simp
           have hst := Lh (Zc w (.cells #[.string nm, .bool th, .int .i64 ps, .int .i64 rg, .slice ba blocks.length bcap] 37) (.cells #[.string nm, .bool th, .int .i64 ps, .int .i64 rg, .slice ba' blocks'.length bcap'] 37))
           have hgc : Hid (((w.alloc (.cells #[.string nm, .bool th, .int .i64 ps, .int .i64 rg, .slice ba blocks.length bcap] 37)).alloc (.cells #[.string nm, .bool th, .int .i64 ps, .int .i64 rg, .slice ba' blocks'.length bcap'] 37)).cell? ⟨w.heap.size, 4, none⟩ = some (.slice ba blocks.length bcap) ∧ ((w.alloc (.cells #[.string nm, .bool th, .int .i64 ps, .int .i64 rg, .slice ba blocks.length bcap] 37)).alloc (.cells #[.string nm, .bool th, .int .i64 ps, .int .i64 rg, .slice ba' blocks'.length bcap'] 37)).cell? ⟨w.heap.size + 1, 4, none⟩ = some (.slice ba' blocks'.length bcap')) := Lh ⟨Qe (Qh _ _) (box5 w ⟨nm, th, ps, rg, ba, bcap, blocks⟩).2.2.2.2, Qk (Qt (w.alloc (.cells #[.string nm, .bool th, .int .i64 ps, .int .i64 rg, .slice ba blocks.length bcap] 37)) _ (by simp)) rfl⟩
           replace hle := Lh hle
           go_enter Tryd.func23, Tryd.ntmps23
           go_upto_region 3 with fail
           generalize hW0 : (w.alloc (.cells #[.string nm, .bool th, .int .i64 ps, .int .i64 rg, .slice ba blocks.length bcap] 37)).alloc (.cells #[.string nm, .bool th, .int .i64 ps, .int .i64 rg, .slice ba' blocks'.length bcap'] 37) = W0 at *
           have hgb : Hid (∀ V, Below W0.heap.size W0 V → V.cell? ⟨w.heap.size, 4, none⟩ = some (.slice ba blocks.length bcap) ∧ V.cell? ⟨w.heap.size + 1, 4, none⟩ = some (.slice ba' blocks'.length bcap')) := Lh (fun V hv => ⟨Qe hv hgc.out.1, Qe hv hgc.out.2⟩)
           clear hW0 hgc
           go_wp2_with fail
           go_loopw [5] (fun i wr => ∃ k : Nat, k ≤ blocks.length ∧ i = .int .i64 k ∧ Hid (eqL Zz blocks blocks' = eqL Zz (blocks.drop k) (blocks'.drop k)) ∧ Hid (Below W0.heap.size W0 wr)) (fun i _ => blocks.length - (intOf i).toNat)
           case atStart => exact ⟨0, Nat.zero_le _, rfl, Lh rfl, Lh (Below.refl _ _)⟩
           case round =>
            obtain ⟨k, hk, rfl, hsame, hb⟩ := hrel
            have gr := Lh (hst.out.trans (hb.out.mono hst.out.size))
            obtain ⟨q4, q4'⟩ := hgb.out wr hb.out
            have hlw : w.heap.size + 1 < wr.heap.size := World.block_lt_of_cell? _ _ q4'
            have hlw0 : w.heap.size < wr.heap.size := by omega
            by_cases hlt : k < blocks.length
            · obtain ⟨x, hx⟩ : ∃ x, blocks[k]? = some x := ⟨_, List.getElem?_eq_getElem hlt⟩
              obtain ⟨y, hy⟩ : ∃ y, blocks'[k]? = some y := ⟨_, List.getElem?_eq_getElem (by rw [← hle.out]; exact hlt)⟩
              obtain ⟨b, off, ha, _, c0, c1, c2, c3⟩ := X4 (hRi.out wr gr.out) k x hx
              obtain ⟨b', off', ha', _, e0, e1, e2, e3⟩ := X4 (hRk.out wr gr.out) k y hy
              subst ha
              subst ha'
              have hbl : b < wr.heap.size := World.block_lt_of_cell? _ _ c0
              have hbl' : b' < wr.heap.size := World.block_lt_of_cell? _ _ e0
              have hk1 : (k : Int) < (blocks.length : Int) := by omega
              have hk2 : (k : Int) < (blocks'.length : Int) := by have := hle.out; omega
              have hX := Lh (fun V (hv : Below w.heap.size w V) => hXi.out x V (List.mem_of_getElem? hx) hv)
              have hY := Lh (fun V (hv : Below w.heap.size w V) => hXk.out y V (List.mem_of_getElem? hy) hv)
              have hdr0 := eqL_drop (f := Zz) blocks blocks' k x y hx hy
              have hB : Zz x y = (eqL sameH x.phis y.phis && (eqL Zi x.code y.code && (decide (x.fm = y.fm) && decide (x.tt = y.tt)))) := rfl
              have hno := Lh (fun (h : Zz x y = false) => show Xp ⟨nm, th, ps, rg, some ⟨b, off, none⟩, bcap, blocks⟩ ⟨nm, th, ps, rg, some ⟨b', off', none⟩, bcap', blocks'⟩ = false by rw [hG.out, hsame.out, hdr0, h]; rfl)
              have hyes := Lh (fun (h : Zz x y = true) => show eqL Zz blocks blocks' = eqL Zz (blocks.drop (k + 1)) (blocks'.drop (k + 1)) by rw [hsame.out, hdr0, h]; simp)
              have hnoP := Lh (fun (h : eqL sameH x.phis y.phis = false) => hno.out (by rw [hB, h]; rfl))
              have hnoC := Lh (fun (h : eqL Zi x.code y.code = false) => hno.out (by rw [hB, h]; simp))
              have hnoF := Lh (fun (h : decide (x.fm = y.fm) = false) => hno.out (by rw [hB, h]; simp))
              have hnoT := Lh (fun (h : decide (x.tt = y.tt) = false) => hno.out (by rw [hB, h]; simp))
              have hyesB0 := Lh (fun (h1 : decide (x.fm = y.fm) = true) (h2 : decide (x.tt = y.tt) = true) (h3 : eqL sameH x.phis y.phis = true) (h4 : eqL Zi x.code y.code = true) => hyes.out (by rw [hB, h1, h2, h3, h4]; rfl))
              have hbA := Lh (Zc wr (.cells #[.slice x.pa x.phis.length x.pcap, .slice x.ca x.code.length x.ccap, .slice x.fa x.fm.length x.fcap, .slice x.ta x.tt.length x.tcap] 42) (.cells #[.slice y.pa y.phis.length y.pcap, .slice y.ca y.code.length y.ccap, .slice y.fa y.fm.length y.fcap, .slice y.ta y.tt.length y.tcap] 42))
              have hbox := box2B wr x y
              have hF := Lh (fun V (hv : Below w.heap.size w V) => rints_c x.fm y.fm x.fa y.fa x.fcap y.fcap V (hX.out V hv).frow (hY.out V hv).frow)
              have hT := Lh (fun V (hv : Below w.heap.size w V) => rints_c x.tt y.tt x.ta y.ta x.tcap y.tcap V (hX.out V hv).trow (hY.out V hv).trow)
              obtain ⟨cp1, cp2⟩ := Q2 (hX.out wr gr.out).prow
              obtain ⟨cp3, cp4⟩ := Q2 (hX.out wr gr.out).crow
              obtain ⟨cp5, cp6⟩ := Q2 (hY.out wr gr.out).prow
              obtain ⟨cp7, cp8⟩ := Q2 (hY.out wr gr.out).crow
              clear hx hy hdr0 hB hno hyes
              go_upto_region 8 with fail
              obtain ⟨BB0, hBB0⟩ : ∃ n, n = wr.heap.size := ⟨_, rfl⟩
              generalize hW1 : (wr.alloc (.cells #[.slice x.pa x.phis.length x.pcap, .slice x.ca x.code.length x.ccap, .slice x.fa x.fm.length x.fcap, .slice x.ta x.tt.length x.tcap] 42)).alloc (.cells #[.slice y.pa y.phis.length y.pcap, .slice y.ca y.code.length y.ccap, .slice y.fa y.fm.length y.fcap, .slice y.ta y.tt.length y.tcap] 42) = W1 at *
              rw [← hBB0] at hbox
              rw [← hBB0]
              have hbx2 : Hid (∀ V, Below W1.heap.size W1 V → (V.cell? ⟨BB0, 0, none⟩ = some (.slice x.pa x.phis.length x.pcap) ∧ V.cell? ⟨BB0, 1, none⟩ = some (.slice x.ca x.code.length x.ccap) ∧ V.cell? ⟨BB0, 2, none⟩ = some (.slice x.fa x.fm.length x.fcap) ∧ V.cell? ⟨BB0, 3, none⟩ = some (.slice x.ta x.tt.length x.tcap)) ∧ V.cell? ⟨BB0 + 1, 0, none⟩ = some (.slice y.pa y.phis.length y.pcap) ∧ V.cell? ⟨BB0 + 1, 1, none⟩ = some (.slice y.ca y.code.length y.ccap) ∧ V.cell? ⟨BB0 + 1, 2, none⟩ = some (.slice y.fa y.fm.length y.fcap) ∧ V.cell? ⟨BB0 + 1, 3, none⟩ = some (.slice y.ta y.tt.length y.tcap)) := Lh (fun V hv => by
               obtain ⟨a0, a1, a2, a3, a4, a5, a6, a7⟩ := hbox
               exact ⟨⟨Qe hv a0, Qe hv a1, Qe hv a2, Qe hv a3⟩, Qe hv a4, Qe hv a5, Qe hv a6, Qe hv a7⟩)
              have gw := Lh (gr.out.trans (hbA.out.mono gr.out.size))
              clear hW1 hbox c0 c1 c2 c3 e0 e1 e2 e3 q4 q4' hbl hbl' hBB0
              obtain ⟨⟨hx0, hx1, hx2, hx3⟩, hy0, hy1, hy2, hy3⟩ := hbx2.out W1 (Below.refl _ _)
              cases hf : decide (x.fm = y.fm)
              · have hc := hF.out W1 gw.out
                rw [hf] at hc
                replace hc := Lh hc
                have hfin := Lh (hnoF.out hf)
                clear hf hyesB0 hnoP hnoC hnoF hnoT hF hT
                go_wp2_with fail
                refine hc.out.mono ?_
                rintro e w2 ⟨rfl, hb2⟩
                have g2 := Lh (gw.out.trans (hb2.mono gw.out.size))
                clear hb2
                go_wp2_with fail
                go_ret
                exact ⟨Qi hfin.out.symm, g2.out⟩
              · have hc := hF.out W1 gw.out
                rw [hf] at hc
                replace hc := Lh hc
                replace hf := Lh hf
                clear hF
                go_wp2_with fail
                refine hc.out.mono ?_
                rintro e w2 ⟨rfl, hb2⟩
                have g2 := Lh (gw.out.trans (hb2.mono gw.out.size))
                clear hx0 hy0 hx1 hy1 hx2 hy2 hx3 hy3
                obtain ⟨⟨hx0, hx1, hx2, hx3⟩, hy0, hy1, hy2, hy3⟩ := hbx2.out w2 hb2
                replace hb2 := Lh hb2
                cases ht : decide (x.tt = y.tt)
                · have hc := hT.out w2 g2.out
                  rw [ht] at hc
                  replace hc := Lh hc
                  have hfin := Lh (hnoT.out ht)
                  clear ht hyesB0 hnoP hnoC hnoF hnoT hT
                  go_wp2_with fail
                  refine hc.out.mono ?_
                  rintro e w3 ⟨rfl, hb3⟩
                  have g3 := Lh (g2.out.trans (hb3.mono g2.out.size))
                  clear hb3
                  go_wp2_with fail
                  go_ret
                  exact ⟨Qi hfin.out.symm, g3.out⟩
                · have hc := hT.out w2 g2.out
                  rw [ht] at hc
                  replace hc := Lh hc
                  have hyesB := Lh (hyesB0.out hf.out ht)
                  clear ht hyesB0 hnoF hnoT hT
                  go_wp2_with fail
                  refine hc.out.mono ?_
                  rintro e w3 ⟨rfl, hb3⟩
                  have c4 := Lh (hb2.out.trans (hb3.mono hb2.out.size))
                  have g3 := Lh (gw.out.trans (c4.out.mono gw.out.size))
                  clear hb3 hx0 hy0 hx1 hy1 hx2 hy2 hx3 hy3
                  obtain ⟨⟨hx0, hx1, hx2, hx3⟩, hy0, hy1, hy2, hy3⟩ := hbx2.out w3 c4.out
                  by_cases hpl : x.phis.length = y.phis.length
                  · have hpn : ((x.phis.length : Int) != (y.phis.length : Int)) = false := by rw [hpl]; simp
                    replace hpl := Lh hpl
                    by_cases hcl : x.code.length = y.code.length
                    · have hcn : ((x.code.length : Int) != (y.code.length : Int)) = false := by rw [hcl]; simp
                      replace hcl := Lh hcl
                      go_wp2_with fail
                      go_loopw [8] (fun i wq => ∃ j : Nat, j ≤ x.phis.length ∧ i = .int .i64 j ∧ Hid (eqL sameH x.phis y.phis = eqL sameH (x.phis.drop j) (y.phis.drop j)) ∧ Hid (Below W1.heap.size W1 wq)) (fun i _ => x.phis.length - (intOf i).toNat)
                      case atStart => exact ⟨0, Nat.zero_le _, rfl, Lh rfl, c4⟩
                      case round =>
                       clear hx0 hy0 hx1 hy1 hx2 hy2 hx3 hy3
                       obtain ⟨j, hj, rfl, hph, hb0⟩ := hrel
                       have g1 := Lh (gw.out.trans (hb0.out.mono gw.out.size))
                       obtain ⟨⟨hx0, hx1, hx2, hx3⟩, hy0, hy1, hy2, hy3⟩ := hbx2.out wr hb0.out
                       by_cases hjt : j < x.phis.length
                       · obtain ⟨u, hu⟩ : ∃ u, x.phis[j]? = some u := ⟨_, List.getElem?_eq_getElem hjt⟩
                         obtain ⟨v, hv⟩ : ∃ v, y.phis[j]? = some v := ⟨_, List.getElem?_eq_getElem (by rw [← hpl.out]; exact hjt)⟩
                         obtain ⟨b2, off2, ha2, _, d0, d1⟩ := ph_row (hX.out wr g1.out).prow j u hu
                         obtain ⟨b3, off3, ha3, _, e0, e1⟩ := ph_row (hY.out wr g1.out).prow j v hv
                         have huI := (hX.out wr g1.out).phis u (List.mem_of_getElem? hu)
                         have hvI := (hY.out wr g1.out).phis v (List.mem_of_getElem? hv)
                         have hj1 : (j : Int) < (x.phis.length : Int) := by omega
                         have hj2 : (j : Int) < (y.phis.length : Int) := by have := hpl.out; omega
                         have hK : Hid (∀ V, Below wr.heap.size wr V → V.cell? ⟨BB0, 0, none⟩ = some (.slice (some ⟨b2, off2, none⟩) x.phis.length x.pcap) ∧ V.cell? ⟨BB0 + 1, 0, none⟩ = some (.slice (some ⟨b3, off3, none⟩) y.phis.length y.pcap) ∧ V.cell? ⟨b2, off2 + j * 2, none⟩ = some (.int .i64 u.r) ∧ V.cell? ⟨b3, off3 + j * 2, none⟩ = some (.int .i64 v.r) ∧ V.cell? ⟨b2, off2 + j * 2 + 1, none⟩ = some (.slice u.aa u.args.length u.acap) ∧ V.cell? ⟨b3, off3 + j * 2 + 1, none⟩ = some (.slice v.aa v.args.length v.acap)) := Lh (fun V hv => by
                          rw [ha2] at hx0
                          rw [ha3] at hy0
                          exact ⟨Qe hv hx0, Qe hv hy0, Qe hv d0, Qe hv e0, Qe hv d1, Qe hv e1⟩)
                         have hCall := Lh (fun V (hv : Below wr.heap.size wr V) => rints_c u.args v.args u.aa v.aa u.acap v.acap V (huI.row.below (Kps.of_below hv)) (hvI.row.below (Kps.of_below hv)))
                         have hdr := Lh (eqL_drop (f := sameH) x.phis y.phis j u v hu hv)
                         have hsh : Hid (sameH u v = (decide (u.r = v.r) && decide (u.args = v.args))) := Lh rfl
                         clear hu hv huI hvI d0 d1 e0 e1
                         by_cases hr : u.r = v.r
                         · have hne : (u.r != v.r) = false := by simp [hr]
                           cases hd : decide (u.args = v.args)
                           · rw [hd] at hCall
                             have hfin : Hid (Xp ⟨nm, th, ps, rg, some ⟨b, off, none⟩, bcap, blocks⟩ ⟨nm, th, ps, rg, some ⟨b', off', none⟩, bcap', blocks'⟩ = false) := Lh (hnoP.out (by rw [hph.out, hdr.out, hsh.out, hd]; simp))
                             clear hph hdr hsh hr hd ha2 ha3
                             go_upto_region 13 with fail
                             refine Xv (C := fun V => Below wr.heap.size wr V) (E := Ext) (R := fun i => (rspf j b2 off2 b3 off3 BB0 x y u v).getD i VT) (by kernel_rfl) ((Below.refl _ _).drew) (by kernel_rfl) (fun i v w' w'' _ hE h => Zr _ i rspf_mono v w' w'' hE h) (steps_all ?hs) ?hend
                             case hs =>
                              refine Qa (Ql fun a w5 hC hs => ?_) ?_
                              · skip
                                have hvx := Qo hs 6 (by kernel_rfl) (by rfl)
                                exact ⟨Qb rfl, _, Q4 rfl (ev hvx) fl_b0, rfl⟩
                              refine Qa (Ql fun a w5 hC hs => ?_) ?_
                              · skip
                                obtain ⟨vx, hvx, hRx⟩ := Qf hs 0 101 (by kernel_rfl) (by rfl)
                                replace hRx : vx = _ := hRx
                                subst hRx
                                exact ⟨Qb rfl, _, Qz rfl (ev hvx) (ld_phis (hK.out w5 hC).1), rfl⟩
                              refine Qa (Ql fun a w5 hC hs => ?_) ?_
                              · skip
                                have hvx := Qo hs 8 (by kernel_rfl) (by rfl)
                                exact ⟨Qb rfl, _, Qw (.inl rfl) (ev hvx), rfl⟩
                              refine Qa (Ql fun a w5 hC hs => ?_) ?_
                              · skip
                                obtain ⟨vx, hvx, hRx⟩ := Qf hs 1 102 (by kernel_rfl) (by rfl)
                                replace hRx : vx = _ := hRx
                                subst hRx
                                obtain ⟨vy, hvy, hRy⟩ := Qf hs 2 103 (by kernel_rfl) (by rfl)
                                replace hRy : vy = _ := hRy
                                subst hRy
                                exact ⟨Qb rfl, _, Yc rfl (ev hvx) (ev hvy) (ix_phi hj1), rfl⟩
                              refine Qa (Ql fun a w5 hC hs => ?_) ?_
                              · skip
                                obtain ⟨vx, hvx, hRx⟩ := Qf hs 3 104 (by kernel_rfl) (by rfl)
                                replace hRx : vx = _ := hRx
                                subst hRx
                                exact ⟨Qb rfl, _, Q4 rfl (ev hvx) fl_p0, rfl⟩
                              refine Qa (Ql fun a w5 hC hs => ?_) ?_
                              · skip
                                obtain ⟨vx, hvx, hRx⟩ := Qf hs 4 105 (by kernel_rfl) (by rfl)
                                replace hRx : vx = _ := hRx
                                subst hRx
                                exact ⟨Qb rfl, _, Qz rfl (ev hvx) (ld_int (hK.out w5 hC).2.2.1), rfl⟩
                              refine Qa (Ql fun a w5 hC hs => ?_) ?_
                              · skip
                                have hvx := Qo hs 7 (by kernel_rfl) (by rfl)
                                exact ⟨Qb rfl, _, Q4 rfl (ev hvx) fl_b0, rfl⟩
                              refine Qa (Ql fun a w5 hC hs => ?_) ?_
                              · skip
                                obtain ⟨vx, hvx, hRx⟩ := Qf hs 6 107 (by kernel_rfl) (by rfl)
                                replace hRx : vx = _ := hRx
                                subst hRx
                                exact ⟨Qb rfl, _, Qz rfl (ev hvx) (ld_phis (hK.out w5 hC).2.1), rfl⟩
                              refine Qa (Ql fun a w5 hC hs => ?_) ?_
                              · skip
                                have hvx := Qo hs 8 (by kernel_rfl) (by rfl)
                                exact ⟨Qb rfl, _, Qw (.inl rfl) (ev hvx), rfl⟩
                              refine Qa (Ql fun a w5 hC hs => ?_) ?_
                              · skip
                                obtain ⟨vx, hvx, hRx⟩ := Qf hs 7 108 (by kernel_rfl) (by rfl)
                                replace hRx : vx = _ := hRx
                                subst hRx
                                obtain ⟨vy, hvy, hRy⟩ := Qf hs 8 109 (by kernel_rfl) (by rfl)
                                replace hRy : vy = _ := hRy
                                subst hRy
                                exact ⟨Qb rfl, _, Yc rfl (ev hvx) (ev hvy) (ix_phi hj2), rfl⟩
                              refine Qa (Ql fun a w5 hC hs => ?_) ?_
                              · skip
                                obtain ⟨vx, hvx, hRx⟩ := Qf hs 9 110 (by kernel_rfl) (by rfl)
                                replace hRx : vx = _ := hRx
                                subst hRx
                                exact ⟨Qb rfl, _, Q4 rfl (ev hvx) fl_p0, rfl⟩
                              refine Qa (Ql fun a w5 hC hs => ?_) ?_
                              · skip
                                obtain ⟨vx, hvx, hRx⟩ := Qf hs 10 111 (by kernel_rfl) (by rfl)
                                replace hRx : vx = _ := hRx
                                subst hRx
                                exact ⟨Qb rfl, _, Qz rfl (ev hvx) (ld_int (hK.out w5 hC).2.2.2.1), rfl⟩
                              refine Qa (Ql fun a w5 hC hs => ?_) ?_
                              · skip
                                obtain ⟨vx, hvx, hRx⟩ := Qf hs 5 106 (by kernel_rfl) (by rfl)
                                replace hRx : vx = _ := hRx
                                subst hRx
                                obtain ⟨vy, hvy, hRy⟩ := Qf hs 11 112 (by kernel_rfl) (by rfl)
                                replace hRy : vy = _ := hRy
                                subst hRy
                                exact ⟨Qb rfl, _, run_nqi hne rfl (ev hvx) (ev hvy), rfl⟩
                              refine Qa (Ql fun a w5 hC hs => ?_) ?_
                              · skip
                                obtain ⟨vx, hvx, hRx⟩ := Qf hs 12 113 (by kernel_rfl) (by rfl)
                                replace hRx : vx = _ := hRx
                                subst hRx
                                exact ⟨Qb rfl, _, Qw (.inl rfl) (ev hvx), rfl⟩
                              refine Qa (Ql fun a w5 hC hs => ?_) ?_
                              · skip
                                obtain ⟨vg, hvg, hRg⟩ := Qf hs 13 114 (by kernel_rfl) (by rfl)
                                replace hRg : vg = _ := hRg
                                subst hRg
                                have hvx := Qo hs 6 (by kernel_rfl) (by rfl)
                                exact ⟨Za (j := 13) (d := 114) (b := false) (by rfl) (by rfl) hvg, _, Q4 rfl (ev hvx) fl_b0, rfl⟩
                              refine Qa (Ql fun a w5 hC hs => ?_) ?_
                              · skip
                                obtain ⟨vg, hvg, hRg⟩ := Qf hs 13 114 (by kernel_rfl) (by rfl)
                                replace hRg : vg = _ := hRg
                                subst hRg
                                obtain ⟨vx, hvx, hRx⟩ := Qf hs 14 115 (by kernel_rfl) (by rfl)
                                replace hRx : vx = _ := hRx
                                subst hRx
                                exact ⟨Za (j := 13) (d := 114) (b := false) (by rfl) (by rfl) hvg, _, Qz rfl (ev hvx) (ld_phis (hK.out w5 hC).1), rfl⟩
                              refine Qa (Ql fun a w5 hC hs => ?_) ?_
                              · skip
                                obtain ⟨vg, hvg, hRg⟩ := Qf hs 13 114 (by kernel_rfl) (by rfl)
                                replace hRg : vg = _ := hRg
                                subst hRg
                                have hvx := Qo hs 8 (by kernel_rfl) (by rfl)
                                exact ⟨Za (j := 13) (d := 114) (b := false) (by rfl) (by rfl) hvg, _, Qw (.inl rfl) (ev hvx), rfl⟩
                              refine Qa (Ql fun a w5 hC hs => ?_) ?_
                              · skip
                                obtain ⟨vg, hvg, hRg⟩ := Qf hs 13 114 (by kernel_rfl) (by rfl)
                                replace hRg : vg = _ := hRg
                                subst hRg
                                obtain ⟨vx, hvx, hRx⟩ := Qf hs 15 116 (by kernel_rfl) (by rfl)
                                replace hRx : vx = _ := hRx
                                subst hRx
                                obtain ⟨vy, hvy, hRy⟩ := Qf hs 16 117 (by kernel_rfl) (by rfl)
                                replace hRy : vy = _ := hRy
                                subst hRy
                                exact ⟨Za (j := 13) (d := 114) (b := false) (by rfl) (by rfl) hvg, _, Yc rfl (ev hvx) (ev hvy) (ix_phi hj1), rfl⟩
                              refine Qa (Ql fun a w5 hC hs => ?_) ?_
                              · skip
                                obtain ⟨vg, hvg, hRg⟩ := Qf hs 13 114 (by kernel_rfl) (by rfl)
                                replace hRg : vg = _ := hRg
                                subst hRg
                                obtain ⟨vx, hvx, hRx⟩ := Qf hs 17 118 (by kernel_rfl) (by rfl)
                                replace hRx : vx = _ := hRx
                                subst hRx
                                exact ⟨Za (j := 13) (d := 114) (b := false) (by rfl) (by rfl) hvg, _, Q4 rfl (ev hvx) fl_p1, rfl⟩
                              refine Qa (Ql fun a w5 hC hs => ?_) ?_
                              · skip
                                obtain ⟨vg, hvg, hRg⟩ := Qf hs 13 114 (by kernel_rfl) (by rfl)
                                replace hRg : vg = _ := hRg
                                subst hRg
                                obtain ⟨vx, hvx, hRx⟩ := Qf hs 18 119 (by kernel_rfl) (by rfl)
                                replace hRx : vx = _ := hRx
                                subst hRx
                                exact ⟨Za (j := 13) (d := 114) (b := false) (by rfl) (by rfl) hvg, _, Qz rfl (ev hvx) (ld_ints (hK.out w5 hC).2.2.2.2.1), rfl⟩
                              refine Qa (Ql fun a w5 hC hs => ?_) ?_
                              · skip
                                obtain ⟨vg, hvg, hRg⟩ := Qf hs 13 114 (by kernel_rfl) (by rfl)
                                replace hRg : vg = _ := hRg
                                subst hRg
                                have hvx := Qo hs 7 (by kernel_rfl) (by rfl)
                                exact ⟨Za (j := 13) (d := 114) (b := false) (by rfl) (by rfl) hvg, _, Q4 rfl (ev hvx) fl_b0, rfl⟩
                              refine Qa (Ql fun a w5 hC hs => ?_) ?_
                              · skip
                                obtain ⟨vg, hvg, hRg⟩ := Qf hs 13 114 (by kernel_rfl) (by rfl)
                                replace hRg : vg = _ := hRg
                                subst hRg
                                obtain ⟨vx, hvx, hRx⟩ := Qf hs 20 121 (by kernel_rfl) (by rfl)
                                replace hRx : vx = _ := hRx
                                subst hRx
                                exact ⟨Za (j := 13) (d := 114) (b := false) (by rfl) (by rfl) hvg, _, Qz rfl (ev hvx) (ld_phis (hK.out w5 hC).2.1), rfl⟩
                              refine Qa (Ql fun a w5 hC hs => ?_) ?_
                              · skip
                                obtain ⟨vg, hvg, hRg⟩ := Qf hs 13 114 (by kernel_rfl) (by rfl)
                                replace hRg : vg = _ := hRg
                                subst hRg
                                have hvx := Qo hs 8 (by kernel_rfl) (by rfl)
                                exact ⟨Za (j := 13) (d := 114) (b := false) (by rfl) (by rfl) hvg, _, Qw (.inl rfl) (ev hvx), rfl⟩
                              refine Qa (Ql fun a w5 hC hs => ?_) ?_
                              · skip
                                obtain ⟨vg, hvg, hRg⟩ := Qf hs 13 114 (by kernel_rfl) (by rfl)
                                replace hRg : vg = _ := hRg
                                subst hRg
                                obtain ⟨vx, hvx, hRx⟩ := Qf hs 21 122 (by kernel_rfl) (by rfl)
                                replace hRx : vx = _ := hRx
                                subst hRx
                                obtain ⟨vy, hvy, hRy⟩ := Qf hs 22 123 (by kernel_rfl) (by rfl)
                                replace hRy : vy = _ := hRy
                                subst hRy
                                exact ⟨Za (j := 13) (d := 114) (b := false) (by rfl) (by rfl) hvg, _, Yc rfl (ev hvx) (ev hvy) (ix_phi hj2), rfl⟩
                              refine Qa (Ql fun a w5 hC hs => ?_) ?_
                              · skip
                                obtain ⟨vg, hvg, hRg⟩ := Qf hs 13 114 (by kernel_rfl) (by rfl)
                                replace hRg : vg = _ := hRg
                                subst hRg
                                obtain ⟨vx, hvx, hRx⟩ := Qf hs 23 124 (by kernel_rfl) (by rfl)
                                replace hRx : vx = _ := hRx
                                subst hRx
                                exact ⟨Za (j := 13) (d := 114) (b := false) (by rfl) (by rfl) hvg, _, Q4 rfl (ev hvx) fl_p1, rfl⟩
                              refine Qa (Ql fun a w5 hC hs => ?_) ?_
                              · skip
                                obtain ⟨vg, hvg, hRg⟩ := Qf hs 13 114 (by kernel_rfl) (by rfl)
                                replace hRg : vg = _ := hRg
                                subst hRg
                                obtain ⟨vx, hvx, hRx⟩ := Qf hs 24 125 (by kernel_rfl) (by rfl)
                                replace hRx : vx = _ := hRx
                                subst hRx
                                exact ⟨Za (j := 13) (d := 114) (b := false) (by rfl) (by rfl) hvg, _, Qz rfl (ev hvx) (ld_ints (hK.out w5 hC).2.2.2.2.2), rfl⟩
                              refine Qa (s_call fun a w5 hC hs => ?_) ?_
                              · skip
                                obtain ⟨vg, hvg, hRg⟩ := Qf hs 13 114 (by kernel_rfl) (by rfl)
                                replace hRg : vg = _ := hRg
                                subst hRg
                                obtain ⟨vx, hvx, hRx⟩ := Qf hs 19 120 (by kernel_rfl) (by rfl)
                                replace hRx : vx = _ := hRx
                                subst hRx
                                obtain ⟨vy, hvy, hRy⟩ := Qf hs 25 126 (by kernel_rfl) (by rfl)
                                replace hRy : vy = _ := hRy
                                subst hRy
                                exact ⟨Za (j := 13) (d := 114) (b := false) (by rfl) (by rfl) hvg, 55, _, Z2 rfl (ev hvx) (ev hvy) (fun _ _ => rfl), (hCall.out w5 hC).mono (fun e w' ⟨he, hb⟩ => ⟨_, he, hC.trans (hb.mono hC.size), hb, rfl⟩)⟩
                              refine Qa (Ql fun a w5 hC hs => ?_) ?_
                              · skip
                                obtain ⟨vg, hvg, hRg⟩ := Qf hs 13 114 (by kernel_rfl) (by rfl)
                                replace hRg : vg = _ := hRg
                                subst hRg
                                obtain ⟨vx, hvx, hRx⟩ := Qf hs 26 127 (by kernel_rfl) (by rfl)
                                replace hRx : vx = _ := hRx
                                subst hRx
                                exact ⟨Za (j := 13) (d := 114) (b := false) (by rfl) (by rfl) hvg, _, run_notB rfl (ev hvx), rfl⟩
                              refine Qa (Ql fun a w5 hC hs => ?_) ?_
                              · skip
                                obtain ⟨vc, hvc, hRc⟩ := Qf hs 13 114 (by kernel_rfl) (by rfl)
                                replace hRc : vc = _ := hRc
                                subst hRc
                                obtain ⟨vy, hvy, hRy⟩ := Qf hs 27 128 (by kernel_rfl) (by rfl)
                                replace hRy : vy = _ := hRy
                                subst hRy
                                exact ⟨Qb rfl, _, run_pk (b := false) rfl (ev hvc) (by simp only [if_true, if_false, Bool.false_eq_true]; exact (ev hvy)), rfl⟩
                              exact Qx
                             case hend =>
                              intro σ V4 hC4 hR4
                              generalize hF : Q6 _ _ _ _ _ = F
                              simp [Q6, dstOf, List.range, List.range.loop, Act.put] at hF
                              subst hF
                              have hl : σ 28 = .bool true := hR4 28 (by simp)
                              rw [hl]
                              have g4 := Lh (g1.out.trans (hC4.mono g1.out.size))
                              have g5 := Lh (hb0.out.trans (hC4.mono hb0.out.size))
                              clear hR4 hC4 hl hK hCall
                              go_wp2_with fail
                              go_ret
                              exact ⟨Qi hfin.out.symm, g4.out⟩
                           · rw [hd] at hCall
                             have hn : Hid (eqL sameH x.phis y.phis = eqL sameH (x.phis.drop (j + 1)) (y.phis.drop (j + 1))) := Lh (by rw [hph.out, hdr.out, hsh.out, hd, hr]; simp)
                             clear hph hdr hsh hr hd ha2 ha3
                             go_upto_region 13 with fail
                             refine Xv (C := fun V => Below wr.heap.size wr V) (E := Ext) (R := fun i => (rspt j b2 off2 b3 off3 BB0 x y u v).getD i VT) (by kernel_rfl) ((Below.refl _ _).drew) (by kernel_rfl) (fun i v w' w'' _ hE h => Zr _ i rspt_mono v w' w'' hE h) (steps_all ?hs) ?hend
                             case hs =>
                              refine Qa (Ql fun a w5 hC hs => ?_) ?_
                              · skip
                                have hvx := Qo hs 6 (by kernel_rfl) (by rfl)
                                exact ⟨Qb rfl, _, Q4 rfl (ev hvx) fl_b0, rfl⟩
                              refine Qa (Ql fun a w5 hC hs => ?_) ?_
                              · skip
                                obtain ⟨vx, hvx, hRx⟩ := Qf hs 0 101 (by kernel_rfl) (by rfl)
                                replace hRx : vx = _ := hRx
                                subst hRx
                                exact ⟨Qb rfl, _, Qz rfl (ev hvx) (ld_phis (hK.out w5 hC).1), rfl⟩
                              refine Qa (Ql fun a w5 hC hs => ?_) ?_
                              · skip
                                have hvx := Qo hs 8 (by kernel_rfl) (by rfl)
                                exact ⟨Qb rfl, _, Qw (.inl rfl) (ev hvx), rfl⟩
                              refine Qa (Ql fun a w5 hC hs => ?_) ?_
                              · skip
                                obtain ⟨vx, hvx, hRx⟩ := Qf hs 1 102 (by kernel_rfl) (by rfl)
                                replace hRx : vx = _ := hRx
                                subst hRx
                                obtain ⟨vy, hvy, hRy⟩ := Qf hs 2 103 (by kernel_rfl) (by rfl)
                                replace hRy : vy = _ := hRy
                                subst hRy
                                exact ⟨Qb rfl, _, Yc rfl (ev hvx) (ev hvy) (ix_phi hj1), rfl⟩
                              refine Qa (Ql fun a w5 hC hs => ?_) ?_
                              · skip
                                obtain ⟨vx, hvx, hRx⟩ := Qf hs 3 104 (by kernel_rfl) (by rfl)
                                replace hRx : vx = _ := hRx
                                subst hRx
                                exact ⟨Qb rfl, _, Q4 rfl (ev hvx) fl_p0, rfl⟩
                              refine Qa (Ql fun a w5 hC hs => ?_) ?_
                              · skip
                                obtain ⟨vx, hvx, hRx⟩ := Qf hs 4 105 (by kernel_rfl) (by rfl)
                                replace hRx : vx = _ := hRx
                                subst hRx
                                exact ⟨Qb rfl, _, Qz rfl (ev hvx) (ld_int (hK.out w5 hC).2.2.1), rfl⟩
                              refine Qa (Ql fun a w5 hC hs => ?_) ?_
                              · skip
                                have hvx := Qo hs 7 (by kernel_rfl) (by rfl)
                                exact ⟨Qb rfl, _, Q4 rfl (ev hvx) fl_b0, rfl⟩
                              refine Qa (Ql fun a w5 hC hs => ?_) ?_
                              · skip
                                obtain ⟨vx, hvx, hRx⟩ := Qf hs 6 107 (by kernel_rfl) (by rfl)
                                replace hRx : vx = _ := hRx
                                subst hRx
                                exact ⟨Qb rfl, _, Qz rfl (ev hvx) (ld_phis (hK.out w5 hC).2.1), rfl⟩
                              refine Qa (Ql fun a w5 hC hs => ?_) ?_
                              · skip
                                have hvx := Qo hs 8 (by kernel_rfl) (by rfl)
                                exact ⟨Qb rfl, _, Qw (.inl rfl) (ev hvx), rfl⟩
                              refine Qa (Ql fun a w5 hC hs => ?_) ?_
                              · skip
                                obtain ⟨vx, hvx, hRx⟩ := Qf hs 7 108 (by kernel_rfl) (by rfl)
                                replace hRx : vx = _ := hRx
                                subst hRx
                                obtain ⟨vy, hvy, hRy⟩ := Qf hs 8 109 (by kernel_rfl) (by rfl)
                                replace hRy : vy = _ := hRy
                                subst hRy
                                exact ⟨Qb rfl, _, Yc rfl (ev hvx) (ev hvy) (ix_phi hj2), rfl⟩
                              refine Qa (Ql fun a w5 hC hs => ?_) ?_
                              · skip
                                obtain ⟨vx, hvx, hRx⟩ := Qf hs 9 110 (by kernel_rfl) (by rfl)
                                replace hRx : vx = _ := hRx
                                subst hRx
                                exact ⟨Qb rfl, _, Q4 rfl (ev hvx) fl_p0, rfl⟩
                              refine Qa (Ql fun a w5 hC hs => ?_) ?_
                              · skip
                                obtain ⟨vx, hvx, hRx⟩ := Qf hs 10 111 (by kernel_rfl) (by rfl)
                                replace hRx : vx = _ := hRx
                                subst hRx
                                exact ⟨Qb rfl, _, Qz rfl (ev hvx) (ld_int (hK.out w5 hC).2.2.2.1), rfl⟩
                              refine Qa (Ql fun a w5 hC hs => ?_) ?_
                              · skip
                                obtain ⟨vx, hvx, hRx⟩ := Qf hs 5 106 (by kernel_rfl) (by rfl)
                                replace hRx : vx = _ := hRx
                                subst hRx
                                obtain ⟨vy, hvy, hRy⟩ := Qf hs 11 112 (by kernel_rfl) (by rfl)
                                replace hRy : vy = _ := hRy
                                subst hRy
                                exact ⟨Qb rfl, _, run_nqi hne rfl (ev hvx) (ev hvy), rfl⟩
                              refine Qa (Ql fun a w5 hC hs => ?_) ?_
                              · skip
                                obtain ⟨vx, hvx, hRx⟩ := Qf hs 12 113 (by kernel_rfl) (by rfl)
                                replace hRx : vx = _ := hRx
                                subst hRx
                                exact ⟨Qb rfl, _, Qw (.inl rfl) (ev hvx), rfl⟩
                              refine Qa (Ql fun a w5 hC hs => ?_) ?_
                              · skip
                                obtain ⟨vg, hvg, hRg⟩ := Qf hs 13 114 (by kernel_rfl) (by rfl)
                                replace hRg : vg = _ := hRg
                                subst hRg
                                have hvx := Qo hs 6 (by kernel_rfl) (by rfl)
                                exact ⟨Za (j := 13) (d := 114) (b := false) (by rfl) (by rfl) hvg, _, Q4 rfl (ev hvx) fl_b0, rfl⟩
                              refine Qa (Ql fun a w5 hC hs => ?_) ?_
                              · skip
                                obtain ⟨vg, hvg, hRg⟩ := Qf hs 13 114 (by kernel_rfl) (by rfl)
                                replace hRg : vg = _ := hRg
                                subst hRg
                                obtain ⟨vx, hvx, hRx⟩ := Qf hs 14 115 (by kernel_rfl) (by rfl)
                                replace hRx : vx = _ := hRx
                                subst hRx
                                exact ⟨Za (j := 13) (d := 114) (b := false) (by rfl) (by rfl) hvg, _, Qz rfl (ev hvx) (ld_phis (hK.out w5 hC).1), rfl⟩
                              refine Qa (Ql fun a w5 hC hs => ?_) ?_
                              · skip
                                obtain ⟨vg, hvg, hRg⟩ := Qf hs 13 114 (by kernel_rfl) (by rfl)
                                replace hRg : vg = _ := hRg
                                subst hRg
                                have hvx := Qo hs 8 (by kernel_rfl) (by rfl)
                                exact ⟨Za (j := 13) (d := 114) (b := false) (by rfl) (by rfl) hvg, _, Qw (.inl rfl) (ev hvx), rfl⟩
                              refine Qa (Ql fun a w5 hC hs => ?_) ?_
                              · skip
                                obtain ⟨vg, hvg, hRg⟩ := Qf hs 13 114 (by kernel_rfl) (by rfl)
                                replace hRg : vg = _ := hRg
                                subst hRg
                                obtain ⟨vx, hvx, hRx⟩ := Qf hs 15 116 (by kernel_rfl) (by rfl)
                                replace hRx : vx = _ := hRx
                                subst hRx
                                obtain ⟨vy, hvy, hRy⟩ := Qf hs 16 117 (by kernel_rfl) (by rfl)
                                replace hRy : vy = _ := hRy
                                subst hRy
                                exact ⟨Za (j := 13) (d := 114) (b := false) (by rfl) (by rfl) hvg, _, Yc rfl (ev hvx) (ev hvy) (ix_phi hj1), rfl⟩
                              refine Qa (Ql fun a w5 hC hs => ?_) ?_
                              · skip
                                obtain ⟨vg, hvg, hRg⟩ := Qf hs 13 114 (by kernel_rfl) (by rfl)
                                replace hRg : vg = _ := hRg
                                subst hRg
                                obtain ⟨vx, hvx, hRx⟩ := Qf hs 17 118 (by kernel_rfl) (by rfl)
                                replace hRx : vx = _ := hRx
                                subst hRx
                                exact ⟨Za (j := 13) (d := 114) (b := false) (by rfl) (by rfl) hvg, _, Q4 rfl (ev hvx) fl_p1, rfl⟩
                              refine Qa (Ql fun a w5 hC hs => ?_) ?_
                              · skip
                                obtain ⟨vg, hvg, hRg⟩ := Qf hs 13 114 (by kernel_rfl) (by rfl)
                                replace hRg : vg = _ := hRg
                                subst hRg
                                obtain ⟨vx, hvx, hRx⟩ := Qf hs 18 119 (by kernel_rfl) (by rfl)
                                replace hRx : vx = _ := hRx
                                subst hRx
                                exact ⟨Za (j := 13) (d := 114) (b := false) (by rfl) (by rfl) hvg, _, Qz rfl (ev hvx) (ld_ints (hK.out w5 hC).2.2.2.2.1), rfl⟩
                              refine Qa (Ql fun a w5 hC hs => ?_) ?_
                              · skip
                                obtain ⟨vg, hvg, hRg⟩ := Qf hs 13 114 (by kernel_rfl) (by rfl)
                                replace hRg : vg = _ := hRg
                                subst hRg
                                have hvx := Qo hs 7 (by kernel_rfl) (by rfl)
                                exact ⟨Za (j := 13) (d := 114) (b := false) (by rfl) (by rfl) hvg, _, Q4 rfl (ev hvx) fl_b0, rfl⟩
                              refine Qa (Ql fun a w5 hC hs => ?_) ?_
                              · skip
                                obtain ⟨vg, hvg, hRg⟩ := Qf hs 13 114 (by kernel_rfl) (by rfl)
                                replace hRg : vg = _ := hRg
                                subst hRg
                                obtain ⟨vx, hvx, hRx⟩ := Qf hs 20 121 (by kernel_rfl) (by rfl)
                                replace hRx : vx = _ := hRx
                                subst hRx
                                exact ⟨Za (j := 13) (d := 114) (b := false) (by rfl) (by rfl) hvg, _, Qz rfl (ev hvx) (ld_phis (hK.out w5 hC).2.1), rfl⟩
                              refine Qa (Ql fun a w5 hC hs => ?_) ?_
                              · skip
                                obtain ⟨vg, hvg, hRg⟩ := Qf hs 13 114 (by kernel_rfl) (by rfl)
                                replace hRg : vg = _ := hRg
                                subst hRg
                                have hvx := Qo hs 8 (by kernel_rfl) (by rfl)
                                exact ⟨Za (j := 13) (d := 114) (b := false) (by rfl) (by rfl) hvg, _, Qw (.inl rfl) (ev hvx), rfl⟩
                              refine Qa (Ql fun a w5 hC hs => ?_) ?_
                              · skip
                                obtain ⟨vg, hvg, hRg⟩ := Qf hs 13 114 (by kernel_rfl) (by rfl)
                                replace hRg : vg = _ := hRg
                                subst hRg
                                obtain ⟨vx, hvx, hRx⟩ := Qf hs 21 122 (by kernel_rfl) (by rfl)
                                replace hRx : vx = _ := hRx
                                subst hRx
                                obtain ⟨vy, hvy, hRy⟩ := Qf hs 22 123 (by kernel_rfl) (by rfl)
                                replace hRy : vy = _ := hRy
                                subst hRy
                                exact ⟨Za (j := 13) (d := 114) (b := false) (by rfl) (by rfl) hvg, _, Yc rfl (ev hvx) (ev hvy) (ix_phi hj2), rfl⟩
                              refine Qa (Ql fun a w5 hC hs => ?_) ?_
                              · skip
                                obtain ⟨vg, hvg, hRg⟩ := Qf hs 13 114 (by kernel_rfl) (by rfl)
                                replace hRg : vg = _ := hRg
                                subst hRg
                                obtain ⟨vx, hvx, hRx⟩ := Qf hs 23 124 (by kernel_rfl) (by rfl)
                                replace hRx : vx = _ := hRx
                                subst hRx
                                exact ⟨Za (j := 13) (d := 114) (b := false) (by rfl) (by rfl) hvg, _, Q4 rfl (ev hvx) fl_p1, rfl⟩
                              refine Qa (Ql fun a w5 hC hs => ?_) ?_
                              · skip
                                obtain ⟨vg, hvg, hRg⟩ := Qf hs 13 114 (by kernel_rfl) (by rfl)
                                replace hRg : vg = _ := hRg
                                subst hRg
                                obtain ⟨vx, hvx, hRx⟩ := Qf hs 24 125 (by kernel_rfl) (by rfl)
                                replace hRx : vx = _ := hRx
                                subst hRx
                                exact ⟨Za (j := 13) (d := 114) (b := false) (by rfl) (by rfl) hvg, _, Qz rfl (ev hvx) (ld_ints (hK.out w5 hC).2.2.2.2.2), rfl⟩
                              refine Qa (s_call fun a w5 hC hs => ?_) ?_
                              · skip
                                obtain ⟨vg, hvg, hRg⟩ := Qf hs 13 114 (by kernel_rfl) (by rfl)
                                replace hRg : vg = _ := hRg
                                subst hRg
                                obtain ⟨vx, hvx, hRx⟩ := Qf hs 19 120 (by kernel_rfl) (by rfl)
                                replace hRx : vx = _ := hRx
                                subst hRx
                                obtain ⟨vy, hvy, hRy⟩ := Qf hs 25 126 (by kernel_rfl) (by rfl)
                                replace hRy : vy = _ := hRy
                                subst hRy
                                exact ⟨Za (j := 13) (d := 114) (b := false) (by rfl) (by rfl) hvg, 55, _, Z2 rfl (ev hvx) (ev hvy) (fun _ _ => rfl), (hCall.out w5 hC).mono (fun e w' ⟨he, hb⟩ => ⟨_, he, hC.trans (hb.mono hC.size), hb, rfl⟩)⟩
                              refine Qa (Ql fun a w5 hC hs => ?_) ?_
                              · skip
                                obtain ⟨vg, hvg, hRg⟩ := Qf hs 13 114 (by kernel_rfl) (by rfl)
                                replace hRg : vg = _ := hRg
                                subst hRg
                                obtain ⟨vx, hvx, hRx⟩ := Qf hs 26 127 (by kernel_rfl) (by rfl)
                                replace hRx : vx = _ := hRx
                                subst hRx
                                exact ⟨Za (j := 13) (d := 114) (b := false) (by rfl) (by rfl) hvg, _, run_notB rfl (ev hvx), rfl⟩
                              refine Qa (Ql fun a w5 hC hs => ?_) ?_
                              · skip
                                obtain ⟨vc, hvc, hRc⟩ := Qf hs 13 114 (by kernel_rfl) (by rfl)
                                replace hRc : vc = _ := hRc
                                subst hRc
                                obtain ⟨vy, hvy, hRy⟩ := Qf hs 27 128 (by kernel_rfl) (by rfl)
                                replace hRy : vy = _ := hRy
                                subst hRy
                                exact ⟨Qb rfl, _, run_pk (b := false) rfl (ev hvc) (by simp only [if_true, if_false, Bool.false_eq_true]; exact (ev hvy)), rfl⟩
                              exact Qx
                             case hend =>
                              intro σ V4 hC4 hR4
                              generalize hF : Q6 _ _ _ _ _ = F
                              simp [Q6, dstOf, List.range, List.range.loop, Act.put] at hF
                              subst hF
                              have hl : σ 28 = .bool false := hR4 28 (by simp)
                              rw [hl]
                              have g4 := Lh (g1.out.trans (hC4.mono g1.out.size))
                              have g5 := Lh (hb0.out.trans (hC4.mono hb0.out.size))
                              clear hR4 hC4 hl hK hCall
                              go_wp2_with fail
                              go_roundw
                              case rel => exact ⟨j + 1, by omega, by go_num, hn, g5⟩
                              case measure => simp [intOf]; omega
                         · have hne := ne_n hr
                           have hfin : Hid (Xp ⟨nm, th, ps, rg, some ⟨b, off, none⟩, bcap, blocks⟩ ⟨nm, th, ps, rg, some ⟨b', off', none⟩, bcap', blocks'⟩ = false) := Lh (hnoP.out (by rw [hph.out, hdr.out, hsh.out, decide_eq_false hr]; simp))
                           clear hph hdr hsh hr ha2 ha3
                           go_upto_region 13 with fail
                           refine Xv (C := fun V => Below wr.heap.size wr V) (E := Ext) (R := fun i => (rspn j b2 off2 b3 off3 BB0 x y u v).getD i VT) (by kernel_rfl) ((Below.refl _ _).drew) (by kernel_rfl) (fun i v w' w'' _ hE h => Zr _ i rspn_mono v w' w'' hE h) (steps_all ?hs) ?hend
                           case hs =>
                            refine Qa (Ql fun a w5 hC hs => ?_) ?_
                            · skip
                              have hvx := Qo hs 6 (by kernel_rfl) (by rfl)
                              exact ⟨Qb rfl, _, Q4 rfl (ev hvx) fl_b0, rfl⟩
                            refine Qa (Ql fun a w5 hC hs => ?_) ?_
                            · skip
                              obtain ⟨vx, hvx, hRx⟩ := Qf hs 0 101 (by kernel_rfl) (by rfl)
                              replace hRx : vx = _ := hRx
                              subst hRx
                              exact ⟨Qb rfl, _, Qz rfl (ev hvx) (ld_phis (hK.out w5 hC).1), rfl⟩
                            refine Qa (Ql fun a w5 hC hs => ?_) ?_
                            · skip
                              have hvx := Qo hs 8 (by kernel_rfl) (by rfl)
                              exact ⟨Qb rfl, _, Qw (.inl rfl) (ev hvx), rfl⟩
                            refine Qa (Ql fun a w5 hC hs => ?_) ?_
                            · skip
                              obtain ⟨vx, hvx, hRx⟩ := Qf hs 1 102 (by kernel_rfl) (by rfl)
                              replace hRx : vx = _ := hRx
                              subst hRx
                              obtain ⟨vy, hvy, hRy⟩ := Qf hs 2 103 (by kernel_rfl) (by rfl)
                              replace hRy : vy = _ := hRy
                              subst hRy
                              exact ⟨Qb rfl, _, Yc rfl (ev hvx) (ev hvy) (ix_phi hj1), rfl⟩
                            refine Qa (Ql fun a w5 hC hs => ?_) ?_
                            · skip
                              obtain ⟨vx, hvx, hRx⟩ := Qf hs 3 104 (by kernel_rfl) (by rfl)
                              replace hRx : vx = _ := hRx
                              subst hRx
                              exact ⟨Qb rfl, _, Q4 rfl (ev hvx) fl_p0, rfl⟩
                            refine Qa (Ql fun a w5 hC hs => ?_) ?_
                            · skip
                              obtain ⟨vx, hvx, hRx⟩ := Qf hs 4 105 (by kernel_rfl) (by rfl)
                              replace hRx : vx = _ := hRx
                              subst hRx
                              exact ⟨Qb rfl, _, Qz rfl (ev hvx) (ld_int (hK.out w5 hC).2.2.1), rfl⟩
                            refine Qa (Ql fun a w5 hC hs => ?_) ?_
                            · skip
                              have hvx := Qo hs 7 (by kernel_rfl) (by rfl)
                              exact ⟨Qb rfl, _, Q4 rfl (ev hvx) fl_b0, rfl⟩
                            refine Qa (Ql fun a w5 hC hs => ?_) ?_
                            · skip
                              obtain ⟨vx, hvx, hRx⟩ := Qf hs 6 107 (by kernel_rfl) (by rfl)
                              replace hRx : vx = _ := hRx
                              subst hRx
                              exact ⟨Qb rfl, _, Qz rfl (ev hvx) (ld_phis (hK.out w5 hC).2.1), rfl⟩
                            refine Qa (Ql fun a w5 hC hs => ?_) ?_
                            · skip
                              have hvx := Qo hs 8 (by kernel_rfl) (by rfl)
                              exact ⟨Qb rfl, _, Qw (.inl rfl) (ev hvx), rfl⟩
                            refine Qa (Ql fun a w5 hC hs => ?_) ?_
                            · skip
                              obtain ⟨vx, hvx, hRx⟩ := Qf hs 7 108 (by kernel_rfl) (by rfl)
                              replace hRx : vx = _ := hRx
                              subst hRx
                              obtain ⟨vy, hvy, hRy⟩ := Qf hs 8 109 (by kernel_rfl) (by rfl)
                              replace hRy : vy = _ := hRy
                              subst hRy
                              exact ⟨Qb rfl, _, Yc rfl (ev hvx) (ev hvy) (ix_phi hj2), rfl⟩
                            refine Qa (Ql fun a w5 hC hs => ?_) ?_
                            · skip
                              obtain ⟨vx, hvx, hRx⟩ := Qf hs 9 110 (by kernel_rfl) (by rfl)
                              replace hRx : vx = _ := hRx
                              subst hRx
                              exact ⟨Qb rfl, _, Q4 rfl (ev hvx) fl_p0, rfl⟩
                            refine Qa (Ql fun a w5 hC hs => ?_) ?_
                            · skip
                              obtain ⟨vx, hvx, hRx⟩ := Qf hs 10 111 (by kernel_rfl) (by rfl)
                              replace hRx : vx = _ := hRx
                              subst hRx
                              exact ⟨Qb rfl, _, Qz rfl (ev hvx) (ld_int (hK.out w5 hC).2.2.2.1), rfl⟩
                            refine Qa (Ql fun a w5 hC hs => ?_) ?_
                            · skip
                              obtain ⟨vx, hvx, hRx⟩ := Qf hs 5 106 (by kernel_rfl) (by rfl)
                              replace hRx : vx = _ := hRx
                              subst hRx
                              obtain ⟨vy, hvy, hRy⟩ := Qf hs 11 112 (by kernel_rfl) (by rfl)
                              replace hRy : vy = _ := hRy
                              subst hRy
                              exact ⟨Qb rfl, _, run_nqi hne rfl (ev hvx) (ev hvy), rfl⟩
                            refine Qa (Ql fun a w5 hC hs => ?_) ?_
                            · skip
                              obtain ⟨vx, hvx, hRx⟩ := Qf hs 12 113 (by kernel_rfl) (by rfl)
                              replace hRx : vx = _ := hRx
                              subst hRx
                              exact ⟨Qb rfl, _, Qw (.inl rfl) (ev hvx), rfl⟩
                            refine Qa (s_skip (fun a w5 hC hs => ?_) (fun _ => rfl)) ?_
                            · skip
                              obtain ⟨vg, hvg, hRg⟩ := Qf hs 13 114 (by kernel_rfl) (by rfl)
                              replace hRg : vg = _ := hRg
                              subst hRg
                              exact Z0 (j := 13) (d := 114) (b := false) (by rfl) (by rfl) hvg
                            refine Qa (s_skip (fun a w5 hC hs => ?_) (fun _ => rfl)) ?_
                            · skip
                              obtain ⟨vg, hvg, hRg⟩ := Qf hs 13 114 (by kernel_rfl) (by rfl)
                              replace hRg : vg = _ := hRg
                              subst hRg
                              exact Z0 (j := 13) (d := 114) (b := false) (by rfl) (by rfl) hvg
                            refine Qa (s_skip (fun a w5 hC hs => ?_) (fun _ => rfl)) ?_
                            · skip
                              obtain ⟨vg, hvg, hRg⟩ := Qf hs 13 114 (by kernel_rfl) (by rfl)
                              replace hRg : vg = _ := hRg
                              subst hRg
                              exact Z0 (j := 13) (d := 114) (b := false) (by rfl) (by rfl) hvg
                            refine Qa (s_skip (fun a w5 hC hs => ?_) (fun _ => rfl)) ?_
                            · skip
                              obtain ⟨vg, hvg, hRg⟩ := Qf hs 13 114 (by kernel_rfl) (by rfl)
                              replace hRg : vg = _ := hRg
                              subst hRg
                              exact Z0 (j := 13) (d := 114) (b := false) (by rfl) (by rfl) hvg
                            refine Qa (s_skip (fun a w5 hC hs => ?_) (fun _ => rfl)) ?_
                            · skip
                              obtain ⟨vg, hvg, hRg⟩ := Qf hs 13 114 (by kernel_rfl) (by rfl)
                              replace hRg : vg = _ := hRg
                              subst hRg
                              exact Z0 (j := 13) (d := 114) (b := false) (by rfl) (by rfl) hvg
                            refine Qa (s_skip (fun a w5 hC hs => ?_) (fun _ => rfl)) ?_
                            · skip
                              obtain ⟨vg, hvg, hRg⟩ := Qf hs 13 114 (by kernel_rfl) (by rfl)
                              replace hRg : vg = _ := hRg
                              subst hRg
                              exact Z0 (j := 13) (d := 114) (b := false) (by rfl) (by rfl) hvg
                            refine Qa (s_skip (fun a w5 hC hs => ?_) (fun _ => rfl)) ?_
                            · skip
                              obtain ⟨vg, hvg, hRg⟩ := Qf hs 13 114 (by kernel_rfl) (by rfl)
                              replace hRg : vg = _ := hRg
                              subst hRg
                              exact Z0 (j := 13) (d := 114) (b := false) (by rfl) (by rfl) hvg
                            refine Qa (s_skip (fun a w5 hC hs => ?_) (fun _ => rfl)) ?_
                            · skip
                              obtain ⟨vg, hvg, hRg⟩ := Qf hs 13 114 (by kernel_rfl) (by rfl)
                              replace hRg : vg = _ := hRg
                              subst hRg
                              exact Z0 (j := 13) (d := 114) (b := false) (by rfl) (by rfl) hvg
                            refine Qa (s_skip (fun a w5 hC hs => ?_) (fun _ => rfl)) ?_
                            · skip
                              obtain ⟨vg, hvg, hRg⟩ := Qf hs 13 114 (by kernel_rfl) (by rfl)
                              replace hRg : vg = _ := hRg
                              subst hRg
                              exact Z0 (j := 13) (d := 114) (b := false) (by rfl) (by rfl) hvg
                            refine Qa (s_skip (fun a w5 hC hs => ?_) (fun _ => rfl)) ?_
                            · skip
                              obtain ⟨vg, hvg, hRg⟩ := Qf hs 13 114 (by kernel_rfl) (by rfl)
                              replace hRg : vg = _ := hRg
                              subst hRg
                              exact Z0 (j := 13) (d := 114) (b := false) (by rfl) (by rfl) hvg
                            refine Qa (s_skip (fun a w5 hC hs => ?_) (fun _ => rfl)) ?_
                            · skip
                              obtain ⟨vg, hvg, hRg⟩ := Qf hs 13 114 (by kernel_rfl) (by rfl)
                              replace hRg : vg = _ := hRg
                              subst hRg
                              exact Z0 (j := 13) (d := 114) (b := false) (by rfl) (by rfl) hvg
                            refine Qa (s_skip (fun a w5 hC hs => ?_) (fun _ => rfl)) ?_
                            · skip
                              obtain ⟨vg, hvg, hRg⟩ := Qf hs 13 114 (by kernel_rfl) (by rfl)
                              replace hRg : vg = _ := hRg
                              subst hRg
                              exact Z0 (j := 13) (d := 114) (b := false) (by rfl) (by rfl) hvg
                            refine Qa (s_skip (fun a w5 hC hs => ?_) (fun _ => rfl)) ?_
                            · skip
                              obtain ⟨vg, hvg, hRg⟩ := Qf hs 13 114 (by kernel_rfl) (by rfl)
                              replace hRg : vg = _ := hRg
                              subst hRg
                              exact Z0 (j := 13) (d := 114) (b := false) (by rfl) (by rfl) hvg
                            refine Qa (s_skip (fun a w5 hC hs => ?_) (fun _ => rfl)) ?_
                            · skip
                              obtain ⟨vg, hvg, hRg⟩ := Qf hs 13 114 (by kernel_rfl) (by rfl)
                              replace hRg : vg = _ := hRg
                              subst hRg
                              exact Z0 (j := 13) (d := 114) (b := false) (by rfl) (by rfl) hvg
                            refine Qa (Ql fun a w5 hC hs => ?_) ?_
                            · skip
                              obtain ⟨vc, hvc, hRc⟩ := Qf hs 13 114 (by kernel_rfl) (by rfl)
                              replace hRc : vc = _ := hRc
                              subst hRc
                              exact ⟨Qb rfl, _, run_pk (b := true) rfl (ev hvc) (by simp only [if_true, if_false, Bool.false_eq_true]; exact (ev_const _)), rfl⟩
                            exact Qx
                           case hend =>
                            intro σ V4 hC4 hR4
                            generalize hF : Q6 _ _ _ _ _ = F
                            simp [Q6, dstOf, List.range, List.range.loop, Act.put] at hF
                            subst hF
                            have hl : σ 28 = .bool true := hR4 28 (by simp)
                            rw [hl]
                            have g4 := Lh (g1.out.trans (hC4.mono g1.out.size))
                            have g5 := Lh (hb0.out.trans (hC4.mono hb0.out.size))
                            clear hR4 hC4 hl hK hCall
                            go_wp2_with fail
                            go_ret
                            exact ⟨Qi hfin.out.symm, g4.out⟩
                       · have hjj : j = x.phis.length := by omega
                         have hj1 : ¬ (j : Int) < (x.phis.length : Int) := by omega
                         have hpt : Hid (eqL sameH x.phis y.phis = true) := Lh (by rw [hph.out, List.drop_of_length_le (by omega), List.drop_of_length_le (by have := hpl.out; omega)]; rfl)
                         clear hph hjj
                         go_wp2_with fail
                         go_loopw [9] (fun i wq => ∃ j : Nat, j ≤ x.code.length ∧ i = .int .i64 j ∧ Hid (eqL Zi x.code y.code = eqL Zi (x.code.drop j) (y.code.drop j)) ∧ Hid (Below W1.heap.size W1 wq)) (fun i _ => x.code.length - (intOf i).toNat)
                         case atStart => exact ⟨0, Nat.zero_le _, rfl, Lh rfl, hb0⟩
                         case round =>
                          clear hx0 hy0 hx1 hy1 hx2 hy2 hx3 hy3 hb0 g1 hj1
                          obtain ⟨j, hj, rfl, hph, hb0⟩ := hrel
                          have g1 := Lh (gw.out.trans (hb0.out.mono gw.out.size))
                          obtain ⟨⟨hx0, hx1, hx2, hx3⟩, hy0, hy1, hy2, hy3⟩ := hbx2.out wr hb0.out
                          by_cases hjt : j < x.code.length
                          · obtain ⟨u, hu⟩ : ∃ u, x.code[j]? = some u := ⟨_, List.getElem?_eq_getElem hjt⟩
                            obtain ⟨v, hv⟩ : ∃ v, y.code[j]? = some v := ⟨_, List.getElem?_eq_getElem (by rw [← hcl.out]; exact hjt)⟩
                            obtain ⟨b2, off2, ha2, _, d0, d1, d2, d3, d4, d5⟩ := X1 (hX.out wr g1.out).crow j u hu
                            obtain ⟨b3, off3, ha3, _, e0, e1, e2, e3, e4, e5⟩ := X1 (hY.out wr g1.out).crow j v hv
                            have huI := (hX.out wr g1.out).code u (List.mem_of_getElem? hu)
                            have hvI := (hY.out wr g1.out).code v (List.mem_of_getElem? hv)
                            have hj1 : (j : Int) < (x.code.length : Int) := by omega
                            have hj2 : (j : Int) < (y.code.length : Int) := by have := hcl.out; omega
                            have hK : Hid (∀ V, Below wr.heap.size wr V → V.cell? ⟨BB0, 1, none⟩ = some (.slice (some ⟨b2, off2, none⟩) x.code.length x.ccap) ∧ V.cell? ⟨BB0 + 1, 1, none⟩ = some (.slice (some ⟨b3, off3, none⟩) y.code.length y.ccap) ∧ InC u b2 (off2 + j * 6) V ∧ InC v b3 (off3 + j * 6) V) := Lh (fun V hv => by
                             rw [ha2] at hx1
                             rw [ha3] at hy1
                             exact ⟨Qe hv hx1, Qe hv hy1, ⟨Qe hv d0, Qe hv d1, Qe hv d2, Qe hv d3, Qe hv d4, Qe hv d5⟩, Qe hv e0, Qe hv e1, Qe hv e2, Qe hv e3, Qe hv e4, Qe hv e5⟩)
                            have hCall : Hid (∀ V, Below wr.heap.size wr V → Calls Tryd.prog 41 #[.agg #[.int .u8 u.op, .int .i64 u.r, .int .i64 u.a, .int .i64 u.b, .int .i64 u.n, .slice u.aa u.args.length u.acap], .agg #[.int .u8 v.op, .int .i64 v.r, .int .i64 v.a, .int .i64 v.b, .int .i64 v.n, .slice v.aa v.args.length v.acap]] V fun e w' => e = .returned (.bool (Zi u v)) ∧ Below V.heap.size V w') := Lh (fun V hv => Zj u v V (huI.row.below (Kps.of_below hv)) (hvI.row.below (Kps.of_below hv)))
                            have hdr := Lh (eqL_drop (f := Zi) x.code y.code j u v hu hv)
                            clear hu hv huI hvI d0 d1 d2 d3 d4 d5 e0 e1 e2 e3 e4 e5
                            cases hd : Zi u v
                            · rw [hd] at hCall
                              have hfin : Hid (Xp ⟨nm, th, ps, rg, some ⟨b, off, none⟩, bcap, blocks⟩ ⟨nm, th, ps, rg, some ⟨b', off', none⟩, bcap', blocks'⟩ = false) := Lh (hnoC.out (by rw [hph.out, hdr.out, hd]; simp))
                              clear hph hdr hd ha2 ha3
                              go_upto_region 18 with fail
                              refine Xv (C := fun V => Below wr.heap.size wr V) (E := Ext) (R := fun i => (rsif j b2 off2 b3 off3 BB0 x y u v).getD i VT) (by kernel_rfl) ((Below.refl _ _).drew) (by kernel_rfl) (fun i v w' w'' _ hE h => Zr _ i rsif_mono v w' w'' hE h) (steps_all ?hs) ?hend
                              case hs =>
                               refine Qa (Ql fun a w5 hC hs => ?_) ?_
                               · skip
                                 have hvx := Qo hs 6 (by kernel_rfl) (by rfl)
                                 exact ⟨Qb rfl, _, Q4 rfl (ev hvx) fl_b1, rfl⟩
                               refine Qa (Ql fun a w5 hC hs => ?_) ?_
                               · skip
                                 obtain ⟨vx, hvx, hRx⟩ := Qf hs 0 137 (by kernel_rfl) (by rfl)
                                 replace hRx : vx = _ := hRx
                                 subst hRx
                                 exact ⟨Qb rfl, _, Qz rfl (ev hvx) (ld_inss (hK.out w5 hC).1), rfl⟩
                               refine Qa (Ql fun a w5 hC hs => ?_) ?_
                               · skip
                                 have hvx := Qo hs 9 (by kernel_rfl) (by rfl)
                                 exact ⟨Qb rfl, _, Qw (.inl rfl) (ev hvx), rfl⟩
                               refine Qa (Ql fun a w5 hC hs => ?_) ?_
                               · skip
                                 obtain ⟨vx, hvx, hRx⟩ := Qf hs 1 138 (by kernel_rfl) (by rfl)
                                 replace hRx : vx = _ := hRx
                                 subst hRx
                                 obtain ⟨vy, hvy, hRy⟩ := Qf hs 2 139 (by kernel_rfl) (by rfl)
                                 replace hRy : vy = _ := hRy
                                 subst hRy
                                 exact ⟨Qb rfl, _, Yc rfl (ev hvx) (ev hvy) (ix_ins hj1), rfl⟩
                               refine Qa (Ql fun a w5 hC hs => ?_) ?_
                               · skip
                                 obtain ⟨vx, hvx, hRx⟩ := Qf hs 3 140 (by kernel_rfl) (by rfl)
                                 replace hRx : vx = _ := hRx
                                 subst hRx
                                 exact ⟨Qb rfl, _, Qz rfl (ev hvx) (ld_ins1 (hK.out w5 hC).2.2.1), rfl⟩
                               refine Qa (Ql fun a w5 hC hs => ?_) ?_
                               · skip
                                 have hvx := Qo hs 7 (by kernel_rfl) (by rfl)
                                 exact ⟨Qb rfl, _, Q4 rfl (ev hvx) fl_b1, rfl⟩
                               refine Qa (Ql fun a w5 hC hs => ?_) ?_
                               · skip
                                 obtain ⟨vx, hvx, hRx⟩ := Qf hs 5 142 (by kernel_rfl) (by rfl)
                                 replace hRx : vx = _ := hRx
                                 subst hRx
                                 exact ⟨Qb rfl, _, Qz rfl (ev hvx) (ld_inss (hK.out w5 hC).2.1), rfl⟩
                               refine Qa (Ql fun a w5 hC hs => ?_) ?_
                               · skip
                                 have hvx := Qo hs 9 (by kernel_rfl) (by rfl)
                                 exact ⟨Qb rfl, _, Qw (.inl rfl) (ev hvx), rfl⟩
                               refine Qa (Ql fun a w5 hC hs => ?_) ?_
                               · skip
                                 obtain ⟨vx, hvx, hRx⟩ := Qf hs 6 143 (by kernel_rfl) (by rfl)
                                 replace hRx : vx = _ := hRx
                                 subst hRx
                                 obtain ⟨vy, hvy, hRy⟩ := Qf hs 7 144 (by kernel_rfl) (by rfl)
                                 replace hRy : vy = _ := hRy
                                 subst hRy
                                 exact ⟨Qb rfl, _, Yc rfl (ev hvx) (ev hvy) (ix_ins hj2), rfl⟩
                               refine Qa (Ql fun a w5 hC hs => ?_) ?_
                               · skip
                                 obtain ⟨vx, hvx, hRx⟩ := Qf hs 8 145 (by kernel_rfl) (by rfl)
                                 replace hRx : vx = _ := hRx
                                 subst hRx
                                 exact ⟨Qb rfl, _, Qz rfl (ev hvx) (ld_ins1 (hK.out w5 hC).2.2.2), rfl⟩
                               refine Qa (s_call fun a w5 hC hs => ?_) ?_
                               · skip
                                 obtain ⟨vx, hvx, hRx⟩ := Qf hs 4 141 (by kernel_rfl) (by rfl)
                                 replace hRx : vx = _ := hRx
                                 subst hRx
                                 obtain ⟨vy, hvy, hRy⟩ := Qf hs 9 146 (by kernel_rfl) (by rfl)
                                 replace hRy : vy = _ := hRy
                                 subst hRy
                                 exact ⟨Qb rfl, 41, _, Z2 rfl (ev hvx) (ev hvy) (fun _ _ => rfl), (hCall.out w5 hC).mono (fun e w' ⟨he, hb⟩ => ⟨_, he, hC.trans (hb.mono hC.size), hb, rfl⟩)⟩
                               refine Qa (Ql fun a w5 hC hs => ?_) ?_
                               · skip
                                 obtain ⟨vx, hvx, hRx⟩ := Qf hs 10 147 (by kernel_rfl) (by rfl)
                                 replace hRx : vx = _ := hRx
                                 subst hRx
                                 exact ⟨Qb rfl, _, run_notB rfl (ev hvx), rfl⟩
                               exact Qx
                              case hend =>
                               intro σ V4 hC4 hR4
                               generalize hF : Q6 _ _ _ _ _ = F
                               simp [Q6, dstOf, List.range, List.range.loop, Act.put] at hF
                               subst hF
                               have hl : σ 11 = .bool true := hR4 11 (by simp)
                               rw [hl]
                               have g4 := Lh (g1.out.trans (hC4.mono g1.out.size))
                               have g5 := Lh (hb0.out.trans (hC4.mono hb0.out.size))
                               clear hR4 hC4 hl hK hCall
                               go_wp2_with fail
                               go_ret
                               exact ⟨Qi hfin.out.symm, g4.out⟩
                            · rw [hd] at hCall
                              have hn : Hid (eqL Zi x.code y.code = eqL Zi (x.code.drop (j + 1)) (y.code.drop (j + 1))) := Lh (by rw [hph.out, hdr.out, hd]; simp)
                              clear hph hdr hd ha2 ha3
                              go_upto_region 18 with fail
                              refine Xv (C := fun V => Below wr.heap.size wr V) (E := Ext) (R := fun i => (rsit j b2 off2 b3 off3 BB0 x y u v).getD i VT) (by kernel_rfl) ((Below.refl _ _).drew) (by kernel_rfl) (fun i v w' w'' _ hE h => Zr _ i rsit_mono v w' w'' hE h) (steps_all ?hs) ?hend
                              case hs =>
                               refine Qa (Ql fun a w5 hC hs => ?_) ?_
                               · skip
                                 have hvx := Qo hs 6 (by kernel_rfl) (by rfl)
                                 exact ⟨Qb rfl, _, Q4 rfl (ev hvx) fl_b1, rfl⟩
                               refine Qa (Ql fun a w5 hC hs => ?_) ?_
                               · skip
                                 obtain ⟨vx, hvx, hRx⟩ := Qf hs 0 137 (by kernel_rfl) (by rfl)
                                 replace hRx : vx = _ := hRx
                                 subst hRx
                                 exact ⟨Qb rfl, _, Qz rfl (ev hvx) (ld_inss (hK.out w5 hC).1), rfl⟩
                               refine Qa (Ql fun a w5 hC hs => ?_) ?_
                               · skip
                                 have hvx := Qo hs 9 (by kernel_rfl) (by rfl)
                                 exact ⟨Qb rfl, _, Qw (.inl rfl) (ev hvx), rfl⟩
                               refine Qa (Ql fun a w5 hC hs => ?_) ?_
                               · skip
                                 obtain ⟨vx, hvx, hRx⟩ := Qf hs 1 138 (by kernel_rfl) (by rfl)
                                 replace hRx : vx = _ := hRx
                                 subst hRx
                                 obtain ⟨vy, hvy, hRy⟩ := Qf hs 2 139 (by kernel_rfl) (by rfl)
                                 replace hRy : vy = _ := hRy
                                 subst hRy
                                 exact ⟨Qb rfl, _, Yc rfl (ev hvx) (ev hvy) (ix_ins hj1), rfl⟩
                               refine Qa (Ql fun a w5 hC hs => ?_) ?_
                               · skip
                                 obtain ⟨vx, hvx, hRx⟩ := Qf hs 3 140 (by kernel_rfl) (by rfl)
                                 replace hRx : vx = _ := hRx
                                 subst hRx
                                 exact ⟨Qb rfl, _, Qz rfl (ev hvx) (ld_ins1 (hK.out w5 hC).2.2.1), rfl⟩
                               refine Qa (Ql fun a w5 hC hs => ?_) ?_
                               · skip
                                 have hvx := Qo hs 7 (by kernel_rfl) (by rfl)
                                 exact ⟨Qb rfl, _, Q4 rfl (ev hvx) fl_b1, rfl⟩
                               refine Qa (Ql fun a w5 hC hs => ?_) ?_
                               · skip
                                 obtain ⟨vx, hvx, hRx⟩ := Qf hs 5 142 (by kernel_rfl) (by rfl)
                                 replace hRx : vx = _ := hRx
                                 subst hRx
                                 exact ⟨Qb rfl, _, Qz rfl (ev hvx) (ld_inss (hK.out w5 hC).2.1), rfl⟩
                               refine Qa (Ql fun a w5 hC hs => ?_) ?_
                               · skip
                                 have hvx := Qo hs 9 (by kernel_rfl) (by rfl)
                                 exact ⟨Qb rfl, _, Qw (.inl rfl) (ev hvx), rfl⟩
                               refine Qa (Ql fun a w5 hC hs => ?_) ?_
                               · skip
                                 obtain ⟨vx, hvx, hRx⟩ := Qf hs 6 143 (by kernel_rfl) (by rfl)
                                 replace hRx : vx = _ := hRx
                                 subst hRx
                                 obtain ⟨vy, hvy, hRy⟩ := Qf hs 7 144 (by kernel_rfl) (by rfl)
                                 replace hRy : vy = _ := hRy
                                 subst hRy
                                 exact ⟨Qb rfl, _, Yc rfl (ev hvx) (ev hvy) (ix_ins hj2), rfl⟩
                               refine Qa (Ql fun a w5 hC hs => ?_) ?_
                               · skip
                                 obtain ⟨vx, hvx, hRx⟩ := Qf hs 8 145 (by kernel_rfl) (by rfl)
                                 replace hRx : vx = _ := hRx
                                 subst hRx
                                 exact ⟨Qb rfl, _, Qz rfl (ev hvx) (ld_ins1 (hK.out w5 hC).2.2.2), rfl⟩
                               refine Qa (s_call fun a w5 hC hs => ?_) ?_
                               · skip
                                 obtain ⟨vx, hvx, hRx⟩ := Qf hs 4 141 (by kernel_rfl) (by rfl)
                                 replace hRx : vx = _ := hRx
                                 subst hRx
                                 obtain ⟨vy, hvy, hRy⟩ := Qf hs 9 146 (by kernel_rfl) (by rfl)
                                 replace hRy : vy = _ := hRy
                                 subst hRy
                                 exact ⟨Qb rfl, 41, _, Z2 rfl (ev hvx) (ev hvy) (fun _ _ => rfl), (hCall.out w5 hC).mono (fun e w' ⟨he, hb⟩ => ⟨_, he, hC.trans (hb.mono hC.size), hb, rfl⟩)⟩
                               refine Qa (Ql fun a w5 hC hs => ?_) ?_
                               · skip
                                 obtain ⟨vx, hvx, hRx⟩ := Qf hs 10 147 (by kernel_rfl) (by rfl)
                                 replace hRx : vx = _ := hRx
                                 subst hRx
                                 exact ⟨Qb rfl, _, run_notB rfl (ev hvx), rfl⟩
                               exact Qx
                              case hend =>
                               intro σ V4 hC4 hR4
                               generalize hF : Q6 _ _ _ _ _ = F
                               simp [Q6, dstOf, List.range, List.range.loop, Act.put] at hF
                               subst hF
                               have hl : σ 11 = .bool false := hR4 11 (by simp)
                               rw [hl]
                               have g4 := Lh (g1.out.trans (hC4.mono g1.out.size))
                               have g5 := Lh (hb0.out.trans (hC4.mono hb0.out.size))
                               clear hR4 hC4 hl hK hCall
                               go_wp2_with fail
                               go_roundw
                               case rel => exact ⟨j + 1, by omega, by go_num, hn, g5⟩
                               case measure => simp [intOf]; omega
                          · have hjj : j = x.code.length := by omega
                            have hj1 : ¬ (j : Int) < (x.code.length : Int) := by omega
                            have hct : Hid (eqL Zi x.code y.code = true) := Lh (by rw [hph.out, List.drop_of_length_le (by omega), List.drop_of_length_le (by have := hcl.out; omega)]; rfl)
                            have hn : Hid (eqL Zz blocks blocks' = eqL Zz (blocks.drop (k + 1)) (blocks'.drop (k + 1))) := Lh (hyesB.out hpt.out hct.out)
                            have g6 := Lh (hb.out.trans ((hbA.out.trans (hb0.out.mono hbA.out.size)).mono hb.out.size))
                            clear hph hjj hct
                            go_wp2_with fail
                            go_roundw
                            case rel => exact ⟨k + 1, by omega, by go_num, hn, g6⟩
                            case measure => simp [intOf]; omega
                    · have hcn := ne_n (a := (x.code.length : Int)) (b := (y.code.length : Int)) (by omega)
                      have hfin := Lh (hnoC.out (by rw [Bool.eq_false_iff]; intro h; exact hcl (eqL_len h)))
                      clear hcl hnoP hnoC hyesB
                      go_wp2_with fail
                      go_ret
                      exact ⟨Qi hfin.out.symm, g3.out⟩
                  · have hpn := ne_n (a := (x.phis.length : Int)) (b := (y.phis.length : Int)) (by omega)
                    have hfin := Lh (hnoP.out (by rw [Bool.eq_false_iff]; intro h; exact hpl (eqL_len h)))
                    clear hpl hnoP hnoC hyesB
                    go_wp2_with fail
                    go_ret
                    exact ⟨Qi hfin.out.symm, g3.out⟩
            · have hkn : k = blocks.length := by omega
              have hk1 : ¬ (k : Int) < (blocks.length : Int) := by omega
              have hfin : Hid (Xp ⟨nm, th, ps, rg, ba, bcap, blocks⟩ ⟨nm, th, ps, rg, ba', bcap', blocks'⟩ = true) := Lh (by
               rw [hG.out, hsame.out, List.drop_of_length_le (by omega), List.drop_of_length_le (by have := hle.out; omega)]; rfl)
              clear hsame hkn
              go_wp2_with fail
              go_ret
              exact ⟨Qi hfin.out.symm, gr.out⟩
         · have e4 := ne_n (a := (blocks.length : Int)) (b := (blocks'.length : Int)) (by omega)
           have hf : Hid (eqL Zz blocks blocks' = false) := Lh (by rw [Bool.eq_false_iff]; intro h; exact hle (eqL_len h))
           clear hle
           go_enter Tryd.func23, Tryd.ntmps23
           go_wp2_with fail
           go_ret
           exact ⟨Qi (by simp [Xp, hf.out]), Zc _ _ _⟩
       · have e3 := ne_n h3
         go_enter Tryd.func23, Tryd.ntmps23
         go_wp2_with fail
         go_ret
         exact ⟨Qi (by simp [Xp, h3]), Zc _ _ _⟩
     · have e2 := ne_n h2
       go_enter Tryd.func23, Tryd.ntmps23
       go_wp2_with fail
       go_ret
       exact ⟨Qi (by simp [Xp, h2]), Zc _ _ _⟩
   · have e1 : (th != th') = true := by simpa using h1
     go_enter Tryd.func23, Tryd.ntmps23
     go_wp2_with fail
     go_ret
     exact ⟨Qi (by simp [Xp, h1]), Zc _ _ _⟩
 · have e0 := str_ne h0
   have e0' : (nm.toList != nm'.toList) = true := by unfold bne; rw [e0]; rfl
   go_enter Tryd.func23, Tryd.ntmps23
   go_wp2_with fail
   go_ret
   exact ⟨Qi (by simp [Xp, h0]), Zc _ _ _⟩
end Go.Proofs.YthiiahlgncngoaaDoorRR.Fw
