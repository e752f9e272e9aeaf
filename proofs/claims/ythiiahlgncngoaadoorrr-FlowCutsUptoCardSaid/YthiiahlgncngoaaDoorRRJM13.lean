/- Single operations of a region by Qr's law. Conditions: none. -/
import Derived.Test.YthiiahlgncngoaaDoorRRJaN
import Derived.Test.YthiiahlgncngoaaDoorRRJFwA
import Derived.Test.YthiiahlgncngoaaDoorRRJaL
set_option maxHeartbeats 16000000
set_option maxRecDepth 100000
set_option linter.unusedSimpArgs false
namespace Go.Proofs.YthiiahlgncngoaaDoorRR.Fw
open Go Go.RowKit
open Go.Proofs.YthiiahlgncngoaaDoorRR.Vq Go.Proofs.YthiiahlgncngoaaDoorRR.Qr
theorem Yc {P : Program} {a : Act} {o : Oper} {t : TypeId} {x y : Operand} {u v r : Value} {w w' : World} (ho : o.op = .indexAddr t x y) (hx : a.eval x = u) (hy : a.eval y = v) (hr : (Instr.indexAt t u v).run P w = .ok r w') : (execOp a.eval o).run P w = .ok (.value r) w' := by
 subst hx hy
 unfold execOp
 simp [ho, hr]
theorem run_notB {a : Act} {o : Oper} {t : TypeId} {x : Operand} {b : Bool} {w : World} (ho : o.op = .unOp .not t x) (hx : a.eval x = .bool b) : (execOp a.eval o).run Tryd.prog w = .ok (.value (.bool !b)) w := by
 unfold execOp
 rw [ho]
 simp only [hx]
 cases b <;> simp [go_sem]
theorem s_skip {P : Program} {ops : Array Oper} {Q : Exit → Act → World → Prop} {C : World → Prop} {R : Nat → Value → World → Prop} {a0 : Act} {j : Nat} {o : Oper} (h : ∀ a w, C w → Seen ops R a0 o a w → Region.wanted o (yielded ops a.tmps) = false) (hR : ∀ w, R j undef w) : Step P ops Q C R a0 j o := fun a w hC hs =>
 ⟨fun hn => (by rw [h a w hC hs] at hn; cases hn), fun _ => ⟨Below.refl _ _, hR w⟩⟩
theorem Z0 {ops : Array Oper} {o : Oper} {a : Act} {j d : Nat} {b : Bool} (hg : o.guard = some (j, b)) (hd : Go.Proofs.YthiiahlgncngoaaDoorRR.Qr.dstOf ops j = some d) (h : a.tmps[d]? = some (.bool !b)) : Region.wanted o (yielded ops a.tmps) = false := by
 unfold Region.wanted; rw [hg]
 have : yielded ops a.tmps j = some (!b) := by
  unfold yielded; unfold Go.Proofs.YthiiahlgncngoaaDoorRR.Qr.dstOf at hd
  rw [hd]; simp [h]
 simp [this]
theorem Za {ops : Array Oper} {o : Oper} {a : Act} {j d : Nat} {b : Bool} (hg : o.guard = some (j, b)) (hd : Go.Proofs.YthiiahlgncngoaaDoorRR.Qr.dstOf ops j = some d) (h : a.tmps[d]? = some (.bool b)) : Region.wanted o (yielded ops a.tmps) = true := by
 unfold Region.wanted; rw [hg]
 have : yielded ops a.tmps j = some b := by
  unfold yielded; unfold Go.Proofs.YthiiahlgncngoaaDoorRR.Qr.dstOf at hd
  rw [hd]; simp [h]
 simp [this]
theorem run_nqi {a : Act} {b : Bool} {o : Oper} {t t2 : TypeId} {x y : Operand} {n m : Int} {w : World} (hb : (n != m) = b) (ho : o.op = .binOp .neq t x y t2) (hx : a.eval x = .int .i64 n) (hy : a.eval y = .int .i64 m) : (execOp a.eval o).run Tryd.prog w = .ok (.value (.bool b)) w := by
 subst hb
 unfold execOp
 rw [ho]
 simp only [hx, hy]
 simp [go_sem]
theorem fl_b0 {V : World} {b : Nat} : (Instr.fieldAt 42 (.pointer (some ⟨b, 0, none⟩)) 0).run Tryd.prog V = .ok (.pointer (some ⟨b, 0, none⟩)) V := by go_simp
theorem fl_p0 {V : World} {b o : Nat} : (Instr.fieldAt 90 (.pointer (some ⟨b, o, none⟩)) 0).run Tryd.prog V = .ok (.pointer (some ⟨b, o, none⟩)) V := by go_simp
theorem fl_p1 {V : World} {b o : Nat} : (Instr.fieldAt 90 (.pointer (some ⟨b, o, none⟩)) 1).run Tryd.prog V = .ok (.pointer (some ⟨b, o + 1, none⟩)) V := by go_simp
theorem ix_phi {V : World} {b off n cap k : Nat} (h : (k : Int) < (n : Int)) : (Instr.indexAt 38 (.slice (some ⟨b, off, none⟩) n cap) (.int .i64 k)).run Tryd.prog V = .ok (.pointer (some ⟨b, off + k * 2, none⟩)) V := by go_simp
theorem ld_phis {V : World} {b o : Nat} {a : Option Addr} {n c : Nat} (h : V.cell? ⟨b, o, none⟩ = some (.slice a n c)) : (Instr.loadAt 38 (.pointer (some ⟨b, o, none⟩))).run Tryd.prog V = .ok (.slice a n c) V := by go_simp
theorem ld_ints {V : World} {b o : Nat} {a : Option Addr} {n c : Nat} (h : V.cell? ⟨b, o, none⟩ = some (.slice a n c)) : (Instr.loadAt 40 (.pointer (some ⟨b, o, none⟩))).run Tryd.prog V = .ok (.slice a n c) V := by go_simp
theorem ld_int {V : World} {b o : Nat} {n : Int} (h : V.cell? ⟨b, o, none⟩ = some (.int .i64 n)) : (Instr.loadAt 3 (.pointer (some ⟨b, o, none⟩))).run Tryd.prog V = .ok (.int .i64 n) V := by go_simp
end Go.Proofs.YthiiahlgncngoaaDoorRR.Fw
set_option linter.unusedSimpArgs false
namespace Go.Proofs.YthiiahlgncngoaaDoorRR.Cd
open Go Go.RowKit
open Go.Proofs.YthiiahlgncngoaaDoorRR.Lx Go.Proofs.YthiiahlgncngoaaDoorRR.Tr Go.Proofs.YthiiahlgncngoaaDoorRR.Pa
/-- two programs' boxes -/
def Bp2 (B : Nat) (p q : Pg) (V : World) : Prop :=
 (V.cell? ⟨B, 0, none⟩ = some (.slice p.ma p.mems.length p.mcap) ∧ V.cell? ⟨B, 1, none⟩ = some (.slice p.la p.locks.length p.lcap) ∧ V.cell? ⟨B, 2, none⟩ = some (.slice p.fa p.funs.length p.fcap)) ∧
 (V.cell? ⟨B + 1, 0, none⟩ = some (.slice q.ma q.mems.length q.mcap) ∧ V.cell? ⟨B + 1, 1, none⟩ = some (.slice q.la q.locks.length q.lcap) ∧ V.cell? ⟨B + 1, 2, none⟩ = some (.slice q.fa q.funs.length q.fcap))
theorem bp2_new (w : World) (p q : Pg) : Bp2 w.heap.size p q ((w.alloc (.cells ⟨p.vals⟩ 26)).alloc (.cells ⟨q.vals⟩ 26)) := by
 have h1 := Zk w p.vals 26
 have h2 := Zk (w.alloc (.cells ⟨p.vals⟩ 26)) q.vals 26
 have e : (w.alloc (.cells ⟨p.vals⟩ 26)).heap.size = w.heap.size + 1 := by simp
 rw [e] at h2
 have k := fun (b o : Nat) (v : Value) (h : (w.alloc (.cells ⟨p.vals⟩ 26)).cell? ⟨b, o, none⟩ = some v) => Qe (Qh (w.alloc (.cells ⟨p.vals⟩ 26)) (.cells ⟨q.vals⟩ 26)) h
 exact ⟨⟨k _ _ _ (h1 0 _ rfl), k _ _ _ (h1 1 _ rfl), k _ _ _ (h1 2 _ rfl)⟩, h2 0 _ rfl, h2 1 _ rfl, h2 2 _ rfl⟩
theorem Bp2.below {B : Nat} {p q : Pg} {V V' : World} (h : Bp2 B p q V) (hb : Below V.heap.size V V') : Bp2 B p q V' :=
 ⟨⟨Qe hb h.1.1, Qe hb h.1.2.1, Qe hb h.1.2.2⟩, Qe hb h.2.1, Qe hb h.2.2.1, Qe hb h.2.2.2⟩
theorem sameP_eq (p q : Pg) : sameP p q = (eqL sameM p.mems q.mems && eqL (fun x y : ByteArray => decide (x = y)) p.locks q.locks && eqL sameF p.funs q.funs) := rfl
theorem rsame_any (p q : Pg) (w : World) (hp : Pg.In w (fun _ => True) p) (hq : Pg.In w (fun _ => True) q) :
 Calls Tryd.prog 22 #[p.val, q.val] w fun x w' => x = .returned (.bool (sameP p q)) ∧ Below w.heap.size w w' := by
 obtain ⟨pm1, pm2⟩ := Q2 hp.mrow
 obtain ⟨pl1, pl2⟩ := Q2 hp.lrow
 obtain ⟨pf1, pf2⟩ := Q2 hp.frow
 obtain ⟨qm1, qm2⟩ := Q2 hq.mrow
 obtain ⟨ql1, ql2⟩ := Q2 hq.lrow
 obtain ⟨qf1, qf2⟩ := Q2 hq.frow
 have hst : Hid (Below w.heap.size w ((w.alloc (.cells #[.slice p.ma p.mems.length p.mcap, .slice p.la p.locks.length p.lcap, .slice p.fa p.funs.length p.fcap] 26)).alloc (.cells #[.slice q.ma q.mems.length q.mcap, .slice q.la q.locks.length q.lcap, .slice q.fa q.funs.length q.fcap] 26))) := Lh (Zc _ _ _)
 have hbx : Hid (Bp2 w.heap.size p q ((w.alloc (.cells #[.slice p.ma p.mems.length p.mcap, .slice p.la p.locks.length p.lcap, .slice p.fa p.funs.length p.fcap] 26)).alloc (.cells #[.slice q.ma q.mems.length q.mcap, .slice q.la q.locks.length q.lcap, .slice q.fa q.funs.length q.fcap] 26))) := Lh (bp2_new w p q)
 replace hp := Lh hp
 replace hq := Lh hq
 have hno : Hid (∀ b, b = false → (eqL sameM p.mems q.mems = b ∨ eqL (fun x y : ByteArray => decide (x = y)) p.locks q.locks = b ∨ eqL sameF p.funs q.funs = b) → Ending.returned (.bool false) = .returned (.bool (sameP p q))) := Lh (by
  rintro b rfl h
  rw [sameP_eq]
  rcases h with h | h | h <;> rw [h] <;> simp)
 by_cases hm : p.mems.length = q.mems.length
 case neg =>
  have hE := Lh (hno.out false rfl (.inl (by rw [Bool.eq_false_iff]; intro h; exact hm (eqL_len h))))
  have hne : ((p.mems.length : Int) != (q.mems.length : Int)) = true := by simp; omega
  clear hno hbx hp hq
  go_enter Tryd.func22, Tryd.ntmps22
  go_wp2_with fail
  go_ret
  exact ⟨hE.out, hst.out⟩
 have hme : ((p.mems.length : Int) != (q.mems.length : Int)) = false := by rw [hm]; simp
 by_cases hl : p.locks.length = q.locks.length
 case neg =>
  have hE := Lh (hno.out false rfl (.inr (.inl (by rw [Bool.eq_false_iff]; intro h; exact hl (eqL_len h)))))
  have hne : ((p.locks.length : Int) != (q.locks.length : Int)) = true := by simp; omega
  clear hno hbx hp hq hm hl
  go_enter Tryd.func22, Tryd.ntmps22
  go_wp2_with fail
  go_ret
  exact ⟨hE.out, hst.out⟩
 have hle : ((p.locks.length : Int) != (q.locks.length : Int)) = false := by rw [hl]; simp
 by_cases hf : p.funs.length = q.funs.length
 case neg =>
  have hE := Lh (hno.out false rfl (.inr (.inr (by rw [Bool.eq_false_iff]; intro h; exact hf (eqL_len h)))))
  have hne : ((p.funs.length : Int) != (q.funs.length : Int)) = true := by simp; omega
  clear hno hbx hp hq hm hl hf
  go_enter Tryd.func22, Tryd.ntmps22
  go_wp2_with fail
  go_ret
  exact ⟨hE.out, hst.out⟩
 have hfe : ((p.funs.length : Int) != (q.funs.length : Int)) = false := by rw [hf]; simp
 replace hm := Lh hm
 replace hl := Lh hl
 replace hf := Lh hf
 go_enter Tryd.func22, Tryd.ntmps22
 go_upto_region 3 with fail
 have hpV : Hid (∀ V, Below w.heap.size w V → Pg.In V (fun _ => True) p) := Lh fun V hV => hp.out.below (Kps.of_below hV)
 have hqV : Hid (∀ V, Below w.heap.size w V → Pg.In V (fun _ => True) q) := Lh fun V hV => hq.out.below (Kps.of_below hV)
 generalize hW0 : (w.alloc (.cells #[.slice p.ma p.mems.length p.mcap, .slice p.la p.locks.length p.lcap, .slice p.fa p.funs.length p.fcap] 26)).alloc (.cells #[.slice q.ma q.mems.length q.mcap, .slice q.la q.locks.length q.lcap, .slice q.fa q.funs.length q.fcap] 26) = W0 at *
 clear hW0 hp hq
 have hcell : Hid (∀ V, Below W0.heap.size W0 V → Bp2 w.heap.size p q V ∧ Below w.heap.size w V) := Lh fun V hV => ⟨hbx.out.below hV, hst.out.trans (hV.mono hst.out.size)⟩
 clear hbx hst
 obtain ⟨⟨x0, x1, x2⟩, y0, y1, y2⟩ := (hcell.out W0 (Below.refl _ _)).1
 go_wp2_with fail
 clear x0 x1 x2 y0 y1 y2
 go_loopw [5] (fun t5 wr => ∃ k : Nat, k ≤ p.mems.length ∧ t5 = .int .i64 k ∧ Hid (eqL sameM p.mems q.mems = eqL sameM (p.mems.drop k) (q.mems.drop k)) ∧ Hid (Below W0.heap.size W0 wr)) (fun t5 _ => p.mems.length - (intOf t5).toNat)
 case atStart => exact ⟨0, Nat.zero_le _, rfl, Lh rfl, Lh (Below.refl _ _)⟩
 case round =>
  obtain ⟨k, hk, rfl, hsame, hb⟩ := hrel
  obtain ⟨⟨⟨x0, x1, x2⟩, y0, y1, y2⟩, hbw⟩ := hcell.out _ hb.out
  by_cases hlt : k < p.mems.length
  · have hlt' : k < q.mems.length := by rw [← hm.out]; exact hlt
    obtain ⟨x, hx⟩ : ∃ e, p.mems[k]? = some e := ⟨_, List.getElem?_eq_getElem hlt⟩
    obtain ⟨y, hy⟩ : ∃ e, q.mems[k]? = some e := ⟨_, List.getElem?_eq_getElem hlt'⟩
    obtain ⟨b, off, ha, _, c0, c1, c2⟩ := mm_row (hpV.out _ hbw).mrow k x hx
    obtain ⟨b', off', ha', _, e0, e1, e2⟩ := mm_row (hqV.out _ hbw).mrow k y hy
    rw [ha] at x0
    rw [ha'] at y0
    have hs := hsame.out
    rw [eqL_drop p.mems q.mems k x y hx hy] at hs
    have hgd := guardM
    have hcm := fun V => mem_neq x y V
    have hi0 : (0 : Int) ≤ (k : Int) := by omega
    have hi1 : (k : Int) < (p.mems.length : Int) := by omega
    have hi2 : (k : Int) < (q.mems.length : Int) := by omega
    have hdr := Lh (fun m => hb.out.trans (show Below W0.heap.size _ (World.drewN wr m) from ⟨rfl, rfl, rfl, Nat.le_refl _, fun _ _ => rfl⟩))
    have hbw2 := Lh (fun m => hbw.trans (show Below w.heap.size _ (World.drewN wr m) from ⟨rfl, rfl, rfl, Nat.le_refl _, fun _ _ => rfl⟩))
    clear hx hy hb hbw hsame ha ha'
    cases hsv : sameM x y
    · have HN := Lh (hno.out false rfl (.inl (by rw [hs, hsv]; rfl)))
      rw [hsv] at hcm
      clear hsv hs hno hcell hpV hqV
      go_wp2_with fail
      go_quiet (fail)
      go_wp2_with fail
      go_ret
      exact ⟨HN.out, hbw2.out _⟩
    · have HT : Hid (eqL sameM p.mems q.mems = eqL sameM (p.mems.drop (k + 1)) (q.mems.drop (k + 1))) := Lh (by rw [hs, hsv]; rfl)
      rw [hsv] at hcm
      clear hsv hs hcell hpV hqV
      go_wp2_with fail
      go_quiet (fail)
      go_wp2_with fail
      go_roundw
      case rel => exact ⟨k + 1, by omega, by go_num, HT, Lh (hdr.out _)⟩
      case measure => simp [intOf]; omega
  · have HM : Hid (eqL sameM p.mems q.mems = true) := Lh (by
     rw [hsame.out, List.drop_of_length_le (by omega), List.drop_of_length_le (by have := hm.out; omega)]; rfl)
    have hb' := hb
    clear hsame hb hbw
    go_wp2_with fail
    clear x0 x1 x2 y0 y1 y2
    go_loopw [6] (fun t6 wr => ∃ k : Nat, k ≤ p.locks.length ∧ t6 = .int .i64 k ∧ Hid (eqL (fun x y : ByteArray => decide (x = y)) p.locks q.locks = eqL (fun x y : ByteArray => decide (x = y)) (p.locks.drop k) (q.locks.drop k)) ∧ Hid (Below W0.heap.size W0 wr)) (fun t6 _ => p.locks.length - (intOf t6).toNat)
    case atStart => exact ⟨0, Nat.zero_le _, rfl, Lh rfl, hb'⟩
    case round =>
     clear hb'
     obtain ⟨k2, hk2, rfl, hsame, hb⟩ := hrel
     obtain ⟨⟨⟨x0, x1, x2⟩, y0, y1, y2⟩, hbw⟩ := hcell.out _ hb.out
     by_cases hlt2 : k2 < p.locks.length
     · have hlt' : k2 < q.locks.length := by rw [← hl.out]; exact hlt2
       obtain ⟨x, hx⟩ : ∃ e, p.locks[k2]? = some e := ⟨_, List.getElem?_eq_getElem hlt2⟩
       obtain ⟨y, hy⟩ : ∃ e, q.locks[k2]? = some e := ⟨_, List.getElem?_eq_getElem hlt'⟩
       obtain ⟨b, off, ha, _, c0⟩ := str_row (hpV.out _ hbw).lrow k2 x hx
       obtain ⟨b', off', ha', _, e0⟩ := str_row (hqV.out _ hbw).lrow k2 y hy
       rw [ha] at x1
       rw [ha'] at y1
       have hs := hsame.out
       rw [eqL_drop p.locks q.locks k2 x y hx hy] at hs
       have hi0 : (0 : Int) ≤ (k2 : Int) := by omega
       have hi1 : (k2 : Int) < (p.locks.length : Int) := by omega
       have hi2 : (k2 : Int) < (q.locks.length : Int) := by omega
       have hdr := Lh (fun m => hb.out.trans (show Below W0.heap.size _ (World.drewN wr m) from ⟨rfl, rfl, rfl, Nat.le_refl _, fun _ _ => rfl⟩))
       have hbw2 := Lh (fun m => hbw.trans (show Below w.heap.size _ (World.drewN wr m) from ⟨rfl, rfl, rfl, Nat.le_refl _, fun _ _ => rfl⟩))
       clear hx hy hb hbw hsame ha ha'
       by_cases hxy : x = y
       · have HT : Hid (eqL (fun x y : ByteArray => decide (x = y)) p.locks q.locks = eqL (fun x y : ByteArray => decide (x = y)) (p.locks.drop (k2 + 1)) (q.locks.drop (k2 + 1))) := Lh (by rw [hs, decide_eq_true hxy]; rfl)
         subst hxy
         clear hs hcell hpV hqV hno
         go_wp2_with fail
         go_quiet (fail)
         go_wp2_with fail
         go_roundw
         case rel => exact ⟨k2 + 1, by omega, by go_num, HT, Lh (hdr.out _)⟩
         case measure => simp [intOf]; omega
       · have HN := Lh (hno.out false rfl (.inr (.inl (by rw [hs, decide_eq_false hxy]; rfl))))
         have hs1 := str_ne hxy
         have hs2 : (x.toList != y.toList) = true := by unfold bne; rw [hs1]; rfl
         clear hs hno hcell hpV hqV hxy
         go_wp2_with fail
         go_quiet (fail)
         go_wp2_with fail
         go_ret
         exact ⟨HN.out, hbw2.out _⟩
     · have HL : Hid (eqL (fun x y : ByteArray => decide (x = y)) p.locks q.locks = true) := Lh (by
        rw [hsame.out, List.drop_of_length_le (by omega), List.drop_of_length_le (by have := hl.out; omega)]; rfl)
       have hb' := hb
       clear hsame hb hbw
       go_wp2_with fail
       clear x0 x1 x2 y0 y1 y2
       go_loopw [7] (fun t7 wr => ∃ k : Nat, k ≤ p.funs.length ∧ t7 = .int .i64 k ∧ Hid (eqL sameF p.funs q.funs = eqL sameF (p.funs.drop k) (q.funs.drop k)) ∧ Hid (Below W0.heap.size W0 wr)) (fun t7 _ => p.funs.length - (intOf t7).toNat)
       case atStart => exact ⟨0, Nat.zero_le _, rfl, Lh rfl, hb'⟩
       case round =>
        clear hb'
        obtain ⟨k3, hk3, rfl, hsame, hb⟩ := hrel
        obtain ⟨⟨⟨x0, x1, x2⟩, y0, y1, y2⟩, hbw⟩ := hcell.out _ hb.out
        by_cases hlt3 : k3 < p.funs.length
        · have hlt' : k3 < q.funs.length := by rw [← hf.out]; exact hlt3
          obtain ⟨x, hx⟩ : ∃ e, p.funs[k3]? = some e := ⟨_, List.getElem?_eq_getElem hlt3⟩
          obtain ⟨y, hy⟩ : ∃ e, q.funs[k3]? = some e := ⟨_, List.getElem?_eq_getElem hlt'⟩
          obtain ⟨b, off, ha, _, c0, c1, c2, c3, c4⟩ := Yd (hpV.out _ hbw).frow k3 x hx
          obtain ⟨b', off', ha', _, e0, e1, e2, e3, e4⟩ := Yd (hqV.out _ hbw).frow k3 y hy
          rw [ha] at x2
          rw [ha'] at y2
          have y2' := fun o => Qe (Qh wr o) y2
          have f0 := fun o => Qe (Qh wr o) e0
          have f1 := fun o => Qe (Qh wr o) e1
          have f2 := fun o => Qe (Qh wr o) e2
          have f3 := fun o => Qe (Qh wr o) e3
          have f4 := fun o => Qe (Qh wr o) e4
          clear e0 e1 e2 e3 e4 y2
          have hs := hsame.out
          rw [eqL_drop p.funs q.funs k3 x y hx hy] at hs
          have hi0 : (0 : Int) ≤ (k3 : Int) := by omega
          have hi1 : (k3 : Int) < (p.funs.length : Int) := by omega
          have hi2 : (k3 : Int) < (q.funs.length : Int) := by omega
          have hF := Lh (fun V (hV : Below w.heap.size w V) => ((⟨(hpV.out V hV).funs x (List.mem_of_getElem? hx), (hqV.out V hV).funs y (List.mem_of_getElem? hy)⟩ : Fn.In V (fun _ => True) x ∧ Fn.In V (fun _ => True) y)))
          have hal : Hid (∀ V, V = (wr.alloc (.cells ⟨x.vals⟩ 50)).alloc (.cells ⟨y.vals⟩ 50) → Below W0.heap.size W0 V ∧ Below w.heap.size w V ∧ (∀ j u, x.vals[j]? = some u → V.cell? ⟨wr.heap.size, j, none⟩ = some u) ∧ ∀ j u, y.vals[j]? = some u → V.cell? ⟨wr.heap.size + 1, j, none⟩ = some u) := Lh (by
           rintro V rfl
           have q1 := Zk wr x.vals 50
           have q2 := Zk (wr.alloc (.cells ⟨x.vals⟩ 50)) y.vals 50
           have e : (wr.alloc (.cells ⟨x.vals⟩ 50)).heap.size = wr.heap.size + 1 := by simp
           rw [e] at q2
           have r := (hb.out.alloc hb.out.size (.cells ⟨x.vals⟩ 50)).alloc (by have := hb.out.size; simp; omega) (.cells ⟨y.vals⟩ 50)
           exact ⟨r, (hcell.out _ r).2, fun j u hj => Qe (Qh _ _) (q1 j u hj), q2⟩)
          have hds := Lh (fun (he : sameF x y = true) => (by rw [hs, he]; rfl : eqL sameF p.funs q.funs = eqL sameF (p.funs.drop (k3 + 1)) (q.funs.drop (k3 + 1))))
          have hdn := Lh (fun (he : sameF x y = false) => hno.out false rfl (.inr (.inr (by rw [hs, he]; rfl))))
          clear hs hsame hno hx hy hbw hb hpV hqV ha ha'
          obtain ⟨nm, th, ps, rg, ca, ccap, code⟩ := x
          obtain ⟨nm', th', ps', rg', ca', ccap', code'⟩ := y
          simp only at c0 c1 c2 c3 c4 f0 f1 f2 f3 f4
          unfold Fn.vals at hal
          simp only at hal
          have hF0 := hF.out _ (hal.out _ rfl).2.1
          obtain ⟨cl1, cl2⟩ := Q2 hF0.1.row
          obtain ⟨cl3, cl4⟩ := Q2 hF0.2.row
          simp only at cl1 cl2 cl3 cl4
          clear hF0
          by_cases h0 : nm = nm'
          case neg =>
           have HN := Lh (hdn.out (by unfold sameF; simp [h0]))
           have s1 := str_ne h0
           have s2 : (nm.toList != nm'.toList) = true := by unfold bne; rw [s1]; rfl
           have hfin := Lh (hal.out _ rfl).2.1
           clear hdn hds hal hF hcell
           go_wp2_with fail
           go_ret
           exact ⟨HN.out, hfin.out⟩
          subst h0
          by_cases h1 : th = th'
          case neg =>
           have HN := Lh (hdn.out (by unfold sameF; simp [h1]))
           have s1 := bool_b h1
           have s2 : (th != th') = true := by unfold bne; rw [s1]; rfl
           have hfin := Lh (hal.out _ rfl).2.1
           clear hdn hds hal hF hcell
           go_wp2_with fail
           go_ret
           exact ⟨HN.out, hfin.out⟩
          subst h1
          by_cases h2 : ps = ps'
          case neg =>
           have HN := Lh (hdn.out (by unfold sameF; simp [h2]))
           have s1 := ne_b h2
           have s2 : (ps != ps') = true := by unfold bne; rw [s1]; rfl
           have hfin := Lh (hal.out _ rfl).2.1
           clear hdn hds hal hF hcell
           go_wp2_with fail
           go_ret
           exact ⟨HN.out, hfin.out⟩
          subst h2
          by_cases h3 : rg = rg'
          case neg =>
           have HN := Lh (hdn.out (by unfold sameF; simp [h3]))
           have s1 := ne_b h3
           have s2 : (rg != rg') = true := by unfold bne; rw [s1]; rfl
           have hfin := Lh (hal.out _ rfl).2.1
           clear hdn hds hal hF hcell
           go_wp2_with fail
           go_ret
           exact ⟨HN.out, hfin.out⟩
          subst h3
          by_cases h4 : code.length = code'.length
          case neg =>
           have HN := Lh (hdn.out (by unfold sameF; rw [Bool.eq_false_iff]; intro h; simp only [Bool.and_eq_true] at h; exact h4 (eqL_len h.2)))
           have s2 : ((code.length : Int) != (code'.length : Int)) = true := by simp; omega
           have hfin := Lh (hal.out _ rfl).2.1
           clear hdn hds hal hF hcell
           go_wp2_with fail
           go_ret
           exact ⟨HN.out, hfin.out⟩
          have s2 : ((code.length : Int) != (code'.length : Int)) = false := by rw [h4]; simp
          have hcode : sameF ⟨nm, th, ps, rg, ca, ccap, code⟩ ⟨nm, th, ps, rg, ca', ccap', code'⟩ = eqL Zi code code' := by unfold sameF; simp
          rw [hcode] at hds hdn
          clear hcode
          replace h4 := Lh h4
          go_upto_region 20 with fail
          generalize hW1 : (wr.alloc _).alloc _ = W1 at *
          obtain ⟨hb1, hbw1, hx1, hy1⟩ := hal.out _ rfl
          have hcx := Lh (fun V (hV : Below W1.heap.size W1 V) => (⟨Qe hV (hx1 4 _ rfl), Qe hV (hy1 4 _ rfl), hb1.trans (hV.mono hb1.size), hbw1.trans (hV.mono hbw1.size)⟩ : V.cell? ⟨wr.heap.size, 4, none⟩ = some (.slice ca code.length ccap) ∧ V.cell? ⟨wr.heap.size + 1, 4, none⟩ = some (.slice ca' code'.length ccap') ∧ Below W0.heap.size W0 V ∧ Below w.heap.size w V))
          clear hal hx1 hy1 hb1 hbw1 hW1 c0 c1 c2 c3 c4 f0 f1 f2 f3 f4 y2'
          go_wp2_with fail
          go_loopw [10] (fun t10 V => ∃ k : Nat, k ≤ code.length ∧ t10 = .int .i64 k ∧ Hid (eqL Zi code code' = eqL Zi (code.drop k) (code'.drop k)) ∧ Hid (Below W1.heap.size W1 V)) (fun t10 _ => code.length - (intOf t10).toNat)
          case atStart => exact ⟨0, Nat.zero_le _, rfl, Lh rfl, Lh (Below.refl _ _)⟩
          case round =>
           obtain ⟨k4, hk4, rfl, hsm, hbV⟩ := hrel
           obtain ⟨z0, z1, hb2, hbw2⟩ := hcx.out _ hbV.out
           by_cases hlt4 : k4 < code.length
           · have hlt5 : k4 < code'.length := by rw [← h4.out]; exact hlt4
             obtain ⟨i, hi⟩ : ∃ e, code[k4]? = some e := ⟨_, List.getElem?_eq_getElem hlt4⟩
             obtain ⟨i', hi'⟩ : ∃ e, code'[k4]? = some e := ⟨_, List.getElem?_eq_getElem hlt5⟩
             obtain ⟨hFx, hFy⟩ := hF.out _ hbw2
             obtain ⟨b2, off2, g2, _, c0, c1, c2, c3, c4, c5⟩ := X1 hFx.row k4 i hi
             obtain ⟨b3, off3, g3, _, d0, d1, d2, d3, d4, d5⟩ := X1 hFy.row k4 i' hi'
             simp only at g2 g3
             rw [g2] at z0
             rw [g3] at z1
             have hsv := hsm.out
             rw [eqL_drop code code' k4 i i' hi hi'] at hsv
             have hcl := Lh (Qq (w := wr) (f := 41) (args := #[i.val, i'.val]) (fun V hb => Zj i i' V ((hFx.code i (List.mem_of_getElem? hi)).row.below (Kps.of_below hb)) ((hFy.code i' (List.mem_of_getElem? hi')).row.below (Kps.of_below hb))))
             have hi0 : (0 : Int) ≤ (k4 : Int) := by omega
             have hi1 : (k4 : Int) < (code.length : Int) := by omega
             have hi2 : (k4 : Int) < (code'.length : Int) := by omega
             have u0 := Qj z0
             have u1 := Qj z1
             have p0 := Qj c0
             have p1 := Qj c1
             have p2 := Qj c2
             have p3 := Qj c3
             have p4 := Qj c4
             have p5 := Qj c5
             have q0 := Qj d0
             have q1 := Qj d1
             have q2 := Qj d2
             have q3 := Qj d3
             have q4 := Qj d4
             have q5 := Qj d5
             have hdr := Lh (fun (U : UpW wr) => (⟨hbV.out.trans (U.ok.mono hbV.out.size), hbw2.trans (U.ok.mono hbw2.size)⟩ : Below W1.heap.size W1 U.val ∧ Below w.heap.size w U.val))
             clear hFx hFy hi hi' c0 c1 c2 c3 c4 c5 d0 d1 d2 d3 d4 d5 hb2 hbw2 hbV hsm g2 g3
             unfold Ins.val at hcl
             go_wp2_with fail
             refine Qp (C := fun V => ∃ U : UpW wr, V = U.val) (by kernel_rfl) (by kernel_rfl) ⟨⟨wr.drew, (Below.refl _ _).drew⟩, rfl⟩ ?_
             iterate 10 (quiet_step (fail))
             quiet_step (exact hcl.out _)
             iterate 1 (quiet_step (fail))
             refine wpQuiet_nil ?_
             rintro _ ⟨U, rfl⟩
             obtain ⟨r1, r2⟩ := hdr.out U
             replace r1 := Lh r1
             replace r2 := Lh r2
             clear hcl hdr u0 u1 p0 p1 p2 p3 p4 p5 q0 q1 q2 q3 q4 q5
             cases hsi : Zi i i'
             · have HN := Lh (hdn.out (by rw [hsv, hsi]; rfl))
               clear hdn hds hsv
               go_wp2_with fail
               go_ret
               exact ⟨HN.out, r2.out⟩
             · have HT : Hid (eqL Zi code code' = eqL Zi (code.drop (k4 + 1)) (code'.drop (k4 + 1))) := Lh (by rw [hsv, hsi]; rfl)
               clear hdn hds hsv
               go_wp2_with fail
               go_roundw
               case rel => exact ⟨k4 + 1, by omega, by go_num, HT, r1⟩
               case measure => simp [intOf]; omega
           · have HC : Hid (eqL sameF p.funs q.funs = eqL sameF (p.funs.drop (k3 + 1)) (q.funs.drop (k3 + 1))) := Lh (hds.out (by
              rw [hsm.out, List.drop_of_length_le (by omega), List.drop_of_length_le (by have := h4.out; omega)]; rfl))
             have hb2' := Lh hb2
             clear hds hdn hF hsm hcx hb2 hbw2 hbV
             go_wp2_with fail
             go_roundw
             case rel => exact ⟨k3 + 1, by omega, by go_num, HC, hb2'⟩
             case measure => simp [intOf]; omega
        · have HX : Hid (Ending.returned (.bool true) = .returned (.bool (sameP p q))) := Lh (by
           have hFn : eqL sameF p.funs q.funs = true := by
            rw [hsame.out, List.drop_of_length_le (by omega), List.drop_of_length_le (by have := hf.out; omega)]; rfl
           rw [sameP_eq, HM.out, HL.out, hFn]; rfl)
          have hbw' := Lh hbw
          clear hsame hb hbw hno hcell hpV hqV
          go_wp2_with fail
          go_ret
          exact ⟨HX.out, hbw'.out⟩
end Go.Proofs.YthiiahlgncngoaaDoorRR.Cd
namespace Go.Proofs.YthiiahlgncngoaaDoorRR.Fw
open Go Go.RowKit
open Go.Proofs.YthiiahlgncngoaaDoorRR.Lx Go.Proofs.YthiiahlgncngoaaDoorRR.Tr Go.Proofs.YthiiahlgncngoaaDoorRR.Cd
theorem box2B (w : World) (i k : Bk) : let W := (w.alloc (.cells #[.slice i.pa i.phis.length i.pcap, .slice i.ca i.code.length i.ccap, .slice i.fa i.fm.length i.fcap, .slice i.ta i.tt.length i.tcap] 42)).alloc (.cells #[.slice k.pa k.phis.length k.pcap, .slice k.ca k.code.length k.ccap, .slice k.fa k.fm.length k.fcap, .slice k.ta k.tt.length k.tcap] 42)
 W.cell? ⟨w.heap.size, 0, none⟩ = some (.slice i.pa i.phis.length i.pcap) ∧ W.cell? ⟨w.heap.size, 1, none⟩ = some (.slice i.ca i.code.length i.ccap) ∧ W.cell? ⟨w.heap.size, 2, none⟩ = some (.slice i.fa i.fm.length i.fcap) ∧ W.cell? ⟨w.heap.size, 3, none⟩ = some (.slice i.ta i.tt.length i.tcap) ∧ W.cell? ⟨w.heap.size + 1, 0, none⟩ = some (.slice k.pa k.phis.length k.pcap) ∧ W.cell? ⟨w.heap.size + 1, 1, none⟩ = some (.slice k.ca k.code.length k.ccap) ∧ W.cell? ⟨w.heap.size + 1, 2, none⟩ = some (.slice k.fa k.fm.length k.fcap) ∧ W.cell? ⟨w.heap.size + 1, 3, none⟩ = some (.slice k.ta k.tt.length k.tcap) := by
 intro W
 have h1 : ∀ j u, i.vals[j]? = some u → W.cell? ⟨w.heap.size, j, none⟩ = some u := fun j u hu => Qe (Qh _ _) (Zk w i.vals 42 j u hu)
 have h2 : ∀ j u, k.vals[j]? = some u → W.cell? ⟨w.heap.size + 1, j, none⟩ = some u := by
  intro j u hu
  have := Zk (w.alloc (.cells ⟨i.vals⟩ 42)) k.vals 42 j u hu
  rw [show (w.alloc (.cells ⟨i.vals⟩ 42)).heap.size = w.heap.size + 1 from by simp] at this
  exact this
 exact ⟨h1 0 _ rfl, h1 1 _ rfl, h1 2 _ rfl, h1 3 _ rfl, h2 0 _ rfl, h2 1 _ rfl, h2 2 _ rfl, h2 3 _ rfl⟩
end Go.Proofs.YthiiahlgncngoaaDoorRR.Fw
