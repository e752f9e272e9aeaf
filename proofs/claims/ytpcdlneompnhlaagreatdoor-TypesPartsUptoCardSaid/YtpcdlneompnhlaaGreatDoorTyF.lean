/- Walk of declare. Conditions: the looker lies in memory. -/
import Derived.Test.YtpcdlneompnhlaaGreatDoorTyE
namespace Go.Proofs.YtpcdlneompnhlaaGreatDoor.Ty
open Go Go.RowKit
open Go.Proofs.YtpcdlneompnhlaaGreatDoor.Lx Go.Proofs.YtpcdlneompnhlaaGreatDoor.Tr

theorem grown_step {w w' : World} {b i : Nat} (h : w.grownBy w' (some b)) (hi : i < w.heap.size) (hne : i ≠ b) : w'.heap[i]? = w.heap[i]? := h.block i hi (by simpa using hne)
/-- the looker with a name more -/
theorem Lk.declared {c : Lc} {s : Ls} {w w2 w3 : World} (h : Lk c s w) (nm : ByteArray) (k : Int) (g2 : w.grownBy w2 (some s.db)) (m2 : MpS w2 s.db (putV (s.dec.map fun x => (x.1, .agg #[])) nm (.agg #[])))
    (g3 : w2.grownBy w3 (some s.kb)) (m3 : MpS w3 s.kb (putV (s.kn.map fun x => (x.1, .int .u8 x.2)) nm (.int .u8 k))) : StepS c s w { s with dec := putA s.dec nm (), kn := putA s.kn nm k } w3 := by
  rw [putV_map (fun _ : Unit => Value.agg #[]) s.dec nm ()] at m2
  rw [putV_map (fun n : Int => Value.int .u8 n) s.kn nm k] at m3
  have hB := h.low
  have b2 : Below c.B w w2 := grown_below g2 h.hi.2.2.2.1 hB
  have b3 : Below c.B w2 w3 := grown_below g3 h.hi.2.2.2.2 (Nat.le_trans hB b2.size)
  have key : ∀ i, i < w.heap.size → i ≠ s.db → i ≠ s.kb → w3.heap[i]? = w.heap[i]? := fun i hi h1 h2 => (grown_step g3 (Nat.lt_of_lt_of_le hi b2.size) h2).trans (grown_step g2 hi h1)
  obtain ⟨es1, k1, e1, _⟩ := h.md.ex
  obtain ⟨es2, k2, e2, _⟩ := h.mq.ex
  have cellne : ∀ {i : Nat} {vs : Array Value} {t : TypeId} {fr : Nat × Nat}, w.heap[i]? = some (.cells vs t fr) → i ≠ s.db ∧ i ≠ s.kb := fun hi => ⟨fun e => (by rw [e, e1] at hi; cases hi), fun e => (by rw [e, e2] at hi; cases hi)⟩
  have keep : ∀ {i : Nat} {vs : Array Value} {t : TypeId} {fr : Nat × Nat}, w.heap[i]? = some (.cells vs t fr) → w3.heap[i]? = some (.cells vs t fr) := fun hi => (key _ (cells_lt hi) (cellne hi).1 (cellne hi).2).trans hi
  have own : ∀ {v : Value} {n : Nat} {xs : List Value} {b : Nat}, w.ownsRow c.B 3 1 v n xs → v.ownBlock = some b → w3.heap[b]? = w.heap[b]? := fun hr hb => by
    rcases hr.2 with ⟨hv, _⟩ | ⟨g, cap, cur, hv, _, hg, _⟩
    · rw [hv] at hb; cases hb
    · rw [hv] at hb
      cases hb
      rw [keep hg, hg]
  exact
    { lk :=
        { blk := keep h.blk
          mD := h.mD.keep (key _ h.mD.lt h.ne.1 h.ne.2.1)
          md := m2.keep (grown_step g3 m2.lt h.ne.2.2.1)
          mq := m3
          row := h.row.below (fun b o v hb hc => (World.cell?_of_block (w := w) (a := ⟨b, o, none⟩) ((b2.trans b3).block b hb)).trans hc)
          ins := De.InL.below (fun b o v hb hc => (World.cell?_of_block (w := w) (a := ⟨b, o, none⟩) ((b2.trans b3).block b hb)).trans hc) h.ins
          dlt := h.dlt
          cbl := keep h.cbl
          cln := h.cln
          rows := fun i r hr => ⟨own_keep (h.rows i r hr).1 fun b hb => own (h.rows i r hr).1 hb, (h.rows i r hr).2⟩
          rone := h.rone
          rnd := h.rnd
          few := h.few
          hi := h.hi
          ne := h.ne }
      pos := rfl
      db := rfl
      kb := rfl
      below := b2.trans b3
      same := fun b hb hn => key b hb (fun e => hn (.inr (.inr (.inl e)))) (fun e => hn (.inr (.inr (.inr (.inl e)))))
      rows := fun r hr _ hb => .inl ⟨r, hr, hb⟩ }

set_option maxHeartbeats 2000000 in
set_option maxRecDepth 100000 in
theorem declare_c {c : Lc} {s : Ls} {w : World} (h : Lk c s w) (nm : ByteArray) (hn : nm.size ≤ maxLen) (k at_ : Int) :
    Calls Tryz.prog 135 #[.pointer (some ⟨c.lb, 0, none⟩), .string nm, .int .u8 k, .int .i64 at_] w (PostS c s w (declK c.D s.ps nm k at_)) := by
  generalize hr : declK c.D s.ps nm k at_ = r
  have hb1 : Below w.heap.size w (w.alloc (.cells #[] 181)) := (Below.refl _ _).alloc (Nat.le_refl _) _
  have h1 := h.ext hb1
  have hl0 := look_d h nm hn
  have hl1 := look_D h1 nm hn
  have c1 : (w.alloc (.cells #[] 181)).cell? ⟨c.lb, 1, none⟩ = some (.map (some c.dm)) := blk_cell h1.blk rfl
  have c32 : w.cell? ⟨c.lb, 32, none⟩ = some (.map (some s.db)) := blk_cell h.blk rfl
  have c32' : (w.alloc (.cells #[] 181)).cell? ⟨c.lb, 32, none⟩ = some (.map (some s.db)) := blk_cell h1.blk rfl
  have hR := Lib.hid (refuse_c at_)
  have hlow := Lib.hid h.low
  unfold declK at hr
  cases hd : findA s.dec nm with
  | some _ =>
    rw [show s.ps.dec = s.dec from rfl, hd, if_pos (by simp)] at hr
    rw [hd] at hl0
    subst hr
    replace h1 := Lib.hid h1
    replace hb1 := Lib.hid hb1
    cases hD : findA c.D nm with
    | some _ =>
      rw [hD] at hl1
      simp only at hl0 hl1
      clear h hd hD
      go_enter Tryz.func135, Tryz.ntmps135
      go_wp2_with fail
      refine (hR.out _ _).mono ?_
      rintro e w' ⟨rfl, rfl⟩
      exact ⟨rfl, rfl, hb1.out.mono hlow.out⟩
    | none =>
      rw [hD] at hl1
      simp only at hl0 hl1
      clear h hd hD
      go_enter Tryz.func135, Tryz.ntmps135
      go_wp2_with fail
      refine (hR.out _ _).mono ?_
      rintro e w' ⟨rfl, rfl⟩
      exact ⟨rfl, rfl, hb1.out.mono hlow.out⟩
  | none =>
    rw [hd] at hl0
    cases hD : findA c.D nm with
    | some _ =>
      rw [hD, if_pos (by simp)] at hr
      rw [hD] at hl1
      simp only at hl0 hl1
      subst hr
      replace hb1 := Lib.hid hb1
      clear h hd hD h1
      go_enter Tryz.func135, Tryz.ntmps135
      go_wp2_with fail
      refine (hR.out _ _).mono ?_
      rintro e w' ⟨rfl, rfl⟩
      exact ⟨rfl, rfl, hb1.out.mono hlow.out⟩
    | none =>
      rw [show s.ps.dec = s.dec from rfl, hd, hD, if_neg (by simp)] at hr
      rw [hD] at hl1
      simp only at hl0 hl1
      have hst := Lib.hid (fun w2 w3 g2 m2 g3 m3 => (StepS.of_ext h hb1).trans (h1.declared (w2 := w2) (w3 := w3) nm k g2 m2 g3 m3))
      have hm1 := h1.md
      have hq1 := h1.mq
      have hne := h.ne
      have hbl := h1.blk
      replace hr := Lib.hid hr
      clear h hd hD hb1
      replace h1 := Lib.hid h1
      go_enter Tryz.func135, Tryz.ntmps135
      go_wp2_with (at_mapUpdate; refine wpList_putS _ rfl _ _ _ 124 rfl 9 181 (by kernel_rfl) (by kernel_rfl) s.db _ rfl hm1 nm hn rfl _ rfl ?_)
      intro w2 m2 g2
      have hbl2 := (grown_step g2 (cells_lt hbl) (fun e => by obtain ⟨es, kk, e1, _⟩ := hm1.ex; rw [e, e1] at hbl; cases hbl)).trans hbl
      have c33 : w2.cell? ⟨c.lb, 33, none⟩ = some (.map (some s.kb)) := blk_cell hbl2 rfl
      have hq2 := hq1.keep (grown_step g2 hq1.lt (fun e => hne.2.2.1 e.symm))
      clear hbl2 hbl c1 c32 c32' hl0 hl1
      replace m2 := Lib.hid m2
      replace g2 := Lib.hid g2
      go_wp2_with (at_mapUpdate; refine wpList_putS _ rfl _ _ _ 125 rfl 9 150 (by kernel_rfl) (by kernel_rfl) s.kb _ rfl hq2 nm hn rfl _ rfl ?_)
      intro w3 m3 g3
      have hfin := Lib.hid (hst.out w2 w3 g2.out m2.out g3 m3)
      clear hst g2 m2 g3 m3 hm1 hq1 hq2
      go_wp2_with fail
      have hr' := hr.out
      subst hr'
      exact ⟨rfl, .tuple #[], by simp [results, Tryz.results135, go_sem], rfl, _, hfin.out, rfl⟩
end Go.Proofs.YtpcdlneompnhlaaGreatDoor.Ty
