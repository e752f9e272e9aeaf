/- Walks of block and of list. Conditions: the contracts of what each Kind of statements asks, of smaller ones. -/
import Derived.Test.YtpcdlneompnhlaaGreatDoorTyK
import Derived.Test.YtpcdlneompnhlaaGreatDoorTyI
namespace Go.Proofs.YtpcdlneompnhlaaGreatDoor.Ty
open Go Go.RowKit
open Go.Proofs.YtpcdlneompnhlaaGreatDoor.Lx Go.Proofs.YtpcdlneompnhlaaGreatDoor.Tr

theorem Lk.restate {c : Lc} {s s' : Ls} {w w' : World} (h : Lk c s w) (hb : w'.heap[c.lb]? = some (.cells (lkVals c s') 127 (0, 0))) (ho : ∀ i, i ≠ c.lb → w'.heap[i]? = w.heap[i]?) (hBl : Below c.B w w')
    (hq : MpS w' s'.kb (s'.kn.map fun x => (x.1, .int .u8 x.2))) (e1 : s'.db = s.db) (e2 : s'.dec = s.dec) (e3 : s'.calls = s.calls) (hhi : c.B ≤ s'.kb) (hne : c.dm ≠ s'.kb ∧ s.db ≠ s'.kb) : Lk c s' w' := by
  have mapne : ∀ {i : Nat} {L : List (ByteArray × Value)}, MpS w i L → i ≠ c.lb := fun hm e => by
    obtain ⟨es, k, h1, _⟩ := hm.ex
    rw [e, h.blk] at h1
    cases h1
  exact
    { blk := hb
      mD := h.mD.keep (ho _ (mapne h.mD))
      md := by rw [e1, e2]; exact h.md.keep (ho _ (mapne h.md))
      mq := hq
      row := h.row.below (fun b o v hb hc => (World.cell?_of_block (w := w) (a := ⟨b, o, none⟩) (hBl.block b hb)).trans hc)
      ins := De.InL.below (fun b o v hb hc => (World.cell?_of_block (w := w) (a := ⟨b, o, none⟩) (hBl.block b hb)).trans hc) h.ins
      dlt := h.dlt
      cbl := by rw [e3]; exact (ho _ (fun e => h.ne.2.2.2 e.symm)).trans h.cbl
      cln := by rw [e3]; exact h.cln
      rows := fun i r hr => by
        rw [e3] at hr
        exact ⟨own_keep (h.rows i r hr).1 fun b hb => ho b ((h.rows i r hr).2.2 b hb).1, (h.rows i r hr).2⟩
      rone := by rw [e3]; exact h.rone
      rnd := by rw [e3]; exact h.rnd
      few := h.few
      hi := ⟨h.hi.1, h.hi.2.1, h.hi.2.2.1, by rw [e1]; exact h.hi.2.2.2.1, hhi⟩
      ne := ⟨by rw [e1]; exact h.ne.1, hne.1, by rw [e1]; exact hne.2, h.ne.2.2.2⟩ }
theorem setLb {w : World} {b k : Nat} {v : Value} {vs : Array Value} {T : TypeId} (h : w.heap[b]? = some (.cells vs T (0, 0))) :
    (w.setCell ⟨b, k, none⟩ v).heap[b]? = some (.cells (vs.setIfInBounds k v) T (0, 0)) ∧ (∀ i, i ≠ b → (w.setCell ⟨b, k, none⟩ v).heap[i]? = w.heap[i]?) ∧ Below b w (w.setCell ⟨b, k, none⟩ v) ∧ (w.setCell ⟨b, k, none⟩ v).heap.size = w.heap.size :=
  ⟨heap_set h k v, fun i hi => Below.heap_setCell _ _ _ _ hi, (Below.refl b w).setCell (show b ≤ (⟨b, k, none⟩ : Addr).block from Nat.le_refl _) v, by simp [World.setCell]⟩
/-- the mark of the last statement is set -/
theorem Lk.setLast {c : Lc} {s : Ls} {w : World} (h : Lk c s w) (b : Bool) : StepS c s w { s with last := b } (w.setCell ⟨c.lb, 34, none⟩ (.bool b)) := by
  obtain ⟨h1, h2, h3, h4⟩ := setLb (k := 34) (v := .bool b) h.blk
  have hB : Below c.B w (w.setCell ⟨c.lb, 34, none⟩ (.bool b)) := (Below.refl _ _).setCell h.hi.1 _
  have hmq : s.kb ≠ c.lb := fun e => by
    obtain ⟨es, k, h5, _⟩ := h.mq.ex
    rw [e, h.blk] at h5
    cases h5
  exact
    { lk := h.restate h1 h2 hB (h.mq.keep (h2 _ hmq)) rfl rfl rfl h.hi.2.2.2.2 ⟨h.ne.2.1, h.ne.2.2.1⟩
      pos := rfl
      db := rfl
      kb := rfl
      below := hB
      same := fun b _ hn => h2 b (fun e => hn (.inl e))
      rows := fun r hr _ hb => .inl ⟨r, hr, hb⟩ }
/-- the contract of what each Kind of statements asks -/
def ContS (n : Nat) : Prop := ∀ (c : Lc) (s : Ls) (w : World) (e : St), e.sz ≤ n → okS e → St.In w (fun b => b < c.B) e → Lk c s w → s.pos < c.ds.length → Calls Tryz.prog (stF (kindS e).toNat) #[.pointer (some ⟨c.lb, 0, none⟩), .agg ⟨e.vals⟩] w (PostS c s w (stK c.ds c.D s.pos s.last s.ps e))
where
  kindS : St → Int
    | .mk k _ _ _ _ _ _ _ _ _ _ _ _ _ => k
def ContL (n : Nat) : Prop := ∀ (c : Lc) (s : Ls) (w : World) (a : Option Addr) (cap : Nat) (l : List St) (whole : Bool), (∀ e ∈ l, e.sz ≤ n) → okSL l → RowAt w (fun b => b < c.B) a cap l.length (stCells l) → St.InL w (fun b => b < c.B) l → Lk c s w → s.pos < c.ds.length →
  Calls Tryz.prog 136 #[.pointer (some ⟨c.lb, 0, none⟩), .slice a l.length cap, .bool whole] w (PostS c s w (listK c.ds c.D s.pos whole s.ps l))

set_option maxHeartbeats 2000000 in
set_option maxRecDepth 100000 in
theorem block_step (n : Nat) (hL : ContL n) (c : Lc) (s : Ls) (w : World) (a : Option Addr) (cap : Nat) (l : List St) (hsz : ∀ e ∈ l, e.sz ≤ n) (hok : okSL l) (hrow : RowAt w (fun b => b < c.B) a cap l.length (stCells l)) (hin : St.InL w (fun b => b < c.B) l) (h : Lk c s w) (hp : s.pos < c.ds.length) :
    Calls Tryz.prog 165 #[.pointer (some ⟨c.lb, 0, none⟩), .slice a l.length cap] w (PostS c s w (blockK c.ds c.D s.pos s.ps l)) := by
  obtain ⟨es, clock, hes, hmap⟩ := h.mq.ex
  have hcl := Lib.hid (clone_c w s.kb es clock hes)
  have c33 : w.cell? ⟨c.lb, 33, none⟩ = some (.map (some s.kb)) := blk_cell h.blk rfl
  have hb1 := box_lt w (.map es clock)
  have h1 := h.ext hb1
  have hf33 : (w.alloc (.map es clock)).frozen? ⟨c.lb, 33, none⟩ = false := blk_free h1.blk 33
  have c33' : (w.alloc (.map es clock)).cell? ⟨c.lb, 33, none⟩ = some (.map (some s.kb)) := blk_cell h1.blk rfl
  obtain ⟨g1, g2, _, g4⟩ := setLb (k := 33) (v := .map (some w.heap.size)) h1.blk
  obtain ⟨W1, hW1⟩ : ∃ W, (w.alloc (.map es clock)).setCell ⟨c.lb, 33, none⟩ (.map (some w.heap.size)) = W := ⟨_, rfl⟩
  have hB1 : Below c.B w W1 := by rw [← hW1]; exact (hb1.mono h.low).trans ((Below.refl _ _).setCell h.hi.1 _)
  rw [hW1] at g1 g2 g4
  have hlbw : c.lb < w.heap.size := cells_lt h.blk
  have hnew : W1.heap[w.heap.size]? = some (.map es clock) := by
    rw [g2 _ (by omega)]
    exact World.alloc_heap_new w _
  have hold : ∀ i, i < w.heap.size → i ≠ c.lb → W1.heap[i]? = w.heap[i]? := fun i hi hne => (g2 i hne).trans (hb1.block i hi)
  have hsz1 : W1.heap.size = w.heap.size + 1 := by rw [g4]; simp
  have hL1 : Lk c { s with kb := w.heap.size } W1 := h1.restate g1 g2 ((Below.refl _ _).trans (by rw [← hW1]; exact (Below.refl _ _).setCell h.hi.1 _)) ⟨⟨es, clock, hnew, hmap⟩, h.mq.sz, h.mq.nd⟩ rfl rfl rfl h.low ⟨by have := h.mD.lt; show c.dm ≠ w.heap.size; omega, by have := h.md.lt; show s.db ≠ w.heap.size; omega⟩
  have hlist := hL c { s with kb := w.heap.size } W1 a cap l false hsz hok (hrow.below (fun b o v hb hc => (World.cell?_of_block (w := w) (a := ⟨b, o, none⟩) (hB1.block b hb)).trans hc)) (St.InL.below (fun b o v hb hc => (World.cell?_of_block (w := w) (a := ⟨b, o, none⟩) (hB1.block b hb)).trans hc) _ hin) hL1 hp
  generalize hr : blockK c.ds c.D s.pos s.ps l = r
  unfold blockK at hr
  have hlist : Calls Tryz.prog 136 #[.pointer (some ⟨c.lb, 0, none⟩), .slice a l.length cap, .bool false] W1 (PostS c { s with kb := w.heap.size } W1 (listK c.ds c.D s.pos false s.ps l)) := hlist
  generalize listK c.ds c.D s.pos false s.ps l = q at hlist hr
  have hkb : s.kb ≠ c.lb := fun e => by rw [e, h.blk] at hes; cases hes
  have hend : Hid (∀ (s2 : Ls) (w2 : World), StepS c { s with kb := w.heap.size } W1 s2 w2 → StepS c s w { s2 with kb := s.kb, kn := s.kn } (w2.setCell ⟨c.lb, 33, none⟩ (.map (some s.kb)))) := Lib.hid fun s2 w2 hs => by
    obtain ⟨k1, k2, _, k4⟩ := setLb (k := 33) (v := .map (some s.kb)) hs.lk.blk
    have hBe : Below c.B w2 (w2.setCell ⟨c.lb, 33, none⟩ (.map (some s.kb))) := (Below.refl _ _).setCell h.hi.1 _
    have hes1 : W1.heap[s.kb]? = some (.map es clock) := (hold _ (h.mq.lt) hkb).trans hes
    have hnt := tch_maps hL1 hes1 (fun e => h.ne.2.2.1 e.symm) (by have := h.mq.lt; show s.kb ≠ w.heap.size; omega)
    have hes2 := (hs.same _ (by have := h.mq.lt; omega) hnt).trans hes1
    have hmq : MpS (w2.setCell ⟨c.lb, 33, none⟩ (.map (some s.kb))) s.kb (s.kn.map fun x => (x.1, .int .u8 x.2)) := ⟨⟨es, clock, (k2 _ hkb).trans hes2, hmap⟩, h.mq.sz, h.mq.nd⟩
    have hdb : s2.db = s.db := hs.db
    refine
      { lk := hs.lk.restate k1 k2 hBe hmq rfl rfl rfl h.hi.2.2.2.2 ⟨h.ne.2.1, by rw [hdb]; exact h.ne.2.2.1⟩
        pos := hs.pos
        db := hdb
        kb := rfl
        below := (hB1.trans hs.below).trans hBe
        same := fun b hb hn => ?_
        rows := fun r hr b hb => ?_ }
    · have hbl : b ≠ c.lb := fun e => hn (.inl e)
      refine (k2 b hbl).trans ((hs.same b (by omega) (fun ht => ?_)).trans (hold b hb hbl))
      rcases ht with e | e | e | e | e
      · exact hn (.inl e)
      · exact hn (.inr (.inl e))
      · exact hn (.inr (.inr (.inl e)))
      · have : b = w.heap.size := e
        omega
      · exact hn (.inr (.inr (.inr (.inr e))))
    · rcases hs.rows r hr b hb with h5 | h5
      · exact .inl h5
      · exact .inr (by omega)
  replace hr := Lib.hid hr
  replace hlist := Lib.hid hlist
  replace hB1 := Lib.hid hB1
  have hpsk : Hid (s.ps.kn = s.kn) := Lib.hid rfl
  clear hnew hold hL1 hsz hok hrow hin h1 h hp hmap hes hb1 g1 g2 hkb hL
  go_enter Tryz.func165, Tryz.ntmps165
  go_wp2_with fail
  refine hcl.out.mono ?_
  rintro e w2 ⟨rfl, rfl⟩
  clear hcl
  go_wp2_with fail
  refine hlist.out.mono ?_
  intro e w2 hP
  cases q with
  | error p =>
    obtain ⟨rfl, hb2⟩ := hP
    have hr2 := hr.out
    simp only at hr2
    subst hr2
    exact ⟨rfl, rfl, hB1.out.trans hb2⟩
  | ok p1 =>
    obtain ⟨rfl, s2, hs2, hp2⟩ := hP
    have hr2 := hr.out
    simp only at hr2
    subst hr2
    subst hp2
    have d33 : w2.cell? ⟨c.lb, 33, none⟩ = some (.map (some s2.kb)) := blk_cell hs2.lk.blk rfl
    have df33 : w2.frozen? ⟨c.lb, 33, none⟩ = false := blk_free hs2.lk.blk 33
    have hfin := Lib.hid (hend.out s2 w2 hs2)
    clear hs2 hend hlist hr hB1 c33 c33' hf33 hW1 g4 hsz1
    go_wp2_with fail
    exact ⟨rfl, .tuple #[], by simp [results, Tryz.results165, go_sem], rfl, _, hfin.out, rfl⟩
end Go.Proofs.YtpcdlneompnhlaaGreatDoor.Ty
