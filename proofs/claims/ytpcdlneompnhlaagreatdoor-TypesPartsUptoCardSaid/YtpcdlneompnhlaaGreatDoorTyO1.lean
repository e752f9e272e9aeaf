/- The looker with a callee more. Conditions: the looker lies in memory. -/
import Derived.Test.YtpcdlneompnhlaaGreatDoorTyO0
namespace Go.Proofs.YtpcdlneompnhlaaGreatDoor.Ty
open Go Go.RowKit
open Go.Proofs.YtpcdlneompnhlaaGreatDoor.Lx Go.Proofs.YtpcdlneompnhlaaGreatDoor.Tr

theorem own_cells {w : World} {base : Nat} {e : TypeId} {size n b : Nat} {v : Value} {xs : List Value} (h : w.ownsRow base e size v n xs) (hb : v.ownBlock = some b) : base ≤ b ∧ ∃ vs t fr, w.heap[b]? = some (.cells vs t fr) := by
  rcases h.2 with ⟨rfl, _⟩ | ⟨g, cap, cur, rfl, hB, hg, _⟩
  · cases hb
  · cases hb
    exact ⟨hB, _, _, _, hg⟩
theorem Lk.called {c : Lc} {s : Ls} {V V1 W' : World} {row : CRow} {i : Nat} {v' : Value} (h0 : Lk c s V) (hrow : s.calls[s.pos]? = some row) (hi : i < c.ds.length) (hni : i ∉ row.l) (hV1 : Below V.heap.size V V1)
    (hg : V1.grownBy W' row.val.ownBlock) (hown : W'.ownsRow c.B 3 1 v' (row.l ++ [i]).length ((row.l ++ [i]).map fun n : Nat => Value.int .i64 (n : Int))) (hv : v'.ownBlock = row.val.ownBlock ∨ v'.ownBlock = some V1.heap.size) :
    StepS c s V { s with calls := s.calls.set s.pos ⟨v', row.l ++ [i]⟩ } (W'.setCell ⟨c.cb, s.pos, none⟩ v') := by
  have h := h0.ext hV1
  obtain ⟨hro, hrl, hrn⟩ := h.rows _ _ hrow
  have hlen : s.pos < s.calls.length := (List.getElem?_eq_some_iff.1 hrow).1
  have keyW : ∀ b, b < V1.heap.size → some b ≠ row.val.ownBlock → W'.heap[b]? = V1.heap[b]? := fun b hb hn => hg.block b hb hn
  have key : ∀ b, b < V1.heap.size → some b ≠ row.val.ownBlock → b ≠ c.cb → (W'.setCell ⟨c.cb, s.pos, none⟩ v').heap[b]? = V1.heap[b]? := fun b hb hn hc => (Below.heap_setCell _ _ _ _ hc).trans (keyW b hb hn)
  have hcbn : some c.cb ≠ row.val.ownBlock := fun e => (hrn _ e.symm).2 rfl
  have hlbn : some c.lb ≠ row.val.ownBlock := fun e => (hrn _ e.symm).1 rfl
  have mapne : ∀ {b : Nat} {L : List (ByteArray × Value)}, MpS V1 b L → some b ≠ row.val.ownBlock ∧ b ≠ c.cb := fun {b L} hm => by
    obtain ⟨es, k, h1, _⟩ := hm.ex
    refine ⟨fun e => ?_, fun e => ?_⟩
    · obtain ⟨_, vs, t, fr, h2⟩ := own_cells hro e.symm
      rw [h1] at h2; cases h2
    · rw [e, h.cbl] at h1; cases h1
  have hWcb := (keyW _ (cells_lt h.cbl) hcbn).trans h.cbl
  have hcbS := heap_set hWcb s.pos v'
  have hBlow : ∀ b, b < c.B → some b ≠ row.val.ownBlock ∧ b ≠ c.cb := fun b hb => ⟨fun e => by have := (own_cells hro e.symm).1; omega, fun e => by have := h.hi.2.2.1; omega⟩
  have hBe : Below c.B V1 (W'.setCell ⟨c.cb, s.pos, none⟩ v') := by
    refine ⟨hg.os, hg.tape, hg.output, by simp [World.setCell]; exact hg.size, fun b hb => ?_⟩
    exact key b (Nat.lt_of_lt_of_le hb h.low) (hBlow b hb).1 (hBlow b hb).2
  have hvb : ∀ b, v'.ownBlock = some b → b ≠ c.lb ∧ b ≠ c.cb := fun b hb => by
    rcases hv with e | e
    · rw [e] at hb; exact hrn b hb
    · rw [e] at hb
      cases hb
      exact ⟨fun e2 => by have := cells_lt h.blk; omega, fun e2 => by have := cells_lt h.cbl; omega⟩
  have get : ∀ {j : Nat} {r : CRow}, (s.calls.set s.pos ⟨v', row.l ++ [i]⟩)[j]? = some r → j = s.pos ∧ r = ⟨v', row.l ++ [i]⟩ ∨ j ≠ s.pos ∧ s.calls[j]? = some r := fun {j r} hj => by
    by_cases e : s.pos = j
    · subst e
      rw [List.getElem?_set_self hlen] at hj
      exact .inl ⟨rfl, (Option.some.inj hj).symm⟩
    · rw [List.getElem?_set_ne e] at hj
      exact .inr ⟨fun e2 => e e2.symm, hj⟩
  exact
    { lk :=
        { blk := (key _ (cells_lt h.blk) hlbn h.ne.2.2.2).trans h.blk
          mD := h.mD.keep (key _ h.mD.lt (mapne h.mD).1 (mapne h.mD).2)
          md := h.md.keep (key _ h.md.lt (mapne h.md).1 (mapne h.md).2)
          mq := h.mq.keep (key _ h.mq.lt (mapne h.mq).1 (mapne h.mq).2)
          row := h.row.below (fun b o v hb hc => (World.cell?_of_block (w := V1) (a := ⟨b, o, none⟩) (hBe.block b hb)).trans hc)
          ins := De.InL.below (fun b o v hb hc => (World.cell?_of_block (w := V1) (a := ⟨b, o, none⟩) (hBe.block b hb)).trans hc) h.ins
          dlt := h.dlt
          cbl := by
            rw [hcbS]
            congr 2
            simp [List.map_set]
          cln := by simp; exact h.cln
          rows := fun j r hj => by
            rcases get hj with ⟨rfl, rfl⟩ | ⟨hne, hj⟩
            · refine ⟨own_keep hown fun b hb => Below.heap_setCell _ _ _ _ (hvb b hb).2, fun n hn => ?_, hvb⟩
              rcases List.mem_append.1 hn with hn | hn
              · exact hrl n hn
              · rw [List.mem_singleton.1 hn]; exact hi
            · obtain ⟨k1, k2, k3⟩ := h.rows j r hj
              refine ⟨own_keep k1 fun b hb => key b (own_lt k1 hb) (fun e => ?_) (k3 b hb).2, k2, k3⟩
              exact hne (h.rone j s.pos r row b hj hrow hb e.symm)
          rone := fun j k rj rk b hj hk hbj hbk => by
            rcases get hj with ⟨rfl, rfl⟩ | ⟨hnj, hj⟩
            · rcases get hk with ⟨rfl, rfl⟩ | ⟨hnk, hk⟩
              · rfl
              · rcases hv with e | e
                · exact h.rone _ _ _ _ b hrow hk (e.symm.trans hbj) hbk
                · have hb2 : some V1.heap.size = some b := e.symm.trans hbj
                  cases hb2
                  exact absurd (own_lt (h.rows k rk hk).1 hbk) (Nat.lt_irrefl _)
            · rcases get hk with ⟨rfl, rfl⟩ | ⟨hnk, hk⟩
              · rcases hv with e | e
                · exact h.rone _ _ _ _ b hj hrow hbj (e.symm.trans hbk)
                · have hb2 : some V1.heap.size = some b := e.symm.trans hbk
                  cases hb2
                  exact absurd (own_lt (h.rows j rj hj).1 hbj) (Nat.lt_irrefl _)
              · exact h.rone j k rj rk b hj hk hbj hbk
          rnd := fun r hr => by
            obtain ⟨j, hj⟩ := List.mem_iff_getElem?.1 hr
            rcases get hj with ⟨rfl, rfl⟩ | ⟨hne, hj⟩
            · refine List.nodup_append.2 ⟨h.rnd _ (List.mem_of_getElem? hrow), by simp, fun a ha b hb => ?_⟩
              rw [List.mem_singleton.1 hb]
              exact fun e => hni (e ▸ ha)
            · exact h.rnd _ (List.mem_of_getElem? hj)
          few := h.few
          hi := h.hi
          ne := h.ne }
      pos := rfl
      db := rfl
      kb := rfl
      below := (hV1.mono h0.low).trans hBe
      same := fun b hb hn => by
        refine (key b (Nat.lt_of_lt_of_le hb hV1.size) (fun e => ?_) (fun e => hn (.inr (.inl e)))).trans (hV1.block b hb)
        exact hn (.inr (.inr (.inr (.inr ⟨row, List.mem_of_getElem? hrow, e.symm⟩))))
      rows := fun r hr b hb => by
        obtain ⟨j, hj⟩ := List.mem_iff_getElem?.1 hr
        rcases get hj with ⟨rfl, rfl⟩ | ⟨hne, hj⟩
        · rcases hv with e | e
          · exact .inl ⟨row, List.mem_of_getElem? hrow, e.symm.trans hb⟩
          · have hb2 : some V1.heap.size = some b := e.symm.trans hb
            cases hb2
            exact .inr hV1.size
        · exact .inl ⟨r, List.mem_of_getElem? hj, hb⟩ }
theorem findK_ok {ds : List De} {D : List (ByteArray × Nat)} {K : List (ByteArray × Int)} {nm : ByteArray} {kind at_ : Int} {i : Nat} (h : findK ds D K nm kind at_ = .ok i) : findA D nm = some i ∧ ∃ d, ds[i]? = some d ∧ d.kind = kind := by
  unfold findK at h
  cases hD : findA D nm with
  | none =>
    rw [hD] at h
    cases hK : findA K nm <;> rw [hK] at h <;> cases h
  | some j =>
    rw [hD] at h
    simp only at h
    cases hd : ds[j]? with
    | none => rw [hd] at h; cases h
    | some d =>
      rw [hd] at h
      simp only at h
      by_cases hk : d.kind = kind
      · rw [if_pos hk] at h
        cases h
        exact ⟨rfl, d, hd, hk⟩
      · rw [if_neg hk] at h; cases h
theorem addCall_mem {calls : List (List Nat)} {pos i : Nat} {r : List Nat} (h : calls[pos]? = some r) (hi : i ∈ r) : addCall calls pos i = calls := by
  unfold addCall; rw [h]; simp only; rw [if_pos hi]
theorem addCall_new {calls : List (List Nat)} {pos i : Nat} {r : List Nat} (h : calls[pos]? = some r) (hi : i ∉ r) : addCall calls pos i = calls.set pos (r ++ [i]) := by
  unfold addCall; rw [h]; simp only; rw [if_neg hi]
end Go.Proofs.YtpcdlneompnhlaaGreatDoor.Ty
