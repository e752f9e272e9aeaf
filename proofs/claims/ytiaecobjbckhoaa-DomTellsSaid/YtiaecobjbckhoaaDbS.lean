/- What above stands on, in memory. Conditions: none. -/
import Derived.Test.YtiaecobjbckhoaaDbR
import Derived.Test.YtiaecobjbckhoaaDbC
set_option linter.unusedVariables false
set_option linter.unusedSimpArgs false
namespace Go.Proofs.Ytiaecobjbckhoaa.Db
open Go Go.RowKit
open Go.WideShapes Go.MapKept Dm Rg

/-- the blocks that above writes to -/
def Chd (gl gu gb gx gq B : Nat) (i : Nat) : Prop := i = gl ∨ i = gu ∨ i = gb ∨ i = gx ∨ i = gq ∨ B ≤ i
/-- what stands all the while -/
structure AbF (pw pn pd pb wb cb gm go gl gt gu gb gx gq m cm co cl B : Nat) (over : Nat → Int) (late : Nat → List Int) (W : World) : Prop where
  cw : W.cell? ⟨pw, 0, none⟩ = some (.pointer (some ⟨wb, 0, none⟩))
  cn : W.cell? ⟨pn, 0, none⟩ = some (.slice (some ⟨gx, 0, none⟩) m m)
  cd : W.cell? ⟨pd, 0, none⟩ = some (.pointer (some ⟨cb, 0, none⟩))
  cq : W.cell? ⟨pb, 0, none⟩ = some (.slice (some ⟨gq, 0, none⟩) m m)
  w0 : W.cell? ⟨wb, 0, none⟩ = some (.slice (some ⟨gm, 0, none⟩) m cm)
  w1 : W.cell? ⟨wb, 1, none⟩ = some (.slice (some ⟨go, 0, none⟩) m co)
  w2 : W.cell? ⟨wb, 2, none⟩ = some (.slice (some ⟨gl, 0, none⟩) m cl)
  w3 : W.cell? ⟨wb, 3, none⟩ = some (.slice (some ⟨gt, 0, none⟩) m m)
  c0 : W.cell? ⟨cb, 0, none⟩ = some (.slice (some ⟨gl, 0, none⟩) m cl)
  c1 : W.cell? ⟨cb, 1, none⟩ = some (.slice (some ⟨gu, 0, none⟩) m m)
  c2 : W.cell? ⟨cb, 2, none⟩ = some (.slice (some ⟨gb, 0, none⟩) m m)
  over : InR go m over W
  late : ∀ k, k < m → ∃ a c, W.cell? ⟨gt, k, none⟩ = some (.slice a (late k).length c) ∧ RowAt W (fun b => ¬Chd gl gu gb gx gq B b) a c (late k).length (numCells (late k))
/-- where the blocks lie -/
structure AbN (pw pn pd pb wb cb gm go gl gt gu gb gx gq m cm co cl B : Nat) : Prop where
  pw : ¬Chd gl gu gb gx gq B pw
  pn : ¬Chd gl gu gb gx gq B pn
  pd : ¬Chd gl gu gb gx gq B pd
  pb : ¬Chd gl gu gb gx gq B pb
  wb : ¬Chd gl gu gb gx gq B wb
  cb : ¬Chd gl gu gb gx gq B cb
  go : ¬Chd gl gu gb gx gq B go
  gt : ¬Chd gl gu gb gx gq B gt
  lt : gl < B ∧ gu < B ∧ gb < B ∧ gx < B ∧ gq < B
  di : gl ≠ gu ∧ gl ≠ gb ∧ gl ≠ gx ∧ gl ≠ gq ∧ gu ≠ gb ∧ gu ≠ gx ∧ gu ≠ gq ∧ gb ≠ gx ∧ gb ≠ gq ∧ gx ≠ gq
  cap : 0 < m ∧ m ≤ 32768 ∧ m ≤ cm ∧ cm ≤ maxLen ∧ m ≤ co ∧ co ≤ maxLen ∧ m ≤ cl ∧ cl ≤ maxLen
/-- what is worked on -/
structure AbV (gl gu gb gx gq m B : Nat) (s : Ab) (W : World) : Prop where
  lo : InR gl m s.low W
  up : InR gu m s.up W
  be : InR gb m s.best W
  nx : InR gx m s.next W
  bl : Src B gq m s.below W
structure AbW (pw pn pd pb wb cb gm go gl gt gu gb gx gq m cm co cl B : Nat) (over : Nat → Int) (late : Nat → List Int) (s : Ab) (W : World) : Prop where
  F : AbF pw pn pd pb wb cb gm go gl gt gu gb gx gq m cm co cl B over late W
  V : AbV gl gu gb gx gq m B s W
  B : B ≤ W.heap.size
section
variable {pw pn pd pb wb cb gm go gl gt gu gb gx gq m cm co cl B : Nat} {over : Nat → Int} {late : Nat → List Int} {s : Ab} {W W' : World}
theorem AbF.keep (N : AbN pw pn pd pb wb cb gm go gl gt gu gb gx gq m cm co cl B) (h : AbF pw pn pd pb wb cb gm go gl gt gu gb gx gq m cm co cl B over late W) (hf : Fr (Chd gl gu gb gx gq B) W W') : AbF pw pn pd pb wb cb gm go gl gt gu gb gx gq m cm co cl B over late W' :=
  ⟨hf.cell N.pw h.cw, hf.cell N.pn h.cn, hf.cell N.pd h.cd, hf.cell N.pb h.cq, hf.cell N.wb h.w0, hf.cell N.wb h.w1, hf.cell N.wb h.w2, hf.cell N.wb h.w3, hf.cell N.cb h.c0, hf.cell N.cb h.c1, hf.cell N.cb h.c2, hf.inr h.over N.go, fun k hk => by
    obtain ⟨a, c, h1, h2⟩ := h.late k hk
    exact ⟨a, c, hf.cell N.gt h1, hf.row h2⟩⟩
theorem AbW.below (h : AbW pw pn pd pb wb cb gm go gl gt gu gb gx gq m cm co cl B over late s W) (N : AbN pw pn pd pb wb cb gm go gl gt gu gb gx gq m cm co cl B) (hb : Below W.heap.size W W') : AbW pw pn pd pb wb cb gm go gl gt gu gb gx gq m cm co cl B over late s W' :=
  ⟨h.F.keep N (Fr.of_below hb), ⟨h.V.lo.at_ (hb.block _ h.V.lo.lt), h.V.up.at_ (hb.block _ h.V.up.lt), h.V.be.at_ (hb.block _ h.V.be.lt), h.V.nx.at_ (hb.block _ h.V.nx.lt), h.V.bl.keep hb⟩, Nat.le_trans h.B hb.size⟩
theorem InR.ceb {g n : Nat} {f : Nat → Int} (h : InR g n f W) (hq : Ceb W W') : InR g n f W' := by
  obtain ⟨cur, h1, h2, h3⟩ := h.ex
  exact ⟨cur, h1, hq.blk _ _ _ _ h2, h3⟩
theorem Src.ceb {g n : Nat} {f : Nat → List Int} (h : Src B g n f W) (hq : Ceb W W') : Src B g n f W' := by
  obtain ⟨h0, vs, h1, h2, h3, h4⟩ := h
  refine ⟨h0, vs, h1, hq.blk _ _ _ _ h2, fun k v hv => ?_, h4⟩
  have := h3 k v hv
  exact ⟨this.1, this.2.imp id fun ⟨q, cap, cur, hv, hB, hq', hr⟩ => ⟨q, cap, cur, hv, hB, hq.blk _ _ _ _ hq', hr⟩⟩
theorem AbW.ceb (h : AbW pw pn pd pb wb cb gm go gl gt gu gb gx gq m cm co cl B over late s W) (hq : Ceb W W') : AbW pw pn pd pb wb cb gm go gl gt gu gb gx gq m cm co cl B over late s W' := by
  have c := fun a => hq.cell a
  refine ⟨⟨(c _).trans h.F.cw, (c _).trans h.F.cn, (c _).trans h.F.cd, (c _).trans h.F.cq, (c _).trans h.F.w0, (c _).trans h.F.w1, (c _).trans h.F.w2, (c _).trans h.F.w3, (c _).trans h.F.c0, (c _).trans h.F.c1, (c _).trans h.F.c2, h.F.over.ceb hq, fun k hk => ?_⟩, ⟨h.V.lo.ceb hq, h.V.up.ceb hq, h.V.be.ceb hq, h.V.nx.ceb hq, h.V.bl.ceb hq⟩, by rw [hq.size]; exact h.B⟩
  obtain ⟨a, cc, h1, h2⟩ := h.F.late k hk
  exact ⟨a, cc, (c _).trans h1, h2.below fun b o v _ hv => (c _).trans hv⟩
theorem AbW.drew (h : AbW pw pn pd pb wb cb gm go gl gt gu gb gx gq m cm co cl B over late s W) (N : AbN pw pn pd pb wb cb gm go gl gt gu gb gx gq m cm co cl B) (n : Nat) : AbW pw pn pd pb wb cb gm go gl gt gu gb gx gq m cm co cl B over late s (W.drewN n) :=
  ⟨h.F.keep N (Fr.drew _ _ _), ⟨h.V.lo.at_ rfl, h.V.up.at_ rfl, h.V.be.at_ rfl, h.V.nx.at_ rfl, h.V.bl.frame (Fr.drew (fun _ => False) _ _) id (fun _ _ => id)⟩, h.B⟩
/-- a store of a number -/
theorem AbW.num (h : AbW pw pn pd pb wb cb gm go gl gt gu gb gx gq m cm co cl B over late s W) (N : AbN pw pn pd pb wb cb gm go gl gt gu gb gx gq m cm co cl B) {g k : Nat} {x : Int} {s' : Ab} (hg : g = gl ∨ g = gu ∨ g = gb ∨ g = gx) (hk : k < m)
    (h1 : ∀ i, i < m → s'.low i = if g = gl ∧ i = k then x else s.low i) (h2 : ∀ i, i < m → s'.up i = if g = gu ∧ i = k then x else s.up i) (h3 : ∀ i, i < m → s'.best i = if g = gb ∧ i = k then x else s.best i) (h4 : ∀ i, i < m → s'.next i = if g = gx ∧ i = k then x else s.next i) (h5 : s'.below = s.below) :
    AbW pw pn pd pb wb cb gm go gl gt gu gb gx gq m cm co cl B over late s' (W.setCell ⟨g, k, none⟩ (.int .i64 x)) := by
  obtain ⟨l1, l2, l3, l4, l5⟩ := N.lt
  obtain ⟨d1, d2, d3, d4, d5, d6, d7, d8, d9, d10⟩ := N.di
  have hf : Fr (fun i => i = g) W (W.setCell ⟨g, k, none⟩ (.int .i64 x)) := Fr.set _ _ rfl
  have one : ∀ {g0 : Nat} {f f' : Nat → Int}, InR g0 m f W → (∀ i, i < m → f' i = if g = g0 ∧ i = k then x else f i) → InR g0 m f' (W.setCell ⟨g, k, none⟩ (.int .i64 x)) := fun {g0 f f'} hi he => by
    by_cases e : g = g0
    · subst e
      exact hi.set hk x f' fun i him => by rw [he i him]; by_cases e : i = k <;> simp [e]
    · exact (hf.inr hi (fun e' => e e'.symm)).cong fun i him => by rw [he i him]; simp [e]
  refine ⟨h.F.keep N (hf.mono fun i _ e => by unfold Chd; omega), ⟨one h.V.lo h1, one h.V.up h2, one h.V.be h3, one h.V.nx h4, ?_⟩, by rw [World.setCell]; simpa using h.B⟩
  rw [h5]
  exact h.V.bl.frame hf (by omega) (fun i hi e => by omega)
/-- a store of the empty list -/
theorem AbW.nil (h : AbW pw pn pd pb wb cb gm go gl gt gu gb gx gq m cm co cl B over late s W) (N : AbN pw pn pd pb wb cb gm go gl gt gu gb gx gq m cm co cl B) {k : Nat} (hk : k < m) :
    AbW pw pn pd pb wb cb gm go gl gt gu gb gx gq m cm co cl B over late { s with below := Dm.upd s.below k [] } (W.setCell ⟨gq, k, none⟩ (.slice none 0 0)) := by
  obtain ⟨l1, l2, l3, l4, l5⟩ := N.lt
  obtain ⟨d1, d2, d3, d4, d5, d6, d7, d8, d9, d10⟩ := N.di
  have hf : Fr (fun i => i = gq) W (W.setCell ⟨gq, k, none⟩ (.slice none 0 0)) := Fr.set _ _ rfl
  refine ⟨h.F.keep N (hf.mono fun i _ e => by unfold Chd; omega), ⟨hf.inr h.V.lo (by omega), hf.inr h.V.up (by omega), hf.inr h.V.be (by omega), hf.inr h.V.nx (by omega), ?_⟩, by rw [World.setCell]; simpa using h.B⟩
  obtain ⟨h0, vs, h1, h2, h3, h4⟩ := h.V.bl
  refine ⟨h0, vs.set k (.slice none 0 0), by simp [h1], ?_, fun i v hv => ?_, fun i j v u hij hv hu hn => ?_⟩
  · rw [heap_set1 h2]; simp
  · rw [List.getElem?_set] at hv
    split at hv
    · rename_i e
      subst e
      split at hv
      · cases hv
        show (W.setCell ⟨gq, k, none⟩ (.slice none 0 0)).ownsRow B 3 1 (.slice none 0 0) (Dm.upd s.below k [] k).length (numCells (Dm.upd s.below k [] k))
        rw [Dm.upd_at]
        exact World.ownsRow_nil _ _ _ _
      · cases hv
    · rename_i e
      show (W.setCell ⟨gq, k, none⟩ (.slice none 0 0)).ownsRow B 3 1 v (Dm.upd s.below k [] i).length (numCells (Dm.upd s.below k [] i))
      rw [Dm.upd_ne _ _ (fun e' => e e'.symm)]
      have := h3 i v hv
      exact ⟨this.1, this.2.imp id fun ⟨q, cap, cur, hv, hB, hq, hr⟩ => ⟨q, cap, cur, hv, hB, (hf.block q (Array.getElem?_eq_some_iff.1 hq).1 (by omega)).trans hq, hr⟩⟩
  · rw [List.getElem?_set] at hv hu
    split at hv
    · split at hv
      · cases hv; exact absurd rfl hn
      · cases hv
    · split at hu
      · split at hu
        · cases hu
          exact fun e => hn e
        · cases hu
      · exact h4 i j v u hij hv hu hn
theorem AbW.ch (h : AbW pw pn pd pb wb cb gm go gl gt gu gb gx gq m cm co cl B over late s W) (N : AbN pw pn pd pb wb cb gm go gl gt gu gb gx gq m cm co cl B) : ChM cb gl gu gb m cl m m s.low s.up s.best W := by
  obtain ⟨d1, d2, d3, d4, d5, d6, d7, d8, d9, d10⟩ := N.di
  obtain ⟨k1, k2, k3, k4, k5, k6, k7, k8⟩ := N.cap
  have hc := N.cb
  unfold Chd at hc
  have : m ≤ maxLen := by omega
  exact ⟨h.F.c0, h.F.c1, h.F.c2, h.V.lo, h.V.up, h.V.be, ⟨by omega, by omega, by omega, by omega, by omega⟩, ⟨k2, k7, k8, Nat.le_refl _, this, Nat.le_refl _, this⟩⟩
/-- lowest was asked -/
theorem AbW.asked (h : AbW pw pn pd pb wb cb gm go gl gt gu gb gx gq m cm co cl B over late s W) (N : AbN pw pn pd pb wb cb gm go gl gt gu gb gx gq m cm co cl B) {up best : Nat → Int} (hf : Fr (fun i => i = gu ∨ i = gb) W W') (hc : ChM cb gl gu gb m cl m m s.low up best W') :
    AbW pw pn pd pb wb cb gm go gl gt gu gb gx gq m cm co cl B over late { s with up := up, best := best } W' := by
  obtain ⟨l1, l2, l3, l4, l5⟩ := N.lt
  obtain ⟨d1, d2, d3, d4, d5, d6, d7, d8, d9, d10⟩ := N.di
  exact ⟨h.F.keep N (hf.mono fun i _ e => by unfold Chd; omega), ⟨hc.lo, hc.u, hc.b, hf.inr h.V.nx (by omega), h.V.bl.frame hf (by omega) (fun i hi e => by omega)⟩, Nat.le_trans h.B hf.size⟩
theorem AbW.keeps (h : AbW pw pn pd pb wb cb gm go gl gt gu gb gx gq m cm co cl B over late s W) (hf : Fr (fun i => i = gu ∨ i = gb) W W') : KeepsOthers W W' :=
  ⟨hf.size, fun k o hk ho => (hf.block k (Array.getElem?_eq_some_iff.1 hk).1 fun e => by
    rcases e with rfl | rfl
    · obtain ⟨cur, _, h2, _⟩ := h.V.up.ex
      rw [h2] at hk; cases hk; cases ho
    · obtain ⟨cur, _, h2, _⟩ := h.V.be.ex
      rw [h2] at hk; cases hk; cases ho).trans hk⟩
/-- one more in a list -/
theorem AbW.more (h : AbW pw pn pd pb wb cb gm go gl gt gu gb gx gq m cm co cl B over late s W) (N : AbN pw pn pd pb wb cb gm go gl gt gu gb gx gq m cm co cl B) {below : Nat → List Int} (hf : Fr (fun i => B ≤ i ∨ i = gq) W W') (hc : Src B gq m below W') :
    AbW pw pn pd pb wb cb gm go gl gt gu gb gx gq m cm co cl B over late { s with below := below } W' := by
  obtain ⟨l1, l2, l3, l4, l5⟩ := N.lt
  obtain ⟨d1, d2, d3, d4, d5, d6, d7, d8, d9, d10⟩ := N.di
  exact ⟨h.F.keep N (hf.mono fun i _ e => by unfold Chd; omega), ⟨hf.inr h.V.lo (by omega), hf.inr h.V.up (by omega), hf.inr h.V.be (by omega), hf.inr h.V.nx (by omega), hc⟩, Nat.le_trans h.B hf.size⟩
end
end Go.Proofs.Ytiaecobjbckhoaa.Db
