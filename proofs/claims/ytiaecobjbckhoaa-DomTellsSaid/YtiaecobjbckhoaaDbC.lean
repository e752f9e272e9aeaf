/- Walks of the chains' methods lowest and shorten. Conditions: the chains lie in memory. -/
import Derived.Test.YtiaecobjbckhoaaDbB
import Derived.Test.YtiaecobjbckhoaaDmC
set_option linter.unusedVariables false
set_option linter.unusedSimpArgs false
namespace Go.Proofs.Ytiaecobjbckhoaa.Db
open Go Go.RowKit
open Go.WideShapes Go.MapKept Dm

/-- chains in memory -/
structure ChM (cb gl gu gb m cl cu cp : Nat) (low up best : Nat → Int) (W : World) : Prop where
  c0 : W.cell? ⟨cb, 0, none⟩ = some (.slice (some ⟨gl, 0, none⟩) m cl)
  c1 : W.cell? ⟨cb, 1, none⟩ = some (.slice (some ⟨gu, 0, none⟩) m cu)
  c2 : W.cell? ⟨cb, 2, none⟩ = some (.slice (some ⟨gb, 0, none⟩) m cp)
  lo : InR gl m low W
  u : InR gu m up W
  b : InR gb m best W
  ne : cb ≠ gu ∧ cb ≠ gb ∧ gl ≠ gu ∧ gl ≠ gb ∧ gu ≠ gb
  cap : m ≤ 32768 ∧ m ≤ cl ∧ cl ≤ maxLen ∧ m ≤ cu ∧ cu ≤ maxLen ∧ m ≤ cp ∧ cp ≤ maxLen
/-- each up is none or lower, each best is a rank -/
def Okc (m : Nat) (c : (Nat → Int) × (Nat → Int)) : Prop := ∀ x, x < m → (c.1 x < 0 ∨ (c.1 x).toNat < x) ∧ 0 ≤ c.2 x ∧ c.2 x < m
theorem okc_shorten {m : Nat} {low : Nat → Int} : ∀ (q : Nat) (c : (Nat → Int) × (Nat → Int)) (x : Nat), Okc m c → x < m → Okc m (shorten q low c x) := by
  intro q
  induction q with
  | zero => intro c x h _; exact h
  | succ q ih =>
    intro c x h hx
    unfold shorten
    split
    · exact h
    · split
      · exact h
      · rename_i h1 h2
        have hu : (c.1 x).toNat < x := by rcases (h x hx).1 with e | e <;> omega
        have h' := ih c (c.1 x).toNat h (by omega)
        generalize shorten q low c (c.1 x).toNat = c1 at *
        intro y hy
        refine ⟨?_, ?_⟩
        · show (upd _ _ _ y < 0) ∨ _
          by_cases e : y = x
          · subst e
            simp only [upd_at]
            rcases (h' (c.1 y).toNat (by omega)).1 with h3 | h3
            · exact .inl h3
            · exact .inr (by omega)
          · simp only [upd_ne _ _ e]
            exact (h' y hy).1
        · simp only
          split
          · by_cases e : y = x
            · subst e
              rw [upd_at]
              exact (h' _ (by omega)).2
            · rw [upd_ne _ _ e]; exact (h' y hy).2
          · exact (h' y hy).2
theorem ChM.frame {cb gl gu gb m cl cu cp : Nat} {low up best : Nat → Int} {W W' : World} {S : Nat → Prop} (h : ChM cb gl gu gb m cl cu cp low up best W) (hf : Fr S W W') (h0 : ¬S cb) (h1 : ¬S gl) (h2 : ¬S gu) (h3 : ¬S gb) : ChM cb gl gu gb m cl cu cp low up best W' :=
  ⟨hf.cell h0 h.c0, hf.cell h0 h.c1, hf.cell h0 h.c2, hf.inr h.lo h1, hf.inr h.u h2, hf.inr h.b h3, h.ne, h.cap⟩
theorem ChM.drew {cb gl gu gb m cl cu cp : Nat} {low up best : Nat → Int} {W : World} (h : ChM cb gl gu gb m cl cu cp low up best W) (n : Nat) : ChM cb gl gu gb m cl cu cp low up best (W.drewN n) :=
  h.frame (Fr.drew (fun _ => False) _ _) id id id id
theorem ChM.setB {cb gl gu gb m cl cu cp : Nat} {low up best : Nat → Int} {W : World} (h : ChM cb gl gu gb m cl cu cp low up best W) {x : Nat} (hx : x < m) (v : Int) : ChM cb gl gu gb m cl cu cp low up (upd best x v) (W.setCell ⟨gb, x, none⟩ (.int .i64 v)) := by
  have hf : Fr (fun i => i = gb) W (W.setCell ⟨gb, x, none⟩ (.int .i64 v)) := Fr.set W _ rfl
  obtain ⟨n1, n2, n3, n4, n5⟩ := h.ne
  exact ⟨hf.cell n2 h.c0, hf.cell n2 h.c1, hf.cell n2 h.c2, hf.inr h.lo n4, hf.inr h.u n5, h.b.set hx v _ (fun i _ => rfl), h.ne, h.cap⟩
theorem ChM.setU {cb gl gu gb m cl cu cp : Nat} {low up best : Nat → Int} {W : World} (h : ChM cb gl gu gb m cl cu cp low up best W) {x : Nat} (hx : x < m) (v : Int) : ChM cb gl gu gb m cl cu cp low (upd up x v) best (W.setCell ⟨gu, x, none⟩ (.int .i64 v)) := by
  have hf : Fr (fun i => i = gu) W (W.setCell ⟨gu, x, none⟩ (.int .i64 v)) := Fr.set W _ rfl
  obtain ⟨n1, n2, n3, n4, n5⟩ := h.ne
  exact ⟨hf.cell n1 h.c0, hf.cell n1 h.c1, hf.cell n1 h.c2, hf.inr h.lo n3, h.u.set hx v _ (fun i _ => rfl), hf.inr h.b (fun e => n5 e.symm), h.ne, h.cap⟩
set_option maxHeartbeats 4000000 in
set_option maxRecDepth 100000 in
theorem shorten_c {m : Nat} (cb gl gu gb cl cu cp : Nat) (low : Nat → Int) : ∀ (q : Nat) (c : (Nat → Int) × (Nat → Int)) (x : Nat) (W : World), ChM cb gl gu gb m cl cu cp low c.1 c.2 W → Okc m c → x < m → x ≤ q →
    Calls Try.prog 46 #[.pointer (some ⟨cb, 0, none⟩), .int .i64 (x : Int)] W fun e W' => e = .returned (.tuple #[]) ∧ Fr (fun i => i = gu ∨ i = gb) W W' ∧ ChM cb gl gu gb m cl cu cp low (shorten q low c x).1 (shorten q low c x).2 W' := by
  intro q
  induction q with
  | zero =>
    intro c x W h ho hx hq
    have hx0 : x = 0 := by omega
    subst hx0
    obtain ⟨t1, _⟩ := h.u.get hx
    have c1 := h.c1
    obtain ⟨k1, k2, k3, k4, k5, k6, k7⟩ := h.cap
    have hup : c.1 0 < 0 := by rcases (ho 0 hx).1 with e | e <;> omega
    have hfin := Lib.hid h
    have hm1 : (0 : Int) < (m : Int) := by omega
    generalize c.1 0 = u at *
    clear h ho
    show Calls _ _ #[.pointer (some ⟨cb, 0, none⟩), .int .i64 0] W _
    go_enter Try.func46, Try.ntmps46
    go_wp2_with fail
    exact ⟨rfl, .tuple #[], by simp [results, Try.results46, go_sem], rfl, Fr.refl _ _, hfin.out⟩
  | succ q ih =>
    intro c x W h ho hx hq
    obtain ⟨t1, _⟩ := h.u.get hx
    have c1 := h.c1
    obtain ⟨k1, k2, k3, k4, k5, k6, k7⟩ := h.cap
    have hox := ho x hx
    have hx0 : (0 : Int) ≤ (x : Int) := by omega
    have hx1 : (x : Int) < (m : Int) := by omega
    by_cases hu0 : c.1 x < 0
    · have hfin : Hid (ChM cb gl gu gb m cl cu cp low (shorten (q + 1) low c x).1 (shorten (q + 1) low c x).2 W) := Lib.hid (by unfold shorten; rw [if_pos hu0]; exact h)
      generalize shorten (q + 1) low c x = r at *
      clear h ho ih hox
      generalize c.1 x = u at *
      go_enter Try.func46, Try.ntmps46
      go_wp2_with fail
      exact ⟨rfl, .tuple #[], by simp [results, Try.results46, go_sem], rfl, Fr.refl _ _, hfin.out⟩
    · have hul : (c.1 x).toNat < x := by rcases hox.1 with e | e <;> omega
      obtain ⟨u, hu⟩ : ∃ u : Nat, c.1 x = u := ⟨(c.1 x).toNat, by omega⟩
      have hut : (c.1 x).toNat = u := by rw [hu]; simp
      rw [hut] at hul
      rw [hu] at t1
      obtain ⟨t2, _⟩ := h.u.get (show u < m by omega)
      have hum : (u : Int) < (m : Int) := by omega
      have hu0' : (0 : Int) ≤ (u : Int) := by omega
      by_cases hv : c.1 u < 0
      · have hfin : Hid (ChM cb gl gu gb m cl cu cp low (shorten (q + 1) low c x).1 (shorten (q + 1) low c x).2 W) := Lib.hid (by unfold shorten; rw [if_neg hu0, hut, if_pos hv]; exact h)
        generalize shorten (q + 1) low c x = r at *
        clear h ho ih hox hut hu hu0
        generalize c.1 u = v at *
        have hvd : decide (v < 0) = true := by simpa using hv
        go_enter Try.func46, Try.ntmps46
        go_wp2_with fail
        exact ⟨rfl, .tuple #[], by simp [results, Try.results46, go_sem], rfl, Fr.refl _ _, hfin.out⟩
      · have hE : shorten (q + 1) low c x = (upd (shorten q low c u).1 x ((shorten q low c u).1 u), if low ((shorten q low c u).2 u).toNat < low ((shorten q low c u).2 x).toNat then upd (shorten q low c u).2 x ((shorten q low c u).2 u) else (shorten q low c u).2) := by
          rw [shorten, if_neg hu0, hut, if_neg hv]
        rw [hE]
        have hcall := Lib.hid (ih c u W h ho (by omega) (by omega))
        have ho2 := okc_shorten (low := low) q c u ho (by omega)
        generalize shorten q low c u = d at *
        obtain ⟨d1, d2⟩ := d
        have hox2 := ho2 x hx
        have hou2 := ho2 u (by omega)
        simp only at hox2 hou2 ⊢
        generalize c.1 u = v at *
        clear h ho ho2 ih hox hut hu hu0 hE
        obtain ⟨b1, hb1⟩ : ∃ b1 : Nat, d2 u = b1 := ⟨(d2 u).toNat, by omega⟩
        obtain ⟨b2, hb2⟩ : ∃ b2 : Nat, d2 x = b2 := ⟨(d2 x).toNat, by omega⟩
        have hb1m : b1 < m := by omega
        have hb2m : b2 < m := by omega
        have hb1i : (b1 : Int) < (m : Int) := by omega
        have hb2i : (b2 : Int) < (m : Int) := by omega
        have hb10 : (0 : Int) ≤ (b1 : Int) := by omega
        have hb20 : (0 : Int) ≤ (b2 : Int) := by omega
        rw [hb1, hb2, Int.toNat_natCast, Int.toNat_natCast]
        by_cases hlt : low b1 < low b2
        · rw [if_pos hlt]
          generalize hF1 : upd d1 x (d1 u) = F1
          generalize hF2 : upd d2 x (b1 : Int) = F2
          replace hF1 := Lib.hid hF1
          replace hF2 := Lib.hid hF2
          replace hb1 := Lib.hid hb1
          replace hb2 := Lib.hid hb2
          go_enter Try.func46, Try.ntmps46
          go_wp2_with fail
          refine hcall.out.mono ?_
          rintro e w3 ⟨rfl, hf3, hM3⟩
          clear hcall t1 t2 c1
          have c0 := hM3.c0
          have c1 := hM3.c1
          have c2 := hM3.c2
          obtain ⟨t1, _⟩ := hM3.b.get (show u < m by omega)
          obtain ⟨t2, fb⟩ := hM3.b.get hx
          rw [hb1.out] at t1
          rw [hb2.out] at t2
          obtain ⟨t3, _⟩ := hM3.lo.get hb1m
          obtain ⟨t4, _⟩ := hM3.lo.get hb2m
          replace hM3 := Lib.hid hM3
          replace hf3 := Lib.hid hf3
          go_wp2_with fail
          go_quiet (fail)
          generalize hnq : w3.drewN nq = w3q at *
          have hMq : ChM cb gl gu gb m cl cu cp low d1 d2 w3q := by rw [← hnq]; exact hM3.out.frame (Fr.drew (fun _ => False) _ _) id id id id
          have hfq : Fr (fun i => i = gu ∨ i = gb) W w3q := by rw [← hnq]; exact hf3.out.trans (Fr.drew _ _ _)
          clear c1 c2 t1 t2 t3 t4 fb hnq
          have c1 := hMq.c1
          have c2 := hMq.c2
          obtain ⟨t1, _⟩ := hMq.b.get (show u < m by omega)
          obtain ⟨t2, fb⟩ := hMq.b.get hx
          rw [hb1.out] at t1
          rw [hb2.out] at t2
          have hM4 := Lib.hid (hMq.setB hx (b1 : Int))
          have hf4 : Hid (Fr (fun i => i = gu ∨ i = gb) W (w3q.setCell ⟨gb, x, none⟩ (.int .i64 (b1 : Int)))) := Lib.hid (hfq.trans (Fr.set _ _ (.inr rfl)))
          rw [hF2.out] at hM4
          clear hMq hfq hM3 hf3
          go_wp2_with fail
          go_region
          generalize hW4 : w3q.setCell ⟨gb, x, none⟩ (.int .i64 (b1 : Int)) = w4 at *
          clear hW4 c1 c2 t1 t2 fb
          have c1 := hM4.out.c1
          obtain ⟨t1, _⟩ := hM4.out.u.get (show u < m by omega)
          obtain ⟨t2, fu⟩ := hM4.out.u.get hx
          have hM5 := Lib.hid (hM4.out.setU hx (d1 u))
          have hf5 : Hid (Fr (fun i => i = gu ∨ i = gb) W (w4.setCell ⟨gu, x, none⟩ (.int .i64 (d1 u)))) := Lib.hid (hf4.out.trans (Fr.set _ _ (.inl rfl)))
          rw [hF1.out] at hM5
          clear hM4 hf4 hF1 hF2 hb1 hb2
          generalize d1 u = du at *
          generalize d1 x = dx at *
          go_wp2_with fail
          go_region
          go_wp2_with fail
          exact ⟨rfl, .tuple #[], by simp [results, Try.results46, go_sem], rfl, hf5.out.trans (Fr.drew _ _ 2), hM5.out.drew 2⟩
        · rw [if_neg hlt]
          generalize hF1 : upd d1 x (d1 u) = F1
          replace hF1 := Lib.hid hF1
          replace hb1 := Lib.hid hb1
          replace hb2 := Lib.hid hb2
          go_enter Try.func46, Try.ntmps46
          go_wp2_with fail
          refine hcall.out.mono ?_
          rintro e w3 ⟨rfl, hf3, hM3⟩
          clear hcall t1 t2 c1
          have c0 := hM3.c0
          have c1 := hM3.c1
          have c2 := hM3.c2
          obtain ⟨t1, _⟩ := hM3.b.get (show u < m by omega)
          obtain ⟨t2, fb⟩ := hM3.b.get hx
          rw [hb1.out] at t1
          rw [hb2.out] at t2
          obtain ⟨t3, _⟩ := hM3.lo.get hb1m
          obtain ⟨t4, _⟩ := hM3.lo.get hb2m
          replace hM3 := Lib.hid hM3
          replace hf3 := Lib.hid hf3
          clear hb1 hb2
          go_wp2_with fail
          go_quiet (fail)
          generalize hnq : w3.drewN nq = w3q at *
          have hMq : ChM cb gl gu gb m cl cu cp low d1 d2 w3q := by rw [← hnq]; exact hM3.out.frame (Fr.drew (fun _ => False) _ _) id id id id
          have hfq : Fr (fun i => i = gu ∨ i = gb) W w3q := by rw [← hnq]; exact hf3.out.trans (Fr.drew _ _ _)
          clear c1 c2 t1 t2 t3 t4 fb hnq
          have c1 := hMq.c1
          obtain ⟨t1, _⟩ := hMq.u.get (show u < m by omega)
          obtain ⟨t2, fu⟩ := hMq.u.get hx
          have hM5 := Lib.hid (hMq.setU hx (d1 u))
          have hf5 : Hid (Fr (fun i => i = gu ∨ i = gb) W (w3q.setCell ⟨gu, x, none⟩ (.int .i64 (d1 u)))) := Lib.hid (hfq.trans (Fr.set _ _ (.inl rfl)))
          clear hMq hfq
          rw [hF1.out] at hM5
          clear hM3 hf3 hF1
          generalize d1 u = du at *
          generalize d1 x = dx at *
          go_wp2_with fail
          go_region
          go_wp2_with fail
          exact ⟨rfl, .tuple #[], by simp [results, Try.results46, go_sem], rfl, hf5.out.trans (Fr.drew _ _ 1), hM5.out.drew 1⟩
set_option maxHeartbeats 1000000 in
set_option maxRecDepth 100000 in
theorem lowest_c (cb gl gu gb m cl cu cp : Nat) (low : Nat → Int) (q : Nat) (c : (Nat → Int) × (Nat → Int)) (x : Nat) (W : World) (h : ChM cb gl gu gb m cl cu cp low c.1 c.2 W) (ho : Okc m c) (hx : x < m) (hq : x ≤ q) :
    Calls Try.prog 43 #[.pointer (some ⟨cb, 0, none⟩), .int .i64 (x : Int)] W fun e W' => e = .returned (.int .i64 ((shorten q low c x).2 x)) ∧ Fr (fun i => i = gu ∨ i = gb) W W' ∧ ChM cb gl gu gb m cl cu cp low (shorten q low c x).1 (shorten q low c x).2 W' := by
  have hcall := Lib.hid (shorten_c (m := m) cb gl gu gb cl cu cp low q c x W h ho hx hq)
  obtain ⟨k1, k2, k3, k4, k5, k6, k7⟩ := h.cap
  generalize shorten q low c x = d at *
  generalize hdv : d.2 x = v
  replace hdv := Lib.hid hdv
  have hx0 : (0 : Int) ≤ (x : Int) := by omega
  have hx1 : (x : Int) < (m : Int) := by omega
  clear h ho
  go_enter Try.func43, Try.ntmps43
  go_wp2_with fail
  refine hcall.out.mono ?_
  rintro e w3 ⟨rfl, hf3, hM3⟩
  have c2 := hM3.c2
  obtain ⟨t1, _⟩ := hM3.b.get hx
  rw [hdv.out] at t1
  replace hM3 := Lib.hid hM3
  replace hf3 := Lib.hid hf3
  clear hcall
  go_wp2_with fail
  go_ret
  exact ⟨rfl, hf3.out, hM3.out⟩
end Go.Proofs.Ytiaecobjbckhoaa.Db
