/- Walks of the statements' own expr: how many parts an expression has, at most. Conditions: none. -/
import Derived.Test.YtolmhcdcfnoicaaDoorTrP
namespace Go.Proofs.YtolmhcdcfnoicaaDoor.Tr
open Go Go.RowKit
open Go.Proofs.YtolmhcdcfnoicaaDoor.Lx

/-- some number, not below 0 and not above a bound -/
def SomeV (B : Nat) (x : Ending) : Prop := ∃ v : Int, x = .returned (.int .i64 v) ∧ 0 ≤ v ∧ v ≤ (B : Int)
theorem Ex.szL_take (l : List Ex) (k : Nat) (e : Ex) (h : l[k]? = some e) : Ex.szL (l.take (k + 1)) = Ex.szL (l.take k) + e.sz := by
  induction l generalizing k with
  | nil => simp at h
  | cons x r ih =>
    cases k with
    | zero =>
      simp at h; subst h
      simp [Ex.szL]
    | succ k =>
      have := ih k (by simpa using h)
      simp only [List.take_succ_cons, Ex.szL]
      omega
theorem Ex.szL_take_le (l : List Ex) (k : Nat) : Ex.szL (l.take k) ≤ Ex.szL l := by
  induction l generalizing k with
  | nil => simp
  | cons x r ih =>
    cases k with
    | zero => simp [Ex.szL]
    | succ k =>
      have := ih k
      simp only [List.take_succ_cons, Ex.szL]
      omega

set_option maxHeartbeats 1600000 in
set_option maxRecDepth 100000 in
theorem expr_any : ∀ (s : Nat) (e : Ex) (w : World), e.sz ≤ s → s ≤ 4194304 → Ex.In w (fun _ => True) e →
    Calls Tryd.prog 9 #[.agg ⟨e.vals⟩] w fun x w' => SomeV (1000 * e.sz) x ∧ Below w.heap.size w w' := by
  intro s
  induction s using Nat.strongRecOn with
  | _ s ih =>
    intro e w hs hs4 hin
    obtain ⟨ek, enm, en, ea, ecap, eargs, epos⟩ := e
    have hsz : Ex.sz (.mk ek enm en ea ecap eargs epos) = 1 + Ex.szL eargs := by unfold Ex.sz; rfl
    unfold Ex.In at hin
    obtain ⟨_, hnm, _, _, hrow, hia⟩ := hin
    have hll : eargs.length ≤ 9223372036854775807 := by have := hrow.le; have := hrow.lim; unfold maxLen at this; omega
    unfold maxLen at hnm
    rw [hsz] at hs ⊢
    show Calls Tryd.prog 9 #[.agg #[.int .u8 ek, .string enm, .int .i64 en, .slice ea eargs.length ecap, .int .i64 epos]] w _
    have hcx := fun (k : Nat) (x : Ex) (W : World) (hx : eargs[k]? = some x) (hb : Below w.heap.size w W) => ih x.sz (by have := Ex.sz_get hx; omega) x W (Nat.le_refl _) (by have := Ex.sz_get hx; omega) (Ex.In.below (Kps.of_below hb) _ (hia.get hx))
    replace hcx := Lib.hid hcx
    replace hsz := Lib.hid hsz
    clear ih hia
    by_cases h4 : 400 < eargs.length
    · go_enter Tryd.func9, Tryd.ntmps9
      go_wp2_with fail
      go_ret
      exact ⟨⟨1000, rfl, by omega, by omega⟩, (Below.refl _ _).alloc (Nat.le_refl _) _⟩
    · by_cases h3 : 300 < enm.size
      · go_enter Tryd.func9, Tryd.ntmps9
        go_wp2_with fail
        go_ret
        exact ⟨⟨1000, rfl, by omega, by omega⟩, (Below.refl _ _).alloc (Nat.le_refl _) _⟩
      · go_enter Tryd.func9, Tryd.ntmps9
        go_wp2_with fail
        go_loopw [3, 4] (fun n i wr => ∃ (k : Nat) (v : Int), k ≤ eargs.length ∧ n = .int .i64 v ∧ i = .int .i64 k ∧ 0 ≤ v ∧ v ≤ 1 + 1000 * (Ex.szL (eargs.take k) : Int) ∧ Below w.heap.size w wr ∧ wr.cell? ⟨w.heap.size, 3, none⟩ = some (.slice ea eargs.length ecap)) (fun _ i _ => eargs.length - (intOf i).toNat)
        case atStart => exact ⟨0, 1, Nat.zero_le _, rfl, rfl, by omega, by omega, (Below.refl _ _).alloc (Nat.le_refl _) _, by go_simp⟩
        case round =>
          obtain ⟨k, v, hk, rfl, rfl, hv0, hv1, hbr, hbox⟩ := hrel
          have htl := Ex.szL_take_le eargs k
          by_cases hlt : k < eargs.length
          · by_cases hv5 : v ≤ 500
            · obtain ⟨x, hx⟩ : ∃ e, eargs[k]? = some e := ⟨eargs[k], by simp [hlt]⟩
              obtain ⟨b, off, rfl, _, hcell⟩ := ex_row hrow k x hx
              have hc := hcx.out k x wr hx hbr
              have hst := Ex.szL_take eargs k x hx
              have hxs := Ex.szL_take_le eargs (k + 1)
              obtain ⟨fk, fnm, fn', fa, fcap, fargs, fpos⟩ := x
              simp only [← Nat.add_assoc] at hcell
              have d0 := below_in hbr (hcell 0 _ rfl)
              have d1 := below_in hbr (hcell 1 _ rfl)
              have d2 := below_in hbr (hcell 2 _ rfl)
              have d3 := below_in hbr (hcell 3 _ rfl)
              have d4 := below_in hbr (hcell 4 _ rfl)
              simp only [Nat.add_zero] at d0 d1 d2 d3 d4
              generalize Ex.sz (.mk fk fnm fn' fa fcap fargs fpos) = xs at *
              replace hc := Lib.hid hc
              have hlb : w.heap.size < wr.heap.size := World.block_lt_of_cell? _ _ hbox
              clear hcell hx
              go_wp2_with fail
              refine hc.out.mono ?_
              rintro x W3 ⟨⟨u, rfl, hu0, hu1⟩, hb3⟩
              have hbox3 := below_in hb3 hbox
              have hst' := Lib.hid hst
              replace hb3 := Lib.hid hb3
              have hsum : 0 ≤ v + u ∧ v + u ≤ 4611686018427387904 := by omega
              have hsum2 : v + u ≤ 1 + 1000 * (Ex.szL (eargs.take (k + 1)) : Int) := by omega
              replace hsum2 := Lib.hid hsum2
              obtain ⟨hsa, hsb⟩ := hsum
              clear hst hxs
              go_wp2_with fail
              go_roundw
              case rel => exact ⟨k + 1, v + u, by omega, rfl, by go_num, hsa, hsum2.out, hbr.trans (hb3.out.mono hbr.size), hbox3⟩
              case measure => simp [intOf]; omega
            · go_wp2_with fail
              go_ret
              exact ⟨⟨v, rfl, hv0, by omega⟩, hbr⟩
          · go_wp2_with fail
            go_ret
            exact ⟨⟨v, rfl, hv0, by omega⟩, hbr⟩
end Go.Proofs.YtolmhcdcfnoicaaDoor.Tr
